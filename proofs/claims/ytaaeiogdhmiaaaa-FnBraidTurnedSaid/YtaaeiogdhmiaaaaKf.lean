/- The closed facts of a row that ask how the order of initialisation begins, told from its first words alone: a long one would cost the kernel too much memory. -/
import Derived.Test.YtaaeiogdhmiaaaaRows
import Derived.WalkKit
import Derived.ProofKit
namespace Go.Proofs.Ytaaeiogdhmiaaaa
open Go.RowKit

def signs (l : List Nat) : List Char := l.map Char.ofNat
def wd1 : List Nat := [104, 97, 114, 110, 101, 115, 115]
def wd2 : List Nat := [49, 54, 50, 49, 55, 53, 51, 51, 57, 102, 55, 50, 51, 102, 101, 102, 57, 49, 99, 48, 97, 102, 51, 97, 97, 54, 51, 102, 100, 102, 50, 48, 57, 50, 54, 101, 51, 99, 97, 56, 48, 98, 56, 101, 56, 57, 56, 97, 57, 56, 56, 54, 55, 56, 98, 48, 99, 101, 102, 50, 100, 53, 97, 53]
def wd3 : List Nat := [99, 117, 116]
def wd4 : List Nat := [97, 116, 32, 108, 111, 111, 112, 46, 101, 120, 97, 109, 112, 108, 101, 47, 102, 111, 120, 99, 97, 108, 99, 117, 108, 117, 115, 47, 108, 97, 119, 115, 46, 70, 110, 69, 120, 97, 99, 116, 66, 114, 97, 105, 100, 73, 110, 32, 108, 111, 111, 112, 46, 101, 120, 97, 109, 112, 108, 101, 47, 102, 111, 120, 99, 97, 108, 99, 117, 108, 117, 115, 47, 108, 97, 119, 115, 46, 70, 110, 69, 120, 97, 99, 116, 66, 114, 97, 105, 100, 84, 105, 109, 101, 115, 32, 108, 111, 111, 112, 46, 101, 120, 97, 109, 112, 108, 101, 47, 102, 111, 120, 99, 97, 108, 99, 117, 108, 117, 115, 47, 108, 97, 119, 115, 46, 70, 110, 69, 120, 97, 99, 116, 66, 114, 97, 105, 100, 84, 117, 114, 110, 101, 100, 32, 108, 111, 111, 112, 46, 101, 120, 97, 109, 112, 108, 101, 47, 102, 111, 120, 99, 97, 108, 99, 117, 108, 117, 115, 47, 108, 97, 119, 115, 46, 70, 110, 69, 120, 97, 99, 116, 66, 114, 97, 105, 100, 65, 99, 116, 32, 108, 111, 111, 112, 46, 101, 120, 97, 109, 112, 108, 101, 47, 102, 111, 120, 99, 97, 108, 99, 117, 108, 117, 115, 47, 108, 97, 119, 115, 46, 70, 110, 69, 120, 97, 99, 116, 66, 114, 97, 105, 100, 80, 101, 114, 109, 32, 108, 111, 111, 112, 46, 101, 120, 97, 109, 112, 108, 101, 47, 102, 111, 120, 99, 97, 108, 99, 117, 108, 117, 115, 47, 108, 97, 119, 115, 46, 70, 110, 69, 120, 97, 99, 116, 66, 114, 97, 105, 100, 83, 117, 109, 32, 108, 111, 111, 112, 46, 101, 120, 97, 109, 112, 108, 101, 47, 102, 111, 120, 99, 97, 108, 99, 117, 108, 117, 115, 47, 108, 97, 119, 115, 46, 70, 110, 69, 120, 97, 99, 116, 66, 114, 97, 105, 100, 71, 114, 111, 119, 32, 108, 111, 111, 112, 46, 101, 120, 97, 109, 112, 108, 101, 47, 102, 111, 120, 99, 97, 108, 99, 117, 108, 117, 115, 47, 108, 97, 119, 115, 46, 70, 110, 69, 120, 97, 99, 116, 66, 114, 97, 105, 100, 75, 110, 111, 116, 32, 108, 111, 111, 112, 46, 101, 120, 97, 109, 112, 108, 101, 47, 102, 111, 120, 99, 97, 108, 99, 117, 108, 117, 115, 47, 108, 97, 119, 115, 46, 70, 110, 69, 120, 97, 99, 116, 66, 114, 97, 105, 100, 71, 114, 111, 117, 112, 32, 108, 111, 111, 112, 46, 101, 120, 97, 109, 112, 108, 101, 47, 102, 111, 120, 99, 97, 108, 99, 117, 108, 117, 115, 47, 108, 97, 119, 115, 46, 70, 110, 69, 120, 97, 99, 116, 71, 114, 111, 117, 112, 83, 117, 109, 115, 32, 108, 111, 111, 112, 46, 101, 120, 97, 109, 112, 108, 101, 47, 102, 111, 120, 99, 97, 108, 99, 117, 108, 117, 115, 47, 108, 97, 119, 115, 46, 70, 110, 66, 114, 97, 105, 100, 32, 108, 111, 111, 112, 46, 101, 120, 97, 109, 112, 108, 101, 47, 102, 111, 120, 99, 97, 108, 99, 117, 108, 117, 115, 47, 108, 97, 119, 115, 46, 70, 110, 82, 101, 108, 97, 116, 105, 111, 110, 115, 32, 108, 111, 111, 112, 46, 101, 120, 97, 109, 112, 108, 101, 47, 102, 111, 120, 99, 97, 108, 99, 117, 108, 117, 115, 47, 108, 97, 119, 115, 46, 70, 110, 70, 97, 114, 32, 108, 111, 111, 112, 46, 101, 120, 97, 109, 112, 108, 101, 47, 102, 111, 120, 99, 97, 108, 99, 117, 108, 117, 115, 47, 108, 97, 119, 115, 46, 70, 110, 66, 114, 97, 105, 100, 84, 105, 109, 101, 115, 32, 108, 111, 111, 112, 46, 101, 120, 97, 109, 112, 108, 101, 47, 102, 111, 120, 99, 97, 108, 99, 117, 108, 117, 115, 47, 108, 97, 119, 115, 46, 70, 110, 66, 114, 97, 105, 100, 84, 117, 114, 110, 101, 100, 32, 108, 111, 111, 112, 46, 101, 120, 97, 109, 112, 108, 101, 47, 102, 111, 120, 99, 97, 108, 99, 117, 108, 117, 115, 47, 108, 97, 119, 115, 46, 70, 110, 66, 114, 97, 105, 100, 65, 99, 116, 32, 108, 111, 111, 112, 46, 101, 120, 97, 109, 112, 108, 101, 47, 102, 111, 120, 99, 97, 108, 99, 117, 108, 117, 115, 47, 108, 97, 119, 115, 46, 70, 110, 66, 114, 97, 105, 100, 80, 101, 114, 109, 32, 108, 111, 111, 112, 46, 101, 120, 97, 109, 112, 108, 101, 47, 102, 111, 120, 99, 97, 108, 99, 117, 108, 117, 115, 47, 108, 97, 119, 115, 46, 70, 110, 66, 114, 97, 105, 100, 83, 117, 109, 32, 108, 111, 111, 112, 46, 101, 120, 97, 109, 112, 108, 101, 47, 102, 111, 120, 99, 97, 108, 99, 117, 108, 117, 115, 47, 108, 97, 119, 115, 46, 70, 110, 75, 110, 111, 116]
theorem order_is : Try.prog.initOrder = String.ofList (signs wd1 ++ Char.ofNat 32 :: (signs wd2 ++ Char.ofNat 32 :: (signs wd3 ++ Char.ofNat 32 :: signs wd4))) := by kernel_rfl
theorem words_next (q : List Char) : ∀ p : List Char, (p.all fun c => !decide (c = Char.ofNat 32)) = true → wordsSigns (p ++ Char.ofNat 32 :: q) = p :: wordsSigns q
  | [], _ => rfl
  | c :: p, h => by
    rw [List.all_cons, Bool.and_eq_true] at h
    have ih := words_next q p h.2
    have hc : c ≠ Char.ofNat 32 := by simpa using h.1
    rw [List.cons_append, wordsSigns, ih]
    intro e
    exact hc e
theorem words_are : ∃ W, wordsSigns Try.prog.initOrder.toList = signs wd1 :: signs wd2 :: signs wd3 :: W := by
  refine ⟨wordsSigns (signs wd4), ?_⟩
  rw [order_is, String.toList_ofList, words_next _ _ (by kernel_rfl), words_next _ _ (by kernel_rfl), words_next _ _ (by kernel_rfl)]
theorem main_w (W : List (List Char)) : behindMainWord (signs wd1 :: signs wd2 :: signs wd3 :: W) = signs wd3 :: W := by kernel_rfl
theorem cut_w (W : List (List Char)) : stripLifts liftWords (signs wd3 :: W) = ([], signs wd3 :: W) := by kernel_rfl
theorem cut_1 : (signs wd3 == "gc".toList || signs wd3 == "spec".toList) = false := by kernel_rfl
theorem cut_2 : (signs wd3 == "cut".toList) = true := by kernel_rfl
theorem cut_3 : (some (signs wd3) == some "cut".toList) = true := by kernel_rfl
theorem cut_4 : (some (signs wd3) == some "carried".toList) = false := by kernel_rfl
theorem heads_of (P : Program) (W : List (List Char)) (h : behindMainWord (wordsSigns P.initOrder.toList) = signs wd3 :: W) : P.headLifts = [] := by
  unfold Program.headLifts
  rw [h, cut_w]
  show (if (some (signs wd3) == some "cut".toList) = true then ([] : List String) else []) = []
  rw [if_pos cut_3]
theorem make_of (P : Program) (W : List (List Char)) (h : behindMainWord (wordsSigns P.initOrder.toList) = signs wd3 :: W) : P.make = some .cut := by
  unfold Program.make
  rw [h]
  dsimp only
  rw [if_neg (by rw [cut_1]; exact Bool.false_ne_true), if_pos (by rw [cut_2, Bool.true_or])]
theorem lifts_of (P : Program) (W : List (List Char)) (h : behindMainWord (wordsSigns P.initOrder.toList) = signs wd3 :: W) : P.liftsFinal = false := by
  unfold Program.liftsFinal
  rw [h, heads_of P W h]
  show ((some (signs wd3) == some "carried".toList) && _ || ([] : List String).contains "finals") = false
  rw [cut_4, Bool.false_and]
  rfl
theorem enter_of (P : Program) (W : List (List Char)) (h : behindMainWord (wordsSigns P.initOrder.toList) = signs wd3 :: W) (hl : P.laysLater = false) (hr : P.bearsReflect = false) (hd : P.doorFits [] = true) : P.mayEnter = true := by
  unfold Program.mayEnter
  rw [h]
  dsimp only
  rw [cut_w]
  dsimp only
  rw [hl, hr, hd, show (signs wd3 :: W).head? = some (signs wd3) from rfl, cut_3]
  simp
theorem words_main : ∃ W, behindMainWord (wordsSigns Try.prog.initOrder.toList) = signs wd3 :: W := by
  obtain ⟨W, hW⟩ := words_are
  exact ⟨W, by rw [hW]; exact main_w W⟩
theorem later_no : Try.prog.laysLater = false := by kernel_rfl
theorem reflect_no : Try.prog.bearsReflect = false := by kernel_rfl
theorem door_yes : Try.prog.doorFits [] = true := by kernel_rfl
theorem make_is : Try.prog.make = some .cut := by
  obtain ⟨W, hW⟩ := words_main
  exact make_of _ W hW
theorem lifts_is : Try.prog.liftsFinal = false := by
  obtain ⟨W, hW⟩ := words_main
  exact lifts_of _ W hW
theorem enter_is : Try.prog.mayEnter = true := by
  obtain ⟨W, hW⟩ := words_main
  exact enter_of _ W hW later_no reflect_no door_yes
def restOf (P : Program) (f : FuncId) (fn : Func) (s : ChangeSpec) (c : OpenClaim) : { b : Bool // P.mayEnter = true → P.liftsFinal = false → P.make = some .cut → joinedFacts P f fn s c = b } := by
  refine ⟨?b, fun h1 h2 h3 => ?h⟩
  case h =>
    unfold joinedFacts
    rw [h1, h2, h3]

end Go.Proofs.Ytaaeiogdhmiaaaa

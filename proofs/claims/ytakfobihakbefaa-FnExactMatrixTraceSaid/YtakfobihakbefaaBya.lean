/- What the laws' proofs stand on, part 1 of 4. -/
import Derived.Test.YtakfobihakbefaaRows
import Derived.WalkKit
import Derived.ProofKit
import Derived.Below
import Derived.Laws.AppendOwn
import Derived.Deep.Draws
import Derived.Laws.Strings
import Derived.Test.YtakfobihakbefaaChecked
import Derived.WalkSmall
import Derived.RangeFuncBox
import Derived.Maps.AppendAt
import Derived.WalkSpells
import Derived.Deep.QuietTactic
import Derived.BigQuiet
import Derived.Lib.Hide
import Derived.Laws.BytesString
import Derived.Laws.IdiomStrings
import Derived.Outline
import Derived.Deep.SlicePairs
import Derived.Lib.Strings
import Derived.IntWalk
import Derived.Lib.Bytealg
import Derived.Lib.Small
import Derived.Sort.Grow
import Derived.Deep.RegionHeld3
import Derived.Sort.Walk0
import Derived.RangeFuncNested
import Derived.RangeFuncBound
import Derived.RangeFuncCalls
import Derived.RangeFuncLeaves
import Derived.Shelf.Abstract
import Derived.Shelf.RegionOpen
import Derived.OwnWalkIn
import Derived.TacticsInMore
import Derived.LoopNIn
import Derived.LoopIn
import Derived.StillTailTactics
import Derived.Laws.EntriesVeiled
import Derived.Laws.AppendOwnNone
import Derived.ChangeArms
import Derived.ChangeSame
import Derived.WalkLawsBesides
import Derived.Lib.SmallJoins
import Derived.Deep.AppendLies

/- The closed facts of a row that ask how the order of initialisation begins, told from its first words alone: a long one would cost the kernel too much memory. -/

namespace Go.Proofs.Ytakfobihakbefaa
open Go.RowKit

def signs (l : List Nat) : List Char := l.map Char.ofNat
def wd1 : List Nat := [104, 97, 114, 110, 101, 115, 115]
def wd2 : List Nat := [53, 50, 56, 99, 52, 53, 100, 48, 97, 57, 53, 97, 55, 100, 100, 97, 57, 102, 49, 101, 56, 53, 100, 98, 50, 50, 57, 55, 99, 51, 55, 52, 99, 52, 98, 55, 56, 98, 54, 102, 49, 99, 48, 98, 98, 97, 55, 53, 50, 99, 50, 50, 48, 49, 57, 52, 57, 55, 48, 56, 101, 52, 55, 51]
def wd3 : List Nat := [99, 117, 116]
def wd4 : List Nat := [97, 116, 32, 108, 111, 111, 112, 46, 101, 120, 97, 109, 112, 108, 101, 47, 102, 111, 120, 99, 97, 108, 99, 117, 108, 117, 115, 47, 108, 97, 119, 115, 46, 70, 110, 80, 111, 108, 121, 80, 108, 97, 105, 110, 32, 108, 111, 111, 112, 46, 101, 120, 97, 109, 112, 108, 101, 47, 102, 111, 120, 99, 97, 108, 99, 117, 108, 117, 115, 47, 108, 97, 119, 115, 46, 70, 110, 80, 111, 108, 121, 65, 108, 105, 107, 101, 32, 108, 111, 111, 112, 46, 101, 120, 97, 109, 112, 108, 101, 47, 102, 111, 120, 99, 97, 108, 99, 117, 108, 117, 115, 47, 108, 97, 119, 115, 46, 70, 110, 77, 97, 116, 114, 105, 120, 32, 108, 111, 111, 112, 46, 101, 120, 97, 109, 112, 108, 101, 47, 102, 111, 120, 99, 97, 108, 99, 117, 108, 117, 115, 47, 108, 97, 119, 115, 46, 70, 110, 77, 97, 116, 114, 105, 120, 79, 110, 101, 32, 108, 111, 111, 112, 46, 101, 120, 97, 109, 112, 108, 101, 47, 102, 111, 120, 99, 97, 108, 99, 117, 108, 117, 115, 47, 108, 97, 119, 115, 46, 70, 110, 77, 97, 116, 114, 105, 120, 84, 105, 109, 101, 115, 32, 108, 111, 111, 112, 46, 101, 120, 97, 109, 112, 108, 101, 47, 102, 111, 120, 99, 97, 108, 99, 117, 108, 117, 115, 47, 108, 97, 119, 115, 46, 70, 110, 77, 97, 116, 114, 105, 120, 68, 101, 116, 32, 108, 111, 111, 112, 46, 101, 120, 97, 109, 112, 108, 101, 47, 102, 111, 120, 99, 97, 108, 99, 117, 108, 117, 115, 47, 108, 97, 119, 115, 46, 70, 110, 77, 97, 116, 114, 105, 120, 76, 101, 115, 115, 32, 108, 111, 111, 112, 46, 101, 120, 97, 109, 112, 108, 101, 47, 102, 111, 120, 99, 97, 108, 99, 117, 108, 117, 115, 47, 108, 97, 119, 115, 46, 70, 110, 70, 108, 105, 112, 32, 108, 111, 111, 112, 46, 101, 120, 97, 109, 112, 108, 101, 47, 102, 111, 120, 99, 97, 108, 99, 117, 108, 117, 115, 47, 108, 97, 119, 115, 46, 70, 110, 67, 117, 116, 32, 108, 111, 111, 112, 46, 101, 120, 97, 109, 112, 108, 101, 47, 102, 111, 120, 99, 97, 108, 99, 117, 108, 117, 115, 47, 108, 97, 119, 115, 46, 70, 110, 68, 101, 116, 32, 108, 111, 111, 112, 46, 101, 120, 97, 109, 112, 108, 101, 47, 102, 111, 120, 99, 97, 108, 99, 117, 108, 117, 115, 47, 108, 97, 119, 115, 46, 70, 110, 84, 114, 97, 99, 101, 32, 108, 111, 111, 112, 46, 101, 120, 97, 109, 112, 108, 101, 47, 102, 111, 120, 99, 97, 108, 99, 117, 108, 117, 115, 47, 108, 97, 119, 115, 46, 70, 110, 69, 120, 97, 99, 116, 80, 111, 108, 121, 80, 108, 97, 105, 110, 32, 108, 111, 111, 112, 46, 101, 120, 97, 109, 112, 108, 101, 47, 102, 111, 120, 99, 97, 108, 99, 117, 108, 117, 115, 47, 108, 97, 119, 115, 46, 70, 110, 69, 120, 97, 99, 116, 80, 111, 108, 121, 65, 108, 105, 107, 101, 32, 108, 111, 111, 112, 46, 101, 120, 97, 109, 112, 108, 101, 47, 102, 111, 120, 99, 97, 108, 99, 117, 108, 117, 115, 47, 108, 97, 119, 115, 46, 70, 110, 69, 120, 97, 99, 116, 77, 97, 116, 114, 105, 120, 73, 110, 32, 108, 111, 111, 112, 46, 101, 120, 97, 109, 112, 108, 101, 47, 102, 111, 120, 99, 97, 108, 99, 117, 108, 117, 115, 47, 108, 97, 119, 115, 46, 70, 110, 69, 120, 97, 99, 116, 77, 97, 116, 114, 105, 120, 79, 110, 101, 32, 108, 111, 111, 112, 46, 101, 120, 97, 109, 112, 108, 101, 47, 102, 111, 120, 99, 97, 108, 99, 117, 108, 117, 115, 47, 108, 97, 119, 115, 46, 70, 110, 69, 120, 97, 99, 116, 77, 97, 116, 114, 105, 120, 84, 105, 109, 101, 115, 32, 108, 111, 111, 112, 46, 101, 120, 97, 109, 112, 108, 101, 47, 102, 111, 120, 99, 97, 108, 99, 117, 108, 117, 115, 47, 108, 97, 119, 115, 46, 70, 110, 69, 120, 97, 99, 116, 77, 97, 116, 114, 105, 120, 76, 101, 115, 115, 32, 108, 111, 111, 112, 46, 101, 120, 97, 109, 112, 108, 101, 47, 102, 111, 120, 99, 97, 108, 99, 117, 108, 117, 115, 47, 108, 97, 119, 115, 46, 70, 110, 69, 120, 97, 99, 116, 77, 97, 116, 114, 105, 120, 70, 108, 105, 112, 32, 108, 111, 111, 112, 46, 101, 120, 97, 109, 112, 108, 101, 47, 102, 111, 120, 99, 97, 108, 99, 117, 108, 117, 115, 47, 108, 97, 119, 115, 46, 70, 110, 69, 120, 97, 99, 116, 77, 97, 116, 114, 105, 120, 67, 117, 116, 32, 108, 111, 111, 112, 46, 101, 120, 97, 109, 112, 108, 101, 47, 102, 111, 120, 99, 97, 108, 99, 117, 108, 117, 115, 47, 108, 97, 119, 115, 46, 70, 110, 69, 120, 97, 99, 116, 77, 97, 116, 114, 105, 120, 68, 101, 116, 32, 108, 111, 111, 112, 46, 101, 120, 97, 109, 112, 108, 101, 47, 102, 111, 120, 99, 97, 108, 99, 117, 108, 117, 115, 47, 108, 97, 119, 115, 46, 70, 110, 69, 120, 97, 99, 116, 77, 97, 116, 114, 105, 120, 84, 114, 97, 99, 101]
theorem order_is : Try.prog.initOrder = String.ofList (signs wd1 ++ Char.ofNat 32 :: (signs wd2 ++ Char.ofNat 32 :: (signs wd3 ++ Char.ofNat 32 :: signs wd4))) := by kernel_rfl
theorem words_next (q : List Char) : ∀ p : List Char, (p.all fun c => !decide (c = Char.ofNat 32)) = true → wordsSigns (p ++ Char.ofNat 32 :: q) = p :: wordsSigns q
  | [], _ => rfl
  | c :: p, h => by
    rw [List.all_cons, Bool.and_eq_true] at h
    have ih := words_next q p h.2
    have hc : c ≠ Char.ofNat 32 := by simpa using h.1
    rw [List.cons_append, wordsSigns, ih]
    intro e
    exact hc e
theorem words_are : ∃ W, wordsSigns Try.prog.initOrder.toList = signs wd1 :: signs wd2 :: signs wd3 :: W := by
  refine ⟨wordsSigns (signs wd4), ?_⟩
  rw [order_is, String.toList_ofList, words_next _ _ (by kernel_rfl), words_next _ _ (by kernel_rfl), words_next _ _ (by kernel_rfl)]
theorem main_w (W : List (List Char)) : behindMainWord (signs wd1 :: signs wd2 :: signs wd3 :: W) = signs wd3 :: W := by kernel_rfl
theorem cut_w (W : List (List Char)) : stripLifts liftWords (signs wd3 :: W) = ([], signs wd3 :: W) := by kernel_rfl
theorem cut_1 : (signs wd3 == "gc".toList || signs wd3 == "spec".toList) = false := by kernel_rfl
theorem cut_2 : (signs wd3 == "cut".toList) = true := by kernel_rfl
theorem cut_3 : (some (signs wd3) == some "cut".toList) = true := by kernel_rfl
theorem cut_4 : (some (signs wd3) == some "carried".toList) = false := by kernel_rfl
theorem heads_of (P : Program) (W : List (List Char)) (h : behindMainWord (wordsSigns P.initOrder.toList) = signs wd3 :: W) : P.headLifts = [] := by
  unfold Program.headLifts
  rw [h, cut_w]
  show (if (some (signs wd3) == some "cut".toList) = true then ([] : List String) else []) = []
  rw [if_pos cut_3]
theorem make_of (P : Program) (W : List (List Char)) (h : behindMainWord (wordsSigns P.initOrder.toList) = signs wd3 :: W) : P.make = some .cut := by
  unfold Program.make
  rw [h]
  dsimp only
  rw [if_neg (by rw [cut_1]; exact Bool.false_ne_true), if_pos (by rw [cut_2, Bool.true_or])]
theorem lifts_of (P : Program) (W : List (List Char)) (h : behindMainWord (wordsSigns P.initOrder.toList) = signs wd3 :: W) : P.liftsFinal = false := by
  unfold Program.liftsFinal
  rw [h, heads_of P W h]
  show ((some (signs wd3) == some "carried".toList) && _ || ([] : List String).contains "finals") = false
  rw [cut_4, Bool.false_and]
  rfl
theorem enter_of (P : Program) (W : List (List Char)) (h : behindMainWord (wordsSigns P.initOrder.toList) = signs wd3 :: W) (hl : P.laysLater = false) (hr : P.bearsReflect = false) (hd : P.doorFits [] = true) : P.mayEnter = true := by
  unfold Program.mayEnter
  rw [h]
  dsimp only
  rw [cut_w]
  dsimp only
  rw [hl, hr, hd, show (signs wd3 :: W).head? = some (signs wd3) from rfl, cut_3]
  simp
theorem words_main : ∃ W, behindMainWord (wordsSigns Try.prog.initOrder.toList) = signs wd3 :: W := by
  obtain ⟨W, hW⟩ := words_are
  exact ⟨W, by rw [hW]; exact main_w W⟩
theorem later_no : Try.prog.laysLater = false := by kernel_rfl
theorem reflect_no : Try.prog.bearsReflect = false := by kernel_rfl
theorem door_yes : Try.prog.doorFits [] = true := by kernel_rfl
theorem make_is : Try.prog.make = some .cut := by
  obtain ⟨W, hW⟩ := words_main
  exact make_of _ W hW
theorem lifts_is : Try.prog.liftsFinal = false := by
  obtain ⟨W, hW⟩ := words_main
  exact lifts_of _ W hW
theorem enter_is : Try.prog.mayEnter = true := by
  obtain ⟨W, hW⟩ := words_main
  exact enter_of _ W hW later_no reflect_no door_yes
def restOf (P : Program) (f : FuncId) (fn : Func) (s : ChangeSpec) (c : OpenClaim) : { b : Bool // P.mayEnter = true → P.liftsFinal = false → P.make = some .cut → joinedFacts P f fn s c = b } := by
  refine ⟨?b, fun h1 h2 h3 => ?h⟩
  case h =>
    unfold joinedFacts
    rw [h1, h2, h3]

end Go.Proofs.Ytakfobihakbefaa

/- Plain lists of bytes: words of the free group as lists of bytes, reducing them by a stack, their inverses. Nothing of the program is imported. -/

namespace Go.Proofs.Ytakfobihakbefaa

/-- The inverse of a letter, as the model has it. -/
def turnB (c : UInt8) : UInt8 := if 97 ≤ c.toNat then c - 32 else c + 32
/-- Is a byte a letter? -/
def letB (c : UInt8) : Bool := decide ((97 ≤ c.toNat ∧ c.toNat ≤ 100) ∨ (65 ≤ c.toNat ∧ c.toNat ≤ 68))
/-- One step of the stack. -/
def redStep (l : List UInt8) (c : UInt8) : List UInt8 := if l.getLast? = some (turnB c) then l.dropLast else l ++ [c]
/-- The stack. -/
def redL (l : List UInt8) (s : List UInt8) : List UInt8 := s.foldl redStep l
def letL (s : List UInt8) : Bool := s.all letB
def backL (s : List UInt8) : List UInt8 := (s.reverse).map turnB
def bytesV (l : List UInt8) : List Value := l.map fun c => Value.int .u8 (c.toNat : Int)

theorem bytesV_length (l : List UInt8) : (bytesV l).length = l.length := by simp [bytesV]
theorem bytesV_append (a b : List UInt8) : bytesV (a ++ b) = bytesV a ++ bytesV b := by simp [bytesV]

theorem redL_snoc (l s : List UInt8) (c : UInt8) : redL l (s ++ [c]) = redStep (redL l s) c := by simp [redL]
theorem redL_nil (l : List UInt8) : redL l [] = l := rfl
theorem redL_append (l a b : List UInt8) : redL l (a ++ b) = redL (redL l a) b := by simp [redL]
theorem redStep_len (l : List UInt8) (c : UInt8) : (redStep l c).length ≤ l.length + 1 := by
  unfold redStep; split <;> simp <;> omega
theorem redL_len (s : List UInt8) : ∀ l : List UInt8, (redL l s).length ≤ l.length + s.length := by
  induction s with
  | nil => intro l; simp [redL]
  | cons c s ih =>
    intro l
    have h := ih (redStep l c)
    have h2 := redStep_len l c
    show (redL (redStep l c) s).length ≤ _
    simp only [List.length_cons]
    omega
theorem letB_iff (c : UInt8) : letB c = true ↔ ((97 ≤ c.toNat ∧ c.toNat ≤ 100) ∨ (65 ≤ c.toNat ∧ c.toNat ≤ 68)) := by simp [letB]
theorem turnB_hi (c : UInt8) (h : 97 ≤ c.toNat) : ((turnB c).toNat : Int) = (c.toNat : Int) - 32 := by
  unfold turnB
  rw [if_pos h, UInt8.toNat_sub_of_le _ _ (by rw [UInt8.le_iff_toNat_le]; show 32 ≤ _; omega)]
  show ((c.toNat - 32 : Nat) : Int) = _
  omega
theorem turnB_lo (c : UInt8) (h : c.toNat < 97) : ((turnB c).toNat : Int) = (c.toNat : Int) + 32 := by
  unfold turnB
  rw [if_neg (by omega), UInt8.toNat_add]
  show (((c.toNat + 32) % 256 : Nat) : Int) = _
  omega
def wordB (l : List UInt8) : Bool := decide (l.length ≤ 60) && letL l && decide (redL [] l = l)
def bstr (l : List UInt8) : ByteArray := ⟨l.toArray⟩
theorem bstr_toList (l : List UInt8) : (bstr l).data.toList = l := rfl
theorem bstr_size (l : List UInt8) : (bstr l).size = l.length := by simp [bstr, ByteArray.size]
theorem bstr_of (s : ByteArray) : bstr s.data.toList = s := by simp [bstr]
theorem bstr_inj {a b : List UInt8} (h : bstr a = bstr b) : a = b := by
  have := congrArg (fun s : ByteArray => s.data.toList) h
  simpa [bstr] using this
theorem bytes_beq (a b : ByteArray) : (a.toList == b.toList) = decide (a.data.toList = b.data.toList) := by
  rw [ByteArray.toList_eq, ByteArray.toList_eq, Bool.eq_iff_iff]; simp
theorem bytes_ext {a b : ByteArray} (h : a.data.toList = b.data.toList) : a = b := by
  rw [← bstr_of a, ← bstr_of b, h]
theorem take_snoc (s : List UInt8) (k : Nat) (h : k < s.length) : s.take (k + 1) = s.take k ++ [s[k]] := by
  rw [List.take_succ_eq_append_getElem h]
/-- The program's own inverse of a letter, of whatever byte. -/
def invB (c : UInt8) : UInt8 := c ^^^ 32
def stepX (l : List UInt8) (c : UInt8) : List UInt8 := if l.getLast? = some (invB c) then l.dropLast else l ++ [c]
def redX (l : List UInt8) (s : List UInt8) : List UInt8 := s.foldl stepX l
theorem redX_snoc (l s : List UInt8) (c : UInt8) : redX l (s ++ [c]) = stepX (redX l s) c := by simp [redX]
theorem redX_append (l a b : List UInt8) : redX l (a ++ b) = redX (redX l a) b := by simp [redX]
theorem stepX_len (l : List UInt8) (c : UInt8) : (stepX l c).length ≤ l.length + 1 := by
  unfold stepX; split <;> simp <;> omega
theorem redX_len (s : List UInt8) : ∀ l : List UInt8, (redX l s).length ≤ l.length + s.length := by
  induction s with
  | nil => intro l; simp [redX]
  | cons c s ih =>
    intro l
    have h := ih (stepX l c)
    have h2 := stepX_len l c
    show (redX (stepX l c) s).length ≤ _
    simp only [List.length_cons]
    omega
theorem stepX_pop (p : List UInt8) (x c : UInt8) (h : x = invB c) : stepX (p ++ [x]) c = p := by simp [stepX, h]
theorem inv_tab : ∀ n : Fin 256, letB (UInt8.ofNat n.val) = true → invB (UInt8.ofNat n.val) = turnB (UInt8.ofNat n.val) := by decide +kernel
theorem invB_let (c : UInt8) (h : letB c = true) : invB c = turnB c := by
  have := inv_tab ⟨c.toNat, c.toNat_lt⟩
  simp only [UInt8.ofNat_toNat] at this
  exact this h
theorem letL_cons (c : UInt8) (s : List UInt8) : letL (c :: s) = (letB c && letL s) := rfl
theorem letL_append (a b : List UInt8) : letL (a ++ b) = (letL a && letL b) := by simp [letL]
theorem redX_eq : ∀ (s l : List UInt8), letL s = true → redX l s = redL l s
  | [], _, _ => rfl
  | c :: s, l, h => by
    rw [letL_cons, Bool.and_eq_true] at h
    have e : stepX l c = redStep l c := by unfold stepX redStep; rw [invB_let c h.1]
    show redX (stepX l c) s = redL (redStep l c) s
    rw [e]; exact redX_eq s _ h.2
theorem letL_prefix {a b : List UInt8} (h : a <+: b) (ha : letL a = false) : letL b = false := by
  obtain ⟨t, rfl⟩ := h
  rw [letL_append, ha]; rfl
theorem ret_int {k : IntKind} {a b : Int} (h : a = b) : Ending.returned (.int k a) = .returned (.int k b) := by rw [h]
theorem ret_bool {a b : Bool} (h : a = b) : Ending.returned (.bool a) = .returned (.bool b) := by rw [h]
theorem ret_string {a b : ByteArray} (h : a = b) : Ending.returned (.string a) = .returned (.string b) := by rw [h]
theorem letL_take_succ (s : List UInt8) (k : Nat) (hk : k < s.length) : letL (s.take (k + 1)) = (letL (s.take k) && letB s[k]) := by
  unfold letL; rw [List.take_succ_eq_append_getElem hk, List.all_append]; simp
theorem letL_false_of (s : List UInt8) (k : Nat) (hk : k < s.length) (h : letB s[k] = false) : letL s = false := by
  unfold letL; rw [List.all_eq_false]; exact ⟨s[k], List.getElem_mem hk, by simp [h]⟩
theorem last_split (l : List UInt8) (h : 0 < l.length) : ∃ p x, l = p ++ [x] := by
  have hne : l ≠ [] := by intro e; subst e; simp at h
  exact ⟨l.dropLast, l.getLast hne, (List.dropLast_concat_getLast hne).symm⟩
theorem ownsRow_cap {w : World} {base : Nat} {e : TypeId} {size g cap n : Nat} {xs : List Value} (h : w.ownsRow base e size (.slice (some ⟨g, 0, none⟩) n cap) n xs) : n ≤ cap ∧ cap ≤ maxLen ∧ base ≤ g ∧ g < w.heap.size := by
  have hl := h.lt g rfl
  obtain ⟨_, h2 | ⟨g', cap', cur, hv, hg, hh, hn, hc, hs, ht⟩⟩ := h
  · cases h2.1
  · cases hv; exact ⟨hn, hc, hl.1, hl.2⟩
theorem ownsRow_drewN {w : World} {base : Nat} {e : TypeId} {size : Nat} {v : Value} {n : Nat} {xs : List Value} (h : w.ownsRow base e size v n xs) (q : Nat) : (w.drewN q).ownsRow base e size v n xs := h
theorem ownsRow_base {w : World} {b1 b2 : Nat} {e : TypeId} {size : Nat} {v : Value} {n : Nat} {xs : List Value} (h : w.ownsRow b1 e size v n xs) (hb : b2 ≤ b1) : w.ownsRow b2 e size v n xs := by
  obtain ⟨h1, h2 | ⟨g, cap, cur, a, b, c⟩⟩ := h
  · exact ⟨h1, .inl h2⟩
  · exact ⟨h1, .inr ⟨g, cap, cur, a, Nat.le_trans hb b, c⟩⟩
theorem bytesV_set (l : List UInt8) (k : Nat) (c : UInt8) : (bytesV l).set k (.int .u8 (c.toNat : Int)) = bytesV (l.set k c) := by
  simp [bytesV, List.map_set]
theorem fill_set (l : List UInt8) (n k : Nat) (hl : l.length = n) (hk : k < n) : (l.take k ++ List.replicate (n - k) 0).set k (l[k]'(by omega)) = l.take (k + 1) ++ List.replicate (n - (k + 1)) 0 := by
  have h1 : (l.take k).length = k := by simp; omega
  rw [List.set_append_right _ _ (by omega), h1, Nat.sub_self, take_snoc l k (by omega)]
  obtain ⟨m, hm⟩ : ∃ m, n - k = m + 1 := ⟨n - k - 1, by omega⟩
  rw [hm, List.replicate_succ, show n - (k + 1) = m by omega]
  simp only [List.set_cons_zero, List.append_assoc, List.singleton_append]
theorem redL_full : ∀ (s l : List UInt8), (redL l s).length = l.length + s.length → redL l s = l ++ s
  | [], l, _ => by simp [redL]
  | c :: s, l, h => by
    have h0 : redL l (c :: s) = redL (redStep l c) s := rfl
    rw [h0] at h ⊢
    have h1 := redL_len s (redStep l c)
    have h2 : (redStep l c).length = l.length + 1 := by
      have := redStep_len l c
      simp only [List.length_cons] at h
      omega
    have h3 : redStep l c = l ++ [c] := by
      unfold redStep at h2 ⊢
      split at h2
      · simp at h2
      · rename_i hx; rw [if_neg hx]
    rw [h3] at h ⊢
    rw [redL_full s _ (by simp only [List.length_cons, List.length_append, List.length_nil] at h ⊢; omega)]
    simp
theorem wordB_iff (l : List UInt8) : wordB l = true ↔ l.length ≤ 60 ∧ letL l = true ∧ redL [] l = l := by
  simp [wordB, and_assoc]
theorem backL_drop (s : List UInt8) (k : Nat) (h : k < s.length) : backL (s.drop k) = backL (s.drop (k + 1)) ++ [turnB s[k]] := by
  unfold backL
  rw [List.drop_eq_getElem_cons h, List.reverse_cons, List.map_append]
  rfl
theorem backL_length (s : List UInt8) : (backL s).length = s.length := by simp [backL]
/-- Both ends are taken out as long as they are inverse to each other. -/
def coreC (l : List UInt8) : Bool := decide (1 < l.length) && decide (l.head? = some (turnB (l.getLast?.getD 0)))
def coreF : Nat → List UInt8 → List UInt8
  | 0, l => l
  | n + 1, l => if coreC l then coreF n (l.tail.dropLast) else l
def coreL (l : List UInt8) : List UInt8 := coreF l.length l
theorem coreF_false {l : List UInt8} (h : coreC l = false) : ∀ m, coreF m l = l
  | 0 => rfl
  | m + 1 => by rw [coreF, h]; rfl
theorem coreF_true {l : List UInt8} (h : coreC l = true) (m : Nat) : coreF (m + 1) l = coreF m (l.tail.dropLast) := by rw [coreF, h]; rfl
theorem coreC_get (l : List UInt8) (h : 1 < l.length) : coreC l = decide (l[0] = turnB (l[l.length - 1])) := by
  unfold coreC
  rw [List.getLast?_eq_getElem?, List.getElem?_eq_getElem (by omega), List.head?_eq_getElem?, List.getElem?_eq_getElem (by omega)]
  simp [h]
theorem letL_get (l : List UInt8) (h : letL l = true) (i : Nat) (hi : i < l.length) : letB l[i] = true := List.all_eq_true.1 h _ (List.getElem_mem hi)
theorem letL_of_mem (l m : List UInt8) (h : letL l = true) (hm : ∀ c ∈ m, c ∈ l) : letL m = true := List.all_eq_true.2 fun c hc => List.all_eq_true.1 h c (hm c hc)
theorem letL_core (l : List UInt8) (h : letL l = true) : letL (l.tail.dropLast) = true := letL_of_mem l _ h fun _ hc => List.mem_of_mem_tail (List.dropLast_subset _ hc)
theorem core_len (l : List UInt8) : (l.tail.dropLast).length = l.length - 2 := by simp; omega
theorem core_get (l : List UInt8) (j : Nat) (h : j < (l.tail.dropLast).length) : (l.tail.dropLast)[j] = l[j + 1]'(by simp at h; omega) := by
  simp
theorem coreF_len : ∀ (m : Nat) (l : List UInt8), (coreF m l).length ≤ l.length
  | 0, _ => Nat.le_refl _
  | m + 1, l => by
    rw [coreF]; split
    · have := coreF_len m (l.tail.dropLast); rw [core_len] at this; omega
    · exact Nat.le_refl _
theorem redStep_pop (p : List UInt8) (x c : UInt8) (h : x = turnB c) : redStep (p ++ [x]) c = p := by simp [redStep, h]
theorem redStep_push (p : List UInt8) (x c : UInt8) (h : x ≠ turnB c) : redStep (p ++ [x]) c = p ++ [x] ++ [c] := by simp [redStep, h]
theorem redStep_nil (c : UInt8) : redStep [] c = [c] := by simp [redStep]

end Go.Proofs.Ytakfobihakbefaa

/- The contracts of the model's small functions on letters and words. -/

namespace Go.Proofs.Ytakfobihakbefaa
open Go.RowKit

theorem infoU8 : (Try.prog.info? 5).map (fun i => (i.zero, i.size, i.bytes)) = some (some (.int .u8 0), 1, 1) := by kernel_rfl

end Go.Proofs.Ytakfobihakbefaa

/- The contracts of the laws' own helpers on slices of ints: are two equal, put marks in, are the marks still there. -/

namespace Go.Proofs.Ytakfobihakbefaa
open Go.RowKit

def intsV (zs : List Int) : List Value := zs.map (Value.int .i64)
theorem intsV_len (zs : List Int) : (intsV zs).length = zs.length := by simp [intsV]
theorem infoInt : (Try.prog.info? 3).map (fun i => (i.zero, i.size, i.bytes)) = some (some (.int .i64 0), 1, 8) := by kernel_rfl

/-- The value v is a slice of the call's own that holds the ints zs, in a block from base on. -/
def IntRow (base : Nat) (w : World) (v : Value) (zs : List Int) : Prop := w.ownsRow base 3 1 v zs.length (intsV zs)

theorem IntRow.shape {base : Nat} {w : World} {v : Value} {zs : List Int} (h : IntRow base w v zs) :
    ∃ a g cap, v = .slice a zs.length cap ∧ (0 < zs.length → a = some ⟨g, 0, none⟩ ∧ base ≤ g ∧ g < w.heap.size) ∧ zs.length ≤ maxLen ∧ ∀ j (hj : j < zs.length), w.cell? ⟨g, j, none⟩ = some (.int .i64 zs[j]) ∧ w.frozen? ⟨g, j, none⟩ = false := by
  rcases h.2 with ⟨rfl, h0⟩ | ⟨g, cap, cur, rfl, hb, hg, hn, hc, _⟩
  · exact ⟨none, 0, 0, by rw [h0], fun h => by omega, by rw [h0]; exact Nat.zero_le _, fun j hj => by omega⟩
  · refine ⟨some ⟨g, 0, none⟩, g, cap, rfl, fun _ => ⟨rfl, hb, (Array.getElem?_eq_some_iff.1 hg).1⟩, Nat.le_trans hn hc, fun j hj => ⟨?_, h.frozenAt j⟩⟩
    rw [h.cellAt j (by omega)]
    simp [intsV, hj]
theorem IntRow.below {base : Nat} {w w' : World} {v : Value} {zs : List Int} (h : IntRow base w v zs) (hb : Below w.heap.size w w') : IntRow base w' v zs :=
  h.kept ⟨hb.os, hb.tape, hb.output, hb.size, fun j hj _ => hb.block j hj⟩ (row := none) (by
    rcases h.2 with ⟨rfl, _⟩ | ⟨g, cap, cur, rfl, _⟩
    · exact .inl rfl
    · exact .inr (by simp [Value.ownBlock]))
theorem IntRow.mono {b1 b2 : Nat} {w : World} {v : Value} {zs : List Int} (h : IntRow b1 w v zs) (hb : b2 ≤ b1) : IntRow b2 w v zs := ownsRow_base h hb

set_option maxRecDepth 100000 in
set_option maxHeartbeats 1000000 in
theorem eqIntS_yes (b1 b2 : Nat) (v1 v2 : Value) (zs : List Int) (w : World) (h1 : IntRow b1 w v1 zs) (h2 : IntRow b2 w v2 zs) :
    Calls Try.prog 113 #[v1, v2] w fun e w' => e = .returned (.bool true) ∧ Below w.heap.size w w' := by
  obtain ⟨a1, g1, c1, rfl, hs1, hm, hc1⟩ := h1.shape
  obtain ⟨a2, g2, c2, rfl, hs2, _, hc2⟩ := h2.shape
  obtain ⟨n, hn⟩ : ∃ n, zs.length = n := ⟨_, rfl⟩
  rw [hn] at hs1 hs2 hm ⊢
  have HC1 := Lib.hid hc1
  have HC2 := Lib.hid hc2
  have HS1 := Lib.hid hs1
  have HS2 := Lib.hid hs2
  have HN := Lib.hid hn
  clear hc1 hc2 hs1 hs2 hn h1 h2
  unfold maxLen at hm
  go_enter Try.func113, Try.ntmps113
  go_wp2
  go_loopw [5] (fun i wr => ∃ k : Nat, k ≤ n ∧ i = .int .i64 k ∧ Below w.heap.size w wr) (fun i _ => n - (intOf i).toNat)
  case atStart => exact ⟨0, Nat.zero_le _, rfl, Below.refl _ _⟩
  case round =>
    obtain ⟨k, hk, rfl, hB⟩ := hrel
    by_cases hlt : k < n
    · obtain ⟨rfl, _, hg1⟩ := HS1.out (by omega)
      obtain ⟨rfl, _, hg2⟩ := HS2.out (by omega)
      have hkz : k < zs.length := by rw [HN.out]; exact hlt
      obtain ⟨z, hz⟩ : ∃ z, zs[k] = z := ⟨_, rfl⟩
      have d1 : wr.cell? ⟨g1, k, none⟩ = some (.int .i64 z) := by rw [← hz]; exact (hB.cell (p := ⟨g1, k, none⟩) hg1).trans (HC1.out k hkz).1
      have d2 : wr.cell? ⟨g2, k, none⟩ = some (.int .i64 z) := by rw [← hz]; exact (hB.cell (p := ⟨g2, k, none⟩) hg2).trans (HC2.out k hkz).1
      clear hz hkz
      go_wp2
      go_quiet (fail)
      go_wp2
      go_roundw
      case rel => exact ⟨k + 1, by omega, by go_num, below_drewN hB _⟩
      case measure => simp [intOf]; omega
    · go_wp2
      go_ret
      exact ⟨rfl, hB⟩

/-- The marks k, k + 1, .. -/
def marks (k n : Nat) : List Int := (List.range n).map fun i => ((k + i : Nat) : Int)
theorem marks_succ (k j : Nat) : marks k (j + 1) = marks k j ++ [((k + j : Nat) : Int)] := by simp [marks, List.range_succ]
theorem marks_len (k n : Nat) : (marks k n).length = n := by simp [marks]

set_option maxRecDepth 100000 in
set_option maxHeartbeats 1000000 in
theorem markIntS_any (base : Nat) (v : Value) (zs : List Int) (k : Nat) (w : World) (h : IntRow base w v zs) (hk : k ≤ 1000000000000) (hn2 : zs.length ≤ 1000000000000) :
    Calls Try.prog 114 #[v, .int .i64 k] w fun e w' => e = .returned (.int .i64 ((k + zs.length : Nat) : Int)) ∧ IntRow base w' v (marks k zs.length) ∧ w.grownBy w' v.ownBlock := by
  by_cases h0 : zs.length = 0
  · obtain ⟨a1, g1, c1, rfl, hs1, hm, hc1⟩ := h.shape
    rw [h0] at h ⊢
    have H := Lib.hid h
    clear h hc1 hs1 hm
    go_enter Try.func114, Try.ntmps114
    go_wp2
    go_loopw [1, 5] (fun q i wr => q = .int .i64 k ∧ i = .int .i64 0 ∧ w = wr) (fun _ _ _ => 0)
    case atStart => exact ⟨rfl, rfl, rfl⟩
    case round =>
      obtain ⟨rfl, rfl, rfl⟩ := hrel
      go_wp2
      go_ret
      refine ⟨by simp, ?_, World.grownBy.refl _ _⟩
      have hz : zs = [] := List.length_eq_zero_iff.1 h0
      have := H.out
      subst hz
      exact this
  · obtain ⟨n, hn⟩ : ∃ n, zs.length = n := ⟨_, rfl⟩
    rcases h.2 with ⟨rfl, h0'⟩ | ⟨g, cap, cur, rfl, hb, hg, hnc, hcm, _⟩
    · exact absurd h0' h0
    rw [hn] at h0 hn2 hnc ⊢
    have h' : w.ownsRow base 3 1 (.slice (some ⟨g, 0, none⟩) n cap) n (intsV (marks k 0 ++ zs.drop 0)) := by
      have := h; unfold IntRow at this; rw [hn] at this; simpa [marks] using this
    have HN := Lib.hid hn
    clear h hn hg
    unfold maxLen at hcm
    go_enter Try.func114, Try.ntmps114
    go_wp2
    go_loopw [1, 5] (fun q i wr => ∃ j : Nat, j ≤ n ∧ q = .int .i64 ((k + j : Nat) : Int) ∧ i = .int .i64 j ∧ wr.ownsRow base 3 1 (.slice (some ⟨g, 0, none⟩) n cap) n (intsV (marks k j ++ zs.drop j)) ∧ w.grownBy wr (some g)) (fun _ i _ => n - (intOf i).toNat)
    case atStart => exact ⟨0, Nat.zero_le _, by simp, rfl, h', World.grownBy.refl _ _⟩
    case round =>
      obtain ⟨j, hj, rfl, rfl, hr, hG⟩ := hrel
      by_cases hlt : j < n
      · have hjz : j < zs.length := by rw [HN.out]; exact hlt
        have hcl : wr.cell? ⟨g, j, none⟩ = some (.int .i64 zs[j]) := by
          rw [hr.cellAt j (by omega)]
          simp only [intsV, List.getElem?_map]
          rw [List.getElem?_append_right (by rw [marks_len]; exact Nat.le_refl _), marks_len, Nat.sub_self, List.getElem?_drop, Nat.add_zero, List.getElem?_eq_getElem hjz]
          rfl
        have hfr := hr.frozenAt j
        have HR := Lib.hid hr
        have HG := Lib.hid hG
        clear hr hG
        go_wp2
        go_roundw
        case rel =>
          have hst := HR.out.stored j (.int .i64 ((k + j : Nat) : Int))
          refine ⟨j + 1, by omega, by go_num, by go_num, ?_, HG.out.trans hst.2⟩
          have e : (intsV (marks k j ++ zs.drop j)).set j (.int .i64 ((k + j : Nat) : Int)) = intsV (marks k (j + 1) ++ zs.drop (j + 1)) := by
            unfold intsV
            rw [List.map_append, List.set_append_right _ _ (by simp [marks_len]), List.length_map, marks_len, Nat.sub_self, List.drop_eq_getElem_cons hjz, List.map_cons, List.set_cons_zero, marks_succ, List.map_append, List.map_append, List.append_assoc]
            rfl
          rw [← e]
          exact hst.1
        case measure => simp [intOf]; omega
      · obtain rfl : j = n := by omega
        rw [List.drop_of_length_le (by rw [HN.out]; exact Nat.le_refl _), List.append_nil] at hr
        have HR := Lib.hid hr
        have HG := Lib.hid hG
        clear hr hG h'
        go_wp2
        go_ret
        refine ⟨rfl, ?_, HG.out⟩
        unfold IntRow
        rw [marks_len]
        exact HR.out

set_option maxRecDepth 100000 in
set_option maxHeartbeats 1000000 in
theorem heldIntS_any (base : Nat) (v : Value) (n k : Nat) (w : World) (h : IntRow base w v (marks k n)) (hk : k ≤ 1000000000000) (hn2 : n ≤ 1000000000000) :
    Calls Try.prog 115 #[v, .int .i64 k] w fun e w' => e = .returned (.int .i64 ((k + n : Nat) : Int)) ∧ w = w' := by
  obtain ⟨a, g, cap, rfl, hs, hm, hc⟩ := h.shape
  simp only [marks_len] at hs hc ⊢
  have HC := Lib.hid hc
  have HS := Lib.hid hs
  clear hc hs hm h
  go_enter Try.func115, Try.ntmps115
  go_wp2
  go_loop [1, 5] (fun q i => ∃ j : Nat, j ≤ n ∧ q = .int .i64 ((k + j : Nat) : Int) ∧ i = .int .i64 j) (fun _ i => n - (intOf i).toNat)
  case atStart => exact ⟨0, Nat.zero_le _, by simp, rfl⟩
  case round =>
    obtain ⟨j, hj, rfl, rfl⟩ := hrel
    by_cases hlt : j < n
    · obtain ⟨rfl, _, hg⟩ := HS.out (by omega)
      have hcl : w.cell? ⟨g, j, none⟩ = some (.int .i64 ((k + j : Nat) : Int)) := by
        have := (HC.out j hlt).1
        simpa [marks] using this
      go_wp2
      go_round
      case rel => exact ⟨j + 1, by omega, by go_num, by go_num⟩
      case measure => simp [intOf]; omega
    · obtain rfl : j = n := by omega
      go_wp2
      go_ret
      exact ⟨rfl, rfl⟩

end Go.Proofs.Ytakfobihakbefaa

/- The contracts of the laws' own helpers on slices of strings: the size they take, a copy of them, are two equal. -/

namespace Go.Proofs.Ytakfobihakbefaa
open Go.RowKit

def strsV (zs : List ByteArray) : List Value := zs.map Value.string
theorem strsV_len (zs : List ByteArray) : (strsV zs).length = zs.length := by simp [strsV]
theorem infoStr : (Try.prog.info? 9).map (fun i => (i.zero, i.size, i.bytes)) = some (some (.string ByteArray.empty), 1, 16) := by kernel_rfl

theorem addr_add_block (x : Addr) (i : Nat) : (x.add i).block = x.block := by
  obtain ⟨b, off, sb⟩ := x
  unfold Addr.add
  split <;> rfl

/-- A slice at a whose first cells are the strings zs. -/
structure StrsAt (w : World) (a : Option Addr) (zs : List ByteArray) : Prop where
  cells : 0 < zs.length → ∃ x : Addr, a = some x ∧ x.block < w.heap.size ∧ ∀ i (h : i < zs.length), w.cell? (x.add i) = some (.string zs[i])
  small : ∀ s ∈ zs, s.size ≤ maxLen
theorem StrsAt.below {w w' : World} {a : Option Addr} {zs : List ByteArray} (h : StrsAt w a zs) (hb : Below w.heap.size w w') : StrsAt w' a zs :=
  ⟨fun h0 => by
    obtain ⟨x, e, h1, h2⟩ := h.cells h0
    exact ⟨x, e, Nat.lt_of_lt_of_le h1 hb.size, fun i hi => (hb.cell (p := x.add i) (by rw [addr_add_block]; exact h1)).trans (h2 i hi)⟩, h.small⟩

theorem fillS_set (zs : List ByteArray) (n k : Nat) (hl : zs.length = n) (hk : k < n) :
    (strsV (zs.take k ++ List.replicate (n - k) ByteArray.empty)).set k (.string (zs[k]'(by omega))) = strsV (zs.take (k + 1) ++ List.replicate (n - (k + 1)) ByteArray.empty) := by
  unfold strsV
  rw [List.map_append, List.set_append_right _ _ (by simp; omega), List.length_map, List.length_take, Nat.min_eq_left (by omega), Nat.sub_self, List.take_succ_eq_append_getElem (by omega : k < zs.length), show n - k = (n - (k + 1)) + 1 by omega, List.replicate_succ, List.map_cons, List.set_cons_zero, List.map_append, List.map_append, List.append_assoc]
  rfl

end Go.Proofs.Ytakfobihakbefaa

/- A slice of strings that came in, and its copy. -/

namespace Go.Proofs.Ytakfobihakbefaa
open Go.RowKit

/-- The slice at a of n cells holds the strings zs. -/
structure IsStrs (w : World) (a : Option Addr) (n : Nat) (zs : List ByteArray) : Prop where
  len : zs.length = n
  max : n ≤ maxLen
  at_ : StrsAt w a zs
theorem strsAt_new (w : World) (a : Option Addr) (len : Nat) (ss : List ByteArray) (x : Addr) (ha : a = some x) (hl : len ≤ ss.length) (hc : ∀ i, i < ss.length → w.cell? (x.add i) = some (.string (ss.getD i ByteArray.empty))) (hm : ∀ s ∈ ss, s.size ≤ maxLen) : StrsAt w a (ss.take len) :=
  ⟨fun h0 => ⟨x, ha, by
      have := hc 0 (by simp at h0; omega)
      have h := World.block_lt_of_cell? _ _ this
      rw [addr_add_block] at h
      exact h, fun i hi => by
      simp only [List.length_take] at hi
      have := hc i (by omega)
      rw [List.getElem_take]
      rw [List.getD_eq_getElem?_getD, List.getElem?_eq_getElem (by omega)] at this
      exact this⟩, fun s hs => hm s (List.mem_of_mem_take hs)⟩

theorem strsAt_of_owns {w : World} {base g cap n : Nat} {e : TypeId} {zs : List ByteArray} (hn : zs.length = n) (h : w.ownsRow base e 1 (.slice (some ⟨g, 0, none⟩) n cap) n (strsV zs)) (hm : ∀ s ∈ zs, s.size ≤ maxLen) :
    StrsAt w (some ⟨g, 0, none⟩) zs ∧ g < w.heap.size ∧ ∀ i (h : i < zs.length), w.cell? ⟨g, i, none⟩ = some (.string zs[i]) := by
  have hg : g < w.heap.size := by
    rcases h.2 with ⟨h, _⟩ | ⟨g1, cap1, cur, h1, _, hgb, _⟩
    · cases h
    · cases h1; exact (Array.getElem?_eq_some_iff.1 hgb).1
  have hc : ∀ i (h : i < zs.length), w.cell? ⟨g, i, none⟩ = some (.string zs[i]) := fun i hi => by
    rw [h.cellAt i (by omega)]
    simp [strsV, hi]
  refine ⟨⟨fun _ => ⟨_, rfl, hg, fun i hi => ?_⟩, hm⟩, hg, hc⟩
  have e1 : (⟨g, 0, none⟩ : Addr).add i = ⟨g, i, none⟩ := by unfold Addr.add; split <;> simp_all
  rw [e1]; exact hc i hi

end Go.Proofs.Ytakfobihakbefaa

/- Terms in memory; a class of worlds for regions that draw their order and whose callees make memory; the contracts of the laws' own helpers on terms. -/

namespace Go.Proofs.Ytakfobihakbefaa
open Go.RowKit

/-- A term. -/
structure Tm where
  c : Int
  s : ByteArray
  deriving Inhabited
def termV (t : Tm) : Value := .agg #[.int .i64 t.c, .string t.s]
def termsV (ts : List Tm) : List Value := (ts.map fun t => [Value.int .i64 t.c, Value.string t.s]).flatten
theorem termsV_len (ts : List Tm) : (termsV ts).length = ts.length * 2 := by
  induction ts with
  | nil => rfl
  | cons t r ih => unfold termsV at *; simp only [List.map_cons, List.flatten_cons, List.length_append, ih, List.length_cons, List.length_nil]; omega
theorem termsV_cons (t : Tm) (r : List Tm) : termsV (t :: r) = .int .i64 t.c :: .string t.s :: termsV r := rfl
theorem termsV_append (a b : List Tm) : termsV (a ++ b) = termsV a ++ termsV b := by simp [termsV]
theorem termsV_get (ts : List Tm) : ∀ (i : Nat) (h : i < ts.length), (termsV ts)[i * 2]? = some (.int .i64 ts[i].c) ∧ (termsV ts)[i * 2 + 1]? = some (.string ts[i].s) := by
  induction ts with
  | nil => intro i h; simp at h
  | cons t r ih =>
    intro i h
    cases i with
    | zero => exact ⟨rfl, rfl⟩
    | succ i =>
      obtain ⟨h1, h2⟩ := ih i (by simpa using h)
      rw [termsV_cons, show (i + 1) * 2 = i * 2 + 1 + 1 by omega, show i * 2 + 1 + 1 + 1 = (i * 2 + 1) + 1 + 1 by omega]
      exact ⟨h1, h2⟩

theorem addr_next (x : Addr) (i : Nat) : x.add (i * 2 + 1) = ⟨(x.add (i * 2)).block, (x.add (i * 2)).off + 1, none⟩ := by
  rw [← Go.Deep.add_add]
  unfold Addr.add
  simp
/-- Terms from the address x on. -/
def TermsAt (w : World) (x : Addr) (ts : List Tm) : Prop :=
  x.block < w.heap.size ∧ ∀ i (h : i < ts.length), w.cell? (x.add (i * 2)) = some (.int .i64 ts[i].c) ∧ w.cell? (x.add (i * 2 + 1)) = some (.string ts[i].s)
theorem TermsAt.below {w w' : World} {x : Addr} {ts : List Tm} (h : TermsAt w x ts) (hb : Below w.heap.size w w') : TermsAt w' x ts :=
  ⟨Nat.lt_of_lt_of_le h.1 hb.size, fun i hi => by
    obtain ⟨h1, h2⟩ := h.2 i hi
    exact ⟨(hb.cell (p := x.add (i * 2)) (by rw [addr_add_block]; exact h.1)).trans h1, (hb.cell (p := x.add (i * 2 + 1)) (by rw [addr_add_block]; exact h.1)).trans h2⟩⟩

/-- A slice of terms that came in. -/
structure IsTerms (w : World) (a : Option Addr) (n : Nat) (ts : List Tm) : Prop where
  len : ts.length = n
  max : n ≤ maxLen
  at_ : 0 < n → ∃ x, a = some x ∧ TermsAt w x ts
  small : ∀ t ∈ ts, t.s.size ≤ maxLen ∧ -9223372036854775808 ≤ t.c ∧ t.c ≤ 9223372036854775807
theorem IsTerms.below {w w' : World} {a : Option Addr} {n : Nat} {ts : List Tm} (h : IsTerms w a n ts) (hb : Below w.heap.size w w') : IsTerms w' a n ts :=
  ⟨h.len, h.max, fun h0 => by obtain ⟨x, e, hx⟩ := h.at_ h0; exact ⟨x, e, hx.below hb⟩, h.small⟩

/-! ### Worlds behind w, what was there as it was -/
structure BelowBy (w : World) where
  world : World
  below : Below w.heap.size w world
instance (w : World) : Inhabited (BelowBy w) := ⟨⟨w, Below.refl _ _⟩⟩
theorem wp_region_below {P : Program} {id : Nat} {Q : Exit → Act → World → Prop} {a : Act} {w : World} {l : List Oper} (hm : P.follows .mixedOrders = true) (hB : Region.lexB .any l.toArray = true)
    (h : wpQuiet P l.toArray (fun w' => ∃ p : BelowBy w, w' = p.world) (fun a' => ∀ w', (∃ p : BelowBy w, w' = p.world) → Q .normal a' w') l a) : (Code.region id l.toArray true).wp P Q a w :=
  wp_region_quiet (C := fun w' => ∃ p : BelowBy w, w' = p.world) hm hB ⟨⟨w.drew, (Below.refl _ _).drew⟩, rfl⟩ (by simpa using h)
theorem BelowBy.cell {w : World} {a : Addr} {v : Value} (hb : a.block < w.heap.size) (h : w.cell? a = some v) (p : BelowBy w) : p.world.cell? a = some v := (p.below.cell (p := a) hb).trans h
theorem Calls.bel {P : Program} {f : FuncId} {args : Array Value} {w : World} {p : BelowBy w} {v : Value}
    (h : Calls P f args p.world fun e w' => e = .returned v ∧ Below p.world.heap.size p.world w') : Calls P f args p.world fun e w'' => e = .returned v ∧ ∃ q : BelowBy w, w'' = q.world :=
  h.mono fun _ w' ⟨he, hb⟩ => ⟨he, ⟨w', p.below.trans (hb.mono p.below.size)⟩, rfl⟩

end Go.Proofs.Ytakfobihakbefaa

/- The contracts of the laws' own helpers on terms: a copy; are two equal. -/

namespace Go.Proofs.Ytakfobihakbefaa
open Go.RowKit

def zeroTm : Tm := ⟨0, ByteArray.empty⟩
theorem made_terms (n : Nat) : (madeCells #[.int .i64 0, .string ByteArray.empty] (n * 2)).toList = termsV (List.replicate n zeroTm) := by
  apply List.ext_getElem
  · simp [madeCells, termsV_len]
  · intro j h1 h2
    have hj : j < n * 2 := by simpa [madeCells] using h1
    have hg := termsV_get (List.replicate n zeroTm) (j / 2) (by simp; omega)
    simp only [List.getElem_replicate] at hg
    have e1 : (madeCells #[.int .i64 0, .string ByteArray.empty] (n * 2)).toList[j] = #[Value.int .i64 0, .string ByteArray.empty][j % 2]! := by simp [madeCells]
    rw [e1]
    rcases Nat.mod_two_eq_zero_or_one j with h | h
    · rw [h]
      have e2 : j / 2 * 2 = j := by omega
      rw [e2] at hg
      have := (List.getElem?_eq_some_iff.1 hg.1).2
      rw [this]; rfl
    · rw [h]
      have e2 : j / 2 * 2 + 1 = j := by omega
      rw [e2] at hg
      have := (List.getElem?_eq_some_iff.1 hg.2).2
      rw [this]; rfl

/-- One term more is filled in. -/
theorem fill_terms (ts : List Tm) (n k : Nat) (hl : ts.length = n) (hk : k < n) :
    ((termsV (ts.take k ++ List.replicate (n - k) zeroTm)).set (k * 2) (.int .i64 (ts[k]'(by omega)).c)).set (k * 2 + 1) (.string (ts[k]'(by omega)).s) = termsV (ts.take (k + 1) ++ List.replicate (n - (k + 1)) zeroTm) := by
  have hkl : (termsV (ts.take k)).length = k * 2 := by rw [termsV_len, List.length_take, Nat.min_eq_left (by omega)]
  rw [termsV_append, show n - k = (n - (k + 1)) + 1 by omega, List.replicate_succ, termsV_cons, List.set_append_right _ _ (by omega), hkl, Nat.sub_self, List.set_cons_zero, List.set_append_right _ _ (by omega), hkl, Nat.add_sub_cancel_left, List.set_cons_succ, List.set_cons_zero,
    List.take_succ_eq_append_getElem (by omega : k < ts.length), termsV_append, termsV_append, List.append_assoc]
  rfl

/-- A row of terms of the call's own reads as terms. -/
theorem termsAt_of_owns {w : World} {base g cap n : Nat} {e : TypeId} {ts : List Tm} (hn : ts.length = n) (h : w.ownsRow base e 2 (.slice (some ⟨g, 0, none⟩) n cap) n (termsV ts)) : TermsAt w ⟨g, 0, none⟩ ts := by
  have hg : g < w.heap.size := by
    rcases h.2 with ⟨h, _⟩ | ⟨g1, cap1, cur, h1, _, hgb, _⟩
    · cases h
    · cases h1; exact (Array.getElem?_eq_some_iff.1 hgb).1
  have ha : ∀ j, (⟨g, 0, none⟩ : Addr).add j = ⟨g, j, none⟩ := fun j => by unfold Addr.add; split <;> simp_all
  refine ⟨hg, fun i hi => ?_⟩
  rw [ha, ha, h.cellAt _ (by omega), h.cellAt _ (by omega)]
  exact termsV_get ts i hi

end Go.Proofs.Ytakfobihakbefaa

/- The contracts of the model's functions on words: is a text a word, reducing, what is told. -/

namespace Go.Proofs.Ytakfobihakbefaa
open Go.RowKit

end Go.Proofs.Ytakfobihakbefaa

/- The contracts of the model's functions on words, second part: inverses, cores. -/

namespace Go.Proofs.Ytakfobihakbefaa
open Go.RowKit

theorem extract_core (s : ByteArray) : (s.extract 1 (s.size - 1)).data.toList = s.data.toList.tail.dropLast := by
  rw [Lib.extract_data, List.dropLast_eq_take]
  simp

end Go.Proofs.Ytakfobihakbefaa

/- The contracts of the model's 'l6In', 'l2Less', 'SumIn'. -/

namespace Go.Proofs.Ytakfobihakbefaa
open Go.RowKit

def inR (a b c : Int) : Bool := decide (a ≤ c) && decide (c ≤ b)
/-- Shorter words first, of one length byte by byte. -/
def lessW (a b : ByteArray) : Bool := if a.size = b.size then Op.bytesLess a.toList b.toList else decide (a.size < b.size)
/-- Is the term at j as a sum wants it, beside the one ahead of it? -/
def goodAt (ts : List Tm) (j : Nat) : Bool :=
  (ts.getD j default).c != 0 && inR (-1000000) 1000000 (ts.getD j default).c && wordB (ts.getD j default).s.data.toList && (decide (j = 0) || lessW (ts.getD (j - 1) default).s (ts.getD j default).s)
def allGood (ts : List Tm) (n : Nat) : Bool := (List.range n).all (goodAt ts)
theorem allGood_succ (ts : List Tm) (n : Nat) : allGood ts (n + 1) = (allGood ts n && goodAt ts n) := by simp [allGood, List.range_succ]
theorem allGood_false (ts : List Tm) (n k : Nat) (hk : k < n) (h : goodAt ts k = false) : allGood ts n = false :=
  List.all_eq_false.2 ⟨k, List.mem_range.2 hk, by simp [h]⟩
/-- Is this a sum? -/
def sumB (ts : List Tm) : Bool := allGood ts ts.length && decide (ts.length ≤ 300)

theorem sumB_false (ts : List Tm) (k : Nat) (hk : k < ts.length) (h : goodAt ts k = false) : sumB ts = false := by
  unfold sumB; rw [allGood_false ts _ k hk h, Bool.false_and]
theorem goodAt_c (ts : List Tm) (k : Nat) (t : Tm) (ht : ts.getD k default = t) (h : t.c = 0) : goodAt ts k = false := by
  unfold goodAt; rw [ht, h]; rfl
theorem goodAt_r (ts : List Tm) (k : Nat) (t : Tm) (ht : ts.getD k default = t) (h : inR (-1000000) 1000000 t.c = false) : goodAt ts k = false := by
  unfold goodAt; rw [ht, h]; simp
theorem goodAt_w (ts : List Tm) (k : Nat) (t : Tm) (ht : ts.getD k default = t) (h : wordB t.s.data.toList = false) : goodAt ts k = false := by
  unfold goodAt; rw [ht, h]; simp
theorem goodAt_zero (ts : List Tm) (k : Nat) (t : Tm) (hk : k = 0) (ht : ts.getD k default = t) (h0 : ¬ t.c = 0) (h1 : inR (-1000000) 1000000 t.c = true) (h2 : wordB t.s.data.toList = true) : goodAt ts k = true := by
  unfold goodAt; rw [ht, h1, h2]; simp [h0, hk]
theorem goodAt_succ (ts : List Tm) (k : Nat) (t p : Tm) (hk : 0 < k) (ht : ts.getD k default = t) (hp : ts.getD (k - 1) default = p) (h0 : ¬ t.c = 0) (h1 : inR (-1000000) 1000000 t.c = true) (h2 : wordB t.s.data.toList = true) : goodAt ts k = lessW p.s t.s := by
  have h3 : ¬ k = 0 := by omega
  unfold goodAt; rw [ht, hp, h1, h2]; simp [h0, h3]

theorem l6In_any (c a b : Int) (w : World) :
    Calls Try.prog 84 #[.int .i64 c, .int .i64 a, .int .i64 b] w fun e w' => e = .returned (.bool (inR a b c)) ∧ w = w' := by
  by_cases h : a ≤ c
  · go_enter Try.func84, Try.ntmps84
    go_wp2
    go_ret
    exact ⟨ret_bool (by simp [inR, h]), rfl⟩
  · go_enter Try.func84, Try.ntmps84
    go_wp2
    go_ret
    exact ⟨ret_bool (by unfold inR; rw [decide_eq_false (by omega : ¬ a ≤ c)]; rfl), rfl⟩

theorem l6In_is (c a b : Int) (r : Bool) (w : World) (h : inR a b c = r) :
    Calls Try.prog 84 #[.int .i64 c, .int .i64 a, .int .i64 b] w fun e w' => e = .returned (.bool r) ∧ Below w.heap.size w w' :=
  (l6In_any c a b w).mono fun _ _ ⟨h1, h2⟩ => ⟨by rw [h1, h], by rw [← h2]; exact Below.refl _ _⟩
end Go.Proofs.Ytakfobihakbefaa

/- The order of terms: the contracts of cmp.Compare, strings.Compare, cmp.Or and the program's 'compareTerms'. -/

namespace Go.Proofs.Ytakfobihakbefaa
open Go.RowKit Go.Sort

theorem ret_i64 {a b : Int} (h : a = b) : Ending.returned (.int .i64 a) = .returned (.int .i64 b) := by rw [h]
def orInt (x y : Int) : Int := if x = 0 then y else x
/-- The order of texts. -/
def cmpW (a b : ByteArray) : Int := orInt (Lib.compareInt a.size b.size) (Lib.compareBytes a.data.toList b.data.toList)

theorem grow_alloc (w : World) (os : Array Obj) (o : Obj) : (grow w os).alloc o = grow w (os.push o) := by
  unfold grow World.alloc
  simp
theorem alloc_grow (w : World) (o : Obj) : w.alloc o = grow w #[o] := by
  unfold grow World.alloc
  simp

/-- Behind w: some draws, some blocks. -/
def Grew (w w' : World) : Prop := ∃ q os, w' = grow (w.drewN q) os
theorem Grew.refl (w : World) : Grew w w := ⟨0, #[], by unfold grow World.drewN; simp⟩
theorem Grew.alloc {w w' : World} (h : Grew w w') (o : Obj) : Grew w (w'.alloc o) := by
  obtain ⟨q, os, rfl⟩ := h
  exact ⟨q, os.push o, grow_alloc _ _ _⟩
theorem Grew.drew {w w' : World} (h : Grew w w') : Grew w w'.drew := by
  obtain ⟨q, os, rfl⟩ := h
  exact ⟨q + 1, os, rfl⟩
theorem Grew.below {w w' : World} (h : Grew w w') : Below w.heap.size w w' := by
  obtain ⟨q, os, rfl⟩ := h
  refine ⟨rfl, rfl, rfl, by simp [grow], fun k hk => ?_⟩
  simp only [grow, World.heap_drewN]
  rw [Array.getElem?_append_left hk]

end Go.Proofs.Ytakfobihakbefaa

/- The contracts of the program's small functions on letters, and of the iterators over a text and over a word. -/

namespace Go.Proofs.Ytakfobihakbefaa
open Go.RowKit Go.Shelf

theorem xor_tab : ((List.range 256).all fun n => decide (bits BinOp.xor IntKind.u8 (n : Int) 32 = ((invB (UInt8.ofNat n)).toNat : Int))) = true := by kernel_rfl
theorem or_tab : ((List.range 256).all fun n => (decide (97 ≤ bits BinOp.or IntKind.u8 (n : Int) 32) && decide (bits BinOp.or IntKind.u8 (n : Int) 32 < 101)) == (decide ((97 ≤ n ∧ n ≤ 100) ∨ (65 ≤ n ∧ n ≤ 68)))) = true := by kernel_rfl

theorem xor_let (c : UInt8) : bits BinOp.xor IntKind.u8 (c.toNat : Int) 32 = ((invB c).toNat : Int) := by
  have := List.all_eq_true.1 xor_tab c.toNat (List.mem_range.2 c.toNat_lt)
  simp only [decide_eq_true_eq, UInt8.ofNat_toNat] at this
  exact this
theorem or_let (c : UInt8) : (decide (97 ≤ bits BinOp.or IntKind.u8 (c.toNat : Int) 32) && decide (bits BinOp.or IntKind.u8 (c.toNat : Int) 32 < 101)) = letB c := by
  have := List.all_eq_true.1 or_tab c.toNat (List.mem_range.2 c.toNat_lt)
  rw [beq_iff_eq] at this
  rw [this]; rfl

end Go.Proofs.Ytakfobihakbefaa

/- A loop over an iterator whose own body may hold such a loop: what a round keeps; the loop's law for bodies that never leave it. -/

namespace Go.Proofs.Ytakfobihakbefaa
open Go.RowKit Go.Shelf

abbrev encB (c : UInt8) : Array Value := #[.int .u8 (c.toNat : Int)]
theorem keepsFrom_mono {B B' : Nat} {W W' : World} (h : KeepsFrom B W W') (hb : B ≤ B') : KeepsFrom B' W W' := ⟨h.size, fun k o hk => h.same k o (by omega)⟩
theorem roundIn_any {m m' : Nat} {l : Nat} {P : Program} {f : FuncId} {tmps : Array Value} {assign body : Code} {w : World} {R : Ending → World → Prop} (h : RoundIn Fence.wide m P l f tmps assign body w R) : RoundIn Fence.wide m' P l f tmps assign body w R :=
  ⟨h.1, fun c cs _ => h.2 c cs (fun _ hd => by cases hd)⟩
theorem roundIn_inRound {m l' : Nat} {l : Nat} {P : Program} {f : FuncId} {tmps : Array Value} {assign body : Code} {w : World} {R : Ending → World → Prop} (h : RoundIn Fence.wide m P l f tmps assign body w R) : RoundIn (Fence.wide.inRound l') m P l f tmps assign body w R := h

theorem prefix_len {α : Type} {pre xs : List α} {x : α} (h : pre ++ [x] <+: xs) : pre.length < xs.length := by
  have := h.length_le; simp at this; omega
theorem prefix_mem {α : Type} {pre xs : List α} {x : α} (h : pre ++ [x] <+: xs) : x ∈ xs := h.subset (by simp)

/-- How a round's body ends: it goes on. -/
def goesOn {α : Type} (B : Nat) (Kp : Nat → World → World → Prop) (I : List α → World → Prop) (xs : List α) (W : World) : Exit → Act → World → Prop
  | .normal, _, W' => KeepsFrom B W W' ∧ Kp B W W' ∧ I xs W'
  | _, _, _ => False

/-- **The loop's law.** -/
theorem range_law {α : Type} {n : Nat} {g : Operand} {ps : Array Tmp} {assign body : Code} {Q : Exit → Act → World → Prop} {a : Act} {w : World} {gf : Nat} {lb : Array Value} (hn : 10 ≤ n)
    (hg : a.eval g = .func (.func gf) #[] lb) (eg : ∀ args w, (callFunc gf args).run Try.prog w = .ok (.enter gf args) w)
    {encs : α → Array Value} (hps : ∀ x, (encs x).size = ps.size) (Kp : Nat → World → World → Prop) (hKt : ∀ {N X Y Z}, Kp N X Y → Kp N Y Z → Kp N X Z)
    (hKp : ∀ N W l o o', l < N → w.heap.size ≤ l → W.heap[l]? = some o → o.isCells = false → o.isWalk = false → Kp N W (W.putObj l o')) (hKm : ∀ {X Y}, Kp w.heap.size X Y → Kp (w.heap.size + 2) X Y)
    {xs : List α}
    (hseq : ∀ (l : Nat) (J : List α → World → Prop) (V : World), Below w.heap.size w V → w.heap.size < V.heap.size → OwnFrom V.heap.size J →
      (∀ pre x W1, J pre W1 → pre ++ [x] <+: xs → YieldAt Fence.wide (n - 1 - 1) Try.prog l (encs x) W1 fun e W' => e = .returned (.bool true) ∧ J (pre ++ [x]) W' ∧ Kp V.heap.size W1 W') → J [] V →
      CallsIn Fence.wide (n - 1) Try.prog gf (#[.func (.yield l) #[] #[]] ++ lb) V fun e W' => (∃ v, e = .returned v) ∧ J xs W')
    (I : List α → World → Prop) (hI : OwnFrom w.heap.size I) (h0 : I [] w) (a₁ : α → Act)
    (hassign : ∀ (l : Nat) (x : α) (W : World) (K : Act → World → Prop), K (a₁ x) W →
      assign.wpIn (Fence.wide.inRound l) (n - 1 - 1) Try.prog (Exit.then K (fun _ _ _ => False)) { tmps := (ps.zip (encs x)).foldl (fun t (q, v) => t.setIfInBounds q v) a.tmps, defers := [] } W)
    (hbody : ∀ (l : Nat) (pre : List α) (x : α) (W : World), I pre W → pre ++ [x] <+: xs →
      body.wpIn (Fence.wide.inRound l) (n - 1 - 1) Try.prog (goesOn w.heap.size Kp I (pre ++ [x]) W) (a₁ x) W)
    (hdone : ∀ (D : Nat) (W : World), w.heap.size ≤ D → I xs W → W.heap[D]? = some (.deferred (some [])) → Q .normal { a with defers := { target := .collected D, args := #[] } :: a.defers } W) :
    (Code.rangeFunc g ps assign body).wpIn Fence.wide n Try.prog Q a w := by
  refine wpIn_rangeFunc fun fn hfn => ?_
  have lp : ∃ lp : LoopState → Loop, lp = fun st => { state := st, pending := none, fn, tmps := a.tmps, params := ps, assign, body, defers := w.heap.size } := ⟨_, rfl⟩
  obtain ⟨lp, hlp⟩ := lp
  have e1 := run_enterLoop_outer (P := Try.prog) (w := w) fn a.tmps ps assign body
  rw [show ({ state := .ready, pending := none, fn, tmps := a.tmps, params := ps, assign, body, defers := w.heap.size } : Loop) = lp .ready by rw [hlp]] at e1
  have kD : ((w.alloc (.deferred (some []))).alloc (.loop (lp .ready))).heap[w.heap.size]? = some (.deferred (some [])) := (Below.heap_alloc _ _ _ (by simp)).trans (World.alloc_heap_new w _)
  have kL : ((w.alloc (.deferred (some []))).alloc (.loop (lp .ready))).heap[w.heap.size + 1]? = some (.loop (lp .ready)) := by
    have := World.alloc_heap_new (w.alloc (.deferred (some []))) (.loop (lp .ready)); rwa [World.size_alloc] at this
  have i0 := hI.alloc (Obj.loop (lp .ready)) (hI.alloc (Obj.deferred (some [])) h0)
  have hs : ((w.alloc (.deferred (some []))).alloc (.loop (lp .ready))).heap.size = w.heap.size + 2 := by simp
  have hb : Below w.heap.size w ((w.alloc (.deferred (some []))).alloc (.loop (lp .ready))) := ((Below.refl _ w).alloc (Nat.le_refl _) _).alloc (by simp) _
  generalize ((w.alloc (.deferred (some []))).alloc (.loop (lp .ready))) = V at e1 kD kL i0 hs hb
  refine ⟨w.heap.size + 1, _, V, { target := .fn (.func gf) lb, args := #[.func (.yield (w.heap.size + 1)) #[] #[]] }, V, gf, #[.func (.yield (w.heap.size + 1)) #[] #[]] ++ lb, V, e1, ?_, fun f' hf' => ?_, ?_, fun _ => by omega, ?_⟩
  · simp only [resolve, hg]
    simp [go_sem]
  · trivial
  · simp [invoke, go_sem, eg]
  · refine (hseq (w.heap.size + 1) (fun pre W => I pre W ∧ W.heap[w.heap.size]? = some (.deferred (some [])) ∧ W.heap[w.heap.size + 1]? = some (.loop (lp .ready))) V hb (by omega) ?_ ?_ ⟨i0, kD, kL⟩).mono ?_
    · rintro s X Y row ⟨h1, h2, h3⟩ hgr hr
      have far : ∀ k, k < V.heap.size → k < X.heap.size → Y.heap[k]? = X.heap[k]? := fun k hk hX => hgr.block k hX (fun e => by have := (hr k e.symm).1; omega)
      exact ⟨hI s X Y row h1 hgr (fun r e => by obtain ⟨q1, q2⟩ := hr r e; exact ⟨by omega, q2⟩), (far _ (by omega) (Array.getElem?_eq_some_iff.1 h2).1).trans h2, (far _ (by omega) (Array.getElem?_eq_some_iff.1 h3).1).trans h3⟩
    · rintro pre x W ⟨h1, h2, h3⟩ hpre
      have hlt : w.heap.size + 1 < W.heap.size := (Array.getElem?_eq_some_iff.1 h3).1
      have hy := run_yield (P := Try.prog) (args := encs x) h3 (by rw [hlp]; exact hps x)
      rw [hlp] at hy
      refine ⟨fn, _, assign, body, hy, roundIn_of_wpIn hfn (hassign _ x W _ ⟨_, run_beginRound h3 (by rw [hlp]), ?_⟩)⟩
      have b3 : (W.putObj (w.heap.size + 1) (.loop { lp .ready with state := .busy })).heap[w.heap.size + 1]? = some (.loop { lp .ready with state := .busy }) := World.putObj_heap_same hlt
      have b2 : (W.putObj (w.heap.size + 1) (.loop { lp .ready with state := .busy })).heap[w.heap.size]? = some (.deferred (some [])) := (World.putObj_heap_other (by omega)).trans h2
      have b1 := hI.putObj (.loop { lp .ready with state := .busy }) h1 (by omega) h3 rfl
      have bk : Kp (w.heap.size + 2) W (W.putObj (w.heap.size + 1) (.loop { lp .ready with state := .busy })) := hKp _ W _ _ _ (by omega) (by omega) h3 rfl rfl
      generalize (W.putObj (w.heap.size + 1) (.loop { lp .ready with state := .busy })) = X at b1 b2 b3 bk
      refine wpIn_mono (hbody _ pre x X b1 hpre) ?_
      intro e a3 Y hgo
      cases e with
      | normal => ?_
      | _ => exact hgo.elim
      obtain ⟨k3, kp, hi⟩ := hgo
      have c3 := k3.same _ _ (by omega) b3 rfl
      have c2 := k3.same _ _ (Nat.le_refl _) b2 rfl
      have he := run_endRound (P := Try.prog) none c3
      refine ⟨_, _, he, rfl, ⟨hI.putObj _ hi (by omega) c3 rfl, (World.putObj_heap_other (by omega)).trans c2, ?_⟩, ?_⟩
      · rw [hlp]
        rw [hlp] at c3
        exact World.putObj_heap_same (Array.getElem?_eq_some_iff.1 c3).1
      · rw [hs]
        exact hKt (hKt bk (hKm kp)) (hKp _ Y _ _ _ (by omega) (by omega) c3 rfl rfl)
    · rintro e W ⟨⟨v, rfl⟩, h1, h2, h3⟩
      have he := run_endLoop (P := Try.prog) h3 (by rw [hlp]; simp)
      rw [show (lp .ready).pending = none by rw [hlp]] at he
      exact ⟨none, _, he, hdone _ _ (Nat.le_refl _) (hI.putObj _ h1 (by omega) h3 rfl) ((World.putObj_heap_other (by omega)).trans h2)⟩

end Go.Proofs.Ytakfobihakbefaa

/- The iterators' contracts: over the bytes of a text, over the letters of a word, over those of its inverse. -/

namespace Go.Proofs.Ytakfobihakbefaa
open Go.RowKit Go.Shelf

attribute [local go_sem] Oper.semAt_some

/-- A value that gives the letters xs, whatever the loop's body does above n₀. -/
def SeqOf (n₀ : Nat) (w : World) (gf : Nat) (lb : Array Value) (xs : List UInt8) : Prop :=
  ∀ n, 3 ≤ n → SeqStopsK Fence.wide n Try.prog gf lb encB (Below n₀) (fun ys => ys = xs) (fun pre => pre <+: xs) xs.length w

theorem SeqOf.later {n₀ n₁ : Nat} {w w' : World} {gf : Nat} {lb : Array Value} {xs : List UInt8} (h : SeqOf n₀ w gf lb xs) (hb : Below w.heap.size w w') (hn : n₀ ≤ n₁) : SeqOf n₁ w' gf lb xs :=
  fun n h3 l J Jx W hW hJ hJx hY h0 => h n h3 l J Jx W (hb.trans (hW.mono hb.size)) hJ hJx
    (fun pre x W1 hj hl => (hY pre x W1 hj hl).mono (fun _ _ hr => hr.elim (fun ⟨a, b, c⟩ => .inl ⟨a, b, c.mono hn⟩) .inr)) h0

end Go.Proofs.Ytakfobihakbefaa

/- The contract of the program's 'reduced': the letters of all parts, one part behind the other, reduced. -/

namespace Go.Proofs.Ytakfobihakbefaa
open Go.RowKit Go.Shelf

attribute [local go_sem] Oper.semAt_some

structure Part where
  gf : Nat
  lb : Array Value
  xs : List UInt8

def cat (ps : List Part) : List UInt8 := (ps.map Part.xs).flatten
theorem cat_take_succ (ps : List Part) (k : Nat) (h : k < ps.length) : cat (ps.take (k + 1)) = cat (ps.take k) ++ ps[k].xs := by
  unfold cat; rw [List.take_succ_eq_append_getElem h]; simp only [List.map_append, List.flatten_append, List.map_cons, List.map_nil, List.flatten_cons, List.flatten_nil, List.append_nil]

/-- The marks that loops over iterators leave among the deferred calls. -/
def mk (D : Nat) : Deferred := { target := .collected D, args := #[] }
def Marked (base : Nat) (Ds : List Nat) (W : World) : Prop := Ds.Nodup ∧ ∀ D ∈ Ds, base ≤ D ∧ W.heap[D]? = some (.deferred (some []))

theorem leaves_marks {F : Fence} {n : Nat} {P : Program} {fn : Func} {tmps : Array Value} {R : Ending → World → Prop} {base : Nat} (Q : World → Prop)
    (hQ : ∀ W D o', Q W → base ≤ D → W.heap[D]? = some (.deferred (some [])) → Q (W.putObj D o')) (hend : ∀ W, Q W → LeavesIn F n P fn tmps R [] .returning W) :
    ∀ (Ds : List Nat) (W : World), Q W → Marked base Ds W → LeavesInM F n P fn tmps R (Ds.map mk) .returning W
  | [], W, hq, _ => hend W hq
  | D :: Ds, W, hq, hm => by
    obtain ⟨hnd, hall⟩ := hm
    obtain ⟨hb, hK⟩ := hall D (by simp)
    rw [List.nodup_cons] at hnd
    refine ⟨by simp, .inl ⟨D, _, rfl, run_takeDeferred hK, leaves_marks Q hQ hend Ds _ (hQ _ _ _ hq hb hK) ⟨hnd.2, fun E hE => ?_⟩⟩⟩
    obtain ⟨h1, h2⟩ := hall E (by simp [hE])
    exact ⟨h1, (World.putObj_heap_other (fun e => hnd.1 (by rw [← e]; exact hE))).trans h2⟩

end Go.Proofs.Ytakfobihakbefaa

/- The contracts of the program's 'text', 'told', 'reduceText' and 'wordOf'. -/

namespace Go.Proofs.Ytakfobihakbefaa
open Go.RowKit Go.Shelf

attribute [local go_sem] Oper.semAt_some

/-- The cells from an address on are the letters l. -/
def Letters (g off : Nat) (l : List UInt8) (w : World) : Prop := g < w.heap.size ∧ ∀ j (h : j < l.length), w.cell? ⟨g, off + j, none⟩ = some (.int .u8 (l[j].toNat : Int))

theorem letters_of_owns {base g cap n : Nat} {e : TypeId} {l : List UInt8} {w : World} (hown : w.ownsRow base e 1 (.slice (some ⟨g, 0, none⟩) n cap) n (bytesV l)) : Letters g 0 l w :=
  ⟨(ownsRow_cap hown).2.2.2, fun j h => by
    have := hown.cells rfl j (.int .u8 (l[j].toNat : Int)) (by simp [bytesV, h])
    rw [show (⟨g, 0 + j, none⟩ : Addr) = (⟨g, 0, none⟩ : Addr).add j by simp [Addr.add]]
    exact this⟩
theorem Letters.below {g off : Nat} {l : List UInt8} {w w' : World} (h : Letters g off l w) (hb : Below w.heap.size w w') : Letters g off l w' :=
  ⟨Nat.lt_of_lt_of_le h.1 hb.size, fun j hj => (hb.cell (p := ⟨g, off + j, none⟩) h.1).trans (h.2 j hj)⟩

end Go.Proofs.Ytakfobihakbefaa

/- The iterators over the letters of a word, forwards and backwards, and over those of its inverse. -/

namespace Go.Proofs.Ytakfobihakbefaa
open Go.RowKit Go.Shelf

attribute [local go_sem] Oper.semAt_some

/-- The slice value sv is a word with the letters l. -/
def IsWord (n₀ : Nat) (w : World) (sv : Value) (l : List UInt8) : Prop :=
  ∃ g off cap, sv = .slice (some ⟨g, off, none⟩) l.length cap ∧ g < n₀ ∧ l.length ≤ 100000 ∧ ∀ j (h : j < l.length), w.cell? ⟨g, off + j, none⟩ = some (.int .u8 (l[j].toNat : Int))
theorem IsWord.below {n₀ : Nat} {w w' : World} {sv : Value} {l : List UInt8} (h : IsWord n₀ w sv l) (hb : Below n₀ w w') : IsWord n₀ w' sv l := by
  obtain ⟨g, off, cap, rfl, hg, hl, hc⟩ := h
  exact ⟨g, off, cap, rfl, hg, hl, fun j hj => (hb.cell (p := ⟨g, off + j, none⟩) hg).trans (hc j hj)⟩
theorem IsWord.mono {n₀ n₁ : Nat} {w : World} {sv : Value} {l : List UInt8} (h : IsWord n₀ w sv l) (hb : n₀ ≤ n₁) : IsWord n₁ w sv l := by
  obtain ⟨g, off, cap, rfl, hg, hl, hc⟩ := h
  exact ⟨g, off, cap, rfl, by omega, hl, hc⟩

abbrev encI (x : Nat × UInt8) : Array Value := #[.int .i64 (x.1 : Int), .int .u8 (x.2.toNat : Int)]
/-- What slices.Backward gives when the letters from the place k on have come. -/
def bk (L : List UInt8) (k : Nat) : List (Nat × UInt8) := ((L.zipIdx.drop k).map fun p => (p.2, p.1)).reverse
theorem bk_step (L : List UInt8) (k : Nat) (h : k < L.length) : bk L k = bk L (k + 1) ++ [(k, L[k])] := by
  unfold bk
  rw [List.drop_eq_getElem_cons (by simpa using h)]
  simp
theorem bk_prefix (L : List UInt8) (k : Nat) : bk L k <+: bk L 0 := by
  unfold bk
  rw [List.reverse_prefix, List.drop_zero]
  exact (List.drop_suffix k _).map _
theorem bk_len (L : List UInt8) (k : Nat) : (bk L k).length = L.length - k := by simp [bk]
theorem bk_snd (L : List UInt8) (f : UInt8 → UInt8) : (bk L 0).map (fun p => f p.2) = L.reverse.map f := by
  unfold bk
  rw [List.drop_zero, List.map_reverse, List.map_map, List.map_reverse]
  congr 1
  have : L.map f = L.zipIdx.map (f ∘ Prod.fst) := by rw [← List.map_map]; simp
  rw [this]; rfl

end Go.Proofs.Ytakfobihakbefaa

/- The iterator over the letters of a word's inverse: a loop over slices.Backward that hands each letter's inverse on. -/

namespace Go.Proofs.Ytakfobihakbefaa
open Go.RowKit Go.Shelf

attribute [local go_sem] Oper.semAt_some

end Go.Proofs.Ytakfobihakbefaa

/- The contracts of the program's 'wordOf', 'WordIn' and 'WordReduce'. -/

namespace Go.Proofs.Ytakfobihakbefaa
open Go.RowKit Go.Shelf

end Go.Proofs.Ytakfobihakbefaa

/- Plain lists of bytes, second part: words without cancellation; inverses of words; reducing in parts. -/

namespace Go.Proofs.Ytakfobihakbefaa

/-- No letter stands beside its inverse. -/
def noC (l : List UInt8) : Prop := ∀ p x y q, l = p ++ x :: y :: q → x ≠ turnB y

theorem noC_nil : noC [] := fun p x y q h => by simp at h
theorem noC_one (x : UInt8) : noC [x] := fun p a b q h => by
  have := congrArg List.length h
  simp at this
  omega
theorem noC_cons (x y : UInt8) (r : List UInt8) : noC (x :: y :: r) ↔ x ≠ turnB y ∧ noC (y :: r) := by
  constructor
  · exact fun h => ⟨h [] x y r rfl, fun p a b q e => h (x :: p) a b q (by rw [e]; rfl)⟩
  · rintro ⟨h1, h2⟩ p a b q e
    cases p with
    | nil =>
      simp at e
      obtain ⟨rfl, rfl, rfl⟩ := e
      exact h1
    | cons c p =>
      simp at e
      exact h2 p a b q e.2
theorem noC_left {a b : List UInt8} (h : noC (a ++ b)) : noC a := fun p x y q e => h p x y (q ++ b) (by rw [e]; simp)
theorem noC_snoc (l : List UInt8) (c : UInt8) (h : noC l) (hc : l.getLast? ≠ some (turnB c)) : noC (l ++ [c]) := by
  intro p x y q e
  rcases (show q = [] ∨ ∃ q' z, q = q' ++ [z] by
    cases q with
    | nil => exact .inl rfl
    | cons a q => exact .inr (last_split (a :: q) (by simp))) with rfl | ⟨q, z, rfl⟩
  · have e2 : l ++ [c] = (p ++ [x]) ++ [y] := by rw [e]; simp
    obtain ⟨e3, e4⟩ := List.append_inj' e2 rfl
    have e5 : c = y := by simpa using e4
    subst e5
    intro hx
    exact hc (by rw [e3, hx]; simp)
  · have e2 : l ++ [c] = (p ++ x :: y :: q) ++ [z] := by rw [e]; simp
    obtain ⟨e3, _⟩ := List.append_inj' e2 rfl
    exact h p x y q e3
theorem noC_step (l : List UInt8) (c : UInt8) (h : noC l) : noC (redStep l c) := by
  unfold redStep
  split
  · cases l with
    | nil => exact noC_nil
    | cons a l =>
      obtain ⟨p, x, hp⟩ := last_split (a :: l) (by simp)
      rw [hp] at h ⊢
      rw [List.dropLast_concat]; exact noC_left h
  · rename_i hc; exact noC_snoc l c h hc
theorem noC_red : ∀ (s l : List UInt8), noC l → noC (redL l s)
  | [], _, h => h
  | c :: s, l, h => noC_red s (redStep l c) (noC_step l c h)
theorem red_of_noC : ∀ (s l : List UInt8), noC (l ++ s) → redL l s = l ++ s
  | [], l, _ => by simp [redL]
  | c :: s, l, h => by
    have h1 : l.getLast? ≠ some (turnB c) := fun e => by
      obtain ⟨p, x, rfl⟩ := last_split l (by cases l with | nil => simp at e | cons a l => simp)
      have e2 : x = turnB c := by simpa using e
      exact h p x c s (by simp) e2
    have h2 : redStep l c = l ++ [c] := by unfold redStep; rw [if_neg h1]
    show redL (redStep l c) s = _
    rw [h2, red_of_noC s (l ++ [c]) (by simpa using h)]
    simp
theorem red_iff (s : List UInt8) : redL [] s = s ↔ noC s :=
  ⟨fun h => by rw [← h]; exact noC_red s [] noC_nil, fun h => by have := red_of_noC s [] (by simpa using h); simpa using this⟩
theorem red_red (s : List UInt8) : redL [] (redL [] s) = redL [] s := (red_iff _).2 (noC_red s [] noC_nil)
theorem red_append (a b : List UInt8) : redL [] (redL [] a ++ b) = redL [] (a ++ b) := by rw [redL_append, redL_append, red_red]

theorem turn_tab : ∀ n : Fin 256, letB (UInt8.ofNat n.val) = true → turnB (turnB (UInt8.ofNat n.val)) = UInt8.ofNat n.val ∧ letB (turnB (UInt8.ofNat n.val)) = true := by decide +kernel
theorem turn_turn (c : UInt8) (h : letB c = true) : turnB (turnB c) = c ∧ letB (turnB c) = true := by
  have := turn_tab ⟨c.toNat, c.toNat_lt⟩
  simp only [UInt8.ofNat_toNat] at this
  exact this h
theorem backL_append (a b : List UInt8) : backL (a ++ b) = backL b ++ backL a := by simp [backL]
theorem letL_back (l : List UInt8) (h : letL l = true) : letL (backL l) = true := List.all_eq_true.2 fun c hc => by
  simp only [backL, List.mem_map, List.mem_reverse] at hc
  obtain ⟨d, hd, rfl⟩ := hc
  exact (turn_turn d (List.all_eq_true.1 h d hd)).2
theorem back_back : ∀ (l : List UInt8), letL l = true → backL (backL l) = l
  | [], _ => rfl
  | c :: l, h => by
    rw [letL_cons, Bool.and_eq_true] at h
    have e : backL (c :: l) = backL l ++ [turnB c] := by simp [backL]
    rw [e, backL_append, back_back l h.2]
    show [turnB (turnB c)] ++ l = _
    rw [(turn_turn c h.1).1]; rfl
theorem noC_back (l : List UInt8) (hl : letL l = true) (h : noC l) : noC (backL l) := by
  intro p x y q e
  have e2 : l = backL q ++ turnB y :: turnB x :: backL p := by
    have := congrArg backL e
    rw [back_back l hl, show p ++ x :: y :: q = p ++ ([x, y] ++ q) by simp, backL_append, backL_append] at this
    rw [this]
    simp [backL]
  have hx : letB x = true := by
    have := letL_back l hl
    exact List.all_eq_true.1 this x (by rw [e]; simp)
  have h2 := h _ _ _ _ e2
  rw [(turn_turn x hx).1] at h2
  exact fun e3 => h2 e3.symm
theorem red_back (l : List UInt8) (hl : letL l = true) (h : redL [] l = l) : redL [] (backL l) = backL l := (red_iff _).2 (noC_back l hl ((red_iff l).1 h))
/-- The program's own inverse of a list of letters. -/
theorem inv_back (l : List UInt8) (h : letL l = true) : l.reverse.map invB = backL l := by
  unfold backL
  apply List.map_congr_left
  intro c hc
  exact invB_let c (List.all_eq_true.1 h c (List.mem_reverse.1 hc))
theorem redX_back (l : List UInt8) (hl : letL l = true) (h : redL [] l = l) : redX [] (l.reverse.map invB) = backL l := by
  rw [inv_back l hl, redX_eq _ _ (letL_back l hl), red_back l hl h]

/-- The place of a letter's generator; the letter's sign. -/
def idxB (c : UInt8) : Nat := if 97 ≤ c.toNat then c.toNat - 97 else c.toNat - 65
def sgnB (c : UInt8) : Int := if 97 ≤ c.toNat then 1 else -1
def sumsStep (z : List Int) (c : UInt8) : List Int := z.set (idxB c) (z[idxB c]?.getD 0 + sgnB c)
def sumsL (l : List UInt8) : List Int := l.foldl sumsStep [0, 0, 0, 0]
theorem sumsL_snoc (l : List UInt8) (c : UInt8) : sumsL (l ++ [c]) = sumsStep (sumsL l) c := by simp [sumsL]
theorem idxB_lt (c : UInt8) (h : letB c = true) : idxB c < 4 := by
  have := (letB_iff c).1 h
  unfold idxB; split <;> omega
theorem sumsL_inv : ∀ (l : List UInt8), letL l = true → (sumsL l).length = 4 ∧ ∀ z ∈ sumsL l, -(l.length : Int) ≤ z ∧ z ≤ l.length := by
  have key : ∀ (n : Nat) (l : List UInt8), l.length = n → letL l = true → (sumsL l).length = 4 ∧ ∀ z ∈ sumsL l, -(l.length : Int) ≤ z ∧ z ≤ l.length := by
    intro n
    induction n with
    | zero =>
      intro l hl _
      obtain rfl := List.length_eq_zero_iff.1 hl
      refine ⟨rfl, fun z hz => ?_⟩
      simp [sumsL] at hz
      subst hz; simp
    | succ n ih =>
      intro l hl hlet
      obtain ⟨p, c, rfl⟩ := last_split l (by omega)
      rw [letL_append, Bool.and_eq_true] at hlet
      have hp : p.length = n := by simp at hl; omega
      obtain ⟨h1, h2⟩ := ih p hp hlet.1
      rw [sumsL_snoc]
      refine ⟨by unfold sumsStep; simpa using h1, fun z hz => ?_⟩
      have hs : -1 ≤ sgnB c ∧ sgnB c ≤ 1 := by unfold sgnB; split <;> omega
      rw [List.length_append, List.length_singleton]
      unfold sumsStep at hz
      rcases List.mem_or_eq_of_mem_set hz with hz | rfl
      · have := h2 z hz; omega
      · have h3 : -(p.length : Int) ≤ (sumsL p)[idxB c]?.getD 0 ∧ (sumsL p)[idxB c]?.getD 0 ≤ p.length := by
          cases e : (sumsL p)[idxB c]? with
          | none => simp
          | some v => exact h2 v (List.mem_of_getElem? e)
        omega
  exact fun l h => key l.length l rfl h

/-- Letters as often behind themselves as told. -/
def repL (n : Nat) (l : List UInt8) : List UInt8 := (List.replicate n l).flatten
theorem repL_add (a b : Nat) (l : List UInt8) : repL a l ++ repL b l = repL (a + b) l := by
  unfold repL; rw [← List.flatten_append, List.replicate_append_replicate]
theorem repL_zero (l : List UInt8) : repL 0 l = [] := rfl
theorem repL_one (l : List UInt8) : repL 1 l = l := by simp [repL]
theorem repL_len (n : Nat) (l : List UInt8) : (repL n l).length = n * l.length := by
  induction n with
  | zero => simp [repL]
  | succ n ih => rw [← repL_add, List.length_append, ih, repL_one, Nat.succ_mul]
theorem letL_rep (n : Nat) (l : List UInt8) (h : letL l = true) : letL (repL n l) = true := by
  induction n with
  | zero => rfl
  | succ n ih => rw [← repL_add, letL_append, ih, repL_one, h]; rfl
/-- The letters of a power. -/
def powL (n : Int) (l : List UInt8) : List UInt8 := repL n.natAbs (if n < 0 then backL l else l)

end Go.Proofs.Ytakfobihakbefaa

/- The contract of the program's 'WordTurned'. -/

namespace Go.Proofs.Ytakfobihakbefaa
open Go.RowKit Go.Shelf

theorem isWord_of_owns {base g cap n n₀ : Nat} {e : TypeId} {l : List UInt8} {w : World} (hl : l.length = n) (hn : n ≤ 100000) (hown : w.ownsRow base e 1 (.slice (some ⟨g, 0, none⟩) n cap) n (bytesV l)) (hg : w.heap.size ≤ n₀) :
    IsWord n₀ w (.slice (some ⟨g, 0, none⟩) n cap) l := by
  subst hl
  obtain ⟨h1, h2⟩ := letters_of_owns hown
  exact ⟨g, 0, cap, rfl, by omega, hn, h2⟩

end Go.Proofs.Ytakfobihakbefaa

/- The contracts of the program's 'wordsOf' and 'letters'. -/

namespace Go.Proofs.Ytakfobihakbefaa
open Go.RowKit Go.Shelf

/-- The slice value v is a word with the letters l, in a block from lo on. -/
def WordAt (lo : Nat) (w : World) (v : Value) (l : List UInt8) : Prop :=
  ∃ g cap, v = .slice (some ⟨g, 0, none⟩) l.length cap ∧ lo ≤ g ∧ g < w.heap.size ∧ l.length ≤ 60 ∧ ∀ j (h : j < l.length), w.cell? ⟨g, j, none⟩ = some (.int .u8 (l[j].toNat : Int))
theorem WordAt.below {lo : Nat} {w w' : World} {v : Value} {l : List UInt8} (h : WordAt lo w v l) (hb : Below w.heap.size w w') : WordAt lo w' v l := by
  obtain ⟨g, cap, rfl, h1, h2, h3, h4⟩ := h
  exact ⟨g, cap, rfl, h1, Nat.lt_of_lt_of_le h2 hb.size, h3, fun j hj => (hb.cell (p := ⟨g, j, none⟩) h2).trans (h4 j hj)⟩
theorem WordAt.setCell {lo : Nat} {w : World} {v : Value} {l : List UInt8} (h : WordAt lo w v l) {a : Addr} (ha : a.block < lo) (u : Value) : WordAt lo (w.setCell a u) v l := by
  obtain ⟨g, cap, rfl, h1, h2, h3, h4⟩ := h
  exact ⟨g, cap, rfl, h1, Nat.lt_of_lt_of_le h2 (KeepsWalks.setCell w a u).size, h3, fun j hj => (World.cell?_of_block (a := ⟨g, j, none⟩) (Below.heap_setCell w a u g (by omega))).trans (h4 j hj)⟩
theorem WordAt.isWord {lo : Nat} {w : World} {v : Value} {l : List UInt8} (h : WordAt lo w v l) : IsWord w.heap.size w v l := by
  obtain ⟨g, cap, rfl, h1, h2, h3, h4⟩ := h
  exact ⟨g, 0, cap, rfl, h2, by omega, fun j hj => by rw [Nat.zero_add]; exact h4 j hj⟩
theorem WordAt.slice {lo : Nat} {w : World} {v : Value} {l : List UInt8} (h : WordAt lo w v l) : ∃ g cap, v = .slice (some ⟨g, 0, none⟩) l.length cap := by
  obtain ⟨g, cap, rfl, _⟩ := h; exact ⟨g, cap, rfl⟩

end Go.Proofs.Ytakfobihakbefaa

/- The contracts of the program's 'termWords', 'isZero', 'inRange'. -/

namespace Go.Proofs.Ytakfobihakbefaa
open Go.RowKit Go.Shelf

/-- Is a term as SumOf wants it? -/
def termB (t : Tm) : Bool := wordB t.s.data.toList && inR (-1000000) 1000000 t.c
def twB (ts : List Tm) : Bool := decide (ts.length ≤ 300) && ts.all termB
theorem twB_len {ts : List Tm} (h : ¬ ts.length ≤ 300) : twB ts = false := by unfold twB; rw [decide_eq_false h, Bool.false_and]
theorem twB_at {ts : List Tm} {k : Nat} (hk : k < ts.length) (h : termB ts[k] = false) : twB ts = false := by
  unfold twB
  rw [Bool.and_eq_false_iff]
  exact .inr (List.all_eq_false.2 ⟨_, List.getElem_mem hk, by simp [h]⟩)
theorem twB_of {ts : List Tm} (h : ts.length ≤ 300) (ha : ∀ j (hj : j < ts.length), termB ts[j] = true) : twB ts = true := by
  unfold twB
  rw [decide_eq_true h, Bool.true_and]
  exact List.all_eq_true.2 fun t ht => by
    obtain ⟨j, hj, rfl⟩ := List.getElem_of_mem ht
    exact ha j hj

end Go.Proofs.Ytakfobihakbefaa

/- The contracts of slices.IndexFunc and slices.ContainsFunc at 'isZero'. -/

namespace Go.Proofs.Ytakfobihakbefaa
open Go.RowKit Go.Shelf

/-- r is the first place of a coefficient 0, or -1. -/
def FirstZero (ts : List Tm) (r : Int) : Prop :=
  (r = -1 ∧ ∀ j (h : j < ts.length), ts[j].c ≠ 0) ∨ ∃ (i : Nat) (h : i < ts.length), r = i ∧ ts[i].c = 0 ∧ ∀ j (h : j < i), ts[j].c ≠ 0

def hasZero (ts : List Tm) : Bool := ts.any fun t => t.c == 0
theorem hasZero_first {ts : List Tm} {r : Int} (h : FirstZero ts r) : hasZero ts = decide (0 ≤ r) := by
  unfold hasZero
  rcases h with ⟨rfl, h⟩ | ⟨i, hi, rfl, h, _⟩
  · rw [List.any_eq_false.2]
    · rfl
    · intro t ht
      obtain ⟨j, hj, rfl⟩ := List.getElem_of_mem ht
      simpa using h j hj
  · rw [decide_eq_true (by omega : (0 : Int) ≤ i)]
    exact List.any_eq_true.2 ⟨_, List.getElem_mem hi, by simpa using h⟩

/-- A list that is in order. -/
def ascB (ts : List Tm) : Bool := (List.range ts.length).all fun j => decide (j = 0) || lessW (ts.getD (j - 1) default).s (ts.getD j default).s

end Go.Proofs.Ytakfobihakbefaa

/- The contract of the program's 'ascends'. -/

namespace Go.Proofs.Ytakfobihakbefaa
open Go.RowKit Go.Shelf

theorem bytes_cmp : ∀ a b : List UInt8, Op.bytesLess a b = decide (Lib.compareBytes a b < 0)
  | [], [] => rfl
  | [], _ :: _ => rfl
  | _ :: _, [] => rfl
  | a :: x, b :: y => by
    unfold Op.bytesLess Lib.compareBytes
    by_cases h : a < b
    · rw [if_pos h]; simp [h]
    · rw [if_neg h]
      by_cases h2 : b < a
      · rw [if_pos h2]
        have : (a == b) = false := by
          apply beq_eq_false_iff_ne.2
          rintro rfl
          exact h h2
        simp [h, this]
      · rw [if_neg h2]
        have : a = b := by
          apply UInt8.toNat_inj.1
          rw [UInt8.lt_iff_toNat_lt] at h h2
          omega
        subst this
        simp [h, bytes_cmp x y]
theorem lessW_cmp (a b : ByteArray) : lessW a b = decide (cmpW a b < 0) := by
  unfold lessW cmpW orInt Lib.compareInt
  by_cases h : a.size = b.size
  · have e1 : ¬ ((a.size : Int) < (b.size : Int)) := by omega
    have e2 : ¬ ((a.size : Int) > (b.size : Int)) := by omega
    rw [if_pos h]
    simp only [if_neg e1, if_neg e2, if_true]
    rw [← bytes_cmp, ByteArray.toList_eq, ByteArray.toList_eq]
  · rw [if_neg h]
    by_cases h2 : a.size < b.size
    · have e1 : ((a.size : Int) < (b.size : Int)) := by omega
      simp only [if_pos e1]; simp [h2]
    · have e1 : ¬ ((a.size : Int) < (b.size : Int)) := by omega
      have e2 : ((a.size : Int) > (b.size : Int)) := by omega
      simp only [if_neg e1, if_pos e2]; simp [h2]

theorem ascB_false {ts : List Tm} {k : Nat} (hk : k < ts.length) (hk0 : 0 < k) (h : lessW (ts.getD (k - 1) default).s (ts.getD k default).s = false) : ascB ts = false := by
  unfold ascB
  refine List.all_eq_false.2 ⟨k, List.mem_range.2 hk, ?_⟩
  have h0 : decide (k = 0) = false := decide_eq_false (by omega)
  rw [h, h0]; decide
theorem ascB_true {ts : List Tm} (h : ∀ k, k < ts.length → 0 < k → lessW (ts.getD (k - 1) default).s (ts.getD k default).s = true) : ascB ts = true := by
  unfold ascB
  refine List.all_eq_true.2 fun k hk => ?_
  by_cases h0 : k = 0
  · rw [decide_eq_true h0, Bool.true_or]
  · rw [h k (List.mem_range.1 hk) (by omega), Bool.or_true]

end Go.Proofs.Ytakfobihakbefaa

/- Lists of terms in order, without equal words and without coefficients 0: there is just one such list to given sums of coefficients. -/

namespace Go.Proofs.Ytakfobihakbefaa
open Go.RowKit

theorem bl_irrefl : ∀ a : List UInt8, Op.bytesLess a a = false
  | [] => rfl
  | c :: r => by unfold Op.bytesLess; simp [bl_irrefl r, UInt8.lt_irrefl]
theorem bl_trans : ∀ a b c : List UInt8, Op.bytesLess a b = true → Op.bytesLess b c = true → Op.bytesLess a c = true
  | _, [], _, h, _ => by unfold Op.bytesLess at h; cases h
  | _, _ :: _, [], _, h => by unfold Op.bytesLess at h; cases h
  | [], _ :: _, _ :: _, _, _ => rfl
  | x :: a, y :: b, z :: c, h1, h2 => by
    unfold Op.bytesLess at *
    simp only [Bool.or_eq_true, Bool.and_eq_true, decide_eq_true_eq, beq_iff_eq, UInt8.lt_iff_toNat_lt, ← UInt8.toNat_inj] at *
    rcases h1 with h1 | ⟨h1, h1'⟩
    · rcases h2 with h2 | ⟨h2, _⟩
      · exact .inl (by omega)
      · exact .inl (by omega)
    · rcases h2 with h2 | ⟨h2, h2'⟩
      · exact .inl (by omega)
      · exact .inr ⟨by omega, bl_trans a b c h1' h2'⟩
theorem bl_tri : ∀ a b : List UInt8, Op.bytesLess a b = false → Op.bytesLess b a = false → a = b
  | [], [], _, _ => rfl
  | [], _ :: _, h, _ => by unfold Op.bytesLess at h; cases h
  | _ :: _, [], _, h => by unfold Op.bytesLess at h; cases h
  | x :: a, y :: b, h1, h2 => by
    unfold Op.bytesLess at h1 h2
    simp only [Bool.or_eq_false_iff, Bool.and_eq_false_iff, decide_eq_false_iff_not, beq_eq_false_iff_ne, UInt8.lt_iff_toNat_lt, ne_eq, ← UInt8.toNat_inj] at h1 h2
    have e : x = y := UInt8.toNat_inj.1 (by omega)
    subst e
    have q1 : Op.bytesLess a b = false := by rcases h1.2 with h | h; exact absurd rfl h; exact h
    have q2 : Op.bytesLess b a = false := by rcases h2.2 with h | h; exact absurd rfl h; exact h
    rw [bl_tri a b q1 q2]

theorem lessW_irrefl (a : ByteArray) : lessW a a = false := by unfold lessW; rw [if_pos rfl]; exact bl_irrefl _
theorem lessW_trans {a b c : ByteArray} (h1 : lessW a b = true) (h2 : lessW b c = true) : lessW a c = true := by
  unfold lessW at *
  by_cases e1 : a.size = b.size <;> by_cases e2 : b.size = c.size
  · rw [if_pos e1] at h1; rw [if_pos e2] at h2; rw [if_pos (by omega)]; exact bl_trans _ _ _ h1 h2
  · rw [if_neg e2] at h2; simp only [decide_eq_true_eq] at h2; rw [if_neg (by omega)]; exact decide_eq_true (by omega)
  · rw [if_neg e1] at h1; simp only [decide_eq_true_eq] at h1; rw [if_neg (by omega)]; exact decide_eq_true (by omega)
  · rw [if_neg e1] at h1; rw [if_neg e2] at h2; simp only [decide_eq_true_eq] at h1 h2; rw [if_neg (by omega)]; exact decide_eq_true (by omega)
theorem bytes_ext2 {a b : ByteArray} (h : a.toList = b.toList) : a = b := by
  rw [ByteArray.toList_eq, ByteArray.toList_eq] at h
  have : a.data = b.data := Array.toList_inj.1 h
  cases a; cases b; simpa using this
theorem lessW_tri {a b : ByteArray} (h1 : lessW a b = false) (h2 : lessW b a = false) : a = b := by
  unfold lessW at *
  by_cases e : a.size = b.size
  · rw [if_pos e] at h1; rw [if_pos e.symm] at h2; exact bytes_ext2 (bl_tri _ _ h1 h2)
  · rw [if_neg e] at h1; rw [if_neg (fun h => e h.symm)] at h2; simp only [decide_eq_false_iff_not] at h1 h2; omega
theorem lessW_asymm {a b : ByteArray} (h : lessW a b = true) : lessW b a = false := by
  cases h2 : lessW b a with
  | false => rfl
  | true => have := lessW_trans h h2; rw [lessW_irrefl] at this; cases this
theorem lessW_ne {a b : ByteArray} (h : lessW a b = true) : a ≠ b := by rintro rfl; rw [lessW_irrefl] at h; cases h

/-- The sum of the coefficients of a word. -/
def coefAt (s : ByteArray) : List Tm → Int
  | [] => 0
  | t :: r => (if t.s = s then t.c else 0) + coefAt s r
theorem coefAt_append (s : ByteArray) (a b : List Tm) : coefAt s (a ++ b) = coefAt s a + coefAt s b := by
  induction a with
  | nil => simp [coefAt]
  | cons t r ih => rw [List.cons_append, coefAt, coefAt, ih]; omega
theorem coefAt_perm (s : ByteArray) {a b : List Tm} (h : a.Perm b) : coefAt s a = coefAt s b := by
  induction h with
  | nil => rfl
  | cons t _ ih => rw [coefAt, coefAt, ih]
  | swap t u l => simp only [coefAt]; omega
  | trans _ _ i1 i2 => rw [i1, i2]

/-- In order, no word twice, no coefficient 0. -/
def Canon (ts : List Tm) : Prop := ts.Pairwise (fun a b => lessW a.s b.s = true) ∧ ∀ t ∈ ts, t.c ≠ 0
theorem coefAt_none {s : ByteArray} {ts : List Tm} (h : ∀ t ∈ ts, t.s ≠ s) : coefAt s ts = 0 := by
  induction ts with
  | nil => rfl
  | cons t r ih => rw [coefAt, if_neg (h t (by simp)), ih fun u hu => h u (by simp [hu])]; rfl
theorem canon_unique : ∀ {a b : List Tm}, Canon a → Canon b → (∀ s, coefAt s a = coefAt s b) → a = b
  | [], [], _, _, _ => rfl
  | [], y :: b, _, hb, h => by
    have h1 := h y.s
    rw [coefAt, coefAt, if_pos rfl, coefAt_none fun t ht => (lessW_ne ((List.pairwise_cons.1 hb.1).1 t ht)).symm] at h1
    exact absurd (by omega) (hb.2 y (by simp))
  | x :: a, [], ha, _, h => by
    have h1 := h x.s
    rw [coefAt, coefAt, if_pos rfl, coefAt_none fun t ht => (lessW_ne ((List.pairwise_cons.1 ha.1).1 t ht)).symm] at h1
    exact absurd (by omega) (ha.2 x (by simp))
  | x :: a, y :: b, ha, hb, h => by
    obtain ⟨a1, a2⟩ := List.pairwise_cons.1 ha.1
    obtain ⟨b1, b2⟩ := List.pairwise_cons.1 hb.1
    have na : coefAt x.s a = 0 := coefAt_none fun t ht => (lessW_ne (a1 t ht)).symm
    have nb : coefAt y.s b = 0 := coefAt_none fun t ht => (lessW_ne (b1 t ht)).symm
    have e : x.s = y.s := by
      cases h1 : lessW x.s y.s with
      | true =>
        have h2 := h x.s
        rw [coefAt, coefAt, if_pos rfl, if_neg (fun e => lessW_ne h1 e.symm), na, coefAt_none fun t ht => (lessW_ne (lessW_trans h1 (b1 t ht))).symm] at h2
        exact absurd (by omega) (ha.2 x (by simp))
      | false =>
        cases h3 : lessW y.s x.s with
        | true =>
          have h2 := h y.s
          rw [coefAt, coefAt, if_pos rfl, if_neg (fun e => lessW_ne h3 e.symm), nb, coefAt_none fun t ht => (lessW_ne (lessW_trans h3 (a1 t ht))).symm] at h2
          exact absurd (by omega) (hb.2 y (by simp))
        | false => exact lessW_tri h1 h3
    have ec : x.c = y.c := by
      have h2 := h x.s
      rw [coefAt, coefAt, if_pos rfl, if_pos e.symm, na, e, nb] at h2
      omega
    have et : x = y := by cases x; cases y; simp at e ec; rw [e, ec]
    subst et
    have := canon_unique ⟨a2, fun t ht => ha.2 t (by simp [ht])⟩ ⟨b2, fun t ht => hb.2 t (by simp [ht])⟩ (fun s => by
      have h2 := h s
      rw [coefAt, coefAt] at h2
      omega)
    rw [this]

/-- A term is left out if its coefficient is 0. -/
def nz (t : Tm) : List Tm := if t.c = 0 then [] else [t]
/-- A term is added to a list in order. -/
def addT : List Tm → Tm → List Tm
  | [], t => nz t
  | x :: r, t => if lessW x.s t.s then x :: addT r t else if x.s = t.s then nz ⟨t.c + x.c, t.s⟩ ++ r else nz t ++ x :: r
theorem coefAt_nz (s : ByteArray) (t : Tm) : coefAt s (nz t) = if t.s = s then t.c else 0 := by
  unfold nz
  by_cases h : t.c = 0
  · rw [if_pos h, h]; simp [coefAt]
  · rw [if_neg h]; simp [coefAt]
theorem coefAt_add (s : ByteArray) (t : Tm) : ∀ ts, coefAt s (addT ts t) = coefAt s ts + if t.s = s then t.c else 0
  | [] => by rw [addT, coefAt_nz, coefAt]; omega
  | x :: r => by
    rw [addT]
    by_cases h : lessW x.s t.s = true
    · rw [if_pos h, coefAt, coefAt, coefAt_add s t r]; omega
    · rw [if_neg h]
      by_cases h2 : x.s = t.s
      · rw [if_pos h2, coefAt_append, coefAt_nz, coefAt, h2]
        by_cases h3 : t.s = s
        · simp only [h3, if_true]; omega
        · simp only [h3, if_false]; omega
      · rw [if_neg h2, coefAt_append, coefAt_nz]; omega
theorem nz_mem {t u : Tm} (h : u ∈ nz t) : u = t ∧ t.c ≠ 0 := by
  unfold nz at h
  split at h
  · cases h
  · exact ⟨List.mem_singleton.1 h, by assumption⟩
theorem add_words {t : Tm} : ∀ {ts : List Tm} {u : Tm}, u ∈ addT ts t → u.s = t.s ∨ ∃ v ∈ ts, v.s = u.s
  | [], u, h => by rw [addT] at h; exact .inl (by rw [(nz_mem h).1])
  | x :: r, u, h => by
    rw [addT] at h
    split at h
    · rcases List.mem_cons.1 h with rfl | h
      · exact .inr ⟨_, by simp, rfl⟩
      · rcases add_words h with h | ⟨v, hv, e⟩
        · exact .inl h
        · exact .inr ⟨v, by simp [hv], e⟩
    · split at h
      · rcases List.mem_append.1 h with h | h
        · exact .inl (by rw [(nz_mem h).1])
        · exact .inr ⟨u, by simp [h], rfl⟩
      · rcases List.mem_append.1 h with h | h
        · exact .inl (by rw [(nz_mem h).1])
        · exact .inr ⟨u, h, rfl⟩
theorem canon_add {t : Tm} : ∀ {ts : List Tm}, Canon ts → Canon (addT ts t)
  | [], _ => by
    rw [addT]
    unfold nz
    split
    · exact ⟨List.Pairwise.nil, fun t h => by cases h⟩
    · exact ⟨by simp, fun u h => by rw [List.mem_singleton.1 h]; assumption⟩
  | x :: r, h => by
    obtain ⟨h1, h2⟩ := List.pairwise_cons.1 h.1
    have hr : Canon r := ⟨h2, fun u hu => h.2 u (by simp [hu])⟩
    rw [addT]
    by_cases hl : lessW x.s t.s = true
    · rw [if_pos hl]
      have ih := canon_add (t := t) hr
      refine ⟨List.pairwise_cons.2 ⟨fun u hu => ?_, ih.1⟩, fun u hu => ?_⟩
      · rcases add_words hu with e | ⟨v, hv, e⟩
        · rw [e]; exact hl
        · rw [← e]; exact h1 v hv
      · rcases List.mem_cons.1 hu with rfl | hu
        · exact h.2 _ (by simp)
        · exact ih.2 u hu
    · rw [if_neg hl]
      by_cases h3 : x.s = t.s
      · rw [if_pos h3]
        refine ⟨List.pairwise_append.2 ⟨?_, h2, fun u hu v hv => ?_⟩, fun u hu => ?_⟩
        · unfold nz; split <;> simp
        · rw [(nz_mem hu).1]; show lessW t.s v.s = true; rw [← h3]; exact h1 v hv
        · rcases List.mem_append.1 hu with hu | hu
          · obtain ⟨e, h4⟩ := nz_mem hu; rw [e]; exact h4
          · exact hr.2 u hu
      · rw [if_neg h3]
        have hlt : lessW t.s x.s = true := by
          cases h4 : lessW t.s x.s with
          | true => rfl
          | false => exact absurd (lessW_tri (by simpa using hl) h4) h3
        refine ⟨List.pairwise_append.2 ⟨?_, h.1, fun u hu v hv => ?_⟩, fun u hu => ?_⟩
        · unfold nz; split <;> simp
        · rw [(nz_mem hu).1]
          rcases List.mem_cons.1 hv with rfl | hv
          · exact hlt
          · exact lessW_trans hlt (h1 v hv)
        · rcases List.mem_append.1 hu with hu | hu
          · obtain ⟨e, h4⟩ := nz_mem hu; rw [e]; exact h4
          · exact h.2 u hu

/-- The sum of terms in any order. -/
def canonT (ts : List Tm) : List Tm := ts.foldl addT []
theorem canon_foldl : ∀ (ts acc : List Tm), Canon acc → Canon (ts.foldl addT acc) ∧ ∀ s, coefAt s (ts.foldl addT acc) = coefAt s acc + coefAt s ts
  | [], acc, h => ⟨h, fun s => by simp [coefAt]⟩
  | t :: r, acc, h => by
    obtain ⟨h1, h2⟩ := canon_foldl r (addT acc t) (canon_add h)
    refine ⟨h1, fun s => ?_⟩
    rw [List.foldl_cons, h2, coefAt_add, coefAt]
    omega
theorem canonT_spec (ts : List Tm) : Canon (canonT ts) ∧ ∀ s, coefAt s (canonT ts) = coefAt s ts := by
  obtain ⟨h1, h2⟩ := canon_foldl ts [] ⟨List.Pairwise.nil, fun t h => by cases h⟩
  exact ⟨h1, fun s => by rw [canonT, h2, coefAt]; omega⟩
theorem canonT_unique {ts us : List Tm} (h : Canon us) (he : ∀ s, coefAt s us = coefAt s ts) : us = canonT ts :=
  canon_unique h (canonT_spec ts).1 fun s => by rw [he, (canonT_spec ts).2]

/-- Equal neighbours joined: what stands at the end takes the next one in. -/
def pushT (acc : List Tm) (t : Tm) : List Tm :=
  match acc.getLast? with
  | some l => if l.s = t.s then acc.dropLast ++ [⟨l.c + t.c, l.s⟩] else acc ++ [t]
  | none => acc ++ [t]
def mergeT (ts : List Tm) : List Tm := ts.foldl pushT []

theorem push_nil (t : Tm) : pushT [] t = [t] := rfl
theorem push_last (a : List Tm) (l t : Tm) : pushT (a ++ [l]) t = if l.s = t.s then a ++ [⟨l.c + t.c, l.s⟩] else a ++ [l] ++ [t] := by
  unfold pushT; simp
theorem coefAt_push (s : ByteArray) (a : List Tm) (t : Tm) : coefAt s (pushT a t) = coefAt s a + if t.s = s then t.c else 0 := by
  rcases List.eq_nil_or_concat a with rfl | ⟨b, l, rfl⟩
  · rw [push_nil]; simp [coefAt]
  · rw [List.concat_eq_append, push_last]
    by_cases h : l.s = t.s
    · rw [if_pos h, coefAt_append, coefAt_append]
      simp only [coefAt]
      rw [h]
      by_cases h2 : t.s = s
      · simp only [h2, if_true]; omega
      · simp only [h2, if_false]; omega
    · rw [if_neg h, coefAt_append]
      simp only [coefAt]; omega

/-- What was gathered is in order, and its last word is not greater than what comes. -/
theorem merge_foldl : ∀ (ts acc : List Tm), acc.Pairwise (fun a b => lessW a.s b.s = true) → ts.Pairwise (fun a b => lessW b.s a.s = false) → (∀ l, acc.getLast? = some l → ∀ t ∈ ts, lessW t.s l.s = false) →
    (ts.foldl pushT acc).Pairwise (fun a b => lessW a.s b.s = true) ∧ ∀ s, coefAt s (ts.foldl pushT acc) = coefAt s acc + coefAt s ts
  | [], acc, h, _, _ => ⟨h, fun s => by simp [coefAt]⟩
  | t :: r, acc, h, hts, hl => by
    obtain ⟨t1, t2⟩ := List.pairwise_cons.1 hts
    have hp : (pushT acc t).Pairwise (fun a b => lessW a.s b.s = true) ∧ ∃ l, (pushT acc t).getLast? = some l ∧ l.s = t.s := by
      rcases List.eq_nil_or_concat acc with rfl | ⟨b, l, rfl⟩
      · rw [push_nil]; exact ⟨by simp, t, rfl, rfl⟩
      · rw [List.concat_eq_append] at *
        rw [push_last]
        obtain ⟨p1, _, p3⟩ := List.pairwise_append.1 h
        by_cases e : l.s = t.s
        · rw [if_pos e]
          exact ⟨List.pairwise_append.2 ⟨p1, by simp, fun u hu v hv => by rw [List.mem_singleton.1 hv]; show lessW u.s l.s = true; exact p3 u hu l (List.mem_singleton.2 rfl)⟩, ⟨l.c + t.c, l.s⟩, by simp, e⟩
        · rw [if_neg e]
          have hlt : lessW l.s t.s = true := by
            cases h4 : lessW l.s t.s with
            | true => rfl
            | false => exact absurd (lessW_tri h4 (hl l (by simp) t (by simp))) e
          refine ⟨List.pairwise_append.2 ⟨h, by simp, fun u hu v hv => ?_⟩, t, by simp, rfl⟩
          rw [List.mem_singleton.1 hv]
          rcases List.mem_append.1 hu with hu | hu
          · exact lessW_trans (p3 u hu l (by simp)) hlt
          · rw [List.mem_singleton.1 hu]; exact hlt
    obtain ⟨l, hll, hls⟩ := hp.2
    obtain ⟨q1, q2⟩ := merge_foldl r (pushT acc t) hp.1 t2 (fun l' hl' u hu => by
      rw [hll] at hl'; cases hl'
      rw [hls]; exact t1 u hu)
    refine ⟨q1, fun s => ?_⟩
    rw [List.foldl_cons, q2, coefAt_push, coefAt]
    omega
theorem coefAt_filter (s : ByteArray) : ∀ ts : List Tm, coefAt s (ts.filter fun t => !(t.c == 0)) = coefAt s ts
  | [] => rfl
  | t :: r => by
    rw [List.filter_cons]
    by_cases h : t.c = 0
    · simp only [h, beq_self_eq_true, Bool.not_true, Bool.false_eq_true, if_false]
      rw [coefAt_filter s r, coefAt, h]; simp
    · have : (!(t.c == 0)) = true := by simpa using h
      rw [if_pos this, coefAt, coefAt, coefAt_filter s r]
/-- **What the program gathers is the model's sum.** -/
theorem gathered_eq {ts ss : List Tm} (hp : ss.Perm ts) (hs : ss.Pairwise (fun a b => lessW b.s a.s = false)) : (mergeT ss).filter (fun t => !(t.c == 0)) = canonT ts := by
  obtain ⟨h1, h2⟩ := merge_foldl ss [] List.Pairwise.nil hs (fun l h => by cases h)
  refine canonT_unique ⟨h1.sublist List.filter_sublist, fun t ht => ?_⟩ fun s => ?_
  · have := (List.mem_filter.1 ht).2
    simpa using this
  · rw [coefAt_filter]
    unfold mergeT
    rw [h2, coefAt, coefAt_perm s hp]
    omega

end Go.Proofs.Ytakfobihakbefaa

/- The contract of the model's 'l2Add'. -/

namespace Go.Proofs.Ytakfobihakbefaa
open Go.RowKit Go.Shelf

theorem termsV_cells {w : World} {x : Addr} {ts : List Tm} (h : TermsAt w x ts) : ∀ j u, (termsV ts)[j]? = some u → w.cell? (x.add j) = some u := fun j u hu => by
  have hj : j < ts.length * 2 := by rw [← termsV_len]; exact (List.getElem?_eq_some_iff.1 hu).1
  have hg := termsV_get ts (j / 2) (by omega)
  have hc := h.2 (j / 2) (by omega)
  rcases Nat.mod_two_eq_zero_or_one j with e | e
  · have e2 : j / 2 * 2 = j := by omega
    rw [e2] at hg hc
    rw [hg.1] at hu; cases hu; exact hc.1
  · have e2 : j / 2 * 2 + 1 = j := by omega
    rw [e2] at hg hc
    rw [hg.2] at hu; cases hu; exact hc.2
theorem TermsAt.cells {w : World} {x : Addr} {ts : List Tm} (h : TermsAt w x ts) : ∀ j u, (termsV ts)[j]? = some u → w.cell? (x.add j) = some u := termsV_cells h
theorem TermsAt.takeAt {w : World} {x : Addr} {ts : List Tm} (h : TermsAt w x ts) (k : Nat) : TermsAt w x (ts.take k) :=
  ⟨h.1, fun i hi => by
    simp only [List.length_take] at hi
    rw [List.getElem_take]
    exact h.2 i (by omega)⟩
theorem TermsAt.dropAt {w : World} {g : Nat} {ts : List Tm} (h : TermsAt w ⟨g, 0, none⟩ ts) (k : Nat) : TermsAt w ⟨g, k * 2, none⟩ (ts.drop k) := by
  refine ⟨h.1, fun i hi => ?_⟩
  simp only [List.length_drop] at hi
  have ha : ∀ o j, (⟨g, o, none⟩ : Addr).add j = ⟨g, o + j, none⟩ := fun o j => by unfold Addr.add; split <;> simp_all
  have := h.2 (k + i) (by omega)
  rw [ha, ha] at this
  rw [ha, ha, List.getElem_drop, show k * 2 + i * 2 = 0 + (k + i) * 2 by omega, show k * 2 + (i * 2 + 1) = 0 + ((k + i) * 2 + 1) by omega]
  exact this
theorem oneCell_terms (ts : List Tm) : ∀ u ∈ termsV ts, u.oneCell' = true := by
  induction ts with
  | nil => intro u h; cases h
  | cons t r ih =>
    intro u h
    rw [termsV_cons] at h
    rcases List.mem_cons.1 h with rfl | h
    · rfl
    · rcases List.mem_cons.1 h with rfl | h
      · rfl
      · exact ih u h
theorem notNil {w : World} {base n : Nat} {e : TypeId} {size : Nat} {v : Value} {xs : List Value} (h : w.ownsRow base e size v n xs) (hn : v ≠ .slice none 0 0) : ∃ g cap, base ≤ g ∧ v = .slice (some ⟨g, 0, none⟩) n cap := by
  rcases h.2 with ⟨e, _⟩ | ⟨g, cap, cur, e, hb, _⟩
  · exact absurd e hn
  · exact ⟨g, cap, hb, e⟩
theorem cell_pair_new (w : World) (a b : Value) (t : TypeId) : ∀ j u, [a, b][j]? = some u → (w.alloc (.cells #[a, b] t)).cell? ((⟨w.heap.size, 0, none⟩ : Addr).add j) = some u := fun j u hu => by
  have ha : (⟨w.heap.size, 0, none⟩ : Addr).add j = ⟨w.heap.size, j, none⟩ := by unfold Addr.add; split <;> simp_all
  rw [ha, World.cell?_alloc_at _ _ _ _ rfl]
  match j, hu with
  | 0, hu => cases hu; rfl
  | 1, hu => cases hu; rfl
  | j + 2, hu => simp at hu

theorem addT_less : ∀ {ts : List Tm} {t : Tm} {k : Nat}, (∀ j (h : j < ts.length), j < k → lessW ts[j].s t.s = true) → k ≤ ts.length → addT ts t = ts.take k ++ addT (ts.drop k) t
  | _, _, 0, _, _ => by simp
  | [], _, k + 1, _, hk => by simp at hk
  | x :: r, t, k + 1, h, hk => by
    have h0 := h 0 (by simp) (by omega)
    have ih := addT_less (ts := r) (t := t) (k := k) (fun j hj hjk => by have := h (j + 1) (by simpa using hj) (by omega); simpa using this) (by simpa using hk)
    rw [List.take_succ_cons, List.drop_succ_cons, addT, if_pos (by simpa using h0), ih]
    rfl
theorem addT_end {ts : List Tm} {t : Tm} (h : ∀ j (h : j < ts.length), lessW ts[j].s t.s = true) : addT ts t = ts ++ nz t := by
  rw [addT_less (k := ts.length) (fun j hj _ => h j hj) (Nat.le_refl _), List.drop_length, List.take_length]
  rfl
theorem addT_at {ts : List Tm} {t u : Tm} {k : Nat} (hk : k < ts.length) (h : ∀ j (h : j < ts.length), j < k → lessW ts[j].s t.s = true) (hu : ts[k] = u) (hl : lessW u.s t.s = false) :
    addT ts t = ts.take k ++ (if u.s = t.s then nz ⟨t.c + u.c, t.s⟩ ++ ts.drop (k + 1) else nz t ++ ts.drop k) := by
  rw [addT_less h (Nat.le_of_lt hk), List.drop_eq_getElem_cons hk, hu, addT, if_neg (by rw [hl]; simp)]
theorem cat0 (a b : List Tm) : [] ++ termsV a ++ termsV b = termsV (a ++ ([] ++ b)) := by rw [List.nil_append, List.nil_append, termsV_append]
theorem cat1 (a b : List Tm) (c : Int) (s : ByteArray) : [] ++ termsV a ++ [.int .i64 c, .string s] ++ termsV b = termsV (a ++ ([⟨c, s⟩] ++ b)) := by rw [List.nil_append, termsV_append, termsV_append, List.append_assoc]; rfl
theorem cat2 (a b : List Tm) : termsV a ++ termsV b = termsV (a ++ ([] ++ b)) := cat0 a b
theorem cat3 (a b : List Tm) (c : Int) (s : ByteArray) : termsV a ++ .int .i64 c :: .string s :: termsV b = termsV (a ++ ([⟨c, s⟩] ++ b)) := by rw [termsV_append, termsV_append]; rfl
theorem lenCat0 (ts : List Tm) (k j : Nat) (hk : k ≤ ts.length) : (ts.take k ++ ([] ++ ts.drop j)).length = k + (ts.length - j) := by
  rw [List.length_append, List.nil_append, List.length_take, List.length_drop, Nat.min_eq_left hk]
theorem lenCat1 (ts : List Tm) (k j : Nat) (x : Tm) (hk : k ≤ ts.length) : (ts.take k ++ ([x] ++ ts.drop j)).length = k + (1 + (ts.length - j)) := by
  rw [List.length_append, List.length_append, List.length_take, List.length_drop, Nat.min_eq_left hk]; rfl
theorem len_nz0 {t : Tm} (h : t.c = 0) : nz t = [] := if_pos h
theorem len_nz1 {t : Tm} (h : t.c ≠ 0) : nz t = [t] := if_neg h

end Go.Proofs.Ytakfobihakbefaa

/- The contracts of the model's 'l2Done' and 'SumOf'. -/

namespace Go.Proofs.Ytakfobihakbefaa
open Go.RowKit Go.Shelf

/-- What fits into an integer of 64 bits and into a text. -/
def SmallT (ts : List Tm) : Prop := ts.length ≤ maxLen ∧ ∀ t ∈ ts, t.s.size ≤ maxLen ∧ -9223372036854775808 ≤ t.c ∧ t.c ≤ 9223372036854775807
theorem add_bound {t : Tm} {B C : Int} (hC : 0 ≤ C) (ht : -C ≤ t.c ∧ t.c ≤ C) : ∀ {ts : List Tm}, (∀ u ∈ ts, -B ≤ u.c ∧ u.c ≤ B) → 0 ≤ B → ∀ u ∈ addT ts t, -(B + C) ≤ u.c ∧ u.c ≤ B + C
  | [], _, hB, u, hu => by rw [addT] at hu; rw [(nz_mem hu).1]; omega
  | x :: r, h, hB, u, hu => by
    rw [addT] at hu
    have hx := h x (by simp)
    split at hu
    · rcases List.mem_cons.1 hu with rfl | hu
      · omega
      · exact add_bound hC ht (fun v hv => h v (by simp [hv])) hB u hu
    · split at hu
      · rcases List.mem_append.1 hu with hu | hu
        · rw [(nz_mem hu).1]; show -(B + C) ≤ t.c + x.c ∧ t.c + x.c ≤ B + C; omega
        · have := h u (by simp [hu]); omega
      · rcases List.mem_append.1 hu with hu | hu
        · rw [(nz_mem hu).1]; omega
        · have := h u hu; omega
theorem add_len (t : Tm) : ∀ ts : List Tm, (addT ts t).length ≤ ts.length + 1
  | [] => by rw [addT]; unfold nz; split <;> simp
  | x :: r => by
    have h0 : ∀ y : Tm, (nz y).length ≤ 1 := fun y => by unfold nz; split <;> simp
    rw [addT]
    split
    · have := add_len t r; simp only [List.length_cons]; omega
    · split
      · have := h0 ⟨t.c + x.c, t.s⟩; simp only [List.length_append, List.length_cons]; omega
      · have := h0 t; simp only [List.length_append, List.length_cons]; omega
theorem add_small {t : Tm} {ts : List Tm} {M : Nat} (ht : t.s.size ≤ M) (h : ∀ u ∈ ts, u.s.size ≤ M) : ∀ u ∈ addT ts t, u.s.size ≤ M := fun u hu => by
  rcases add_words hu with e | ⟨v, hv, e⟩
  · rw [e]; exact ht
  · rw [← e]; exact h v hv

end Go.Proofs.Ytakfobihakbefaa

/- The contract of the model's 'SumOf'. -/

namespace Go.Proofs.Ytakfobihakbefaa
open Go.RowKit Go.Shelf

theorem termB_iff {t : Tm} (h : termB t = true) : t.s.size ≤ 60 ∧ -1000000 ≤ t.c ∧ t.c ≤ 1000000 := by
  unfold termB inR at h
  simp only [Bool.and_eq_true, decide_eq_true_eq] at h
  exact ⟨by have := ((wordB_iff _).1 h.1).1; simpa using this, h.2⟩
theorem fold_succ (ts : List Tm) (k : Nat) (h : k < ts.length) : (ts.take (k + 1)).foldl addT [] = addT ((ts.take k).foldl addT []) ts[k] := by
  rw [List.take_succ_eq_append_getElem h, List.foldl_append]; rfl

/-- What SumOf answers. -/
def ofB (ts : List Tm) : Bool := twB ts && sumB (canonT ts)

end Go.Proofs.Ytakfobihakbefaa

/- The contracts of the program's 'sumWords' and 'SumIn'. -/

namespace Go.Proofs.Ytakfobihakbefaa
open Go.RowKit Go.Shelf

theorem sumB_eq (ts : List Tm) : sumB ts = (twB ts && !hasZero ts && ascB ts) := by
  have hg : ∀ j (h : j < ts.length), ts.getD j default = ts[j] := fun j h => by rw [List.getD_eq_getElem?_getD, List.getElem?_eq_getElem h]; rfl
  rw [Bool.eq_iff_iff]
  unfold sumB twB hasZero ascB allGood
  simp only [Bool.and_eq_true, List.all_eq_true, List.mem_range, decide_eq_true_eq, Bool.not_eq_true', List.any_eq_false]
  constructor
  · rintro ⟨h1, h2⟩
    refine ⟨⟨⟨h2, fun t ht => ?_⟩, fun t ht => ?_⟩, fun j hj => ?_⟩
    · obtain ⟨j, hj, rfl⟩ := List.getElem_of_mem ht
      have := h1 j hj
      unfold goodAt at this
      simp only [hg j hj, Bool.and_eq_true] at this
      unfold termB
      rw [this.1.2, this.1.1.2]; rfl
    · obtain ⟨j, hj, rfl⟩ := List.getElem_of_mem ht
      have := h1 j hj
      unfold goodAt at this
      simp only [hg j hj, Bool.and_eq_true] at this
      simpa using this.1.1.1
    · have := h1 j hj
      unfold goodAt at this
      simp only [Bool.and_eq_true] at this
      exact this.2
  · rintro ⟨⟨⟨h1, h2⟩, h3⟩, h4⟩
    refine ⟨fun j hj => ?_, h1⟩
    have a2 := h2 _ (List.getElem_mem hj)
    have a3 := h3 _ (List.getElem_mem hj)
    unfold termB at a2
    simp only [Bool.and_eq_true] at a2
    unfold goodAt
    simp only [hg j hj, Bool.and_eq_true]
    exact ⟨⟨⟨by simpa using a3, a2.2⟩, a2.1⟩, by have := h4 j hj; rw [hg j hj] at this; exact this⟩

end Go.Proofs.Ytakfobihakbefaa

/- Canonical lists of terms are sums where their terms are as told. -/

namespace Go.Proofs.Ytakfobihakbefaa
open Go.RowKit Go.Shelf

theorem canon_of (ts : List Tm) : Canon (canonT ts) := (canon_foldl ts [] ⟨List.Pairwise.nil, fun t h => by cases h⟩).1
theorem hasZero_canon {ts : List Tm} (h : Canon ts) : hasZero ts = false := by
  unfold hasZero
  refine List.any_eq_false.2 fun t ht => ?_
  simpa using h.2 t ht
theorem ascB_canon {ts : List Tm} (h : Canon ts) : ascB ts = true := by
  refine ascB_true fun k hk hk0 => ?_
  rw [List.getD_eq_getElem?_getD, List.getD_eq_getElem?_getD, List.getElem?_eq_getElem hk, List.getElem?_eq_getElem (by omega : k - 1 < ts.length)]
  exact List.pairwise_iff_getElem.1 h.1 (k - 1) k (by omega) hk (by omega)
theorem sumB_canon {ts : List Tm} (h : Canon ts) : sumB ts = twB ts := by
  rw [sumB_eq, hasZero_canon h, ascB_canon h]
  simp

theorem canon_len_words {ts : List Tm} (h : twB ts = true) : ts.length ≤ 300 ∧ ∀ t ∈ ts, termB t = true := by
  unfold twB at h
  simp only [Bool.and_eq_true, decide_eq_true_eq, List.all_eq_true] at h
  exact h

end Go.Proofs.Ytakfobihakbefaa

/- The contract of the model's 'SumAdd'; sums as canonical lists. -/

namespace Go.Proofs.Ytakfobihakbefaa
open Go.RowKit Go.Shelf

theorem pairwise_lessW {ts : List Tm} (h : ∀ k, k < ts.length → 0 < k → lessW (ts.getD (k - 1) default).s (ts.getD k default).s = true) : ts.Pairwise (fun a b => lessW a.s b.s = true) := by
  rw [List.pairwise_iff_getElem]
  have key : ∀ d i (hi : i < ts.length) (hj : i + (d + 1) < ts.length), lessW ts[i].s ts[i + (d + 1)].s = true := by
    intro d
    induction d with
    | zero =>
      intro i hi hj
      have := h (i + 1) hj (by omega)
      rw [show i + 1 - 1 = i by omega, List.getD_eq_getElem?_getD, List.getD_eq_getElem?_getD, List.getElem?_eq_getElem hj, List.getElem?_eq_getElem hi] at this
      exact this
    | succ d ih =>
      intro i hi hj
      have h1 := ih i hi (by omega)
      have h2 := h (i + (d + 1) + 1) hj (by omega)
      rw [show i + (d + 1) + 1 - 1 = i + (d + 1) by omega, List.getD_eq_getElem?_getD, List.getD_eq_getElem?_getD, List.getElem?_eq_getElem (by omega : i + (d + 1) < ts.length), List.getElem?_eq_getElem (by omega : i + (d + 1) + 1 < ts.length)] at h2
      exact lessW_trans h1 h2
  intro i j hi hj hij
  obtain ⟨d, rfl⟩ : ∃ d, j = i + (d + 1) := ⟨j - i - 1, by omega⟩
  exact key d i hi hj
theorem sumB_parts {ts : List Tm} (h : sumB ts = true) : twB ts = true ∧ Canon ts := by
  rw [sumB_eq] at h
  simp only [Bool.and_eq_true, Bool.not_eq_true'] at h
  obtain ⟨⟨h1, h2⟩, h3⟩ := h
  refine ⟨h1, pairwise_lessW fun k hk hk0 => ?_, fun t ht => ?_⟩
  · unfold ascB at h3
    have := List.all_eq_true.1 h3 k (List.mem_range.2 hk)
    simp only [Bool.or_eq_true, decide_eq_true_eq] at this
    rcases this with h | h
    · omega
    · exact h
  · unfold hasZero at h2
    have := List.any_eq_false.1 h2 t ht
    simpa using this
theorem canonT_of_canon {ts : List Tm} (h : Canon ts) : canonT ts = ts := (canonT_unique h fun _ => rfl).symm
theorem canonT_append {x : List Tm} (y : List Tm) (h : Canon x) : canonT (x ++ y) = y.foldl addT x := by
  have h2 := canonT_of_canon h
  unfold canonT at h2 ⊢
  rw [List.foldl_append, h2]
theorem fold_succ2 (x ts : List Tm) (k : Nat) (h : k < ts.length) : (ts.take (k + 1)).foldl addT x = addT ((ts.take k).foldl addT x) ts[k] := by
  rw [List.take_succ_eq_append_getElem h, List.foldl_append]; rfl

/-- What SumAdd answers. -/
def addB (x y : List Tm) : Bool := sumB x && (sumB y && twB (canonT (x ++ y)))

theorem isTerms_cells {w : World} {ad : Addr} {n : Nat} {x : List Tm} (h : IsTerms w (some ad) n x) : ∀ j u, (termsV x)[j]? = some u → w.cell? (ad.add j) = some u := by
  intro j u hu
  rcases Nat.eq_zero_or_pos n with h0 | h0
  · have : x = [] := List.length_eq_zero_iff.1 (h.len.trans h0)
    subst this
    simp [termsV] at hu
  · obtain ⟨z, e, h2⟩ := h.at_ h0
    cases e
    exact h2.cells j u hu

end Go.Proofs.Ytakfobihakbefaa

/- Derivatives of words as lists of terms in the order of letters; sums of such lists. -/

namespace Go.Proofs.Ytakfobihakbefaa
open Go.RowKit

/-- The term of one letter behind p. -/
def foxT (g c : Int) (p : List UInt8) (x : UInt8) : List Tm := if (idxB x : Int) = g then [⟨c * sgnB x, bstr (if 97 ≤ x.toNat then p else p ++ [x])⟩] else []
/-- The terms of the first k letters. -/
def foxN (g c : Int) (l : List UInt8) : Nat → List Tm
  | 0 => []
  | k + 1 => foxN g c l k ++ foxT g c (l.take k) (l.getD k 0)
def foxL (g c : Int) (l : List UInt8) : List Tm := foxN g c l l.length
theorem foxN_succ (g c : Int) (l : List UInt8) (k : Nat) (hk : k < l.length) : foxN g c l (k + 1) = foxN g c l k ++ foxT g c (l.take k) l[k] := by
  rw [foxN, List.getD_eq_getElem?_getD, List.getElem?_eq_getElem hk]; rfl
theorem foxT_no {g c : Int} {p : List UInt8} {x : UInt8} (h : (idxB x : Int) ≠ g) : foxT g c p x = [] := if_neg h
theorem foxT_hi {g c : Int} {p : List UInt8} {x : UInt8} (h : (idxB x : Int) = g) (hx : 97 ≤ x.toNat) : foxT g c p x = [⟨c * sgnB x, bstr p⟩] := by
  unfold foxT; rw [if_pos h, if_pos hx]
theorem foxT_lo {g c : Int} {p : List UInt8} {x : UInt8} (h : (idxB x : Int) = g) (hx : ¬ 97 ≤ x.toNat) : foxT g c p x = [⟨c * sgnB x, bstr (p ++ [x])⟩] := by
  unfold foxT; rw [if_pos h, if_neg hx]
theorem sgnB_bnd (x : UInt8) : -1 ≤ sgnB x ∧ sgnB x ≤ 1 := by unfold sgnB; split <;> omega
theorem mul_sgn {c C : Int} (hc : -C ≤ c ∧ c ≤ C) (x : UInt8) : -C ≤ c * sgnB x ∧ c * sgnB x ≤ C := by
  unfold sgnB; split <;> omega
theorem foxN_len (g c : Int) (l : List UInt8) : ∀ k, (foxN g c l k).length ≤ k
  | 0 => Nat.le_refl _
  | k + 1 => by
    have := foxN_len g c l k
    rw [foxN, List.length_append]
    have h2 : (foxT g c (l.take k) (l.getD k 0)).length ≤ 1 := by unfold foxT; split <;> simp
    omega
theorem foxN_mem {g c C : Int} (hc : -C ≤ c ∧ c ≤ C) {l : List UInt8} {t : Tm} : ∀ {k}, k ≤ l.length → t ∈ foxN g c l k → (-C ≤ t.c ∧ t.c ≤ C) ∧ ∃ j, j ≤ k ∧ t.s = bstr (l.take j)
  | 0, _, h => by cases h
  | k + 1, hk, h => by
    rw [foxN_succ g c l k (by omega)] at h
    rcases List.mem_append.1 h with h | h
    · obtain ⟨h1, j, hj, h2⟩ := foxN_mem hc (by omega) h
      exact ⟨h1, j, by omega, h2⟩
    · by_cases hi : (idxB l[k] : Int) = g
      · by_cases hx : 97 ≤ l[k].toNat
        · rw [foxT_hi hi hx] at h
          obtain rfl := List.mem_singleton.1 h
          exact ⟨mul_sgn hc _, k, by omega, rfl⟩
        · rw [foxT_lo hi hx] at h
          obtain rfl := List.mem_singleton.1 h
          refine ⟨mul_sgn hc _, k + 1, by omega, ?_⟩
          show bstr (l.take k ++ [l[k]]) = _
          rw [← take_snoc l k (by omega)]
      · rw [foxT_no hi] at h; cases h
theorem word_take {l : List UInt8} (h : wordB l = true) (j : Nat) : wordB (l.take j) = true := by
  obtain ⟨h1, h2, h3⟩ := (wordB_iff _).1 h
  refine (wordB_iff _).2 ⟨by rw [List.length_take]; omega, letL_of_mem _ _ h2 fun _ hc => List.mem_of_mem_take hc, (red_iff _).2 ?_⟩
  have := (red_iff _).1 h3
  rw [← List.take_append_drop j l] at this
  exact noC_left this

/-! ### Coefficients -/
def scaleT (c : Int) (ts : List Tm) : List Tm := ts.map fun t => ⟨c * t.c, t.s⟩
theorem coefAt_scale (s : ByteArray) (c : Int) : ∀ ts, coefAt s (scaleT c ts) = c * coefAt s ts
  | [] => by simp [scaleT, coefAt]
  | t :: r => by
    have ih := coefAt_scale s c r
    unfold scaleT at *
    rw [List.map_cons, coefAt, coefAt, ih, Int.mul_add]
    show (if t.s = s then c * t.c else 0) + _ = _
    split
    · rfl
    · simp
theorem foxT_scale (g c : Int) (p : List UInt8) (x : UInt8) : foxT g c p x = scaleT c (foxT g 1 p x) := by
  unfold foxT scaleT
  split
  · simp
  · rfl
theorem foxN_scale (g c : Int) (l : List UInt8) : ∀ k, foxN g c l k = scaleT c (foxN g 1 l k)
  | 0 => rfl
  | k + 1 => by
    rw [foxN, foxN, foxN_scale g c l k, foxT_scale]
    unfold scaleT; rw [List.map_append]
theorem foxL_scale (g c : Int) (l : List UInt8) : foxL g c l = scaleT c (foxL g 1 l) := foxN_scale g c l _
theorem coefAt_flat (s : ByteArray) {f h : Tm → List Tm} (hfh : ∀ t, coefAt s (f t) = coefAt s (h t)) : ∀ a : List Tm, coefAt s (a.flatMap f) = coefAt s (a.flatMap h)
  | [] => rfl
  | t :: r => by rw [List.flatMap_cons, List.flatMap_cons, coefAt_append, coefAt_append, hfh, coefAt_flat s hfh r]
theorem canonT_congr {a b : List Tm} (h : ∀ s, coefAt s a = coefAt s b) : canonT a = canonT b :=
  canonT_unique (canonT_spec a).1 fun s => by rw [(canonT_spec a).2, h]

/-- The terms of the derivative of a sum: as the program gathers them, and as the model does. -/
def foxI (g : Int) (a : List Tm) : List Tm := a.flatMap fun t => foxL g t.c t.s.data.toList
def foxM (g : Int) (a : List Tm) : List Tm := a.flatMap fun t => scaleT t.c (canonT (foxL g 1 t.s.data.toList))
theorem foxIM (g : Int) (a : List Tm) : canonT (foxM g a) = canonT (foxI g a) :=
  canonT_congr fun s => coefAt_flat s (fun t => by rw [coefAt_scale, (canonT_spec _).2, foxL_scale g t.c, coefAt_scale]) a

/-! ### Sizes -/
theorem fold_bound {C : Int} (hC : 0 ≤ C) : ∀ (ts acc : List Tm) (B : Int), 0 ≤ B → (∀ t ∈ ts, -C ≤ t.c ∧ t.c ≤ C) → (∀ u ∈ acc, -B ≤ u.c ∧ u.c ≤ B) → ∀ u ∈ ts.foldl addT acc, -(B + C * ts.length) ≤ u.c ∧ u.c ≤ B + C * ts.length
  | [], acc, B, _, _, h, u, hu => by have := h u hu; simpa using this
  | t :: r, acc, B, hB, ht, h, u, hu => by
    have h1 := fold_bound hC r (addT acc t) (B + C) (by omega) (fun v hv => ht v (by simp [hv])) (add_bound hC (ht t (by simp)) h hB) u hu
    rw [List.length_cons, show ((r.length + 1 : Nat) : Int) = (r.length : Int) + 1 by omega, Int.mul_add, Int.mul_one]
    omega
theorem fold_words : ∀ (ts acc : List Tm), ∀ u ∈ ts.foldl addT acc, (∃ v ∈ acc, v.s = u.s) ∨ ∃ v ∈ ts, v.s = u.s
  | [], acc, u, hu => .inl ⟨u, hu, rfl⟩
  | t :: r, acc, u, hu => by
    rcases fold_words r (addT acc t) u hu with ⟨v, hv, e⟩ | ⟨v, hv, e⟩
    · rcases add_words hv with h | ⟨x, hx, h⟩
      · exact .inr ⟨t, by simp, by rw [← h, e]⟩
      · exact .inl ⟨x, hx, by rw [h, e]⟩
    · exact .inr ⟨v, by simp [hv], e⟩
theorem canon_words {ts : List Tm} {u : Tm} (h : u ∈ canonT ts) : ∃ v ∈ ts, v.s = u.s := by
  rcases fold_words ts [] u h with ⟨v, hv, _⟩ | h
  · cases hv
  · exact h
theorem fold_len : ∀ (ts acc : List Tm), (ts.foldl addT acc).length ≤ acc.length + ts.length
  | [], acc => Nat.le_refl _
  | t :: r, acc => by
    have := fold_len r (addT acc t)
    have h2 := add_len t acc
    rw [List.length_cons]
    show (r.foldl addT (addT acc t)).length ≤ _
    omega
/-- A derivative of a word is a sum. -/
theorem fox_tw {g : Int} {l : List UInt8} (h : wordB l = true) : twB (canonT (foxL g 1 l)) = true := by
  have hl := ((wordB_iff _).1 h).1
  have hn := foxN_len g 1 l l.length
  have hlen : (canonT (foxL g 1 l)).length ≤ 60 := by
    have := fold_len (foxL g 1 l) []
    unfold foxL canonT at *
    simp only [List.length_nil] at this
    omega
  refine twB_of (by omega) fun j hj => ?_
  have hm := List.getElem_mem hj
  have hb := fold_bound (C := 1) (by omega) (foxL g 1 l) [] 0 (by omega) (fun t ht => (foxN_mem (C := 1) (by omega) (Nat.le_refl _) ht).1) (fun u hu => by cases hu) _ hm
  have hb2 : (foxL g 1 l).length ≤ 60 := by unfold foxL; omega
  obtain ⟨v, hv, e⟩ := canon_words hm
  obtain ⟨_, k, _, e2⟩ := foxN_mem (C := 1) (by omega) (Nat.le_refl _) hv
  unfold termB
  rw [← e, e2, bstr_toList, word_take h, Bool.true_and]
  unfold inR
  simp only [Bool.and_eq_true, decide_eq_true_eq]
  omega
theorem foxI_succ (g : Int) (a : List Tm) (k : Nat) (h : k < a.length) : foxI g (a.take (k + 1)) = foxI g (a.take k) ++ foxL g a[k].c a[k].s.data.toList := by
  unfold foxI; rw [List.take_succ_eq_append_getElem h, List.flatMap_append]; simp
theorem foxM_succ (g : Int) (a : List Tm) (k : Nat) (h : k < a.length) : foxM g (a.take (k + 1)) = foxM g (a.take k) ++ scaleT a[k].c (canonT (foxL g 1 a[k].s.data.toList)) := by
  unfold foxM; rw [List.take_succ_eq_append_getElem h, List.flatMap_append]; simp
theorem foxI_len (g : Int) : ∀ (a : List Tm), (∀ t ∈ a, t.s.size ≤ 60) → (foxI g a).length ≤ 60 * a.length
  | [], _ => by simp [foxI]
  | t :: r, h => by
    have ih := foxI_len g r fun u hu => h u (by simp [hu])
    have h1 := foxN_len g t.c t.s.data.toList t.s.data.toList.length
    have h2 := h t (by simp)
    unfold foxI foxL at *
    rw [List.flatMap_cons, List.length_append, List.length_cons]
    have h3 : t.s.data.toList.length = t.s.size := by simp
    omega
theorem foxI_mem {g : Int} {a : List Tm} (h : ∀ t ∈ a, t.s.size ≤ 60 ∧ -1000000 ≤ t.c ∧ t.c ≤ 1000000) {u : Tm} (hu : u ∈ foxI g a) : u.s.size ≤ 60 ∧ -1000000 ≤ u.c ∧ u.c ≤ 1000000 := by
  obtain ⟨t, ht, hu⟩ := List.mem_flatMap.1 hu
  obtain ⟨h1, h2⟩ := h t ht
  obtain ⟨h3, j, _, e⟩ := foxN_mem (C := 1000000) h2 (Nat.le_refl _) hu
  refine ⟨?_, h3⟩
  rw [e, bstr_size, List.length_take]
  have : t.s.data.toList.length = t.s.size := by simp
  omega

end Go.Proofs.Ytakfobihakbefaa

/- Monomials and series: what they are; the contracts of the model's 'l4Mono' and 'SeriesIn'. -/

namespace Go.Proofs.Ytakfobihakbefaa
open Go.RowKit

def genB (c : UInt8) : Bool := decide (97 ≤ c.toNat) && decide (c.toNat ≤ 100)
/-- Is this a monomial? -/
def monoB (s : ByteArray) : Bool := s.data.toList.all genB && decide (s.size ≤ 4)
theorem genB_false (s : ByteArray) (k : Nat) (hk : k < s.data.toList.length) (h : genB s.data.toList[k] = false) : monoB s = false := by
  unfold monoB; rw [List.all_eq_false.2 ⟨_, List.getElem_mem hk, by rw [h]; exact Bool.false_ne_true⟩]; rfl

/-- Is the term at j as a series wants it, beside the one ahead of it? -/
def serAt (ts : List Tm) (j : Nat) : Bool :=
  (ts.getD j default).c != 0 && inR (-1000000) 1000000 (ts.getD j default).c && monoB (ts.getD j default).s && (decide (j = 0) || lessW (ts.getD (j - 1) default).s (ts.getD j default).s)
def allSer (ts : List Tm) (n : Nat) : Bool := (List.range n).all (serAt ts)
theorem allSer_succ (ts : List Tm) (n : Nat) : allSer ts (n + 1) = (allSer ts n && serAt ts n) := by simp [allSer, List.range_succ]
theorem allSer_false (ts : List Tm) (n k : Nat) (hk : k < n) (h : serAt ts k = false) : allSer ts n = false :=
  List.all_eq_false.2 ⟨k, List.mem_range.2 hk, by simp [h]⟩
/-- Is this a series? -/
def serB (ts : List Tm) : Bool := allSer ts ts.length && decide (ts.length ≤ 400)

theorem serB_false (ts : List Tm) (k : Nat) (hk : k < ts.length) (h : serAt ts k = false) : serB ts = false := by
  unfold serB; rw [allSer_false ts _ k hk h, Bool.false_and]
theorem serAt_c (ts : List Tm) (k : Nat) (t : Tm) (ht : ts.getD k default = t) (h : t.c = 0) : serAt ts k = false := by
  unfold serAt; rw [ht, h]; rfl
theorem serAt_r (ts : List Tm) (k : Nat) (t : Tm) (ht : ts.getD k default = t) (h : inR (-1000000) 1000000 t.c = false) : serAt ts k = false := by
  unfold serAt; rw [ht, h]; simp
theorem serAt_w (ts : List Tm) (k : Nat) (t : Tm) (ht : ts.getD k default = t) (h : monoB t.s = false) : serAt ts k = false := by
  unfold serAt; rw [ht, h]; simp
theorem serAt_zero (ts : List Tm) (k : Nat) (t : Tm) (hk : k = 0) (ht : ts.getD k default = t) (h0 : ¬ t.c = 0) (h1 : inR (-1000000) 1000000 t.c = true) (h2 : monoB t.s = true) : serAt ts k = true := by
  unfold serAt; rw [ht, h1, h2]; simp [h0, hk]
theorem serAt_succ (ts : List Tm) (k : Nat) (t p : Tm) (hk : 0 < k) (ht : ts.getD k default = t) (hp : ts.getD (k - 1) default = p) (h0 : ¬ t.c = 0) (h1 : inR (-1000000) 1000000 t.c = true) (h2 : monoB t.s = true) : serAt ts k = lessW p.s t.s := by
  have h3 : ¬ k = 0 := by omega
  unfold serAt; rw [ht, hp, h1, h2]; simp [h0, h3]

end Go.Proofs.Ytakfobihakbefaa

/- Polynomials as lists of coefficients from a power on: trimmed ones, told by their coefficients. -/

namespace Go.Proofs.Ytakfobihakbefaa
open Go.RowKit

structure Pl where
  low : Int
  cs : List Int
/-- The coefficient of a power. -/
def pat (p : Pl) (k : Int) : Int := if p.low ≤ k then p.cs.getD (k - p.low).toNat 0 else 0
theorem pat_at (p : Pl) (i : Nat) : pat p (p.low + i) = p.cs.getD i 0 := by
  unfold pat
  rw [if_pos (by omega), show (p.low + (i : Int) - p.low).toNat = i by omega]
theorem pat_low (p : Pl) {k : Int} (h : k < p.low) : pat p k = 0 := by unfold pat; rw [if_neg (by omega)]
theorem getD_far {l : List Int} {i : Nat} (h : l.length ≤ i) : l.getD i 0 = 0 := by rw [List.getD_eq_getElem?_getD, List.getElem?_eq_none h]; rfl
theorem pat_high (p : Pl) {k : Int} (h : p.low + p.cs.length ≤ k) : pat p k = 0 := by
  unfold pat
  rw [if_pos (by omega)]
  exact getD_far (by omega)
theorem pat_nil (l k : Int) : pat ⟨l, []⟩ k = 0 := by unfold pat; split <;> rfl

/-- Neither end is 0; without coefficients the power is 0. -/
def Trim (p : Pl) : Prop := (p.cs = [] ∧ p.low = 0) ∨ (p.cs ≠ [] ∧ p.cs.getD 0 0 ≠ 0 ∧ p.cs.getD (p.cs.length - 1) 0 ≠ 0)
theorem getD_lt {l : List Int} {i : Nat} (h : l.getD i 0 ≠ 0) : i < l.length := by
  by_cases hi : i < l.length
  · exact hi
  · exact absurd (getD_far (by omega)) h
theorem pat_in {p : Pl} {k : Int} (h : pat p k ≠ 0) : p.low ≤ k ∧ k < p.low + p.cs.length := by
  by_cases h1 : k < p.low
  · exact absurd (pat_low p h1) h
  · by_cases h2 : p.low + p.cs.length ≤ k
    · exact absurd (pat_high p h2) h
    · omega
/-- There is just one trimmed polynomial with given coefficients. -/
theorem trim_unique {p q : Pl} (hp : Trim p) (hq : Trim q) (h : ∀ k, pat p k = pat q k) : p = q := by
  obtain ⟨lp, cp⟩ := p
  obtain ⟨lq, cq⟩ := q
  rcases hp with ⟨rfl, rfl⟩ | ⟨hp0, hp1, hp2⟩
  · rcases hq with ⟨rfl, rfl⟩ | ⟨hq0, hq1, hq2⟩
    · rfl
    · have h1 := h lq
      rw [pat_nil] at h1
      have h2 := pat_at ⟨lq, cq⟩ 0
      simp only [Int.natCast_zero, Int.add_zero] at h2
      exact absurd (h2.symm.trans h1.symm) hq1
  · rcases hq with ⟨rfl, rfl⟩ | ⟨hq0, hq1, hq2⟩
    · have h1 := h lp
      rw [pat_nil] at h1
      have h2 := pat_at ⟨lp, cp⟩ 0
      simp only [Int.natCast_zero, Int.add_zero] at h2
      exact absurd (h2.symm.trans h1) hp1
    · have a1 := pat_at ⟨lp, cp⟩ 0
      have a2 := pat_at ⟨lp, cp⟩ (cp.length - 1)
      have b1 := pat_at ⟨lq, cq⟩ 0
      have b2 := pat_at ⟨lq, cq⟩ (cq.length - 1)
      simp only [Int.natCast_zero, Int.add_zero] at a1 b1
      have lp0 := List.length_pos_iff.2 hp0
      have lq0 := List.length_pos_iff.2 hq0
      have c1 := pat_in (p := ⟨lq, cq⟩) (k := lp) (by rw [← h, a1]; exact hp1)
      have c2 := pat_in (p := ⟨lp, cp⟩) (k := lq) (by rw [h, b1]; exact hq1)
      have c3 := pat_in (p := ⟨lq, cq⟩) (k := lp + ((cp.length - 1 : Nat) : Int)) (by rw [← h, a2]; exact hp2)
      have c4 := pat_in (p := ⟨lp, cp⟩) (k := lq + ((cq.length - 1 : Nat) : Int)) (by rw [h, b2]; exact hq2)
      have c1 : lq ≤ lp := c1.1
      have c2 : lp ≤ lq := c2.1
      obtain rfl : lp = lq := by omega
      have c3 : lp + ((cp.length - 1 : Nat) : Int) < lp + cq.length := c3.2
      have c4 : lp + ((cq.length - 1 : Nat) : Int) < lp + cp.length := c4.2
      have hl : cp.length = cq.length := by omega
      congr 1
      refine List.ext_getElem hl fun i h1 h2 => ?_
      have e := h (lp + i)
      rw [pat_at ⟨lp, cp⟩ i, pat_at ⟨lp, cq⟩ i] at e
      simpa [List.getD_eq_getElem?_getD, List.getElem?_eq_getElem h1, List.getElem?_eq_getElem h2] using e

/-! ### Zeros at the ends -/
def zfrom : List Int → Nat
  | [] => 0
  | x :: r => if x = 0 then zfrom r + 1 else 0
theorem zfrom_le : ∀ l : List Int, zfrom l ≤ l.length
  | [] => Nat.le_refl _
  | x :: r => by rw [zfrom]; split <;> simp [zfrom_le r]
theorem zfrom_zero : ∀ (l : List Int) (i : Nat), i < zfrom l → l.getD i 0 = 0
  | [], _, h => absurd h (Nat.not_lt_zero _)
  | x :: r, i, h => by
    rw [zfrom] at h
    split at h
    · rename_i hx
      cases i with
      | zero => simpa using hx
      | succ i => simpa using zfrom_zero r i (by omega)
    · omega
theorem zfrom_head : ∀ l : List Int, zfrom l < l.length → l.getD (zfrom l) 0 ≠ 0
  | [], h => absurd h (Nat.not_lt_zero _)
  | x :: r, h => by
    rw [zfrom] at h ⊢
    split
    · rename_i hx
      rw [if_pos hx] at h
      simpa using zfrom_head r (by simpa using h)
    · rename_i hx
      simpa using hx
theorem zfrom_at {l : List Int} {k : Nat} (hk : k ≤ l.length) (hz : ∀ i, i < k → l.getD i 0 = 0) (hn : k < l.length → l.getD k 0 ≠ 0) : zfrom l = k := by
  have h1 := zfrom_le l
  by_cases h : zfrom l < k
  · exact absurd (hz _ h) (zfrom_head l (by omega))
  · by_cases h2 : k < zfrom l
    · exact absurd (zfrom_zero l k h2) (hn (by omega))
    · omega
def ztrim : List Int → List Int
  | [] => []
  | x :: r => match ztrim r with
    | [] => if x = 0 then [] else [x]
    | y :: s => x :: y :: s
theorem ztrim_get : ∀ (l : List Int) (i : Nat), (ztrim l).getD i 0 = l.getD i 0
  | [], _ => rfl
  | x :: r, i => by
    have ih := ztrim_get r
    rw [ztrim]
    cases h : ztrim r with
    | nil =>
      rw [h] at ih
      show (if x = 0 then ([] : List Int) else [x]).getD i 0 = _
      by_cases hx : x = 0
      · rw [if_pos hx]
        cases i with
        | zero => simp [hx]
        | succ i => have := ih i; simpa using this
      · rw [if_neg hx]
        cases i with
        | zero => simp
        | succ i => have := ih i; simpa using this
    | cons y s =>
      rw [h] at ih
      show (x :: y :: s).getD i 0 = _
      cases i with
      | zero => simp
      | succ i => have := ih i; simpa using this
theorem ztrim_last : ∀ l : List Int, ztrim l = [] ∨ (ztrim l).getD ((ztrim l).length - 1) 0 ≠ 0
  | [] => .inl rfl
  | x :: r => by
    rw [ztrim]
    rcases ztrim_last r with h | h
    · rw [h]
      show (if x = 0 then ([] : List Int) else [x]) = [] ∨ (if x = 0 then ([] : List Int) else [x]).getD ((if x = 0 then ([] : List Int) else [x]).length - 1) 0 ≠ 0
      by_cases hx : x = 0
      · rw [if_pos hx]; exact .inl rfl
      · rw [if_neg hx]; exact .inr (by simpa using hx)
    · cases hr : ztrim r with
      | nil => rw [hr] at h; exact absurd rfl h
      | cons y s =>
        rw [hr] at h
        right
        show (x :: y :: s).getD ((x :: y :: s).length - 1) 0 ≠ 0
        simpa using h
theorem ztrim_len : ∀ l : List Int, (ztrim l).length ≤ l.length
  | [] => Nat.le_refl _
  | x :: r => by
    have ih := ztrim_len r
    rw [ztrim]
    cases h : ztrim r with
    | nil =>
      show (if x = 0 then ([] : List Int) else [x]).length ≤ _
      split <;> simp
    | cons y s => rw [h] at ih; simpa using ih
theorem ztrim_snoc_zero : ∀ l : List Int, ztrim (l ++ [0]) = ztrim l
  | [] => rfl
  | x :: r => by rw [List.cons_append, ztrim, ztrim, ztrim_snoc_zero r]
theorem ztrim_snoc (x : Int) (hx : x ≠ 0) : ∀ l : List Int, ztrim (l ++ [x]) = l ++ [x]
  | [] => by show ztrim [x] = [x]; rw [ztrim]; show (if x = 0 then ([] : List Int) else [x]) = _; rw [if_neg hx]
  | y :: r => by
    rw [List.cons_append, ztrim, ztrim_snoc x hx r]
    cases r <;> rfl
/-- Without zeros at the ends. -/
def tidyP (low : Int) (l : List Int) : Pl := if ztrim (l.drop (zfrom l)) = [] then ⟨0, []⟩ else ⟨low + zfrom l, ztrim (l.drop (zfrom l))⟩
theorem tidy_trim (low : Int) (l : List Int) : Trim (tidyP low l) := by
  unfold tidyP
  split
  · exact .inl ⟨rfl, rfl⟩
  · rename_i h
    refine .inr ⟨h, ?_, ?_⟩
    · show (ztrim (l.drop (zfrom l))).getD 0 0 ≠ 0
      rw [ztrim_get]
      have hl : zfrom l < l.length := by
        by_cases hl : zfrom l < l.length
        · exact hl
        · rw [List.drop_of_length_le (by omega)] at h
          exact absurd rfl h
      have := zfrom_head l hl
      rw [List.getD_eq_getElem?_getD, List.getElem?_drop, Nat.add_zero, ← List.getD_eq_getElem?_getD]
      exact this
    · rcases ztrim_last (l.drop (zfrom l)) with h2 | h2
      · exact absurd h2 h
      · exact h2
theorem tidy_pat (low : Int) (l : List Int) (k : Int) : pat (tidyP low l) k = pat ⟨low, l⟩ k := by
  have hg : ∀ i, (ztrim (l.drop (zfrom l))).getD i 0 = l.getD (zfrom l + i) 0 := fun i => by
    rw [ztrim_get, List.getD_eq_getElem?_getD, List.getElem?_drop, ← List.getD_eq_getElem?_getD]
  have hlow : ∀ i, i < zfrom l → l.getD i 0 = 0 := zfrom_zero l
  unfold tidyP
  split
  · rename_i h
    rw [pat_nil]
    unfold pat
    split
    · show 0 = l.getD (k - low).toNat 0
      by_cases hi : (k - low).toNat < zfrom l
      · exact (hlow _ hi).symm
      · have e := hg ((k - low).toNat - zfrom l)
        rw [h, show zfrom l + ((k - low).toNat - zfrom l) = (k - low).toNat by omega] at e
        exact e
    · rfl
  · unfold pat
    show (if low + (zfrom l : Int) ≤ k then (ztrim (l.drop (zfrom l))).getD (k - (low + (zfrom l : Int))).toNat 0 else 0) = if low ≤ k then l.getD (k - low).toNat 0 else 0
    by_cases h1 : low + (zfrom l : Int) ≤ k
    · rw [if_pos h1, if_pos (by omega), hg, show zfrom l + (k - (low + (zfrom l : Int))).toNat = (k - low).toNat by omega]
    · rw [if_neg h1]
      by_cases h2 : low ≤ k
      · rw [if_pos h2, hlow _ (by omega)]
      · rw [if_neg h2]

/-! ### What is a polynomial -/
def coefIn (z : Int) : Bool := inR (-1000000000) 1000000000 z
def polyB (p : Pl) : Bool := p.cs.all coefIn && (if p.cs.length = 0 then decide (p.low = 0) else decide (p.cs.length ≤ 200) && (inR (-300) 300 p.low && (!(decide (p.cs.getD 0 0 = 0)) && !(decide (p.cs.getD (p.cs.length - 1) 0 = 0)))))
theorem polyB_trim {p : Pl} (h : polyB p = true) : Trim p ∧ p.cs.length ≤ 200 ∧ -300 ≤ p.low ∧ p.low ≤ 300 ∧ ∀ i, -1000000000 ≤ p.cs.getD i 0 ∧ p.cs.getD i 0 ≤ 1000000000 := by
  unfold polyB at h
  rw [Bool.and_eq_true] at h
  obtain ⟨h1, h2⟩ := h
  have hc : ∀ i, -1000000000 ≤ p.cs.getD i 0 ∧ p.cs.getD i 0 ≤ 1000000000 := fun i => by
    by_cases hi : i < p.cs.length
    · have := List.all_eq_true.1 h1 _ (List.getElem_mem hi)
      unfold coefIn inR at this
      simp only [Bool.and_eq_true, decide_eq_true_eq] at this
      rw [List.getD_eq_getElem?_getD, List.getElem?_eq_getElem hi]
      exact this
    · rw [getD_far (by omega)]; omega
  by_cases h0 : p.cs.length = 0
  · rw [if_pos h0, decide_eq_true_eq] at h2
    exact ⟨.inl ⟨List.length_eq_zero_iff.1 h0, h2⟩, by omega, by omega, by omega, hc⟩
  · rw [if_neg h0] at h2
    unfold inR at h2
    simp only [Bool.and_eq_true, decide_eq_true_eq, Bool.not_eq_true', decide_eq_false_iff_not] at h2
    exact ⟨.inr ⟨fun e => h0 (by rw [e]; rfl), h2.2.2.1, h2.2.2.2⟩, h2.1, h2.2.1.1, h2.2.1.2, hc⟩

end Go.Proofs.Ytakfobihakbefaa

/- Sums, products, turned and plain polynomials, told by their coefficients. -/

namespace Go.Proofs.Ytakfobihakbefaa
open Go.RowKit

/-- Coefficients from a power on, so many. -/
def listP (f : Int → Int) (low : Int) (n : Nat) : List Int := (List.range n).map fun i : Nat => f (low + (i : Int))
theorem listP_len (f : Int → Int) (low : Int) (n : Nat) : (listP f low n).length = n := by simp [listP]
theorem listP_get (f : Int → Int) (low : Int) (n i : Nat) (h : i < n) : (listP f low n).getD i 0 = f (low + i) := by
  rw [List.getD_eq_getElem?_getD, List.getElem?_eq_getElem (by rw [listP_len]; exact h)]
  simp [listP]
theorem listP_pat {f : Int → Int} {low : Int} {n : Nat} (h1 : ∀ k, k < low → f k = 0) (h2 : ∀ k, low + n ≤ k → f k = 0) (k : Int) : pat ⟨low, listP f low n⟩ k = f k := by
  unfold pat
  show (if low ≤ k then (listP f low n).getD (k - low).toNat 0 else 0) = f k
  by_cases h : low ≤ k
  · rw [if_pos h]
    by_cases hk : (k - low).toNat < n
    · rw [listP_get f low n _ hk, show low + (((k - low).toNat : Nat) : Int) = k by omega]
    · rw [getD_far (by rw [listP_len]; omega), h2 k (by omega)]
  · rw [if_neg h, h1 k (by omega)]

/-! ### Sums -/
def sumLow (a b : Pl) : Int := if a.cs.length = 0 then b.low else (if b.low ≤ a.low then b.low else a.low)
def sumHigh (a b : Pl) : Int := if a.cs.length = 0 then b.low + b.cs.length else (if a.low + a.cs.length ≤ b.low + b.cs.length then b.low + b.cs.length else a.low + a.cs.length)
def sumF (a : Pl) (n : Int) (b : Pl) (k : Int) : Int := pat a k + n * pat b k
/-- The first one and so many times the second one. -/
def sumP (a : Pl) (n : Int) (b : Pl) : Pl := if b.cs.length = 0 then a else tidyP (sumLow a b) (listP (sumF a n b) (sumLow a b) (sumHigh a b - sumLow a b).toNat)
theorem pat_none {p : Pl} (h : p.cs.length = 0) (k : Int) : pat p k = 0 := by
  unfold pat
  rw [List.length_eq_zero_iff.1 h]
  split <;> rfl
theorem sum_pat (a : Pl) (n : Int) (b : Pl) (k : Int) : pat (sumP a n b) k = pat a k + n * pat b k := by
  unfold sumP
  by_cases hb : b.cs.length = 0
  · rw [if_pos hb, pat_none hb, Int.mul_zero, Int.add_zero]
  · rw [if_neg hb, tidy_pat]
    have hlow : sumLow a b ≤ b.low ∧ (a.cs.length = 0 ∨ sumLow a b ≤ a.low) := by
      unfold sumLow
      split
      · exact ⟨Int.le_refl _, .inl (by assumption)⟩
      · split
        · exact ⟨Int.le_refl _, .inr (by assumption)⟩
        · exact ⟨by omega, .inr (Int.le_refl _)⟩
    have hhigh : b.low + b.cs.length ≤ sumHigh a b ∧ (a.cs.length = 0 ∨ a.low + a.cs.length ≤ sumHigh a b) := by
      unfold sumHigh
      split
      · exact ⟨Int.le_refl _, .inl (by assumption)⟩
      · split
        · exact ⟨Int.le_refl _, .inr (by assumption)⟩
        · exact ⟨by omega, .inr (Int.le_refl _)⟩
    refine listP_pat (f := sumF a n b) (fun k hk => ?_) (fun k hk => ?_) k
    · unfold sumF
      rw [pat_low b (by omega), Int.mul_zero, Int.add_zero]
      rcases hlow.2 with h | h
      · exact pat_none h k
      · exact pat_low a (by omega)
    · unfold sumF
      rw [pat_high b (by omega), Int.mul_zero, Int.add_zero]
      rcases hhigh.2 with h | h
      · exact pat_none h k
      · exact pat_high a (by omega)
theorem sum_trim {a : Pl} (n : Int) (b : Pl) (ha : Trim a) : Trim (sumP a n b) := by
  unfold sumP
  split
  · exact ha
  · exact tidy_trim _ _

/-! ### Products -/
/-- The sum of the products whose places add up to i, the first one's place below m. -/
def convN (x y : List Int) (i : Nat) : Nat → Int
  | 0 => 0
  | m + 1 => convN x y i m + (if m ≤ i then x.getD m 0 * y.getD (i - m) 0 else 0)
def convL (x y : List Int) : List Int := (List.range (x.length + y.length - 1)).map fun i => convN x y i x.length
theorem convL_len (x y : List Int) : (convL x y).length = x.length + y.length - 1 := by simp [convL]
theorem convL_get (x y : List Int) (i : Nat) (h : i < x.length + y.length - 1) : (convL x y).getD i 0 = convN x y i x.length := by
  rw [List.getD_eq_getElem?_getD, List.getElem?_eq_getElem (by rw [convL_len]; exact h)]
  simp [convL]
/-- Only places from one on count. -/
theorem convN_from (x y : List Int) (i : Nat) : ∀ m, m + y.length ≤ i + 1 → convN x y i m = 0
  | 0, _ => rfl
  | m + 1, h => by
    rw [convN, convN_from x y i m (by omega)]
    by_cases h2 : m ≤ i
    · rw [if_pos h2, getD_far (l := y) (by omega), Int.mul_zero]; rfl
    · rw [if_neg h2]; rfl
theorem convN_stop (x y : List Int) (i : Nat) : ∀ m, convN x y i (i + 1 + m) = convN x y i (i + 1)
  | 0 => rfl
  | m + 1 => by rw [show i + 1 + (m + 1) = i + 1 + m + 1 by omega, convN, if_neg (by omega), convN_stop x y i m, Int.add_zero]
theorem convN_far (x y : List Int) (i : Nat) : ∀ m, convN x y i (x.length + m) = convN x y i x.length
  | 0 => rfl
  | m + 1 => by
    rw [show x.length + (m + 1) = x.length + m + 1 by omega, convN, convN_far x y i m, getD_far (l := x) (by omega), Int.zero_mul]
    split <;> exact Int.add_zero _
/-- The product, its coefficients of whatever size. -/
def prodP (a b : Pl) : Pl := if a.cs.length = 0 ∨ b.cs.length = 0 then ⟨0, []⟩ else tidyP (a.low + b.low) (convL a.cs b.cs)
theorem prod_trim (a b : Pl) : Trim (prodP a b) := by
  unfold prodP
  split
  · exact .inl ⟨rfl, rfl⟩
  · exact tidy_trim _ _

/-! ### Turned and plain ones -/
def turnP (a : Pl) : Pl := tidyP (1 - a.low - a.cs.length) a.cs.reverse
theorem turn_pat (a : Pl) (k : Int) : pat (turnP a) k = pat a (-k) := by
  unfold turnP
  rw [tidy_pat]
  by_cases h1 : -k < a.low
  · rw [pat_low a h1]
    exact pat_high _ (by show 1 - a.low - a.cs.length + ((a.cs.reverse.length : Nat) : Int) ≤ k; rw [List.length_reverse]; omega)
  · by_cases h2 : a.low + a.cs.length ≤ -k
    · rw [pat_high a h2]
      exact pat_low _ (by show k < 1 - a.low - a.cs.length; omega)
    · have e1 := pat_at a (-k - a.low).toNat
      have e2 := pat_at ⟨1 - a.low - a.cs.length, a.cs.reverse⟩ (k - (1 - a.low - a.cs.length)).toNat
      rw [show a.low + ((-k - a.low).toNat : Int) = -k by omega] at e1
      rw [show (1 - a.low - (a.cs.length : Int)) + ((k - (1 - a.low - (a.cs.length : Int))).toNat : Int) = k by omega] at e2
      rw [e1, e2]
      show a.cs.reverse.getD _ 0 = a.cs.getD _ 0
      rw [List.getD_eq_getElem?_getD, List.getD_eq_getElem?_getD, List.getElem?_reverse (by omega), show a.cs.length - 1 - (k - (1 - a.low - (a.cs.length : Int))).toNat = (-k - a.low).toNat by omega]
def plainP (a : Pl) : Pl := if a.cs.length = 0 then a else ⟨0, a.cs.map fun z => (if a.cs.getD 0 0 < 0 then -1 else 1) * z⟩
/-- The value at 1. -/
def oneP (l : List Int) : Nat → Int
  | 0 => 0
  | k + 1 => oneP l k + l.getD k 0

end Go.Proofs.Ytakfobihakbefaa

/- Slices of ints that came in; polynomials in memory; a polynomial that came in, opened. -/

namespace Go.Proofs.Ytakfobihakbefaa
open Go.RowKit Go.ChangeShapes Go.WideShapes

/-- The first n ints of a slice at a, anywhere. -/
structure Ints (w : World) (a : Option Addr) (n : Nat) (zs : List Int) : Prop where
  len : zs.length = n
  max : n ≤ maxLen
  at_ : 0 < n → ∃ x, a = some x ∧ x.block < w.heap.size ∧ ∀ j (h : j < zs.length), w.cell? (x.add j) = some (.int .i64 zs[j])
  wf : ∀ z ∈ zs, -9223372036854775808 ≤ z ∧ z ≤ 9223372036854775807
theorem Ints.below {w w' : World} {a : Option Addr} {n : Nat} {zs : List Int} (h : Ints w a n zs) (hb : Below w.heap.size w w') : Ints w' a n zs :=
  ⟨h.len, h.max, fun h0 => by
    obtain ⟨x, e, hg, hc⟩ := h.at_ h0
    exact ⟨x, e, Nat.lt_of_lt_of_le hg hb.size, fun j hj => (hb.cell (p := x.add j) (by rw [addr_add_block]; exact hg)).trans (hc j hj)⟩, h.wf⟩
theorem IntRow.read {base : Nat} {w : World} {v : Value} {zs : List Int} (h : IntRow base w v zs) (hw : ∀ z ∈ zs, -9223372036854775808 ≤ z ∧ z ≤ 9223372036854775807) : ∃ a cap, v = .slice a zs.length cap ∧ Ints w a zs.length zs := by
  obtain ⟨a, g, cap, rfl, h1, h2, h3⟩ := h.shape
  refine ⟨a, cap, rfl, rfl, h2, fun h0 => ⟨⟨g, 0, none⟩, (h1 h0).1, (h1 h0).2.2, fun j hj => ?_⟩, hw⟩
  have e : (⟨g, 0, none⟩ : Addr).add j = ⟨g, j, none⟩ := by unfold Addr.add; split <;> simp_all
  rw [e]
  exact (h3 j hj).1
theorem ints_of {H : Type} {enc : TypeId × Value → H} {W : World} {base : Nat} {spare : Nat → Bool} {held : Bool} {fuel : Nat} {a : Option Addr} {len cap : Nat} {x : DataW H × List MemPlace}
    (h : DataW.trod enc Try.prog W base spare held fuel 23 [.slice a len cap] = some x) : ∃ zs, Ints W a len zs := by
  rcases Go.ChangeShapes.open_ints Try.underlying23 Try.underlying3 (by kernel_rfl) h with ⟨hcs, _⟩ | ⟨y, l, c, zs, hcs, hb, hl, hm, hz, _, hx, hwf⟩
  · simp at hcs
    obtain ⟨rfl, rfl, rfl⟩ := hcs
    exact ⟨[], rfl, Nat.zero_le _, fun h => absurd h (Nat.lt_irrefl _), fun z h => by cases h⟩
  · simp at hcs
    obtain ⟨rfl, rfl, rfl⟩ := hcs
    have hlz : len ≤ zs.length := by rw [hz]; split <;> omega
    refine ⟨zs.take len, by rw [List.length_take]; omega, by omega, fun h0 => ⟨y, rfl, ?_, fun j hj => ?_⟩, fun z hzm => ?_⟩
    · have := World.block_lt_of_cell? _ _ (hx 0 (by omega))
      rwa [addr_add_block] at this
    · rw [List.length_take] at hj
      rw [hx j (by omega), List.getD_eq_getElem?_getD, List.getElem?_eq_getElem (by omega), List.getElem_take]; rfl
    · have h2 := hwf z (List.mem_of_mem_take hzm)
      simp only [Lit.wf, Bool.and_eq_true, decide_eq_true_eq] at h2
      exact ⟨h2.1, h2.2⟩
/-- The value of a polynomial. -/
abbrev plV (low : Int) (v : Value) : Value := .agg #[.int .i64 low, v]
theorem poly_of {H : Type} {enc : TypeId × Value → H} {W : World} {base : Nat} {spare : Nat → Bool} {held : Bool} {fuel : Nat} {cs : Array Value} {x : DataW H × List MemPlace}
    (h : DataW.trod enc Try.prog W base spare held fuel 50 cs.toList = some x) : ∃ (low : Int) (a : Option Addr) (len cap : Nat) (zs : List Int), cs = #[.int .i64 low, .slice a len cap] ∧ (-9223372036854775808 ≤ low ∧ low ≤ 9223372036854775807) ∧ Ints W a len zs := by
  obtain ⟨y0, y1, n, rfl, hl, h0, h1⟩ := trod_struct2 Try.underlying50 h
  have hc : cs.toList.length = 2 := hl.trans (by kernel_rfl)
  match hcs : cs.toList, hc with
  | [u, v], _ =>
    rw [hcs] at h0 h1
    obtain ⟨k, hk, _, hwf⟩ := DataW.trod_int Try.underlying3 h0
    have hu : u = .int .i64 k := by simpa [show Try.prog.cellsOf 3 = 1 by kernel_rfl] using hk
    have h1' : DataW.trod enc Try.prog W base spare held n 23 [v] = some y1 := by simpa [show Try.prog.cellsOf 23 = 1 by kernel_rfl] using h1
    obtain ⟨a, len, cap, hv⟩ : ∃ a len cap, v = .slice a len cap := by
      rcases Go.ChangeShapes.open_ints Try.underlying23 Try.underlying3 (by kernel_rfl) h1' with ⟨hcs, _⟩ | ⟨y, l, c, zs, hcs, _⟩
      · exact ⟨none, 0, 0, by simpa using hcs⟩
      · exact ⟨some y, l, c, by simpa using hcs⟩
    subst hv
    obtain ⟨zs, hz⟩ := ints_of h1'
    simp only [Lit.wf, Bool.and_eq_true, decide_eq_true_eq] at hwf
    exact ⟨k, a, len, cap, zs, by rw [← hu]; exact Array.toList_inj.1 hcs, ⟨hwf.1, hwf.2⟩, hz⟩

end Go.Proofs.Ytakfobihakbefaa

/- The laws' own helpers for ints and polynomials: szIntS, szPoly, toIntS, toPoly, eqPoly, markPoly, heldPoly. -/

namespace Go.Proofs.Ytakfobihakbefaa
open Go.RowKit

set_option maxHeartbeats 1000000 in
theorem szIntS_any (a : Option Addr) (cap n left : Nat) (w : World) (hm : n ≤ maxLen) (hl : left ≤ 1048576) :
    Calls Try.prog 111 #[.slice a n cap, .int .i64 left] w fun e w' => (∃ k : Int, e = .returned (.int .i64 k) ∧ (k < 0 ∨ (n ≤ left ∧ k = ((left - n : Nat) : Int)))) ∧ w' = w := by
  unfold maxLen at hm
  have hwr : IntKind.i64.wrap ((left : Int) - (n : Int)) = (left : Int) - (n : Int) := IntWalk.i64_in _ (by omega)
  by_cases h : n ≤ left
  · obtain ⟨q, hq⟩ : ∃ q : Nat, left - n = q := ⟨_, rfl⟩
    have hqi : (left : Int) - (n : Int) = (q : Int) := by omega
    rw [hqi] at hwr
    have hd : decide ((q : Int) < 0) = false := decide_eq_false (by omega)
    go_enter Try.func111, Try.ntmps111
    go_wp2
    go_ret
    exact ⟨⟨_, rfl, .inr ⟨h, by rw [hq]⟩⟩, rfl⟩
  · have hlt : (left : Int) - (n : Int) < 0 := by omega
    have hd : decide ((left : Int) - (n : Int) < 0) = true := decide_eq_true hlt
    go_enter Try.func111, Try.ntmps111
    go_wp2
    go_ret
    exact ⟨⟨_, rfl, .inl (by omega)⟩, rfl⟩

set_option maxHeartbeats 1000000 in
theorem szPoly_any (low : Int) (a : Option Addr) (cap n left : Nat) (w : World) (hm : n ≤ maxLen) (hl : left ≤ 1048576) :
    Calls Try.prog 58 #[plV low (.slice a n cap), .int .i64 left] w fun e w' => (∃ k : Int, e = .returned (.int .i64 k) ∧ (k < 0 ∨ (n ≤ left ∧ k = ((left - n : Nat) : Int)))) ∧ Below w.heap.size w w' := by
  go_enter Try.func58, Try.ntmps58
  go_wp2_with fail
  refine (szIntS_any a cap n left _ hm hl).mono ?_
  rintro e w1 ⟨⟨k, rfl, hk⟩, rfl⟩
  by_cases h0 : k < 0
  · have hd : decide (k < 0) = true := decide_eq_true h0
    clear hk
    go_wp2
    go_ret
    exact ⟨⟨_, rfl, .inl (by omega)⟩, (Below.refl _ w).alloc (Nat.le_refl _) _⟩
  · have hd : decide (k < 0) = false := decide_eq_false h0
    have HK := Lib.hid hk
    clear hk
    go_wp2
    go_ret
    exact ⟨⟨_, rfl, HK.out⟩, (Below.refl _ w).alloc (Nat.le_refl _) _⟩

theorem fillI_set (zs : List Int) (n k : Nat) (hl : zs.length = n) (hk : k < n) :
    (intsV (zs.take k ++ List.replicate (n - k) 0)).set k (.int .i64 (zs[k]'(by omega))) = intsV (zs.take (k + 1) ++ List.replicate (n - (k + 1)) 0) := by
  unfold intsV
  rw [List.map_append, List.set_append_right _ _ (by simp; omega), List.length_map, List.length_take, Nat.min_eq_left (by omega), Nat.sub_self, List.take_succ_eq_append_getElem (by omega : k < zs.length), show n - k = (n - (k + 1)) + 1 by omega, List.replicate_succ, List.map_cons, List.set_cons_zero, List.map_append, List.map_append, List.append_assoc]
  rfl

set_option maxRecDepth 100000 in
set_option maxHeartbeats 1000000 in
theorem toIntS_any (a : Option Addr) (cap n : Nat) (zs : List Int) (w : World) (hm : n ≤ 1048576) (hs : Ints w a n zs) :
    Calls Try.prog 112 #[.slice a n cap] w fun e w' =>
      e = .returned (.slice (some ⟨w.heap.size, 0, none⟩) n n) ∧ IntRow w.heap.size w' (.slice (some ⟨w.heap.size, 0, none⟩) n n) zs ∧ Below w.heap.size w w' := by
  obtain ⟨i0, hi, hz0, hz1, hz2⟩ := info_parts infoInt
  have HN := Lib.hid hs.len
  have HS := Lib.hid hs
  unfold IntRow
  rw [hs.len]
  clear hs
  go_enter Try.func112, Try.ntmps112
  go_wp2_with (at_make; refine wpList_make_full _ rfl _ _ 23 rfl w.heap.size 3 i0 (.int .i64 0) 1 Try.underlying23 hi hz0 hz1 .i64 .i64 _ _ n rfl rfl rfl rfl (by rw [hz2]; omega) (by unfold maxLen; omega) (Nat.le_refl _) ?_; intro w1 hrow hgrow)
  rw [show (madeCells (Value.cells (.int .i64 0)) (n * 1)).toList = intsV (zs.take 0 ++ List.replicate (n - 0) 0) by
    rw [show Value.cells (.int .i64 0) = #[.int .i64 0] from rfl, toList_madeCells_one]; simp [intsV]] at hrow
  have hB1 : Below w.heap.size w w1 := (Below.refl _ _).grown hgrow (Nat.le_refl _) (fun k e => by cases e)
  go_loopw [4] (fun i wr => ∃ k : Nat, k ≤ n ∧ i = .int .i64 k ∧ wr.ownsRow w.heap.size 3 1 (.slice (some ⟨w.heap.size, 0, none⟩) n n) n (intsV (zs.take k ++ List.replicate (n - k) 0)) ∧ Below w.heap.size w wr)
    (fun i _ => n - (intOf i).toNat)
  case atStart => exact ⟨0, Nat.zero_le _, rfl, hrow, hB1⟩
  case round =>
    obtain ⟨k, hk, rfl, hr, hB⟩ := hrel
    by_cases hlt : k < n
    · have hkz : k < zs.length := by rw [HN.out]; exact hlt
      obtain ⟨x, rfl, hb, hc⟩ := HS.out.at_ (by omega)
      obtain ⟨s, hs⟩ : ∃ s, zs[k] = s := ⟨_, rfl⟩
      have hsrc : wr.cell? (x.add k) = some (.int .i64 s) := by rw [← hs]; exact (hB.cell (p := x.add k) (by rw [addr_add_block]; exact hb)).trans (hc k hkz)
      have hfil := fillI_set zs n k HN.out hlt
      rw [hs] at hfil
      have hdst : wr.cell? ⟨w.heap.size, k, none⟩ = some (.int .i64 0) := by
        rw [hr.cellAt k (by omega)]
        simp only [intsV, List.getElem?_map]
        rw [List.getElem?_append_right (by simp; omega), List.getElem?_replicate]
        simp
        omega
      have hfr := hr.frozenAt k
      have HR := Lib.hid hr
      have HF := Lib.hid hfil
      have HE := Lib.hid hs
      clear hr hfil hs hc
      go_wp2
      go_roundw
      case rel =>
        have hst := HR.out.stored k (.int .i64 s)
        refine ⟨k + 1, by omega, by go_num, ?_, hB.setCell (p := ⟨w.heap.size, k, none⟩) (Nat.le_refl _) _⟩
        rw [← HF.out]
        exact hst.1
      case measure => simp [intOf]; omega
    · obtain rfl : k = n := by omega
      rw [Nat.sub_self, List.replicate_zero, List.append_nil, List.take_of_length_le (by rw [HN.out]; exact Nat.le_refl _)] at hr
      have HR := Lib.hid hr
      clear hr hrow
      go_wp2
      go_ret
      exact ⟨rfl, HR.out, hB⟩

set_option maxRecDepth 100000 in
set_option maxHeartbeats 2000000 in
theorem toPoly_any (low : Int) (a : Option Addr) (cap n : Nat) (zs : List Int) (w : World) (hm : n ≤ 1048576) (hs : Ints w a n zs) :
    Calls Try.prog 59 #[plV low (.slice a n cap)] w fun e w' => (∃ g, e = .returned (plV low (.slice (some ⟨g, 0, none⟩) n n)) ∧ w.heap.size ≤ g ∧ IntRow w.heap.size w' (.slice (some ⟨g, 0, none⟩) n n) zs) ∧ Below w.heap.size w w' := by
  obtain ⟨W, hW⟩ : ∃ W, ((w.alloc (.cells #[.int .i64 low, .slice a n cap] 50)).alloc (.cells #[.int .i64 0, .slice none 0 0] 25)).alloc (.cells #[.int .i64 low, .slice none 0 0] 25) = W := ⟨_, rfl⟩
  have hsz : W.heap.size = w.heap.size + 3 := by rw [← hW]; simp
  have hbW : Below w.heap.size w W := by rw [← hW]; exact (((Below.refl _ w).alloc (Nat.le_refl _) _).alloc (by simp) _).alloc (by simp; omega) _
  have hk2 : W.heap[w.heap.size + 1 + 1]? = some (.cells #[.int .i64 low, .slice none 0 0] 25 (0, 0)) := by
    have h := World.alloc_heap_new ((w.alloc (.cells #[.int .i64 low, .slice a n cap] 50)).alloc (.cells #[.int .i64 0, .slice none 0 0] 25)) (.cells #[.int .i64 low, .slice none 0 0] 25)
    rw [hW, World.size_alloc, World.size_alloc] at h
    exact h
  have hk1 : W.heap[w.heap.size + 1]? = some (.cells #[.int .i64 0, .slice none 0 0] 25 (0, 0)) := by
    have h := World.alloc_heap_new (w.alloc (.cells #[.int .i64 low, .slice a n cap] 50)) (.cells #[.int .i64 0, .slice none 0 0] 25)
    have g := World.grownBy_alloc ((w.alloc (.cells #[.int .i64 low, .slice a n cap] 50)).alloc (.cells #[.int .i64 0, .slice none 0 0] 25)) (.cells #[.int .i64 low, .slice none 0 0] 25) none
    rw [hW] at g
    rw [World.size_alloc] at h
    exact (g.block (w.heap.size + 1) (by simp) (by simp)).trans h
  have HT := Lib.hid (toIntS_any a cap n zs W hm (hs.below hbW))
  have HBW := Lib.hid hbW
  have HK1 := Lib.hid hk1
  have HK2 := Lib.hid hk2
  have HW := Lib.hid hW
  clear hs hbW hk1 hk2 hW
  go_enter Try.func59, Try.ntmps59
  go_wp2_with fail
  rw [HW.out]
  refine HT.out.mono ?_
  rintro e w1 ⟨rfl, hr1, hb1⟩
  have h1 := (hb1.block (w.heap.size + 1) (by omega)).trans HK1.out
  have h2 := (hb1.block (w.heap.size + 1 + 1) (by omega)).trans HK2.out
  have d0 : w1.cell? ⟨w.heap.size + 1 + 1, 0, none⟩ = some (.int .i64 low) := by simp [World.cell?, h2]
  have d1 : w1.cell? ⟨w.heap.size + 1 + 1, 1, none⟩ = some (.slice none 0 0) := by simp [World.cell?, h2]
  have f0 : w1.frozen? ⟨w.heap.size + 1 + 1, 0, none⟩ = false := by simp [World.frozen?, h2]
  have f1 : w1.frozen? ⟨w.heap.size + 1 + 1, 1, none⟩ = false := by simp [World.frozen?, h2]
  have e0 : w1.cell? ⟨w.heap.size + 1, 0, none⟩ = some (.int .i64 0) := by simp [World.cell?, h1]
  have e1 : w1.cell? ⟨w.heap.size + 1, 1, none⟩ = some (.slice none 0 0) := by simp [World.cell?, h1]
  have g0 : w1.frozen? ⟨w.heap.size + 1, 0, none⟩ = false := by simp [World.frozen?, h1]
  have g1 : w1.frozen? ⟨w.heap.size + 1, 1, none⟩ = false := by simp [World.frozen?, h1]
  have HR := Lib.hid hr1
  have HB1 := Lib.hid (HBW.out.trans (hb1.mono HBW.out.size))
  clear hr1 hb1 h1 h2
  go_wp2
  have q1 : w.heap.size + 1 < W.heap.size := by omega
  have q2 : w.heap.size + 1 + 1 < W.heap.size := by omega
  have r1 : w.heap.size ≤ w.heap.size + 1 := by omega
  have r2 : w.heap.size ≤ w.heap.size + 1 + 1 := by omega
  have hR3 := ownsRow_setCell_below (ownsRow_setCell_below (ownsRow_setCell_below HR.out (a := ⟨w.heap.size + 1 + 1, 1, none⟩) q2 (.slice (some ⟨w.heap.size + 3, 0, none⟩) n n)) (a := ⟨w.heap.size + 1, 0, none⟩) q1 (.int .i64 low)) (a := ⟨w.heap.size + 1, 1, none⟩) q1 (.slice (some ⟨w.heap.size + 3, 0, none⟩) n n)
  have hB3 := ((HB1.out.setCell (p := ⟨w.heap.size + 1 + 1, 1, none⟩) r2 (.slice (some ⟨w.heap.size + 3, 0, none⟩) n n)).setCell (p := ⟨w.heap.size + 1, 0, none⟩) r1 (.int .i64 low)).setCell (p := ⟨w.heap.size + 1, 1, none⟩) r1 (.slice (some ⟨w.heap.size + 3, 0, none⟩) n n)
  rw [hsz] at hR3
  refine bodyPost_ret (v := plV low (.slice (some ⟨w.heap.size + 3, 0, none⟩) n n)) ?_ rfl ⟨⟨w.heap.size + 3, rfl, by omega, IntRow.mono hR3 (by omega)⟩, hB3⟩
  simp [results, Try.results59, go_sem, e0, e1, plV]

set_option maxHeartbeats 2000000 in
theorem eqPoly_yes (b1 b2 : Nat) (low : Int) (v1 v2 : Value) (zs : List Int) (w : World) (h1 : IntRow b1 w v1 zs) (h2 : IntRow b2 w v2 zs) :
    Calls Try.prog 60 #[plV low v1, plV low v2] w fun e w' => e = .returned (.bool true) ∧ Below w.heap.size w w' := by
  have hb : Below w.heap.size w ((w.alloc (.cells #[.int .i64 low, v1] 25)).alloc (.cells #[.int .i64 low, v2] 25)) := ((Below.refl _ w).alloc (Nat.le_refl _) _).alloc (by simp) _
  have H1 := Lib.hid (h1.below hb)
  have H2 := Lib.hid (h2.below hb)
  have HB := Lib.hid hb
  clear h1 h2 hb
  go_enter Try.func60, Try.ntmps60
  go_wp2_with fail
  refine (eqIntS_yes b1 b2 v1 v2 zs _ H1.out H2.out).mono ?_
  rintro e w1 ⟨rfl, hb1⟩
  have HB1 := Lib.hid (HB.out.trans (hb1.mono HB.out.size))
  clear hb1
  go_wp2
  go_ret
  exact ⟨rfl, HB1.out⟩

end Go.Proofs.Ytakfobihakbefaa

/- The laws' own marks in polynomials: markPoly, heldPoly. -/

namespace Go.Proofs.Ytakfobihakbefaa
open Go.RowKit

set_option maxRecDepth 100000 in
set_option maxHeartbeats 2000000 in
theorem markPoly_any (base : Nat) (low : Int) (v : Value) (zs : List Int) (k : Nat) (w : World) (h : IntRow base w v zs) (hb : base ≤ w.heap.size) (hk : k ≤ 1000000000000) (hn2 : zs.length ≤ 1000000000000) :
    Calls Try.prog 61 #[plV low v, .int .i64 k] w fun e w' => e = .returned (.int .i64 ((k + zs.length : Nat) : Int)) ∧ IntRow base w' v (marks k zs.length) ∧ Below base w w' := by
  have hbW : Below w.heap.size w (w.alloc (.cells #[.int .i64 low, v] 25)) := (Below.refl _ w).alloc (Nat.le_refl _) _
  have HM := Lib.hid (markIntS_any base v zs k _ (h.below hbW) hk hn2)
  have HO : Hid (∀ j, v.ownBlock = some j → base ≤ j) := Lib.hid fun j e => by
    rcases h.2 with ⟨rfl, _⟩ | ⟨g, cap, cur, rfl, hg, _⟩
    · cases e
    · simp [Value.ownBlock] at e
      omega
  have HB := Lib.hid (hbW.mono hb)
  clear h hbW
  go_enter Try.func61, Try.ntmps61
  go_wp2_with fail
  refine HM.out.mono ?_
  rintro e w1 ⟨rfl, hr, hg⟩
  have HR := Lib.hid hr
  have HG := Lib.hid (HB.out.grown hg (by simp; omega) HO.out)
  clear hr hg
  go_wp2
  go_ret
  exact ⟨rfl, HR.out, HG.out⟩

set_option maxRecDepth 100000 in
set_option maxHeartbeats 2000000 in
theorem heldPoly_any (base : Nat) (low : Int) (v : Value) (n k : Nat) (w : World) (h : IntRow base w v (marks k n)) (hk : k ≤ 1000000000000) (hn2 : n ≤ 1000000000000) :
    Calls Try.prog 62 #[plV low v, .int .i64 k] w fun e w' => e = .returned (.int .i64 ((k + n : Nat) : Int)) ∧ Below w.heap.size w w' := by
  have hbW : Below w.heap.size w (w.alloc (.cells #[.int .i64 low, v] 25)) := (Below.refl _ w).alloc (Nat.le_refl _) _
  have HM := Lib.hid (heldIntS_any base v n k _ (h.below hbW) hk hn2)
  have HB := Lib.hid hbW
  have hlt : decide (((k + n : Nat) : Int) < 0) = false := decide_eq_false (by omega)
  obtain ⟨q, hq⟩ : ∃ q, k + n = q := ⟨_, rfl⟩
  rw [hq] at hlt HM ⊢
  clear h hbW
  go_enter Try.func62, Try.ntmps62
  go_wp2_with fail
  refine HM.out.mono ?_
  rintro e w1 ⟨rfl, rfl⟩
  go_wp2
  go_ret
  exact ⟨rfl, HB.out⟩

end Go.Proofs.Ytakfobihakbefaa

/- The contracts of the model's 'l5Text', 'l5Lyndon' and 'LyndonIn'. -/

namespace Go.Proofs.Ytakfobihakbefaa
open Go.RowKit

/-- At most twelve generators. -/
def text12 (s : ByteArray) : Bool := s.data.toList.all genB && decide (s.size ≤ 12)
/-- Less than each of its ends. -/
def lynL (l : List UInt8) : Bool := decide (0 < l.length) && (List.range (l.length - 1)).all fun i => Op.bytesLess l (l.drop (i + 1))
def lynB (s : ByteArray) : Bool := text12 s && lynL s.data.toList
theorem text12_false (s : ByteArray) (k : Nat) (hk : k < s.data.toList.length) (h : genB s.data.toList[k] = false) : text12 s = false := by
  unfold text12; rw [List.all_eq_false.2 ⟨_, List.getElem_mem hk, by rw [h]; exact Bool.false_ne_true⟩]; rfl

theorem extract_drop (s : ByteArray) (i : Nat) : (s.extract i s.size).toList = s.data.toList.drop i := by
  rw [ByteArray.toList_eq, Lib.extract_data]
  apply List.take_of_length_le
  rw [List.length_drop]
  have : s.data.toList.length = s.size := by simp
  omega

/-- How the end from i on compares. -/
theorem end_cmp {s : ByteArray} {i : Nat} (hi : 0 < i) (hs : 0 < s.size) {r : Bool} (h : Op.bytesLess s.data.toList (s.data.toList.drop i) = r) :
    Op.bytesLess (s.extract i s.size).toList s.toList = !r ∧ ((s.extract i s.size).toList == s.toList) = false := by
  rw [extract_drop, ByteArray.toList_eq]
  have hne : s.data.toList.drop i ≠ s.data.toList := fun e => by
    have h1 := congrArg List.length e
    have h2 : s.data.toList.length = s.size := by simp
    rw [List.length_drop] at h1
    omega
  refine ⟨?_, by simpa using hne⟩
  cases r with
  | true =>
    cases h2 : Op.bytesLess (s.data.toList.drop i) s.data.toList with
    | false => rfl
    | true => have := bl_trans _ _ _ h h2; rw [bl_irrefl] at this; cases this
  | false =>
    cases h2 : Op.bytesLess (s.data.toList.drop i) s.data.toList with
    | true => rfl
    | false => exact absurd (bl_tri _ _ h2 h) hne

end Go.Proofs.Ytakfobihakbefaa

/- The contract of the model's 'LyndonCount'. -/

namespace Go.Proofs.Ytakfobihakbefaa
open Go.RowKit

/-- The function mu, with fuel: d is left, p is tried. -/
def muR : Nat → Nat → Nat → Int → Int
  | 0, _, _, o => o
  | f + 1, d, p, o => if d < p then o else if d % p = 0 then (if d / p % p = 0 then 0 else muR f (d / p) (p + 1) (0 - o)) else muR f d (p + 1) o
def muI (d : Nat) : Int := muR 13 d 2 1

/-- One factor's share, summed up to m; and what LyndonCount answers. -/
def sumMuC (k n : Nat) : Nat → Int
  | 0 => 0
  | m + 1 => if n % (m + 1) = 0 then sumMuC k n m + muI (m + 1) * ((k ^ (n / (m + 1)) : Nat) : Int) else sumMuC k n m
def countI (k n : Nat) : Int := (sumMuC k n n).tdiv n

theorem muR_le : ∀ (f d p : Nat) (o : Int), -1 ≤ o → o ≤ 1 → -1 ≤ muR f d p o ∧ muR f d p o ≤ 1
  | 0, _, _, o, h1, h2 => ⟨h1, h2⟩
  | f + 1, d, p, o, h1, h2 => by
    rw [muR]
    split
    · exact ⟨h1, h2⟩
    · split
      · split
        · exact ⟨by omega, by omega⟩
        · exact muR_le f _ _ _ (by omega) (by omega)
      · exact muR_le f _ _ _ h1 h2
theorem muI_le (d : Nat) : -1 ≤ muI d ∧ muI d ≤ 1 := muR_le _ _ _ _ (by omega) (by omega)
theorem pow_le (k e : Nat) (hk : k ≤ 4) (he : e ≤ 12) : k ^ e ≤ 16777216 :=
  Nat.le_trans (Nat.pow_le_pow_left hk e) (Nat.le_trans (Nat.pow_le_pow_right (by omega) he) (by decide))
theorem share_le (m x : Int) (h1 : -1 ≤ m) (h2 : m ≤ 1) (h3 : 0 ≤ x) (h4 : x ≤ 16777216) : -16777216 ≤ m * x ∧ m * x ≤ 16777216 := by
  rcases (by omega : m = -1 ∨ m = 0 ∨ m = 1) with rfl | rfl | rfl <;> omega
theorem sumC_le (k n : Nat) (hk : k ≤ 4) (hn : n ≤ 12) : ∀ m : Nat, -16777216 * (m : Int) ≤ sumMuC k n m ∧ sumMuC k n m ≤ 16777216 * (m : Int)
  | 0 => ⟨by simp [sumMuC], by simp [sumMuC]⟩
  | m + 1 => by
    have ih := sumC_le k n hk hn m
    rw [sumMuC]
    split
    · have h1 := muI_le (m + 1)
      have h2 := pow_le k (n / (m + 1)) hk (Nat.le_trans (Nat.div_le_self _ _) hn)
      have h3 := share_le _ ((k ^ (n / (m + 1)) : Nat) : Int) h1.1 h1.2 (by omega) (by omega)
      push_cast at h3 ⊢
      exact ⟨by omega, by omega⟩
    · exact ⟨by push_cast; omega, by push_cast; omega⟩
theorem l6In_eq (c a b : Int) (r : Bool) (w : World) (h : inR a b c = r) :
    Calls Try.prog 84 #[.int .i64 c, .int .i64 a, .int .i64 b] w fun e w' => e = .returned (.bool r) ∧ w = w' :=
  (l6In_any c a b w).mono fun _ _ ⟨h1, h2⟩ => ⟨by rw [h1, h], h2⟩

theorem countI_nat {k n : Int} (hb : (inR 1 4 k && inR 1 12 n) = true) : ∃ a b : Nat, k = a ∧ n = b ∧ 1 ≤ a ∧ a ≤ 4 ∧ 1 ≤ b ∧ b ≤ 12 := by
  unfold inR at hb
  simp only [Bool.and_eq_true, decide_eq_true_eq] at hb
  exact ⟨k.toNat, n.toNat, by omega, by omega, by omega, by omega, by omega, by omega⟩
end Go.Proofs.Ytakfobihakbefaa

/- The contract of the model's 'PolyIn'. -/

namespace Go.Proofs.Ytakfobihakbefaa
open Go.RowKit

theorem coef_take {zs : List Int} {k : Nat} (hk : k < zs.length) (h : (zs.take k).all coefIn = true) (hf : coefIn zs[k] = true) : (zs.take (k + 1)).all coefIn = true := by
  rw [List.take_succ_eq_append_getElem hk, List.all_append, h]
  simp [hf]
theorem polyB_bad {p : Pl} {k : Nat} (hk : k < p.cs.length) (h : coefIn p.cs[k] = false) : polyB p = false := by
  unfold polyB
  rw [List.all_eq_false.2 ⟨_, List.getElem_mem hk, by rw [h]; exact Bool.false_ne_true⟩]; rfl

set_option maxRecDepth 100000 in
set_option maxHeartbeats 4000000 in
theorem sPolyIn_any (low : Int) (zs : List Int) (a : Option Addr) (cap n : Nat) (b : Bool) (w : World) (hs : Ints w a n zs) (hb : polyB ⟨low, zs⟩ = b) :
    Calls Try.prog 74 #[plV low (.slice a n cap)] w fun e w' => e = .returned (.bool b) ∧ Below w.heap.size w w' := by
  have hm := hs.max
  unfold maxLen at hm
  have HN := Lib.hid hs.len
  have HB := Lib.hid hb
  obtain ⟨W, hW⟩ : ∃ W, w.alloc (.cells #[.int .i64 low, .slice a n cap] 25) = W := ⟨_, rfl⟩
  have hbW : Below w.heap.size w W := by rw [← hW]; exact (Below.refl _ w).alloc (Nat.le_refl _) _
  have hsz : w.heap.size < W.heap.size := by rw [← hW]; simp
  have hc0 : W.cell? ⟨w.heap.size, 0, none⟩ = some (.int .i64 low) := by rw [← hW]; exact (World.cell?_alloc_at _ _ _ _ (by simp)).trans rfl
  have hc1 : W.cell? ⟨w.heap.size, 1, none⟩ = some (.slice a n cap) := by rw [← hW]; exact (World.cell?_alloc_at _ _ _ _ (by simp)).trans rfl
  have HS := Lib.hid (hs.below hbW)
  have HBW := Lib.hid hbW
  have HC : Hid (∀ w1, Below W.heap.size W w1 → w1.cell? ⟨w.heap.size, 0, none⟩ = some (.int .i64 low) ∧ w1.cell? ⟨w.heap.size, 1, none⟩ = some (.slice a n cap)) := Lib.hid fun w1 h => ⟨(h.cell (p := ⟨w.heap.size, 0, none⟩) hsz).trans hc0, (h.cell (p := ⟨w.heap.size, 1, none⟩) hsz).trans hc1⟩
  have HW := Lib.hid hW
  clear hs hb hbW hW
  go_enter Try.func74, Try.ntmps74
  go_wp2
  rw [HW.out]
  clear HW hc0 hc1
  go_loopw [4] (fun i wr => ∃ k : Nat, k ≤ n ∧ i = .int .i64 (k : Int) ∧ Hid ((zs.take k).all coefIn = true) ∧ Below W.heap.size W wr) (fun i _ => n - (intOf i).toNat)
  case atStart => exact ⟨0, Nat.zero_le _, rfl, Lib.hid rfl, Below.refl _ _⟩
  case round =>
    obtain ⟨k, hk, rfl, HK, hB⟩ := hrel
    obtain ⟨c0, c1⟩ := HC.out _ hB
    have HBw := Lib.hid (HBW.out.trans (hB.mono HBW.out.size))
    by_cases hlt : k < n
    · have hkz : k < zs.length := by rw [HN.out]; exact hlt
      obtain ⟨x, rfl, hxb, hxc⟩ := HS.out.at_ (by omega)
      obtain ⟨z, hz⟩ : ∃ z, zs[k] = z := ⟨_, rfl⟩
      have hcz : wr.cell? (x.add k) = some (.int .i64 z) := by rw [← hz]; exact (hB.cell (p := x.add k) (by rw [addr_add_block]; exact hxb)).trans (hxc k hkz)
      cases hq : coefIn z with
      | true =>
        have HT := Lib.hid (coef_take hkz HK.out (by rw [hz]; exact hq))
        have HQ : Hid (inR (-1000000000) 1000000000 z = true) := Lib.hid hq
        clear hq hz hxc
        go_wp2_with fail
        refine (l6In_eq _ _ _ true _ HQ.out).mono ?_
        rintro e w1 ⟨rfl, rfl⟩
        go_wp2
        go_roundw
        case rel => exact ⟨k + 1, by omega, by go_num, HT, hB⟩
        case measure => simp [intOf]; omega
      | false =>
        have hbf : b = false := by rw [← HB.out]; exact polyB_bad (p := ⟨low, zs⟩) hkz (by show coefIn zs[k] = false; rw [hz]; exact hq)
        subst hbf
        have HQ : Hid (inR (-1000000000) 1000000000 z = false) := Lib.hid hq
        clear hq hz hxc
        go_wp2_with fail
        refine (l6In_eq _ _ _ false _ HQ.out).mono ?_
        rintro e w1 ⟨rfl, rfl⟩
        go_wp2
        go_ret
        exact ⟨rfl, HBw.out⟩
    · obtain rfl : k = n := by omega
      have hall : zs.all coefIn = true := by have := HK.out; rwa [List.take_of_length_le (by rw [HN.out]; exact Nat.le_refl _)] at this
      have hP : polyB ⟨low, zs⟩ = (if k = 0 then decide (low = 0) else decide (k ≤ 200) && (inR (-300) 300 low && (!(decide (zs.getD 0 0 = 0)) && !(decide (zs.getD (k - 1) 0 = 0))))) := by
        unfold polyB
        show (zs.all coefIn && _) = _
        rw [hall, Bool.true_and]
        show (if zs.length = 0 then _ else decide (zs.length ≤ 200) && (_ && (_ && !(decide (zs.getD (zs.length - 1) 0 = 0))))) = _
        rw [HN.out]
      rw [HB.out] at hP
      by_cases h0 : k = 0
      · subst h0
        rw [if_pos rfl] at hP
        have HP := Lib.hid hP
        clear hP hall
        by_cases hl0 : low = 0
        · subst hl0
          go_wp2
          go_ret
          exact ⟨ret_bool (by rw [HP.out]; rfl), HBw.out⟩
        · have hlb : (low == 0) = false := by simpa using hl0
          go_wp2
          go_ret
          exact ⟨ret_bool (by rw [HP.out, decide_eq_false hl0]), HBw.out⟩
      · rw [if_neg h0] at hP
        have hn0 : ¬ (k : Int) = 0 := by omega
        have hnb : ((k : Int) == 0) = false := by simpa using h0
        have h0z : 0 < zs.length := by rw [HN.out]; omega
        have hlz : k - 1 < zs.length := by rw [HN.out]; omega
        obtain ⟨x, rfl, hxb, hxc⟩ := HS.out.at_ (by omega)
        obtain ⟨z0, hz0⟩ : ∃ z, zs[0] = z := ⟨_, rfl⟩
        obtain ⟨z1, hz1⟩ : ∃ z, zs[k - 1] = z := ⟨_, rfl⟩
        have d0 : wr.cell? x = some (.int .i64 z0) := by
          rw [← hz0]
          have := (hB.cell (p := x.add 0) (by rw [addr_add_block]; exact hxb)).trans (hxc 0 h0z)
          rwa [show x.add 0 = x by unfold Addr.add; simp] at this
        obtain ⟨m, hm1⟩ : ∃ m, k - 1 = m := ⟨_, rfl⟩
        have d1 : wr.cell? (x.add m) = some (.int .i64 z1) := by
          subst hm1
          rw [← hz1]
          exact (hB.cell (p := x.add (k - 1)) (by rw [addr_add_block]; exact hxb)).trans (hxc (k - 1) hlz)
        have hwr : IntKind.i64.wrap ((k : Int) - 1) = (m : Int) := by rw [IntWalk.i64_in _ (by omega)]; omega
        have hmk : m < k := by omega
        have hkp : 0 < k := by omega
        have hg0 : zs.getD 0 0 = z0 := by rw [List.getD_eq_getElem?_getD, List.getElem?_eq_getElem h0z, hz0]; rfl
        have hg1 : zs.getD (k - 1) 0 = z1 := by rw [List.getD_eq_getElem?_getD, List.getElem?_eq_getElem hlz, hz1]; rfl
        rw [hg0, hg1] at hP
        have HP := Lib.hid hP
        clear hP hall hz0 hz1 hxc hg0 hg1 hm1
        by_cases h200 : k ≤ 200
        · have h2i : (k : Int) ≤ 200 := by omega
          cases hl : inR (-300) 300 low with
          | false =>
            have HL := Lib.hid hl
            clear hl
            go_wp2_with fail
            refine (l6In_eq _ _ _ false _ HL.out).mono ?_
            rintro e w1 ⟨rfl, rfl⟩
            go_wp2
            go_ret
            exact ⟨ret_bool (by rw [HP.out, HL.out, decide_eq_true h200]; rfl), HBw.out⟩
          | true =>
            have HL := Lib.hid hl
            clear hl
            obtain ⟨t0, ht0⟩ : ∃ t, (!(decide (z0 = 0))) = t := ⟨_, rfl⟩
            obtain ⟨t1, ht1⟩ : ∃ t, (!(decide (z1 = 0))) = t := ⟨_, rfl⟩
            have hn1 : (z0 != 0) = t0 := by rw [← ht0]; by_cases h : z0 = 0 <;> simp [h]
            have hn2 : (z1 != 0) = t1 := by rw [← ht1]; by_cases h : z1 = 0 <;> simp [h]
            have HTT : Hid (b = (t0 && t1)) := Lib.hid (by rw [HP.out, HL.out, decide_eq_true h200, ht0, ht1]; rfl)
            clear ht0 ht1
            cases t0 with
            | false =>
              have hz : z0 = 0 := by simpa using hn1
              subst hz
              go_wp2_with fail
              refine (l6In_eq _ _ _ true _ HL.out).mono ?_
              rintro e w1 ⟨rfl, rfl⟩
              go_wp2
              go_ret
              exact ⟨ret_bool HTT.out.symm, HBw.out⟩
            | true =>
              have hz : ¬ z0 = 0 := by simpa using hn1
              cases t1 with
              | false =>
                have hz2 : z1 = 0 := by simpa using hn2
                subst hz2
                go_wp2_with fail
                refine (l6In_eq _ _ _ true _ HL.out).mono ?_
                rintro e w1 ⟨rfl, rfl⟩
                go_wp2
                go_ret
                exact ⟨ret_bool HTT.out.symm, HBw.out⟩
              | true =>
                have hz2 : ¬ z1 = 0 := by simpa using hn2
                go_wp2_with fail
                refine (l6In_eq _ _ _ true _ HL.out).mono ?_
                rintro e w1 ⟨rfl, rfl⟩
                go_wp2
                go_ret
                exact ⟨ret_bool HTT.out.symm, HBw.out⟩
        · have h2i : ¬ (k : Int) ≤ 200 := by omega
          go_wp2
          go_ret
          exact ⟨ret_bool (by rw [HP.out, decide_eq_false h200]; rfl), HBw.out⟩

end Go.Proofs.Ytakfobihakbefaa

/- The model's l6pTidy. -/

namespace Go.Proofs.Ytakfobihakbefaa
open Go.RowKit

theorem ztail_unique {x y : List Int} (hx : x = [] ∨ x.getD (x.length - 1) 0 ≠ 0) (hy : y = [] ∨ y.getD (y.length - 1) 0 ≠ 0) (h : ∀ i, x.getD i 0 = y.getD i 0) : x = y := by
  have key : ∀ {x y : List Int}, (y = [] ∨ y.getD (y.length - 1) 0 ≠ 0) → (∀ i, x.getD i 0 = y.getD i 0) → y.length ≤ x.length := fun {x y} hy h => by
    rcases hy with rfl | hy
    · exact Nat.zero_le _
    · by_cases hl : y.length ≤ x.length
      · exact hl
      · exact absurd (by rw [← h]; exact getD_far (by omega)) hy
  have hl : x.length = y.length := Nat.le_antisymm (key hx fun i => (h i).symm) (key hy h)
  refine List.ext_getElem hl fun i h1 h2 => ?_
  have e := h i
  simpa [List.getD_eq_getElem?_getD, List.getElem?_eq_getElem h1, List.getElem?_eq_getElem h2] using e
/-- Where the zeros end on both sides. -/
theorem tidy_cut (low : Int) {l : List Int} {f t : Nat} (hf : zfrom l = f) (hft : f < t) (ht : t ≤ l.length) (hz : ∀ i, t ≤ i → l.getD i 0 = 0) (hn : l.getD (t - 1) 0 ≠ 0) : tidyP low l = ⟨low + f, (l.drop f).take (t - f)⟩ := by
  have hg : ∀ i, ((l.drop f).take (t - f)).getD i 0 = l.getD (f + i) 0 := fun i => by
    by_cases hi : i < t - f
    · rw [List.getD_eq_getElem?_getD, List.getElem?_take, if_pos hi, List.getElem?_drop, ← List.getD_eq_getElem?_getD]
    · rw [getD_far (by rw [List.length_take]; omega), hz _ (by omega)]
  have hl : ((l.drop f).take (t - f)).length = t - f := by rw [List.length_take, List.length_drop]; omega
  have e : ztrim (l.drop (zfrom l)) = (l.drop f).take (t - f) := by
    rw [hf]
    refine ztail_unique (ztrim_last _) (.inr ?_) fun i => ?_
    · rw [hg, hl, show f + (t - f - 1) = t - 1 by omega]; exact hn
    · rw [ztrim_get, hg, List.getD_eq_getElem?_getD, List.getElem?_drop, ← List.getD_eq_getElem?_getD]
  unfold tidyP
  rw [e, if_neg (fun h => by rw [h] at hl; simp at hl; omega), hf]
theorem tidy_all (low : Int) {l : List Int} (hf : zfrom l = l.length) : tidyP low l = ⟨0, []⟩ := by
  unfold tidyP
  rw [hf, List.drop_length]; rfl

/-- The row that a literal []int{} makes. -/
theorem made_none (base : Nat) (w : World) (hb : base ≤ w.heap.size) : IntRow base (w.alloc (.cells #[] 3)) (.slice (some ⟨w.heap.size, 0, none⟩) 0 0) [] := World.ownsRow_made (base := base) (e := 3) (size := 1) w #[] 0 hb (Nat.zero_le _) rfl

set_option maxRecDepth 100000 in
set_option maxHeartbeats 4000000 in
theorem l6pTidy_none (low : Int) (zs : List Int) (a : Option Addr) (cap n : Nat) (w : World) (hs : Ints w a n zs) (hz : zfrom zs = n) :
    Calls Try.prog 121 #[.int .i64 low, .slice a n cap] w fun e w' => (∃ v, e = .returned (plV 0 v) ∧ IntRow w.heap.size w' v []) ∧ Below w.heap.size w w' := by
  have hm := hs.max
  unfold maxLen at hm
  have HN := Lib.hid hs.len
  have HS := Lib.hid hs
  have HZ := Lib.hid hz
  clear hs hz
  go_enter Try.func121, Try.ntmps121
  go_wp2
  go_loop [5] (fun i => ∃ k : Nat, k ≤ n ∧ i = .int .i64 (k : Int)) (fun i => n - (intOf i).toNat)
  case atStart => exact ⟨0, Nat.zero_le _, rfl⟩
  case round =>
    obtain ⟨k, hk, rfl⟩ := hrel
    by_cases hlt : k < n
    · have hkz : k < zs.length := by rw [HN.out]; exact hlt
      obtain ⟨x, rfl, hxb, hxc⟩ := HS.out.at_ (by omega)
      have hz0 : zs[k] = 0 := by
        have := zfrom_zero zs k (by rw [HZ.out]; exact hlt)
        rwa [List.getD_eq_getElem?_getD, List.getElem?_eq_getElem hkz] at this
      have hb1 := (Below.refl w.heap.size w).alloc (Nat.le_refl _) (.cells #[.int .i64 0, .slice none 0 0] 25)
      have hcz := (hb1.cell (p := x.add k) (by rw [addr_add_block]; exact hxb)).trans (hxc k hkz)
      rw [hz0] at hcz
      clear hxc hz0 hb1
      go_wp2
      go_round
      case rel => exact ⟨k + 1, by omega, by go_num⟩
      case measure => simp [intOf]; omega
    · obtain rfl : k = n := by omega
      go_wp2
      go_loop [6] (fun i => i = .int .i64 (k : Int)) (fun _ => 0)
      case atStart => rfl
      case round =>
        obtain rfl := hrel
        go_wp2
        have hr := made_none w.heap.size (w.alloc (.cells #[.int .i64 0, .slice (some ⟨w.heap.size + 1, 0, none⟩) 0 0] 25)) (by simp)
        rw [World.size_alloc] at hr
        refine bodyPost_ret (v := plV 0 (.slice (some ⟨w.heap.size + 1, 0, none⟩) 0 0)) ?_ rfl ⟨⟨_, rfl, hr⟩, ((Below.refl _ w).alloc (Nat.le_refl _) _).alloc (by simp) _⟩
        simp [results, Try.results121, go_sem, plV]

set_option maxRecDepth 100000 in
set_option maxHeartbeats 4000000 in
theorem l6pTidy_some (low : Int) (zs : List Int) (a : Option Addr) (cap n f : Nat) (w : World) (hs : Ints w a n zs) (hcap : n ≤ cap) (hn : n ≤ 1048576) (hz : zfrom zs = f) (hf : f < n) (h1 : -1000000000 ≤ low) (h2 : low ≤ 1000000000) :
    Calls Try.prog 121 #[.int .i64 low, .slice a n cap] w fun e w' => (∃ v, e = .returned (plV (tidyP low zs).low v) ∧ IntRow w.heap.size w' v (tidyP low zs).cs) ∧ Below w.heap.size w w' := by
  obtain ⟨i0, hi, hz0, hz1, hz2⟩ := info_parts infoInt
  have hlen := hs.len
  obtain ⟨x, rfl, hxb, hxc⟩ := hs.at_ (by omega)
  have hb1 := (Below.refl w.heap.size w).alloc (Nat.le_refl _) (.cells #[.int .i64 0, .slice none 0 0] 25)
  have HC : Hid (∀ k (h : k < n) z, zs.getD k 0 = z → (w.alloc (.cells #[.int .i64 0, .slice none 0 0] 25)).cell? (x.add k) = some (.int .i64 z)) := Lib.hid fun k h z e => by
    rw [← e, List.getD_eq_getElem?_getD, List.getElem?_eq_getElem (by omega)]
    exact (hb1.cell (p := x.add k) (by rw [addr_add_block]; exact hxb)).trans (hxc k (by omega))
  have HZ := Lib.hid hz
  have HN := Lib.hid hlen
  clear hs hxc hb1 hz hlen
  go_enter Try.func121, Try.ntmps121
  go_wp2
  go_loop [5] (fun i => ∃ k : Nat, k ≤ f ∧ i = .int .i64 (k : Int)) (fun i => f - (intOf i).toNat)
  case atStart => exact ⟨0, Nat.zero_le _, rfl⟩
  case round =>
    obtain ⟨k, hk, rfl⟩ := hrel
    have hkn : k < n := by omega
    by_cases hlt : k < f
    · have hcz := HC.out k hkn 0 (zfrom_zero zs k (by rw [HZ.out]; exact hlt))
      go_wp2
      go_round
      case rel => exact ⟨k + 1, by omega, by go_num⟩
      case measure => simp [intOf]; omega
    · obtain rfl : k = f := by omega
      obtain ⟨z, hz⟩ : ∃ z, zs.getD k 0 = z := ⟨_, rfl⟩
      have hcz := HC.out k hkn z hz
      have hzn : ¬ z = 0 := by rw [← hz, ← HZ.out]; exact zfrom_head zs (by rw [HZ.out, HN.out]; exact hkn)
      have hzb : (z == 0) = false := by simpa using hzn
      have HHZ := Lib.hid hz
      clear hz
      go_wp2
      go_loop [6] (fun i => ∃ t : Nat, k < t ∧ t ≤ n ∧ i = .int .i64 (t : Int) ∧ Hid (∀ i, t ≤ i → zs.getD i 0 = 0)) (fun i => (intOf i).toNat)
      case atStart => exact ⟨n, by omega, Nat.le_refl _, rfl, Lib.hid fun i h => getD_far (by rw [HN.out]; exact h)⟩
      case round =>
        obtain ⟨t, ht1, ht2, rfl, HT⟩ := hrel
        obtain ⟨m, hm⟩ : ∃ m, t = m + 1 := ⟨t - 1, by omega⟩
        subst hm
        have hwr : IntKind.i64.wrap (((m + 1 : Nat) : Int) - 1) = (m : Int) := by rw [IntWalk.i64_in _ (by omega)]; omega
        obtain ⟨y, hy⟩ : ∃ y, zs.getD m 0 = y := ⟨_, rfl⟩
        have hcy := HC.out m (by omega) y hy
        have hgt : (k : Int) < ((m + 1 : Nat) : Int) := by omega
        have hmn : m < n := by omega
        by_cases hy0 : y = 0
        · subst hy0
          have hmk : k ≠ m := fun e => hzn (by rw [← HHZ.out, e, hy])
          have HY := Lib.hid hy
          clear hy
          go_wp2
          go_round
          case rel => exact ⟨m, by omega, by omega, by go_num, Lib.hid fun i h => by
            by_cases e : i = m
            · rw [e]; exact HY.out
            · exact HT.out i (by omega)⟩
          case measure => simp [intOf]
        · have hyb : (y == 0) = false := by simpa using hy0
          have HCUT := Lib.hid (tidy_cut low HZ.out ht1 (by rw [HN.out]; exact ht2) HT.out (by show zs.getD m 0 ≠ 0; rw [hy]; exact hy0))
          obtain ⟨W, hW⟩ : ∃ W, (w.alloc (.cells #[.int .i64 0, .slice none 0 0] 25)).alloc (.cells #[] 3) = W := ⟨_, rfl⟩
          have hsz : W.heap.size = w.heap.size + 2 := by rw [← hW]; simp
          have hbW : Below w.heap.size w W := by rw [← hW]; exact ((Below.refl _ w).alloc (Nat.le_refl _) _).alloc (by simp) _
          have HM : Hid (W.ownsRow (w.heap.size + 1) 3 1 (.slice (some ⟨w.heap.size + 1, 0, none⟩) 0 0) 0 []) := Lib.hid (by
            have h := World.ownsRow_made (base := w.heap.size + 1) (e := 3) (size := 1) (w.alloc (.cells #[.int .i64 0, .slice none 0 0] 25)) #[] 0 (by simp) (Nat.zero_le _) rfl
            rw [hW, World.size_alloc] at h
            exact h)
          have HK : Hid (W.heap[w.heap.size]? = some (.cells #[.int .i64 0, .slice none 0 0] 25 (0, 0))) := Lib.hid (by
            have h := World.alloc_heap_new w (.cells #[.int .i64 0, .slice none 0 0] 25)
            have g := World.grownBy_alloc (w.alloc (.cells #[.int .i64 0, .slice none 0 0] 25)) (.cells #[] 3) none
            rw [hW] at g
            exact (g.block w.heap.size (by simp) (by simp)).trans h)
          have HX : Hid (∀ j u, (intsV ((zs.drop k).take (m + 1 - k)))[j]? = some u → W.cell? ((x.add k).add j) = some u) := Lib.hid fun j u hu => by
            simp only [intsV, List.getElem?_map, List.getElem?_take, List.getElem?_drop] at hu
            by_cases hj : j < m + 1 - k
            · rw [if_pos hj, List.getElem?_eq_getElem (by rw [HN.out]; omega)] at hu
              have hu : Value.int .i64 (zs[k + j]'(by rw [HN.out]; omega)) = u := by simpa using hu
              have hc := HC.out (k + j) (by omega) (zs[k + j]'(by rw [HN.out]; omega)) (by rw [List.getD_eq_getElem?_getD, List.getElem?_eq_getElem (by rw [HN.out]; omega)]; rfl)
              rw [Addr.add_add, ← hW, ← hu]
              exact (World.cell?_alloc_lt _ _ _ (World.block_lt_of_cell? _ _ hc)).trans hc
            · rw [if_neg hj] at hu
              simp at hu
          have hml : m + 1 - k ≤ 1048576 := by omega
          have HL : Hid ((intsV ((zs.drop k).take (m + 1 - k))).length = (m + 1 - k) * 1) := Lib.hid (by rw [intsV_len, List.length_take, List.length_drop, HN.out]; omega)
          have HW := Lib.hid hW
          have HBW := Lib.hid hbW
          clear hy HT hW hbW
          go_wp2_with (at_builtin; go_loud (rw [HW.out]; refine wpList_append_own _ rfl _ _ 23 rfl (w.heap.size + 1) 3 i0 (.int .i64 0) 1 8 Try.underlying23 hi hz0 hz1 hz2 rfl (by decide) _ _ _ rfl HM.out (x.add k) (m + 1 - k) (cap - k) (intsV ((zs.drop k).take (m + 1 - k))) rfl HL.out HX.out (fun u hu => by unfold intsV at hu; obtain ⟨z, _, rfl⟩ := List.mem_map.1 hu; rfl) (by unfold maxLen; omega) (by omega) (by omega) ?_; intro v1 w1 hrow hgrow hnil; obtain ⟨g1, cap1, hv1⟩ : ∃ (g : Nat) (c : Nat), v1 = Value.slice (some ⟨g, 0, none⟩) (0 + (m + 1 - k)) c := Go.Joins.ownsRow_form hrow (by omega); subst hv1; have HR := Lib.hid hrow; have HG : Hid (W.grownBy w1 (some (w.heap.size + 1))) := Lib.hid hgrow; clear hrow hgrow hnil; have hk1 := (HG.out.block w.heap.size (by omega) (by simp)).trans HK.out; have d0 : w1.cell? ⟨w.heap.size, 0, none⟩ = some (.int .i64 0) := (by simp [World.cell?, hk1]); have d1 : w1.cell? ⟨w.heap.size, 1, none⟩ = some (.slice none 0 0) := (by simp [World.cell?, hk1]); have f0 : w1.frozen? ⟨w.heap.size, 0, none⟩ = false := (by simp [World.frozen?, hk1]); have f1 : w1.frozen? ⟨w.heap.size, 1, none⟩ = false := (by simp [World.frozen?, hk1]); clear hk1))
          rw [Nat.zero_add, List.nil_append] at HR
          have hR3 := ownsRow_setCell_below (ownsRow_setCell_below HR.out (a := ⟨w.heap.size, 0, none⟩) (Nat.lt_succ_self _) (.int .i64 (low + (k : Int)))) (a := ⟨w.heap.size, 1, none⟩) (Nat.lt_succ_self _) (.slice (some ⟨g1, 0, none⟩) (m + 1 - k) cap1)
          have hB3 := ((HBW.out.grown HG.out (by omega) (fun j e => by simp at e; omega)).setCell (p := ⟨w.heap.size, 0, none⟩) (Nat.le_refl _) (.int .i64 (low + (k : Int)))).setCell (p := ⟨w.heap.size, 1, none⟩) (Nat.le_refl _) (.slice (some ⟨g1, 0, none⟩) (m + 1 - k) cap1)
          rw [HCUT.out]
          refine bodyPost_ret (v := plV (low + (k : Int)) (.slice (some ⟨g1, 0, none⟩) (m + 1 - k) cap1)) ?_ rfl ⟨⟨_, rfl, ?_⟩, hB3⟩
          · simp [results, Try.results121, go_sem, d0, d1, plV]
          · have hl : ((zs.drop k).take (m + 1 - k)).length = m + 1 - k := by have := HL.out; rwa [intsV_len, Nat.mul_one] at this
            unfold IntRow
            show World.ownsRow _ _ _ _ _ ((zs.drop k).take (m + 1 - k)).length (intsV ((zs.drop k).take (m + 1 - k)))
            rw [hl]
            exact ownsRow_base hR3 (Nat.le_succ _)

theorem l6pTidy_any (low : Int) (zs : List Int) (a : Option Addr) (cap n : Nat) (w : World) (hs : Ints w a n zs) (hcap : n ≤ cap) (hn : n ≤ 1048576) (h1 : -1000000000 ≤ low) (h2 : low ≤ 1000000000) :
    Calls Try.prog 121 #[.int .i64 low, .slice a n cap] w fun e w' => (∃ v, e = .returned (plV (tidyP low zs).low v) ∧ IntRow w.heap.size w' v (tidyP low zs).cs) ∧ Below w.heap.size w w' := by
  by_cases hz : zfrom zs = n
  · have e := tidy_all low (l := zs) (by rw [hz, hs.len])
    rw [e]
    exact l6pTidy_none low zs a cap n w hs hz
  · exact l6pTidy_some low zs a cap n _ w hs hcap hn rfl (by have := zfrom_le zs; rw [hs.len] at this; omega) h1 h2

end Go.Proofs.Ytakfobihakbefaa

/- The model's l6pCopy, l6pNone, l6pDone. -/

namespace Go.Proofs.Ytakfobihakbefaa
open Go.RowKit

theorem intsV_one (zs : List Int) : ∀ u ∈ intsV zs, u.oneCell' = true := fun u hu => by
  unfold intsV at hu
  obtain ⟨z, _, rfl⟩ := List.mem_map.1 hu
  rfl
theorem Ints.news {w : World} {x : Addr} {n : Nat} {zs : List Int} (h : Ints w (some x) n zs) (h0 : 0 < n) : ∀ j u, (intsV zs)[j]? = some u → w.cell? (x.add j) = some u := fun j u hu => by
  obtain ⟨y, hy, _, hc⟩ := h.at_ h0
  obtain rfl : x = y := by simpa using hy
  simp only [intsV, List.getElem?_map] at hu
  by_cases hj : j < zs.length
  · rw [List.getElem?_eq_getElem hj] at hu
    rw [hc j hj]
    simpa using hu
  · rw [List.getElem?_eq_none (by omega)] at hu
    simp at hu

theorem made_at (W : World) (g : Nat) (h : W.heap.size = g) (base : Nat) (hb : base ≤ g) : (W.alloc (.cells #[] 3)).ownsRow base 3 1 (.slice (some ⟨g, 0, none⟩) 0 0) 0 [] := by
  subst h
  exact made_none base W hb

set_option maxRecDepth 100000 in
set_option maxHeartbeats 4000000 in
theorem l6pCopy_some (low : Int) (zs : List Int) (a : Option Addr) (cap n : Nat) (w : World) (hs : Ints w a n zs) (hn : n ≤ 1048576) (h0 : 0 < n) :
    Calls Try.prog 76 #[plV low (.slice a n cap)] w fun e w' => (∃ v, e = .returned (plV low v) ∧ IntRow w.heap.size w' v zs) ∧ Below w.heap.size w w' := by
  obtain ⟨i0, hi, hz0, hz1, hz2⟩ := info_parts infoInt
  obtain ⟨x, rfl, _, _⟩ := hs.at_ h0
  have HL : Hid ((intsV zs).length = n * 1) := Lib.hid (by rw [intsV_len, hs.len, Nat.mul_one])
  have hb1 := (((Below.refl w.heap.size w).alloc (Nat.le_refl _) (.cells #[.int .i64 low, .slice (some x) n cap] 25)).alloc (by simp) (.cells #[.int .i64 0, .slice none 0 0] 25)).alloc (by simp; omega) (.cells #[] 3)
  have HB := Lib.hid hb1.drew
  have HX := Lib.hid (Ints.news (hs.below hb1.drew) h0)
  have HM := Lib.hid (made_at ((w.alloc (.cells #[.int .i64 low, .slice (some x) n cap] 25)).alloc (.cells #[.int .i64 0, .slice none 0 0] 25)) (w.heap.size + 2) (by simp) (w.heap.size + 2) (Nat.le_refl _)).drew
  obtain ⟨W, hW⟩ : ∃ W, (((w.alloc (.cells #[.int .i64 low, .slice (some x) n cap] 25)).alloc (.cells #[.int .i64 0, .slice none 0 0] 25)).alloc (.cells #[] 3)).drew = W := ⟨_, rfl⟩
  have HC : Hid (∀ w1 row, W.grownBy w1 row → row = some (w.heap.size + 2) → w1.cell? ⟨w.heap.size, 0, none⟩ = some (.int .i64 low) ∧ w1.cell? ⟨w.heap.size, 1, none⟩ = some (.slice (some x) n cap) ∧ w1.cell? ⟨w.heap.size + 1, 0, none⟩ = some (.int .i64 0) ∧ w1.cell? ⟨w.heap.size + 1, 1, none⟩ = some (.slice none 0 0) ∧ w1.frozen? ⟨w.heap.size + 1, 0, none⟩ = false ∧ w1.frozen? ⟨w.heap.size + 1, 1, none⟩ = false) := Lib.hid fun w1 row hg hr => by
    subst hr
    have hsz : W.heap.size = w.heap.size + 3 := by rw [← hW]; simp
    have e0 := hg.block w.heap.size (by omega) (by simp)
    have e1 := hg.block (w.heap.size + 1) (by omega) (by simp)
    have c0 : W.heap[w.heap.size]? = some (.cells #[.int .i64 low, .slice (some x) n cap] 25 (0, 0)) := by
      rw [← hW]
      show (((w.alloc _).alloc _).alloc _).heap[w.heap.size]? = _
      rw [Below.heap_alloc _ _ _ (by simp; omega), Below.heap_alloc _ _ _ (by simp)]
      exact World.alloc_heap_new w _
    have c1 : W.heap[w.heap.size + 1]? = some (.cells #[.int .i64 0, .slice none 0 0] 25 (0, 0)) := by
      rw [← hW]
      show (((w.alloc _).alloc _).alloc _).heap[w.heap.size + 1]? = _
      rw [Below.heap_alloc _ _ _ (by simp)]
      have h := World.alloc_heap_new (w.alloc (.cells #[.int .i64 low, .slice (some x) n cap] 25)) (.cells #[.int .i64 0, .slice none 0 0] 25)
      rwa [World.size_alloc] at h
    rw [c0] at e0
    rw [c1] at e1
    refine ⟨?_, ?_, ?_, ?_, ?_, ?_⟩ <;> simp [World.cell?, World.frozen?, e0, e1]
  subst hW
  clear hb1
  go_enter Try.func76, Try.ntmps76
  go_wp2
  go_region_held3 (fun w' : World => w'.cell? ⟨w.heap.size, 0, none⟩ = some (.int .i64 low) ∧ w'.cell? ⟨w.heap.size, 1, none⟩ = some (.slice (some x) n cap)) (first | go_keep | exact ⟨k0, k1⟩)
    ((refine step_append_lies _ (by rfl) _ _ _ (by rfl) (w.heap.size + 2) 3 i0 _ 1 8 Try.underlying23 hi hz0 hz1 hz2 rfl (by omega) (.slice (some ⟨w.heap.size + 2, 0, none⟩) 0 0) 0 [] (by rfl) HM.out
        x n cap (intsV zs) (by rfl) HL.out HX.out (intsV_one zs) h0 (by unfold maxLen; omega) (by omega) (by simp) (w.heap.size + 3) (by simp) ?_
      intro g1 cap1 w1 hown1 hgrow _ _
      have HR := Lib.hid hown1
      have HG := Lib.hid (HB.out.grown hgrow (by simp; omega) (fun j e => by simp [Value.ownBlock] at e; omega))
      obtain ⟨k0, k1, d0, d1, f0, f1⟩ := HC.out _ _ hgrow rfl
      clear hown1 hgrow))
  go_wp2
  rw [Nat.zero_add, List.nil_append] at HR
  have hR3 := ownsRow_setCell_below (ownsRow_setCell_below HR.out (a := ⟨w.heap.size + 1, 0, none⟩) (Nat.lt_succ_self _) (.int .i64 low)) (a := ⟨w.heap.size + 1, 1, none⟩) (Nat.lt_succ_self _) (.slice (some ⟨g1, 0, none⟩) n cap1)
  have hB3 := (HG.out.setCell (p := ⟨w.heap.size + 1, 0, none⟩) (Nat.le_succ _) (.int .i64 low)).setCell (p := ⟨w.heap.size + 1, 1, none⟩) (Nat.le_succ _) (.slice (some ⟨g1, 0, none⟩) n cap1)
  refine bodyPost_ret (v := plV low (.slice (some ⟨g1, 0, none⟩) n cap1)) ?_ rfl ⟨⟨_, rfl, ?_⟩, hB3⟩
  · simp [results, Try.results76, go_sem, d0, d1, plV]
  · unfold IntRow
    rw [hs.len]
    exact ownsRow_base hR3 (by omega)

set_option maxRecDepth 100000 in
set_option maxHeartbeats 4000000 in
theorem l6pCopy_none (low : Int) (a : Option Addr) (cap : Nat) (w : World) :
    Calls Try.prog 76 #[plV low (.slice a 0 cap)] w fun e w' => (∃ v, e = .returned (plV low v) ∧ IntRow w.heap.size w' v []) ∧ Below w.heap.size w w' := by
  go_enter Try.func76, Try.ntmps76
  go_wp2
  cases a with
  | none =>
    go_region_held3 (fun w' : World => w'.cell? ⟨w.heap.size, 0, none⟩ = some (.int .i64 low) ∧ w'.cell? ⟨w.heap.size, 1, none⟩ = some (.slice none 0 cap)) (first | go_keep) (fail)
    go_wp2
    refine bodyPost_ret (v := plV low (.slice (some ⟨w.heap.size + 1 + 1, 0, none⟩) 0 0)) ?_ rfl ⟨⟨_, rfl, (made_at _ (w.heap.size + 1 + 1) (by simp) w.heap.size (by omega)).drew⟩, ((((Below.refl _ w).alloc (Nat.le_refl _) _).alloc (by simp) _).alloc (by simp; omega) _).drew⟩
    simp [results, Try.results76, go_sem, plV]
  | some x =>
    go_region_held3 (fun w' : World => w'.cell? ⟨w.heap.size, 0, none⟩ = some (.int .i64 low) ∧ w'.cell? ⟨w.heap.size, 1, none⟩ = some (.slice (some x) 0 cap)) (first | go_keep) (fail)
    go_wp2
    refine bodyPost_ret (v := plV low (.slice (some ⟨w.heap.size + 1 + 1, 0, none⟩) 0 0)) ?_ rfl ⟨⟨_, rfl, (made_at _ (w.heap.size + 1 + 1) (by simp) w.heap.size (by omega)).drew⟩, ((((Below.refl _ w).alloc (Nat.le_refl _) _).alloc (by simp) _).alloc (by simp; omega) _).drew⟩
    simp [results, Try.results76, go_sem, plV]

theorem l6pCopy_any (low : Int) (zs : List Int) (a : Option Addr) (cap n : Nat) (w : World) (hs : Ints w a n zs) (hn : n ≤ 1048576) :
    Calls Try.prog 76 #[plV low (.slice a n cap)] w fun e w' => (∃ v, e = .returned (plV low v) ∧ IntRow w.heap.size w' v zs) ∧ Below w.heap.size w w' := by
  by_cases h0 : 0 < n
  · exact l6pCopy_some low zs a cap n w hs hn h0
  · obtain rfl : n = 0 := by omega
    obtain rfl : zs = [] := List.length_eq_zero_iff.1 hs.len
    exact l6pCopy_none low a cap w

set_option maxRecDepth 100000 in
set_option maxHeartbeats 4000000 in
theorem l6pNone_any (w : World) :
    Calls Try.prog 75 #[] w fun e w' => (∃ v, e = .returned (.tuple #[plV 0 v, .bool false]) ∧ IntRow w.heap.size w' v []) ∧ Below w.heap.size w w' := by
  go_enter Try.func75, Try.ntmps75
  go_wp2
  refine bodyPost_ret (v := .tuple #[plV 0 (.slice (some ⟨w.heap.size + 1, 0, none⟩) 0 0), .bool false]) ?_ rfl ⟨⟨_, rfl, made_at _ (w.heap.size + 1) (by simp) w.heap.size (by omega)⟩, ((Below.refl _ w).alloc (Nat.le_refl _) _).alloc (by simp) _⟩
  simp [results, Try.results75, go_sem, plV]

end Go.Proofs.Ytakfobihakbefaa

/- The model's l6pDone and PolyOf. -/

namespace Go.Proofs.Ytakfobihakbefaa
open Go.RowKit

/-- What is no polynomial comes out as 0. -/
def doneP (b : Bool) (p : Pl) : Pl := if b then p else ⟨0, []⟩

set_option maxRecDepth 100000 in
set_option maxHeartbeats 4000000 in
theorem l6pDone_any (low : Int) (zs : List Int) (a : Option Addr) (cap n : Nat) (b : Bool) (w : World) (hs : Ints w a n zs) (hn : n ≤ 1048576) (hb : polyB ⟨low, zs⟩ = b) :
    Calls Try.prog 103 #[plV low (.slice a n cap)] w fun e w' => (∃ v, e = .returned (.tuple #[plV (doneP b ⟨low, zs⟩).low v, .bool b]) ∧ IntRow w.heap.size w' v (doneP b ⟨low, zs⟩).cs) ∧ Below w.heap.size w w' := by
  obtain ⟨W, hW⟩ : ∃ W, (w.alloc (.cells #[.int .i64 low, .slice a n cap] 25)).alloc (.cells #[.int .i64 0, .slice none 0 0] 25) = W := ⟨_, rfl⟩
  have hsz : W.heap.size = w.heap.size + 2 := by rw [← hW]; simp
  have hbW : Below w.heap.size w W := by rw [← hW]; exact ((Below.refl _ w).alloc (Nat.le_refl _) _).alloc (by simp) _
  have HC : Hid (∀ w1, Below W.heap.size W w1 → w1.cell? ⟨w.heap.size, 0, none⟩ = some (.int .i64 low) ∧ w1.cell? ⟨w.heap.size, 1, none⟩ = some (.slice a n cap) ∧ w1.cell? ⟨w.heap.size + 1, 0, none⟩ = some (.int .i64 0) ∧ w1.cell? ⟨w.heap.size + 1, 1, none⟩ = some (.slice none 0 0) ∧ w1.frozen? ⟨w.heap.size + 1, 0, none⟩ = false ∧ w1.frozen? ⟨w.heap.size + 1, 1, none⟩ = false) := Lib.hid fun w1 hg => by
    have e0 := hg.block w.heap.size (by omega)
    have e1 := hg.block (w.heap.size + 1) (by omega)
    have c0 : W.heap[w.heap.size]? = some (.cells #[.int .i64 low, .slice a n cap] 25 (0, 0)) := by
      rw [← hW, Below.heap_alloc _ _ _ (by simp)]
      exact World.alloc_heap_new w _
    have c1 : W.heap[w.heap.size + 1]? = some (.cells #[.int .i64 0, .slice none 0 0] 25 (0, 0)) := by
      rw [← hW]
      have h := World.alloc_heap_new (w.alloc (.cells #[.int .i64 low, .slice a n cap] 25)) (.cells #[.int .i64 0, .slice none 0 0] 25)
      rwa [World.size_alloc] at h
    rw [c0] at e0
    rw [c1] at e1
    refine ⟨?_, ?_, ?_, ?_, ?_, ?_⟩ <;> simp [World.cell?, World.frozen?, e0, e1]
  have HP := Lib.hid (sPolyIn_any low zs a cap n b W (hs.below hbW) hb)
  have HCP : Hid (∀ w1, Below W.heap.size W w1 → _) := Lib.hid fun w1 hg => l6pCopy_any low zs a cap n w1 ((hs.below hbW).below hg) hn
  have HW := Lib.hid hW
  have HBW := Lib.hid hbW
  clear hW hbW hs
  go_enter Try.func103, Try.ntmps103
  go_wp2_with fail
  rw [HW.out]
  refine HP.out.mono ?_
  rintro e w1 ⟨rfl, hb1⟩
  obtain ⟨q0, q1, d0, d1, f0, f1⟩ := HC.out w1 hb1
  have hs1 := hb1.size
  have HB1 := Lib.hid hb1
  clear hb1
  cases b with
  | false =>
    obtain ⟨_, _, d0, d1, f0, f1⟩ := HC.out (w1.alloc (.cells #[] 3)) (HB1.out.alloc hs1 _)
    have hr := made_at w1 w1.heap.size rfl w1.heap.size (Nat.le_refl _)
    have HR := Lib.hid hr
    clear hr
    go_wp2
    have hlt : w.heap.size + 1 < w1.heap.size := by omega
    have hR3 := ownsRow_setCell_below (ownsRow_setCell_below HR.out (a := ⟨w.heap.size + 1, 0, none⟩) hlt (.int .i64 0)) (a := ⟨w.heap.size + 1, 1, none⟩) hlt (.slice (some ⟨w1.heap.size, 0, none⟩) 0 0)
    have hB3 := (((HBW.out.trans (HB1.out.mono HBW.out.size)).alloc (by omega) (.cells #[] 3)).setCell (p := ⟨w.heap.size + 1, 0, none⟩) (Nat.le_succ _) (.int .i64 0)).setCell (p := ⟨w.heap.size + 1, 1, none⟩) (Nat.le_succ _) (.slice (some ⟨w1.heap.size, 0, none⟩) 0 0)
    refine bodyPost_ret (v := .tuple #[plV 0 (.slice (some ⟨w1.heap.size, 0, none⟩) 0 0), .bool false]) ?_ rfl ⟨⟨_, rfl, ownsRow_base hR3 (by omega)⟩, hB3⟩
    simp [results, Try.results103, go_sem, d0, d1, plV]
  | true =>
    go_wp2_with fail
    refine (HCP.out w1 HB1.out).mono ?_
    rintro e w2 ⟨⟨v, rfl, hr⟩, hb2⟩
    obtain ⟨_, _, d0, d1, f0, f1⟩ := HC.out w2 (HB1.out.trans (hb2.mono hs1))
    have HR := Lib.hid hr
    have HB2 := Lib.hid (HBW.out.trans ((HB1.out.trans (hb2.mono hs1)).mono HBW.out.size))
    obtain ⟨g1, gg, cap1, rfl, _⟩ := hr.shape
    clear hr hb2
    go_wp2
    have hlt : w.heap.size + 1 < w1.heap.size := by omega
    have hR3 := ownsRow_setCell_below (ownsRow_setCell_below HR.out (a := ⟨w.heap.size + 1, 0, none⟩) hlt (.int .i64 low)) (a := ⟨w.heap.size + 1, 1, none⟩) hlt (.slice g1 zs.length cap1)
    have hB3 := (HB2.out.setCell (p := ⟨w.heap.size + 1, 0, none⟩) (Nat.le_succ _) (.int .i64 low)).setCell (p := ⟨w.heap.size + 1, 1, none⟩) (Nat.le_succ _) (.slice g1 zs.length cap1)
    refine bodyPost_ret (v := .tuple #[plV low (.slice g1 zs.length cap1), .bool true]) ?_ rfl ⟨⟨_, rfl, ownsRow_base hR3 (by omega)⟩, hB3⟩
    simp [results, Try.results103, go_sem, d0, d1, plV]

end Go.Proofs.Ytakfobihakbefaa

/- The model's PolyOf. -/

namespace Go.Proofs.Ytakfobihakbefaa
open Go.RowKit

/-- The cells of an answer that was laid first. -/
theorem resCells {w w1 : World} {r : Nat} (hr : w.heap.size = r) (h : Below (r + 1) (w.alloc (.cells #[.int .i64 0, .slice none 0 0] 25)) w1) :
    w1.cell? ⟨r, 0, none⟩ = some (.int .i64 0) ∧ w1.cell? ⟨r, 1, none⟩ = some (.slice none 0 0) ∧ w1.frozen? ⟨r, 0, none⟩ = false ∧ w1.frozen? ⟨r, 1, none⟩ = false := by
  subst hr
  have e0 := h.block w.heap.size (by omega)
  rw [World.alloc_heap_new] at e0
  refine ⟨?_, ?_, ?_, ?_⟩ <;> simp [World.cell?, World.frozen?, e0]
theorem resRow {w2 : World} {r base : Nat} {v : Value} {zs : List Int} (x y : Value) (h : IntRow base w2 v zs) (hb : r < base) : IntRow r ((w2.setCell ⟨r, 0, none⟩ x).setCell ⟨r, 1, none⟩ y) v zs :=
  ownsRow_base (ownsRow_setCell_below (ownsRow_setCell_below h (a := ⟨r, 0, none⟩) hb x) (a := ⟨r, 1, none⟩) hb y) (Nat.le_of_lt hb)
theorem resBelow {w w2 : World} {r : Nat} (x y : Value) (h : Below r w w2) : Below r w ((w2.setCell ⟨r, 0, none⟩ x).setCell ⟨r, 1, none⟩ y) :=
  (h.setCell (p := ⟨r, 0, none⟩) (Nat.le_refl _) x).setCell (p := ⟨r, 1, none⟩) (Nat.le_refl _) y
theorem tidy_mem {low : Int} {l : List Int} {z : Int} (h : z ∈ (tidyP low l).cs) : z = 0 ∨ z ∈ l := by
  obtain ⟨i, hi, rfl⟩ := List.mem_iff_getElem.1 h
  have hp := tidy_pat low l ((tidyP low l).low + (i : Int))
  rw [pat_at, List.getD_eq_getElem?_getD, List.getElem?_eq_getElem hi] at hp
  have hp : (tidyP low l).cs[i] = pat ⟨low, l⟩ ((tidyP low l).low + (i : Int)) := hp
  rw [hp]
  unfold pat
  split
  · show l.getD (((tidyP low l).low + (i : Int)) - low).toNat 0 = 0 ∨ l.getD (((tidyP low l).low + (i : Int)) - low).toNat 0 ∈ l
    generalize (((tidyP low l).low + (i : Int)) - low).toNat = q
    by_cases hj : q < l.length
    · right
      rw [List.getD_eq_getElem?_getD, List.getElem?_eq_getElem hj]
      exact List.getElem_mem hj
    · exact .inl (getD_far (by omega))
  · exact .inl rfl
theorem tidy_len (low : Int) (l : List Int) : (tidyP low l).cs.length ≤ l.length := by
  unfold tidyP
  split
  · exact Nat.zero_le _
  · exact Nat.le_trans (ztrim_len _) (by rw [List.length_drop]; omega)

def polyOfB (low : Int) (zs : List Int) : Bool := inR (-300) 300 low && (decide (zs.length ≤ 200) && polyB (tidyP low zs))
def polyOfP (low : Int) (zs : List Int) : Pl := doneP (polyOfB low zs) (tidyP low zs)

end Go.Proofs.Ytakfobihakbefaa

/- The model's PolyOne. -/

namespace Go.Proofs.Ytakfobihakbefaa
open Go.RowKit

/-- The cells of a polynomial that was laid first. -/
theorem boxCells {w w1 : World} {r : Nat} {x y : Value} (hr : w.heap.size = r) (h : Below (r + 1) (w.alloc (.cells #[x, y] 25)) w1) :
    w1.cell? ⟨r, 0, none⟩ = some x ∧ w1.cell? ⟨r, 1, none⟩ = some y := by
  subst hr
  have e0 := h.block w.heap.size (by omega)
  rw [World.alloc_heap_new] at e0
  refine ⟨?_, ?_⟩ <;> simp [World.cell?, e0]
theorem oneP_bound {l : List Int} (h : ∀ i, -1000000000 ≤ l.getD i 0 ∧ l.getD i 0 ≤ 1000000000) : ∀ k : Nat, -1000000000 * (k : Int) ≤ oneP l k ∧ oneP l k ≤ 1000000000 * (k : Int)
  | 0 => by rw [oneP]; omega
  | k + 1 => by
    have := oneP_bound h k
    have := h k
    rw [oneP]
    omega

end Go.Proofs.Ytakfobihakbefaa

/- The model's l6pPlain and PolyPlain. -/

namespace Go.Proofs.Ytakfobihakbefaa
open Go.RowKit

/-- The first k ints, each so many times. -/
def timesL (c : Int) (zs : List Int) (k : Nat) : List Value := intsV ((zs.take k).map fun z => c * z)
theorem timesL_step (c : Int) (zs : List Int) {k : Nat} {z q : Int} (hk : k < zs.length) (hz : zs[k] = z) (hq : c * z = q) : timesL c zs k ++ [.int .i64 q] = timesL c zs (k + 1) := by
  unfold timesL
  rw [List.take_succ_eq_append_getElem hk, List.map_append]
  unfold intsV
  rw [List.map_append, hz]
  simp [hq]
theorem own_ge {w : World} {base size : Nat} {e : TypeId} {v : Value} {n : Nat} {xs : List Value} (h : w.ownsRow base e size v n xs) : ∀ j, v.ownBlock = some j → base ≤ j := fun j e => by
  rcases h.2 with ⟨rfl, _⟩ | ⟨g, cap, cur, rfl, hb, _⟩
  · cases e
  · simp [Value.ownBlock] at e
    omega

set_option maxRecDepth 100000 in
set_option maxHeartbeats 4000000 in
theorem l6pPlain_neg (low z0 : Int) (zs : List Int) (a : Option Addr) (cap n : Nat) (w : World) (hs : Ints w a n zs) (hn : n ≤ 1048576) (h0 : 0 < n) (hz0 : zs.getD 0 0 = z0) (h0n : z0 < 0) (hcs : ∀ i, -1000000000 ≤ zs.getD i 0 ∧ zs.getD i 0 ≤ 1000000000) :
    Calls Try.prog 77 #[plV low (.slice a n cap)] w fun e w' => (∃ v, e = .returned (plV 0 v) ∧ IntRow w.heap.size w' v (zs.map fun z => -1 * z)) ∧ Below w.heap.size w w' := by
  obtain ⟨i0, hi, hi0, hi1, hi2⟩ := info_parts infoInt
  have hd : decide (z0 < 0) = true := decide_eq_true h0n
  have h0i : z0 < 0 := h0n
  have hlen := hs.len
  obtain ⟨x, rfl, hxb, hxc⟩ := hs.at_ h0
  have HX : Hid (∀ w1, Below w.heap.size w w1 → ∀ k, k < n → ∀ z, zs.getD k 0 = z → w1.cell? (x.add k) = some (.int .i64 z)) := Lib.hid fun w1 hb k hk z e => by
    rw [← e, List.getD_eq_getElem?_getD, List.getElem?_eq_getElem (by omega)]
    exact (hb.cell (p := x.add k) (by rw [addr_add_block]; exact hxb)).trans (hxc k (by omega))
  obtain ⟨W, hW⟩ : ∃ W, (w.alloc (.cells #[.int .i64 low, .slice (some x) n cap] 25)).alloc (.cells #[.int .i64 0, .slice none 0 0] 25) = W := ⟨_, rfl⟩
  have hsz : W.heap.size = w.heap.size + 2 := by rw [← hW]; simp
  have hbW : Below w.heap.size w W := by rw [← hW]; exact ((Below.refl _ w).alloc (Nat.le_refl _) _).alloc (by simp) _
  have HC : Hid (∀ w1, Below W.heap.size W w1 → w1.cell? ⟨w.heap.size, 0, none⟩ = some (.int .i64 low) ∧ w1.cell? ⟨w.heap.size, 1, none⟩ = some (.slice (some x) n cap) ∧ w1.cell? ⟨w.heap.size + 1, 0, none⟩ = some (.int .i64 0) ∧ w1.cell? ⟨w.heap.size + 1, 1, none⟩ = some (.slice none 0 0) ∧ w1.frozen? ⟨w.heap.size + 1, 0, none⟩ = false ∧ w1.frozen? ⟨w.heap.size + 1, 1, none⟩ = false) := Lib.hid fun w1 (hg : Below W.heap.size W w1) => by
    obtain ⟨c0, c1⟩ := boxCells (w := w) (w1 := w1) (r := w.heap.size) (x := .int .i64 low) (y := .slice (some x) n cap) rfl (Below.trans ((Below.refl _ _).alloc (by simp) (.cells #[.int .i64 0, .slice none 0 0] 25)) (by rw [hW]; exact hg.mono (by omega)))
    obtain ⟨d0, d1, f0, f1⟩ := resCells (w := w.alloc (.cells #[.int .i64 low, .slice (some x) n cap] 25)) (w1 := w1) (r := w.heap.size + 1) (by simp) (by rw [hW, show w.heap.size + 1 + 1 = W.heap.size by omega]; exact hg)
    exact ⟨c0, c1, d0, d1, f0, f1⟩
  have hm := made_at W W.heap.size rfl W.heap.size (Nat.le_refl _)
  have hbm : Below W.heap.size W (W.alloc (.cells #[] 3)) := (Below.refl _ W).alloc (Nat.le_refl _) _
  rw [hsz] at hm
  have HCS : Hid (∀ i, -1000000000 ≤ zs.getD i 0 ∧ zs.getD i 0 ≤ 1000000000) := Lib.hid hcs
  have HN := Lib.hid hlen
  have HBW := Lib.hid hbW
  have HW := Lib.hid hW
  have HM := Lib.hid hm
  have HBM := Lib.hid hbm
  obtain ⟨p0, p1, _, _, _, _⟩ := HC.out W (Below.refl _ _)
  have p2 := HX.out W hbW 0 h0 z0 hz0
  rw [show x.add 0 = x by unfold Addr.add; simp, ← hW] at p2
  clear hcs hlen hxc hxb hbW hW hm hbm hs hz0
  go_enter Try.func77, Try.ntmps77
  go_wp2_with fail
  rw [HW.out]
  go_loopw [4, 5] (fun v i wr => ∃ k : Nat, k ≤ n ∧ i = .int .i64 (k : Int) ∧ wr.ownsRow (w.heap.size + 2) 3 1 v k (timesL (-1) zs k) ∧ Below W.heap.size W wr) (fun _ i _ => n - (intOf i).toNat)
  case atStart => exact ⟨0, Nat.zero_le _, rfl, HM.out, HBM.out⟩
  case round =>
    obtain ⟨k, hk, rfl, hr, hB⟩ := hrel
    obtain ⟨p0, p1, d0, d1, f0, f1⟩ := HC.out _ hB
    have hsr := hB.size
    by_cases hlt : k < n
    · obtain ⟨z, hz⟩ : ∃ z, zs.getD k 0 = z := ⟨_, rfl⟩
      have hkz : k < zs.length := by rw [HN.out]; exact hlt
      have hcz := HX.out _ (HBW.out.trans (hB.mono HBW.out.size)) k hlt z hz
      have hzz : zs[k] = z := by rw [← hz, List.getD_eq_getElem?_getD, List.getElem?_eq_getElem hkz]; rfl
      have hb := HCS.out k
      rw [hz] at hb
      obtain ⟨hb1, hb2⟩ := hb
      obtain ⟨q, hq⟩ : ∃ q, -1 * z = q := ⟨_, rfl⟩
      have HST := Lib.hid (timesL_step (-1) zs hkz hzz hq)
      have hwr : IntKind.i64.wrap (-1 * z) = q := by rw [IntWalk.i64_in _ (by omega)]; exact hq
      have hwr2 : IntKind.i64.wrap (-z) = q := by rw [IntWalk.i64_in _ (by omega)]; omega
      have HR := Lib.hid (hr.alloc (.cells #[.int .i64 q] 3))
      have HNB := Lib.hid (World.news_of_block (cs := #[.int .i64 q]) (t := 3) (fr := (0, 0)) (World.alloc_heap_new wr (.cells #[.int .i64 q] 3)))
      have HOG := Lib.hid (own_ge hr)
      clear hz hzz hq hr
      go_wp2_with (at_builtin; refine wpList_append_own _ rfl _ _ 23 rfl (w.heap.size + 2) 3 i0 (.int .i64 0) 1 8 Try.underlying23 hi hi0 hi1 hi2 rfl (by decide) _ k _ rfl HR.out ⟨wr.heap.size, 0, none⟩ 1 1 [.int .i64 q] rfl rfl HNB.out (fun u hu => by simp at hu; rcases hu with rfl; rfl) (by unfold maxLen; omega) (by omega) (by simp; omega) ?_; intro v1 w1 hrow hgrow hnil)
      have hB1 := (hB.alloc (by omega) (.cells #[.int .i64 q] 3)).grown hgrow (by simp; omega) (fun j e => by have := HOG.out j e; omega)
      rw [HST.out] at hrow
      exact ⟨⟨k + 1, by omega, by go_num, hrow, by first | exact hB1 | (rw [hsz] at hB1; exact hB1)⟩, by simp [intOf]; omega⟩
    · obtain rfl : k = n := by omega
      obtain ⟨g1, cap1, rfl⟩ := Go.Joins.ownsRow_form hr (by omega)
      unfold timesL at hr
      rw [List.take_of_length_le (by rw [HN.out]; exact Nat.le_refl _)] at hr
      have HR := Lib.hid hr
      have HB := Lib.hid (HBW.out.trans (hB.mono HBW.out.size))
      clear hr hB
      go_wp2
      have hB3 := (HB.out.setCell (p := ⟨w.heap.size + 1, 0, none⟩) (Nat.le_succ _) (.int .i64 0)).setCell (p := ⟨w.heap.size + 1, 1, none⟩) (Nat.le_succ _) (.slice (some ⟨g1, 0, none⟩) k cap1)
      have hR : IntRow (w.heap.size + 2) wr (.slice (some ⟨g1, 0, none⟩) k cap1) (zs.map fun z => -1 * z) := by unfold IntRow; rw [List.length_map, HN.out]; exact HR.out
      refine bodyPost_ret (v := plV 0 (.slice (some ⟨g1, 0, none⟩) k cap1)) ?_ rfl ⟨⟨_, rfl, IntRow.mono (resRow (r := w.heap.size + 1) (.int .i64 0) (.slice (some ⟨g1, 0, none⟩) k cap1) hR (Nat.lt_succ_self _)) (Nat.le_succ _)⟩, hB3⟩
      simp [results, Try.results77, go_sem, d0, d1, plV]

set_option maxRecDepth 100000 in
set_option maxHeartbeats 4000000 in
theorem l6pPlain_pos (low z0 : Int) (zs : List Int) (a : Option Addr) (cap n : Nat) (w : World) (hs : Ints w a n zs) (hn : n ≤ 1048576) (h0 : 0 < n) (hz0 : zs.getD 0 0 = z0) (h0n : ¬ z0 < 0) (hcs : ∀ i, -1000000000 ≤ zs.getD i 0 ∧ zs.getD i 0 ≤ 1000000000) :
    Calls Try.prog 77 #[plV low (.slice a n cap)] w fun e w' => (∃ v, e = .returned (plV 0 v) ∧ IntRow w.heap.size w' v (zs.map fun z => 1 * z)) ∧ Below w.heap.size w w' := by
  obtain ⟨i0, hi, hi0, hi1, hi2⟩ := info_parts infoInt
  have hd : decide (z0 < 0) = false := decide_eq_false h0n
  have h0i : 0 ≤ z0 := by omega
  have hlen := hs.len
  obtain ⟨x, rfl, hxb, hxc⟩ := hs.at_ h0
  have HX : Hid (∀ w1, Below w.heap.size w w1 → ∀ k, k < n → ∀ z, zs.getD k 0 = z → w1.cell? (x.add k) = some (.int .i64 z)) := Lib.hid fun w1 hb k hk z e => by
    rw [← e, List.getD_eq_getElem?_getD, List.getElem?_eq_getElem (by omega)]
    exact (hb.cell (p := x.add k) (by rw [addr_add_block]; exact hxb)).trans (hxc k (by omega))
  obtain ⟨W, hW⟩ : ∃ W, (w.alloc (.cells #[.int .i64 low, .slice (some x) n cap] 25)).alloc (.cells #[.int .i64 0, .slice none 0 0] 25) = W := ⟨_, rfl⟩
  have hsz : W.heap.size = w.heap.size + 2 := by rw [← hW]; simp
  have hbW : Below w.heap.size w W := by rw [← hW]; exact ((Below.refl _ w).alloc (Nat.le_refl _) _).alloc (by simp) _
  have HC : Hid (∀ w1, Below W.heap.size W w1 → w1.cell? ⟨w.heap.size, 0, none⟩ = some (.int .i64 low) ∧ w1.cell? ⟨w.heap.size, 1, none⟩ = some (.slice (some x) n cap) ∧ w1.cell? ⟨w.heap.size + 1, 0, none⟩ = some (.int .i64 0) ∧ w1.cell? ⟨w.heap.size + 1, 1, none⟩ = some (.slice none 0 0) ∧ w1.frozen? ⟨w.heap.size + 1, 0, none⟩ = false ∧ w1.frozen? ⟨w.heap.size + 1, 1, none⟩ = false) := Lib.hid fun w1 (hg : Below W.heap.size W w1) => by
    obtain ⟨c0, c1⟩ := boxCells (w := w) (w1 := w1) (r := w.heap.size) (x := .int .i64 low) (y := .slice (some x) n cap) rfl (Below.trans ((Below.refl _ _).alloc (by simp) (.cells #[.int .i64 0, .slice none 0 0] 25)) (by rw [hW]; exact hg.mono (by omega)))
    obtain ⟨d0, d1, f0, f1⟩ := resCells (w := w.alloc (.cells #[.int .i64 low, .slice (some x) n cap] 25)) (w1 := w1) (r := w.heap.size + 1) (by simp) (by rw [hW, show w.heap.size + 1 + 1 = W.heap.size by omega]; exact hg)
    exact ⟨c0, c1, d0, d1, f0, f1⟩
  have hm := made_at W W.heap.size rfl W.heap.size (Nat.le_refl _)
  have hbm : Below W.heap.size W (W.alloc (.cells #[] 3)) := (Below.refl _ W).alloc (Nat.le_refl _) _
  rw [hsz] at hm
  have HCS : Hid (∀ i, -1000000000 ≤ zs.getD i 0 ∧ zs.getD i 0 ≤ 1000000000) := Lib.hid hcs
  have HN := Lib.hid hlen
  have HBW := Lib.hid hbW
  have HW := Lib.hid hW
  have HM := Lib.hid hm
  have HBM := Lib.hid hbm
  obtain ⟨p0, p1, _, _, _, _⟩ := HC.out W (Below.refl _ _)
  have p2 := HX.out W hbW 0 h0 z0 hz0
  rw [show x.add 0 = x by unfold Addr.add; simp, ← hW] at p2
  clear hcs hlen hxc hxb hbW hW hm hbm hs hz0
  go_enter Try.func77, Try.ntmps77
  go_wp2_with fail
  rw [HW.out]
  go_loopw [4, 5] (fun v i wr => ∃ k : Nat, k ≤ n ∧ i = .int .i64 (k : Int) ∧ wr.ownsRow (w.heap.size + 2) 3 1 v k (timesL (1) zs k) ∧ Below W.heap.size W wr) (fun _ i _ => n - (intOf i).toNat)
  case atStart => exact ⟨0, Nat.zero_le _, rfl, HM.out, HBM.out⟩
  case round =>
    obtain ⟨k, hk, rfl, hr, hB⟩ := hrel
    obtain ⟨p0, p1, d0, d1, f0, f1⟩ := HC.out _ hB
    have hsr := hB.size
    by_cases hlt : k < n
    · obtain ⟨z, hz⟩ : ∃ z, zs.getD k 0 = z := ⟨_, rfl⟩
      have hkz : k < zs.length := by rw [HN.out]; exact hlt
      have hcz := HX.out _ (HBW.out.trans (hB.mono HBW.out.size)) k hlt z hz
      have hzz : zs[k] = z := by rw [← hz, List.getD_eq_getElem?_getD, List.getElem?_eq_getElem hkz]; rfl
      have hb := HCS.out k
      rw [hz] at hb
      obtain ⟨hb1, hb2⟩ := hb
      obtain ⟨q, hq⟩ : ∃ q, 1 * z = q := ⟨_, rfl⟩
      have HST := Lib.hid (timesL_step (1) zs hkz hzz hq)
      have hwr : IntKind.i64.wrap (1 * z) = q := by rw [IntWalk.i64_in _ (by omega)]; exact hq
      have hwr2 : IntKind.i64.wrap (z) = q := by rw [IntWalk.i64_in _ (by omega)]; omega
      have HR := Lib.hid (hr.alloc (.cells #[.int .i64 q] 3))
      have HNB := Lib.hid (World.news_of_block (cs := #[.int .i64 q]) (t := 3) (fr := (0, 0)) (World.alloc_heap_new wr (.cells #[.int .i64 q] 3)))
      have HOG := Lib.hid (own_ge hr)
      clear hz hzz hq hr
      go_wp2_with (at_builtin; refine wpList_append_own _ rfl _ _ 23 rfl (w.heap.size + 2) 3 i0 (.int .i64 0) 1 8 Try.underlying23 hi hi0 hi1 hi2 rfl (by decide) _ k _ rfl HR.out ⟨wr.heap.size, 0, none⟩ 1 1 [.int .i64 q] rfl rfl HNB.out (fun u hu => by simp at hu; rcases hu with rfl; rfl) (by unfold maxLen; omega) (by omega) (by simp; omega) ?_; intro v1 w1 hrow hgrow hnil)
      have hB1 := (hB.alloc (by omega) (.cells #[.int .i64 q] 3)).grown hgrow (by simp; omega) (fun j e => by have := HOG.out j e; omega)
      rw [HST.out] at hrow
      exact ⟨⟨k + 1, by omega, by go_num, hrow, by first | exact hB1 | (rw [hsz] at hB1; exact hB1)⟩, by simp [intOf]; omega⟩
    · obtain rfl : k = n := by omega
      obtain ⟨g1, cap1, rfl⟩ := Go.Joins.ownsRow_form hr (by omega)
      unfold timesL at hr
      rw [List.take_of_length_le (by rw [HN.out]; exact Nat.le_refl _)] at hr
      have HR := Lib.hid hr
      have HB := Lib.hid (HBW.out.trans (hB.mono HBW.out.size))
      clear hr hB
      go_wp2
      have hB3 := (HB.out.setCell (p := ⟨w.heap.size + 1, 0, none⟩) (Nat.le_succ _) (.int .i64 0)).setCell (p := ⟨w.heap.size + 1, 1, none⟩) (Nat.le_succ _) (.slice (some ⟨g1, 0, none⟩) k cap1)
      have hR : IntRow (w.heap.size + 2) wr (.slice (some ⟨g1, 0, none⟩) k cap1) (zs.map fun z => 1 * z) := by unfold IntRow; rw [List.length_map, HN.out]; exact HR.out
      refine bodyPost_ret (v := plV 0 (.slice (some ⟨g1, 0, none⟩) k cap1)) ?_ rfl ⟨⟨_, rfl, IntRow.mono (resRow (r := w.heap.size + 1) (.int .i64 0) (.slice (some ⟨g1, 0, none⟩) k cap1) hR (Nat.lt_succ_self _)) (Nat.le_succ _)⟩, hB3⟩
      simp [results, Try.results77, go_sem, d0, d1, plV]

set_option maxRecDepth 100000 in
set_option maxHeartbeats 4000000 in
theorem l6pPlain_none (low : Int) (a : Option Addr) (cap : Nat) (w : World) :
    Calls Try.prog 77 #[plV low (.slice a 0 cap)] w fun e w' => e = .returned (plV low (.slice a 0 cap)) ∧ Below w.heap.size w w' := by
  go_enter Try.func77, Try.ntmps77
  go_wp2
  refine bodyPost_ret (v := plV low (.slice a 0 cap)) ?_ rfl ⟨rfl, ((Below.refl _ w).alloc (Nat.le_refl _) _).alloc (by simp) _⟩
  simp [results, Try.results77, go_sem, plV]

theorem l6pPlain_any (low : Int) (zs : List Int) (a : Option Addr) (cap n : Nat) (w : World) (hs : Ints w a n zs) (hn : n ≤ 1048576) (hcs : ∀ i, -1000000000 ≤ zs.getD i 0 ∧ zs.getD i 0 ≤ 1000000000) :
    Calls Try.prog 77 #[plV low (.slice a n cap)] w fun e w' => (∃ a1 cap1, e = .returned (plV (plainP ⟨low, zs⟩).low (.slice a1 n cap1)) ∧ Ints w' a1 n (plainP ⟨low, zs⟩).cs) ∧ Below w.heap.size w w' := by
  have hl := hs.len
  by_cases h0 : n = 0
  · subst h0
    have e : plainP ⟨low, zs⟩ = ⟨low, zs⟩ := by unfold plainP; rw [if_pos hl]
    rw [e]
    refine (l6pPlain_none low a cap w).mono ?_
    rintro e w1 ⟨rfl, hb⟩
    exact ⟨⟨a, cap, rfl, hs.below hb⟩, hb⟩
  · have hm : ∀ z ∈ zs, -1000000000 ≤ z ∧ z ≤ 1000000000 := fun z hz => by
      obtain ⟨i, hi, rfl⟩ := List.mem_iff_getElem.1 hz
      have := hcs i
      rwa [List.getD_eq_getElem?_getD, List.getElem?_eq_getElem hi] at this
    by_cases hz : zs.getD 0 0 < 0
    · have e : plainP ⟨low, zs⟩ = ⟨0, zs.map fun z => -1 * z⟩ := by unfold plainP; rw [if_neg (by rw [hl]; exact h0)]; simp only [if_pos hz]
      rw [e]
      refine (l6pPlain_neg low _ zs a cap n w hs hn (by omega) rfl hz hcs).mono ?_
      rintro e w1 ⟨⟨v, rfl, hr⟩, hb⟩
      obtain ⟨a1, cap1, rfl, hi⟩ := hr.read (fun z hz => by obtain ⟨y, hy, rfl⟩ := List.mem_map.1 hz; have := hm y hy; omega)
      rw [List.length_map, hl] at hi ⊢
      exact ⟨⟨a1, cap1, rfl, hi⟩, hb⟩
    · have e : plainP ⟨low, zs⟩ = ⟨0, zs.map fun z => 1 * z⟩ := by unfold plainP; rw [if_neg (by rw [hl]; exact h0)]; simp only [if_neg hz]
      rw [e]
      refine (l6pPlain_pos low _ zs a cap n w hs hn (by omega) rfl hz hcs).mono ?_
      rintro e w1 ⟨⟨v, rfl, hr⟩, hb⟩
      obtain ⟨a1, cap1, rfl, hi⟩ := hr.read (fun z hz => by obtain ⟨y, hy, rfl⟩ := List.mem_map.1 hz; have := hm y hy; omega)
      rw [List.length_map, hl] at hi ⊢
      exact ⟨⟨a1, cap1, rfl, hi⟩, hb⟩

end Go.Proofs.Ytakfobihakbefaa

/- The model's PolyPlain. -/

namespace Go.Proofs.Ytakfobihakbefaa
open Go.RowKit

theorem boxResCells {w w1 W : World} {x y : Value} (hW : (w.alloc (.cells #[x, y] 25)).alloc (.cells #[.int .i64 0, .slice none 0 0] 25) = W) (hg : Below W.heap.size W w1) :
    w1.cell? ⟨w.heap.size, 0, none⟩ = some x ∧ w1.cell? ⟨w.heap.size, 1, none⟩ = some y ∧ w1.cell? ⟨w.heap.size + 1, 0, none⟩ = some (.int .i64 0) ∧ w1.cell? ⟨w.heap.size + 1, 1, none⟩ = some (.slice none 0 0) ∧ w1.frozen? ⟨w.heap.size + 1, 0, none⟩ = false ∧ w1.frozen? ⟨w.heap.size + 1, 1, none⟩ = false := by
  have hsz : W.heap.size = w.heap.size + 2 := by rw [← hW]; simp
  obtain ⟨c0, c1⟩ := boxCells (w := w) (w1 := w1) (r := w.heap.size) (x := x) (y := y) rfl (Below.trans ((Below.refl _ _).alloc (by simp) (.cells #[.int .i64 0, .slice none 0 0] 25)) (by rw [hW]; exact hg.mono (by omega)))
  obtain ⟨d0, d1, f0, f1⟩ := resCells (w := w.alloc (.cells #[x, y] 25)) (w1 := w1) (r := w.heap.size + 1) (by simp) (by rw [hW, show w.heap.size + 1 + 1 = W.heap.size by omega]; exact hg)
  exact ⟨c0, c1, d0, d1, f0, f1⟩
theorem boxResBelow {w W : World} {x y : Value} (hW : (w.alloc (.cells #[x, y] 25)).alloc (.cells #[.int .i64 0, .slice none 0 0] 25) = W) : Below w.heap.size w W ∧ W.heap.size = w.heap.size + 2 := by
  subst hW
  exact ⟨((Below.refl _ w).alloc (Nat.le_refl _) _).alloc (by simp) _, by simp⟩
/-- The answer of a function whose answer lies behind a box. -/
theorem resRow1 {w2 : World} {r base : Nat} {v : Value} {zs : List Int} (x y : Value) (h : IntRow base w2 v zs) (hb : r + 1 < base) : IntRow r ((w2.setCell ⟨r + 1, 0, none⟩ x).setCell ⟨r + 1, 1, none⟩ y) v zs :=
  IntRow.mono (resRow (r := r + 1) x y h hb) (Nat.le_succ _)
theorem resBelow1 {w w2 : World} {r : Nat} (x y : Value) (h : Below r w w2) : Below r w ((w2.setCell ⟨r + 1, 0, none⟩ x).setCell ⟨r + 1, 1, none⟩ y) :=
  (h.setCell (p := ⟨r + 1, 0, none⟩) (Nat.le_succ _) x).setCell (p := ⟨r + 1, 1, none⟩) (Nat.le_succ _) y

set_option maxRecDepth 100000 in
set_option maxHeartbeats 4000000 in
theorem sPolyPlain_any (low : Int) (zs : List Int) (a : Option Addr) (cap n : Nat) (b : Bool) (w : World) (hs : Ints w a n zs) (hb : polyB ⟨low, zs⟩ = b) :
    Calls Try.prog 26 #[plV low (.slice a n cap)] w fun e w' => (∃ v, e = .returned (.tuple #[plV (doneP b (plainP ⟨low, zs⟩)).low v, .bool b]) ∧ IntRow w.heap.size w' v (doneP b (plainP ⟨low, zs⟩)).cs) ∧ Below w.heap.size w w' := by
  obtain ⟨W, hW⟩ : ∃ W, (w.alloc (.cells #[.int .i64 low, .slice a n cap] 25)).alloc (.cells #[.int .i64 0, .slice none 0 0] 25) = W := ⟨_, rfl⟩
  obtain ⟨hbW, hsz⟩ := boxResBelow hW
  have HC : Hid (∀ w1, Below W.heap.size W w1 → _) := Lib.hid fun w1 (hg : Below W.heap.size W w1) => boxResCells hW hg
  have HP := Lib.hid (sPolyIn_any low zs a cap n b W (hs.below hbW) hb)
  have HS := Lib.hid (hs.below hbW)
  have HL := Lib.hid hs.len
  have HB := Lib.hid hb
  have HBW := Lib.hid hbW
  have HW := Lib.hid hW
  clear hW hbW hs hb
  go_enter Try.func26, Try.ntmps26
  go_wp2_with fail
  rw [HW.out]
  refine HP.out.mono ?_
  rintro e w1 ⟨rfl, hb1⟩
  obtain ⟨q0, q1, d0, d1, f0, f1⟩ := HC.out w1 hb1
  have hs1 := hb1.size
  have HB1 := Lib.hid hb1
  clear hb1
  cases b with
  | false =>
    go_wp2_with fail
    refine (l6pNone_any _).mono ?_
    rintro e w2 ⟨⟨v, rfl, hr⟩, hb2⟩
    obtain ⟨_, _, d0, d1, f0, f1⟩ := HC.out w2 (HB1.out.trans (hb2.mono hs1))
    have HR := Lib.hid hr
    have HB2 := Lib.hid (HBW.out.trans ((HB1.out.trans (hb2.mono hs1)).mono HBW.out.size))
    obtain ⟨g1, gg, cap1, rfl, _⟩ := hr.shape
    clear hr hb2
    go_wp2
    refine bodyPost_ret (v := .tuple #[plV 0 (.slice g1 0 cap1), .bool false]) ?_ rfl ⟨⟨_, rfl, resRow1 (.int .i64 0) (.slice g1 0 cap1) HR.out (by omega)⟩, resBelow1 (.int .i64 0) (.slice g1 0 cap1) HB2.out⟩
    simp [results, Try.results26, go_sem, d0, d1, plV]
  | true =>
    obtain ⟨_, h200, _, _, hcs⟩ := polyB_trim HB.out
    have hn2 : n ≤ 200 := by rw [← HL.out]; exact h200
    have HQ := Lib.hid (l6pPlain_any low zs a cap n w1 (HS.out.below HB1.out) (by omega) hcs)
    clear hcs h200
    go_wp2_with fail
    refine HQ.out.mono ?_
    rintro e w2 ⟨⟨a1, cap1, rfl, hi⟩, hb2⟩
    have hs2 := hb2.size
    have HB2 := Lib.hid (HB1.out.trans (hb2.mono hs1))
    have HD := Lib.hid (l6pCopy_any (plainP ⟨low, zs⟩).low (plainP ⟨low, zs⟩).cs a1 cap1 n w2 hi (by omega))
    clear hi hb2
    go_wp2_with fail
    refine HD.out.mono ?_
    rintro e w3 ⟨⟨v, rfl, hr⟩, hb3⟩
    obtain ⟨_, _, d0, d1, f0, f1⟩ := HC.out w3 (HB2.out.trans (hb3.mono (by omega)))
    have HR := Lib.hid hr
    have HB3 := Lib.hid (HBW.out.trans ((HB2.out.trans (hb3.mono (by omega))).mono HBW.out.size))
    obtain ⟨g2, gg, cap2, rfl, _⟩ := hr.shape
    clear hr hb3
    go_wp2
    refine bodyPost_ret (v := .tuple #[plV (plainP ⟨low, zs⟩).low (.slice g2 (plainP ⟨low, zs⟩).cs.length cap2), .bool true]) ?_ rfl ⟨⟨_, rfl, resRow1 (.int .i64 (plainP ⟨low, zs⟩).low) (.slice g2 (plainP ⟨low, zs⟩).cs.length cap2) HR.out (by omega)⟩, resBelow1 (.int .i64 (plainP ⟨low, zs⟩).low) (.slice g2 (plainP ⟨low, zs⟩).cs.length cap2) HB3.out⟩
    simp [results, Try.results26, go_sem, d0, d1, plV]

end Go.Proofs.Ytakfobihakbefaa

/- The model's PolyTurned. -/

namespace Go.Proofs.Ytakfobihakbefaa
open Go.RowKit

theorem IntRow.readc {base : Nat} {w : World} {v : Value} {zs : List Int} (h : IntRow base w v zs) (hw : ∀ z ∈ zs, -9223372036854775808 ≤ z ∧ z ≤ 9223372036854775807) : ∃ a cap, v = .slice a zs.length cap ∧ zs.length ≤ cap ∧ Ints w a zs.length zs := by
  obtain ⟨a, cap, hv, hi⟩ := h.read hw
  refine ⟨a, cap, hv, ?_, hi⟩
  rcases h.2 with ⟨rfl, h0⟩ | ⟨g, c, cur, rfl, _, _, hn, _⟩
  · simp at hv
    omega
  · simp at hv
    omega
theorem rowI {w : World} {base n : Nat} {v : Value} {zs : List Int} (h : w.ownsRow base 3 1 v n (intsV zs)) (hn : zs.length = n) : IntRow base w v zs := by
  subst hn
  exact h
def firstL (zs : List Int) (k : Nat) : List Value := intsV (zs.take k)
theorem firstL_step (zs : List Int) {k : Nat} {z : Int} (hk : k < zs.length) (hz : zs[k] = z) : firstL zs k ++ [.int .i64 z] = firstL zs (k + 1) := by
  unfold firstL
  rw [List.take_succ_eq_append_getElem hk]
  unfold intsV
  rw [List.map_append, hz]
  rfl

end Go.Proofs.Ytakfobihakbefaa

/- How the laws' own toPoly answers, for the laws. -/

namespace Go.Proofs.Ytakfobihakbefaa
open Go.RowKit

theorem toPoly_t (low : Int) (a : Option Addr) (cap n : Nat) (zs : List Int) (w : World) (hm : n ≤ 1048576) (hs : Ints w a n zs) :
    Calls Try.prog 59 #[plV low (.slice a n cap)] w fun e w' => (∃ g, e = .returned (plV low (.slice (some ⟨g, 0, none⟩) n n)) ∧ w.heap.size ≤ g ∧ IntRow w.heap.size w' (.slice (some ⟨g, 0, none⟩) n n) zs ∧ Ints w' (some ⟨g, 0, none⟩) n zs) ∧ Below w.heap.size w w' := by
  refine (toPoly_any low a cap n zs w hm hs).mono ?_
  rintro e w1 ⟨⟨g, rfl, hg, hr⟩, hb⟩
  obtain ⟨a1, cap1, hv, hi⟩ := hr.read hs.wf
  have hl := hs.len
  subst hl
  simp at hv
  obtain ⟨rfl, _⟩ := hv
  exact ⟨⟨g, rfl, hg, hr, hi⟩, hb⟩

end Go.Proofs.Ytakfobihakbefaa

/- Boxes of polynomials in a law's walk; marks of polynomials that change one block alone. -/

namespace Go.Proofs.Ytakfobihakbefaa
open Go.RowKit

/-- Block j holds a struct of two cells. -/
def BoxAt (w : World) (j : Nat) (x y : Value) : Prop := j < w.heap.size ∧ w.cell? ⟨j, 0, none⟩ = some x ∧ w.cell? ⟨j, 1, none⟩ = some y
theorem BoxAt.below {w w' : World} {j : Nat} {x y : Value} (h : BoxAt w j x y) (hb : Below w.heap.size w w') : BoxAt w' j x y :=
  ⟨Nat.lt_of_lt_of_le h.1 hb.size, (hb.cell (p := ⟨j, 0, none⟩) h.1).trans h.2.1, (hb.cell (p := ⟨j, 1, none⟩) h.1).trans h.2.2⟩
theorem BoxAt.grown {w w' : World} {j : Nat} {x y : Value} {row : Option Nat} (h : BoxAt w j x y) (hg : w.grownBy w' row) (hne : row ≠ some j) : BoxAt w' j x y := by
  have e := hg.block j h.1 (Ne.symm hne)
  refine ⟨Nat.lt_of_lt_of_le h.1 hg.size, ?_, ?_⟩
  · rw [← h.2.1]; simp [World.cell?, e]
  · rw [← h.2.2]; simp [World.cell?, e]
theorem boxNew {w W : World} {t : TypeId} {x y : Value} (hW : w.alloc (.cells #[x, y] t) = W) : BoxAt W w.heap.size x y := by
  subst hW
  have e := World.alloc_heap_new w (.cells #[x, y] t)
  refine ⟨by simp, ?_, ?_⟩
  · unfold World.cell?; rw [show (⟨w.heap.size, 0, none⟩ : Addr).block = w.heap.size from rfl, e]; rfl
  · unfold World.cell?; rw [show (⟨w.heap.size, 1, none⟩ : Addr).block = w.heap.size from rfl, e]; rfl
theorem own_lt {w : World} {base size : Nat} {e : TypeId} {v : Value} {n : Nat} {xs : List Value} (h : w.ownsRow base e size v n xs) : ∀ j, v.ownBlock = some j → j < w.heap.size := fun j e => by
  rcases h.2 with ⟨rfl, _⟩ | ⟨g, cap, cur, rfl, hb, hg, _⟩
  · cases e
  · simp [Value.ownBlock] at e
    subst e
    exact (Array.getElem?_eq_some_iff.1 hg).1
theorem IntRow.grown {base : Nat} {w w' : World} {v : Value} {zs : List Int} {row : Option Nat} (h : IntRow base w v zs) (hg : w.grownBy w' row) (hne : ∀ j, v.ownBlock = some j → row ≠ some j) : IntRow base w' v zs :=
  h.kept hg (by
    rcases h.2 with ⟨rfl, _⟩ | ⟨g, cap, cur, rfl, _⟩
    · exact .inl rfl
    · exact .inr fun e => hne g rfl e.symm)

set_option maxRecDepth 100000 in
set_option maxHeartbeats 2000000 in
theorem markPoly_g (base : Nat) (low : Int) (v : Value) (zs : List Int) (k : Nat) (w : World) (h : IntRow base w v zs) (hk : k ≤ 1000000000000) (hn2 : zs.length ≤ 1000000000000) :
    Calls Try.prog 61 #[plV low v, .int .i64 k] w fun e w' => e = .returned (.int .i64 ((k + zs.length : Nat) : Int)) ∧ IntRow base w' v (marks k zs.length) ∧ w.grownBy w' v.ownBlock := by
  have hbW : Below w.heap.size w (w.alloc (.cells #[.int .i64 low, v] 25)) := (Below.refl _ w).alloc (Nat.le_refl _) _
  have HM := Lib.hid (markIntS_any base v zs k _ (h.below hbW) hk hn2)
  have HG0 := Lib.hid (World.grownBy_alloc w (.cells #[.int .i64 low, v] 25) v.ownBlock)
  clear h hbW
  go_enter Try.func61, Try.ntmps61
  go_wp2_with fail
  refine HM.out.mono ?_
  rintro e w1 ⟨rfl, hr, hg⟩
  have HR := Lib.hid hr
  have HG := Lib.hid (HG0.out.trans hg)
  clear hr hg
  go_wp2
  go_ret
  exact ⟨rfl, HR.out, HG.out⟩

end Go.Proofs.Ytakfobihakbefaa

/- Rows of a call's own when other blocks turn. -/

namespace Go.Proofs.Ytakfobihakbefaa
open Go.RowKit

theorem ownsRow_touched {w w' : World} {base : Nat} {e : TypeId} {size : Nat} {v : Value} {n : Nat} {xs : List Value} (h : w.ownsRow base e size v n xs) (ht : ∀ b, v.ownBlock = some b → b < w.heap.size → w'.heap[b]? = w.heap[b]?) : w'.ownsRow base e size v n xs := by
  refine ⟨h.1, ?_⟩
  rcases h.2 with ⟨rfl, h0⟩ | ⟨g, cap, cur, rfl, hb, hg, h3⟩
  · exact .inl ⟨rfl, h0⟩
  · exact .inr ⟨g, cap, cur, rfl, hb, (ht g rfl (Array.getElem?_eq_some_iff.1 hg).1).trans hg, h3⟩
/-- What lies elsewhere is as it was. -/
structure Touched (S : Nat → Prop) (w w' : World) : Prop where
  os : w'.os = w.os
  tape : w'.tape = w.tape
  output : w'.output = w.output
  size : w.heap.size ≤ w'.heap.size
  block : ∀ i, i < w.heap.size → ¬ S i → w'.heap[i]? = w.heap[i]?
theorem Touched.refl (S : Nat → Prop) (w : World) : Touched S w w := ⟨rfl, rfl, rfl, Nat.le_refl _, fun _ _ _ => rfl⟩
theorem Touched.grown {S : Nat → Prop} {w w1 w2 : World} {row : Option Nat} (h : Touched S w w1) (hg : w1.grownBy w2 row) (hS : ∀ b, row = some b → S b) : Touched S w w2 :=
  ⟨hg.os.trans h.os, hg.tape.trans h.tape, hg.output.trans h.output, Nat.le_trans h.size hg.size, fun i hi hn => by
    rw [hg.block i (Nat.lt_of_lt_of_le hi h.size) (fun e => hn (hS i e.symm)), h.block i hi hn]⟩
theorem Touched.below {S : Nat → Prop} {lo : Nat} {w w' : World} (h : Touched S w w') (hl : lo ≤ w.heap.size) (hS : ∀ i, S i → lo ≤ i) : Below lo w w' :=
  ⟨h.os, h.tape, h.output, h.size, fun i hi => h.block i (by omega) fun hs => by have := hS i hs; omega⟩
theorem ownsRow_bel {w w' : World} {base : Nat} {e : TypeId} {size : Nat} {v : Value} {n : Nat} {xs : List Value} (h : w.ownsRow base e size v n xs) (hb : Below w.heap.size w w') : w'.ownsRow base e size v n xs :=
  ownsRow_touched h fun b _ hl => hb.block b hl
theorem ownsRow_lt {w : World} {base size : Nat} {e : TypeId} {v : Value} {n : Nat} {xs : List Value} (h : w.ownsRow base e size v n xs) : ∀ j, v.ownBlock = some j → base ≤ j ∧ j < w.heap.size := fun j e => by
  rcases h.2 with ⟨rfl, _⟩ | ⟨g, cap, cur, rfl, hb, hg, _⟩
  · cases e
  · simp [Value.ownBlock] at e
    subst e
    exact ⟨hb, (Array.getElem?_eq_some_iff.1 hg).1⟩
theorem Touched.trans {S : Nat → Prop} {w w1 w2 : World} (h : Touched S w w1) (k : Touched S w1 w2) : Touched S w w2 :=
  ⟨k.os.trans h.os, k.tape.trans h.tape, k.output.trans h.output, Nat.le_trans h.size k.size, fun i hi hn => (k.block i (Nat.lt_of_lt_of_le hi h.size) hn).trans (h.block i hi hn)⟩
theorem Touched.mono {S T : Nat → Prop} {w w' : World} (h : Touched S w w') (hS : ∀ b, S b → T b) : Touched T w w' :=
  ⟨h.os, h.tape, h.output, h.size, fun i hi hn => h.block i hi fun hs => hn (hS i hs)⟩
theorem Touched.of_below {S : Nat → Prop} {w w' : World} (h : Below w.heap.size w w') : Touched S w w' := ⟨h.os, h.tape, h.output, h.size, fun i hi _ => h.block i hi⟩

end Go.Proofs.Ytakfobihakbefaa

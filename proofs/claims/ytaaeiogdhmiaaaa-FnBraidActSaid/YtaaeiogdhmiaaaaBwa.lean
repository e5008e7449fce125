/- What the laws' proofs stand on, part 1 of several. -/
import Derived.Test.YtaaeiogdhmiaaaaRows
import Derived.WalkKit
import Derived.ProofKit
import Derived.Conc.Holds
import Derived.Leaving
import Derived.Below
import Derived.Laws.AppendOwn
import Derived.Deep.Draws
import Derived.Laws.Strings
import Derived.Test.YtaaeiogdhmiaaaaChecked
import Derived.WalkSmall
import Derived.RangeFuncBox
import Derived.Maps.AppendAt
import Derived.WalkSpells
import Derived.Deep.QuietTactic
import Derived.BigQuiet
import Derived.Lib.Hide
import Derived.Laws.BytesString
import Derived.Laws.IdiomStrings
import Derived.Outline
import Derived.Lib.Strings
import Derived.RangeFuncNested
import Derived.RangeFuncBound
import Derived.RangeFuncCalls
import Derived.RangeFuncLeaves
import Derived.Shelf.Abstract
import Derived.Shelf.RegionOpen
import Derived.OwnWalkIn
import Derived.TacticsInMore
import Derived.LoopNIn
import Derived.LoopIn

/- The closed facts of a row that ask how the order of initialisation begins, told from its first words alone: a long one would cost the kernel too much memory. -/

namespace Go.Proofs.Ytaaeiogdhmiaaaa
open Go.RowKit

def signs (l : List Nat) : List Char := l.map Char.ofNat
def wd1 : List Nat := [104, 97, 114, 110, 101, 115, 115]
def wd2 : List Nat := [49, 54, 50, 49, 55, 53, 51, 51, 57, 102, 55, 50, 51, 102, 101, 102, 57, 49, 99, 48, 97, 102, 51, 97, 97, 54, 51, 102, 100, 102, 50, 48, 57, 50, 54, 101, 51, 99, 97, 56, 48, 98, 56, 101, 56, 57, 56, 97, 57, 56, 56, 54, 55, 56, 98, 48, 99, 101, 102, 50, 100, 53, 97, 53]
def wd3 : List Nat := [99, 117, 116]
def wd4 : List Nat := [97, 116, 32, 108, 111, 111, 112, 46, 101, 120, 97, 109, 112, 108, 101, 47, 102, 111, 120, 99, 97, 108, 99, 117, 108, 117, 115, 47, 108, 97, 119, 115, 46, 70, 110, 69, 120, 97, 99, 116, 66, 114, 97, 105, 100, 73, 110, 32, 108, 111, 111, 112, 46, 101, 120, 97, 109, 112, 108, 101, 47, 102, 111, 120, 99, 97, 108, 99, 117, 108, 117, 115, 47, 108, 97, 119, 115, 46, 70, 110, 69, 120, 97, 99, 116, 66, 114, 97, 105, 100, 84, 105, 109, 101, 115, 32, 108, 111, 111, 112, 46, 101, 120, 97, 109, 112, 108, 101, 47, 102, 111, 120, 99, 97, 108, 99, 117, 108, 117, 115, 47, 108, 97, 119, 115, 46, 70, 110, 69, 120, 97, 99, 116, 66, 114, 97, 105, 100, 84, 117, 114, 110, 101, 100, 32, 108, 111, 111, 112, 46, 101, 120, 97, 109, 112, 108, 101, 47, 102, 111, 120, 99, 97, 108, 99, 117, 108, 117, 115, 47, 108, 97, 119, 115, 46, 70, 110, 69, 120, 97, 99, 116, 66, 114, 97, 105, 100, 65, 99, 116, 32, 108, 111, 111, 112, 46, 101, 120, 97, 109, 112, 108, 101, 47, 102, 111, 120, 99, 97, 108, 99, 117, 108, 117, 115, 47, 108, 97, 119, 115, 46, 70, 110, 69, 120, 97, 99, 116, 66, 114, 97, 105, 100, 80, 101, 114, 109, 32, 108, 111, 111, 112, 46, 101, 120, 97, 109, 112, 108, 101, 47, 102, 111, 120, 99, 97, 108, 99, 117, 108, 117, 115, 47, 108, 97, 119, 115, 46, 70, 110, 69, 120, 97, 99, 116, 66, 114, 97, 105, 100, 83, 117, 109, 32, 108, 111, 111, 112, 46, 101, 120, 97, 109, 112, 108, 101, 47, 102, 111, 120, 99, 97, 108, 99, 117, 108, 117, 115, 47, 108, 97, 119, 115, 46, 70, 110, 69, 120, 97, 99, 116, 66, 114, 97, 105, 100, 71, 114, 111, 119, 32, 108, 111, 111, 112, 46, 101, 120, 97, 109, 112, 108, 101, 47, 102, 111, 120, 99, 97, 108, 99, 117, 108, 117, 115, 47, 108, 97, 119, 115, 46, 70, 110, 69, 120, 97, 99, 116, 66, 114, 97, 105, 100, 75, 110, 111, 116, 32, 108, 111, 111, 112, 46, 101, 120, 97, 109, 112, 108, 101, 47, 102, 111, 120, 99, 97, 108, 99, 117, 108, 117, 115, 47, 108, 97, 119, 115, 46, 70, 110, 69, 120, 97, 99, 116, 66, 114, 97, 105, 100, 71, 114, 111, 117, 112, 32, 108, 111, 111, 112, 46, 101, 120, 97, 109, 112, 108, 101, 47, 102, 111, 120, 99, 97, 108, 99, 117, 108, 117, 115, 47, 108, 97, 119, 115, 46, 70, 110, 69, 120, 97, 99, 116, 71, 114, 111, 117, 112, 83, 117, 109, 115, 32, 108, 111, 111, 112, 46, 101, 120, 97, 109, 112, 108, 101, 47, 102, 111, 120, 99, 97, 108, 99, 117, 108, 117, 115, 47, 108, 97, 119, 115, 46, 70, 110, 66, 114, 97, 105, 100, 32, 108, 111, 111, 112, 46, 101, 120, 97, 109, 112, 108, 101, 47, 102, 111, 120, 99, 97, 108, 99, 117, 108, 117, 115, 47, 108, 97, 119, 115, 46, 70, 110, 82, 101, 108, 97, 116, 105, 111, 110, 115, 32, 108, 111, 111, 112, 46, 101, 120, 97, 109, 112, 108, 101, 47, 102, 111, 120, 99, 97, 108, 99, 117, 108, 117, 115, 47, 108, 97, 119, 115, 46, 70, 110, 70, 97, 114, 32, 108, 111, 111, 112, 46, 101, 120, 97, 109, 112, 108, 101, 47, 102, 111, 120, 99, 97, 108, 99, 117, 108, 117, 115, 47, 108, 97, 119, 115, 46, 70, 110, 66, 114, 97, 105, 100, 84, 105, 109, 101, 115, 32, 108, 111, 111, 112, 46, 101, 120, 97, 109, 112, 108, 101, 47, 102, 111, 120, 99, 97, 108, 99, 117, 108, 117, 115, 47, 108, 97, 119, 115, 46, 70, 110, 66, 114, 97, 105, 100, 84, 117, 114, 110, 101, 100, 32, 108, 111, 111, 112, 46, 101, 120, 97, 109, 112, 108, 101, 47, 102, 111, 120, 99, 97, 108, 99, 117, 108, 117, 115, 47, 108, 97, 119, 115, 46, 70, 110, 66, 114, 97, 105, 100, 65, 99, 116, 32, 108, 111, 111, 112, 46, 101, 120, 97, 109, 112, 108, 101, 47, 102, 111, 120, 99, 97, 108, 99, 117, 108, 117, 115, 47, 108, 97, 119, 115, 46, 70, 110, 66, 114, 97, 105, 100, 80, 101, 114, 109, 32, 108, 111, 111, 112, 46, 101, 120, 97, 109, 112, 108, 101, 47, 102, 111, 120, 99, 97, 108, 99, 117, 108, 117, 115, 47, 108, 97, 119, 115, 46, 70, 110, 66, 114, 97, 105, 100, 83, 117, 109, 32, 108, 111, 111, 112, 46, 101, 120, 97, 109, 112, 108, 101, 47, 102, 111, 120, 99, 97, 108, 99, 117, 108, 117, 115, 47, 108, 97, 119, 115, 46, 70, 110, 75, 110, 111, 116]
theorem order_is : Try.prog.initOrder = String.ofList (signs wd1 ++ Char.ofNat 32 :: (signs wd2 ++ Char.ofNat 32 :: (signs wd3 ++ Char.ofNat 32 :: signs wd4))) := by kernel_rfl
theorem words_next (q : List Char) : ∀ p : List Char, (p.all fun c => !decide (c = Char.ofNat 32)) = true → wordsSigns (p ++ Char.ofNat 32 :: q) = p :: wordsSigns q
  | [], _ => rfl
  | c :: p, h => by
    rw [List.all_cons, Bool.and_eq_true] at h
    have ih := words_next q p h.2
    have hc : c ≠ Char.ofNat 32 := by simpa using h.1
    rw [List.cons_append, wordsSigns, ih]
    intro e
    exact hc e
theorem words_are : ∃ W, wordsSigns Try.prog.initOrder.toList = signs wd1 :: signs wd2 :: signs wd3 :: W := by
  refine ⟨wordsSigns (signs wd4), ?_⟩
  rw [order_is, String.toList_ofList, words_next _ _ (by kernel_rfl), words_next _ _ (by kernel_rfl), words_next _ _ (by kernel_rfl)]
theorem main_w (W : List (List Char)) : behindMainWord (signs wd1 :: signs wd2 :: signs wd3 :: W) = signs wd3 :: W := by kernel_rfl
theorem cut_w (W : List (List Char)) : stripLifts liftWords (signs wd3 :: W) = ([], signs wd3 :: W) := by kernel_rfl
theorem cut_1 : (signs wd3 == "gc".toList || signs wd3 == "spec".toList) = false := by kernel_rfl
theorem cut_2 : (signs wd3 == "cut".toList) = true := by kernel_rfl
theorem cut_3 : (some (signs wd3) == some "cut".toList) = true := by kernel_rfl
theorem cut_4 : (some (signs wd3) == some "carried".toList) = false := by kernel_rfl
theorem heads_of (P : Program) (W : List (List Char)) (h : behindMainWord (wordsSigns P.initOrder.toList) = signs wd3 :: W) : P.headLifts = [] := by
  unfold Program.headLifts
  rw [h, cut_w]
  show (if (some (signs wd3) == some "cut".toList) = true then ([] : List String) else []) = []
  rw [if_pos cut_3]
theorem make_of (P : Program) (W : List (List Char)) (h : behindMainWord (wordsSigns P.initOrder.toList) = signs wd3 :: W) : P.make = some .cut := by
  unfold Program.make
  rw [h]
  dsimp only
  rw [if_neg (by rw [cut_1]; exact Bool.false_ne_true), if_pos (by rw [cut_2, Bool.true_or])]
theorem lifts_of (P : Program) (W : List (List Char)) (h : behindMainWord (wordsSigns P.initOrder.toList) = signs wd3 :: W) : P.liftsFinal = false := by
  unfold Program.liftsFinal
  rw [h, heads_of P W h]
  show ((some (signs wd3) == some "carried".toList) && _ || ([] : List String).contains "finals") = false
  rw [cut_4, Bool.false_and]
  rfl
theorem enter_of (P : Program) (W : List (List Char)) (h : behindMainWord (wordsSigns P.initOrder.toList) = signs wd3 :: W) (hl : P.laysLater = false) (hr : P.bearsReflect = false) (hd : P.doorFits [] = true) : P.mayEnter = true := by
  unfold Program.mayEnter
  rw [h]
  dsimp only
  rw [cut_w]
  dsimp only
  rw [hl, hr, hd, show (signs wd3 :: W).head? = some (signs wd3) from rfl, cut_3]
  simp
theorem words_main : ∃ W, behindMainWord (wordsSigns Try.prog.initOrder.toList) = signs wd3 :: W := by
  obtain ⟨W, hW⟩ := words_are
  exact ⟨W, by rw [hW]; exact main_w W⟩
theorem later_no : Try.prog.laysLater = false := by kernel_rfl
theorem reflect_no : Try.prog.bearsReflect = false := by kernel_rfl
theorem door_yes : Try.prog.doorFits [] = true := by kernel_rfl
theorem make_is : Try.prog.make = some .cut := by
  obtain ⟨W, hW⟩ := words_main
  exact make_of _ W hW
theorem lifts_is : Try.prog.liftsFinal = false := by
  obtain ⟨W, hW⟩ := words_main
  exact lifts_of _ W hW
theorem enter_is : Try.prog.mayEnter = true := by
  obtain ⟨W, hW⟩ := words_main
  exact enter_of _ W hW later_no reflect_no door_yes
def restOf (P : Program) (f : FuncId) (fn : Func) (s : ChangeSpec) (c : OpenClaim) : { b : Bool // P.mayEnter = true → P.liftsFinal = false → P.make = some .cut → joinedFacts P f fn s c = b } := by
  refine ⟨?b, fun h1 h2 h3 => ?h⟩
  case h =>
    unfold joinedFacts
    rw [h1, h2, h3]

end Go.Proofs.Ytaaeiogdhmiaaaa

/- A call that starts no goroutine: what is said of it alone holds as 'leaving', too. -/

namespace Go.Proofs.Ytaaeiogdhmiaaaa

theorem leaving_of_handed {a : Assume} {C : Checked} {os : Os} {f : FuncId} {r : Reach} {Pre : World → Array Value → Prop} {Post : World → Array Value → Value → World → Prop} (h : ReturnsInHanded a C os f r Pre Post) : ReturnsInLeavingWide a C os f r Pre Post := fun enter => by
  obtain ⟨g0, g1, g2, g3, all⟩ := h enter
  refine ⟨g0, g1, g2, g3, fun w tape i hf => ?_⟩
  obtain ⟨n, v, w', hn, hc, hr, hp, ⟨j, last, hj, hs, hq, hh, he⟩, ha⟩ := all w tape i hf
  exact ⟨n, v, w', hn, hc, hr, hp, ⟨j, last, hj, hs, hh, onlyLeaving_of_quiet hq, he⟩, ha⟩

end Go.Proofs.Ytaaeiogdhmiaaaa

/- Plain lists of bytes: words of the free group as lists of bytes, reducing them by a stack, their inverses. Nothing of the program is imported. -/

namespace Go.Proofs.Ytaaeiogdhmiaaaa

/-- The inverse of a letter, as the model has it. -/
def turnB (c : UInt8) : UInt8 := if 97 ≤ c.toNat then c - 32 else c + 32
/-- Is a byte a letter? -/
def letB (c : UInt8) : Bool := decide ((97 ≤ c.toNat ∧ c.toNat ≤ 100) ∨ (65 ≤ c.toNat ∧ c.toNat ≤ 68))
/-- One step of the stack. -/
def redStep (l : List UInt8) (c : UInt8) : List UInt8 := if l.getLast? = some (turnB c) then l.dropLast else l ++ [c]
/-- The stack. -/
def redL (l : List UInt8) (s : List UInt8) : List UInt8 := s.foldl redStep l
def letL (s : List UInt8) : Bool := s.all letB
def backL (s : List UInt8) : List UInt8 := (s.reverse).map turnB
def bytesV (l : List UInt8) : List Value := l.map fun c => Value.int .u8 (c.toNat : Int)

theorem bytesV_length (l : List UInt8) : (bytesV l).length = l.length := by simp [bytesV]
theorem bytesV_append (a b : List UInt8) : bytesV (a ++ b) = bytesV a ++ bytesV b := by simp [bytesV]

theorem redL_snoc (l s : List UInt8) (c : UInt8) : redL l (s ++ [c]) = redStep (redL l s) c := by simp [redL]
theorem redL_nil (l : List UInt8) : redL l [] = l := rfl
theorem redL_append (l a b : List UInt8) : redL l (a ++ b) = redL (redL l a) b := by simp [redL]
theorem redStep_len (l : List UInt8) (c : UInt8) : (redStep l c).length ≤ l.length + 1 := by
  unfold redStep; split <;> simp <;> omega
theorem redL_len (s : List UInt8) : ∀ l : List UInt8, (redL l s).length ≤ l.length + s.length := by
  induction s with
  | nil => intro l; simp [redL]
  | cons c s ih =>
    intro l
    have h := ih (redStep l c)
    have h2 := redStep_len l c
    show (redL (redStep l c) s).length ≤ _
    simp only [List.length_cons]
    omega
theorem letB_iff (c : UInt8) : letB c = true ↔ ((97 ≤ c.toNat ∧ c.toNat ≤ 100) ∨ (65 ≤ c.toNat ∧ c.toNat ≤ 68)) := by simp [letB]
theorem turnB_hi (c : UInt8) (h : 97 ≤ c.toNat) : ((turnB c).toNat : Int) = (c.toNat : Int) - 32 := by
  unfold turnB
  rw [if_pos h, UInt8.toNat_sub_of_le _ _ (by rw [UInt8.le_iff_toNat_le]; show 32 ≤ _; omega)]
  show ((c.toNat - 32 : Nat) : Int) = _
  omega
theorem turnB_lo (c : UInt8) (h : c.toNat < 97) : ((turnB c).toNat : Int) = (c.toNat : Int) + 32 := by
  unfold turnB
  rw [if_neg (by omega), UInt8.toNat_add]
  show (((c.toNat + 32) % 256 : Nat) : Int) = _
  omega
def wordB (l : List UInt8) : Bool := decide (l.length ≤ 60) && letL l && decide (redL [] l = l)
def bstr (l : List UInt8) : ByteArray := ⟨l.toArray⟩
theorem bstr_toList (l : List UInt8) : (bstr l).data.toList = l := rfl
theorem bstr_size (l : List UInt8) : (bstr l).size = l.length := by simp [bstr, ByteArray.size]
theorem bstr_of (s : ByteArray) : bstr s.data.toList = s := by simp [bstr]
theorem bstr_inj {a b : List UInt8} (h : bstr a = bstr b) : a = b := by
  have := congrArg (fun s : ByteArray => s.data.toList) h
  simpa [bstr] using this
theorem bytes_beq (a b : ByteArray) : (a.toList == b.toList) = decide (a.data.toList = b.data.toList) := by
  rw [ByteArray.toList_eq, ByteArray.toList_eq, Bool.eq_iff_iff]; simp
theorem bytes_ext {a b : ByteArray} (h : a.data.toList = b.data.toList) : a = b := by
  rw [← bstr_of a, ← bstr_of b, h]
theorem take_snoc (s : List UInt8) (k : Nat) (h : k < s.length) : s.take (k + 1) = s.take k ++ [s[k]] := by
  rw [List.take_succ_eq_append_getElem h]
/-- The program's own inverse of a letter, of whatever byte. -/
def invB (c : UInt8) : UInt8 := c ^^^ 32
def stepX (l : List UInt8) (c : UInt8) : List UInt8 := if l.getLast? = some (invB c) then l.dropLast else l ++ [c]
def redX (l : List UInt8) (s : List UInt8) : List UInt8 := s.foldl stepX l
theorem redX_snoc (l s : List UInt8) (c : UInt8) : redX l (s ++ [c]) = stepX (redX l s) c := by simp [redX]
theorem redX_append (l a b : List UInt8) : redX l (a ++ b) = redX (redX l a) b := by simp [redX]
theorem stepX_len (l : List UInt8) (c : UInt8) : (stepX l c).length ≤ l.length + 1 := by
  unfold stepX; split <;> simp <;> omega
theorem redX_len (s : List UInt8) : ∀ l : List UInt8, (redX l s).length ≤ l.length + s.length := by
  induction s with
  | nil => intro l; simp [redX]
  | cons c s ih =>
    intro l
    have h := ih (stepX l c)
    have h2 := stepX_len l c
    show (redX (stepX l c) s).length ≤ _
    simp only [List.length_cons]
    omega
theorem stepX_pop (p : List UInt8) (x c : UInt8) (h : x = invB c) : stepX (p ++ [x]) c = p := by simp [stepX, h]
theorem inv_tab : ∀ n : Fin 256, letB (UInt8.ofNat n.val) = true → invB (UInt8.ofNat n.val) = turnB (UInt8.ofNat n.val) := by decide +kernel
theorem invB_let (c : UInt8) (h : letB c = true) : invB c = turnB c := by
  have := inv_tab ⟨c.toNat, c.toNat_lt⟩
  simp only [UInt8.ofNat_toNat] at this
  exact this h
theorem letL_cons (c : UInt8) (s : List UInt8) : letL (c :: s) = (letB c && letL s) := rfl
theorem letL_append (a b : List UInt8) : letL (a ++ b) = (letL a && letL b) := by simp [letL]
theorem redX_eq : ∀ (s l : List UInt8), letL s = true → redX l s = redL l s
  | [], _, _ => rfl
  | c :: s, l, h => by
    rw [letL_cons, Bool.and_eq_true] at h
    have e : stepX l c = redStep l c := by unfold stepX redStep; rw [invB_let c h.1]
    show redX (stepX l c) s = redL (redStep l c) s
    rw [e]; exact redX_eq s _ h.2
theorem letL_prefix {a b : List UInt8} (h : a <+: b) (ha : letL a = false) : letL b = false := by
  obtain ⟨t, rfl⟩ := h
  rw [letL_append, ha]; rfl
theorem ret_int {k : IntKind} {a b : Int} (h : a = b) : Ending.returned (.int k a) = .returned (.int k b) := by rw [h]
theorem ret_bool {a b : Bool} (h : a = b) : Ending.returned (.bool a) = .returned (.bool b) := by rw [h]
theorem ret_string {a b : ByteArray} (h : a = b) : Ending.returned (.string a) = .returned (.string b) := by rw [h]
theorem letL_take_succ (s : List UInt8) (k : Nat) (hk : k < s.length) : letL (s.take (k + 1)) = (letL (s.take k) && letB s[k]) := by
  unfold letL; rw [List.take_succ_eq_append_getElem hk, List.all_append]; simp
theorem letL_false_of (s : List UInt8) (k : Nat) (hk : k < s.length) (h : letB s[k] = false) : letL s = false := by
  unfold letL; rw [List.all_eq_false]; exact ⟨s[k], List.getElem_mem hk, by simp [h]⟩
theorem last_split (l : List UInt8) (h : 0 < l.length) : ∃ p x, l = p ++ [x] := by
  have hne : l ≠ [] := by intro e; subst e; simp at h
  exact ⟨l.dropLast, l.getLast hne, (List.dropLast_concat_getLast hne).symm⟩
theorem ownsRow_cap {w : World} {base : Nat} {e : TypeId} {size g cap n : Nat} {xs : List Value} (h : w.ownsRow base e size (.slice (some ⟨g, 0, none⟩) n cap) n xs) : n ≤ cap ∧ cap ≤ maxLen ∧ base ≤ g ∧ g < w.heap.size := by
  have hl := h.lt g rfl
  obtain ⟨_, h2 | ⟨g', cap', cur, hv, hg, hh, hn, hc, hs, ht⟩⟩ := h
  · cases h2.1
  · cases hv; exact ⟨hn, hc, hl.1, hl.2⟩
theorem ownsRow_drewN {w : World} {base : Nat} {e : TypeId} {size : Nat} {v : Value} {n : Nat} {xs : List Value} (h : w.ownsRow base e size v n xs) (q : Nat) : (w.drewN q).ownsRow base e size v n xs := h
theorem ownsRow_base {w : World} {b1 b2 : Nat} {e : TypeId} {size : Nat} {v : Value} {n : Nat} {xs : List Value} (h : w.ownsRow b1 e size v n xs) (hb : b2 ≤ b1) : w.ownsRow b2 e size v n xs := by
  obtain ⟨h1, h2 | ⟨g, cap, cur, a, b, c⟩⟩ := h
  · exact ⟨h1, .inl h2⟩
  · exact ⟨h1, .inr ⟨g, cap, cur, a, Nat.le_trans hb b, c⟩⟩
theorem bytesV_set (l : List UInt8) (k : Nat) (c : UInt8) : (bytesV l).set k (.int .u8 (c.toNat : Int)) = bytesV (l.set k c) := by
  simp [bytesV, List.map_set]
theorem fill_set (l : List UInt8) (n k : Nat) (hl : l.length = n) (hk : k < n) : (l.take k ++ List.replicate (n - k) 0).set k (l[k]'(by omega)) = l.take (k + 1) ++ List.replicate (n - (k + 1)) 0 := by
  have h1 : (l.take k).length = k := by simp; omega
  rw [List.set_append_right _ _ (by omega), h1, Nat.sub_self, take_snoc l k (by omega)]
  obtain ⟨m, hm⟩ : ∃ m, n - k = m + 1 := ⟨n - k - 1, by omega⟩
  rw [hm, List.replicate_succ, show n - (k + 1) = m by omega]
  simp only [List.set_cons_zero, List.append_assoc, List.singleton_append]
theorem redL_full : ∀ (s l : List UInt8), (redL l s).length = l.length + s.length → redL l s = l ++ s
  | [], l, _ => by simp [redL]
  | c :: s, l, h => by
    have h0 : redL l (c :: s) = redL (redStep l c) s := rfl
    rw [h0] at h ⊢
    have h1 := redL_len s (redStep l c)
    have h2 : (redStep l c).length = l.length + 1 := by
      have := redStep_len l c
      simp only [List.length_cons] at h
      omega
    have h3 : redStep l c = l ++ [c] := by
      unfold redStep at h2 ⊢
      split at h2
      · simp at h2
      · rename_i hx; rw [if_neg hx]
    rw [h3] at h ⊢
    rw [redL_full s _ (by simp only [List.length_cons, List.length_append, List.length_nil] at h ⊢; omega)]
    simp
theorem wordB_iff (l : List UInt8) : wordB l = true ↔ l.length ≤ 60 ∧ letL l = true ∧ redL [] l = l := by
  simp [wordB, and_assoc]
theorem backL_drop (s : List UInt8) (k : Nat) (h : k < s.length) : backL (s.drop k) = backL (s.drop (k + 1)) ++ [turnB s[k]] := by
  unfold backL
  rw [List.drop_eq_getElem_cons h, List.reverse_cons, List.map_append]
  rfl
theorem backL_length (s : List UInt8) : (backL s).length = s.length := by simp [backL]
/-- Both ends are taken out as long as they are inverse to each other. -/
def coreC (l : List UInt8) : Bool := decide (1 < l.length) && decide (l.head? = some (turnB (l.getLast?.getD 0)))
def coreF : Nat → List UInt8 → List UInt8
  | 0, l => l
  | n + 1, l => if coreC l then coreF n (l.tail.dropLast) else l
def coreL (l : List UInt8) : List UInt8 := coreF l.length l
theorem coreF_false {l : List UInt8} (h : coreC l = false) : ∀ m, coreF m l = l
  | 0 => rfl
  | m + 1 => by rw [coreF, h]; rfl
theorem coreF_true {l : List UInt8} (h : coreC l = true) (m : Nat) : coreF (m + 1) l = coreF m (l.tail.dropLast) := by rw [coreF, h]; rfl
theorem coreC_get (l : List UInt8) (h : 1 < l.length) : coreC l = decide (l[0] = turnB (l[l.length - 1])) := by
  unfold coreC
  rw [List.getLast?_eq_getElem?, List.getElem?_eq_getElem (by omega), List.head?_eq_getElem?, List.getElem?_eq_getElem (by omega)]
  simp [h]
theorem letL_get (l : List UInt8) (h : letL l = true) (i : Nat) (hi : i < l.length) : letB l[i] = true := List.all_eq_true.1 h _ (List.getElem_mem hi)
theorem letL_of_mem (l m : List UInt8) (h : letL l = true) (hm : ∀ c ∈ m, c ∈ l) : letL m = true := List.all_eq_true.2 fun c hc => List.all_eq_true.1 h c (hm c hc)
theorem letL_core (l : List UInt8) (h : letL l = true) : letL (l.tail.dropLast) = true := letL_of_mem l _ h fun _ hc => List.mem_of_mem_tail (List.dropLast_subset _ hc)
theorem core_len (l : List UInt8) : (l.tail.dropLast).length = l.length - 2 := by simp; omega
theorem core_get (l : List UInt8) (j : Nat) (h : j < (l.tail.dropLast).length) : (l.tail.dropLast)[j] = l[j + 1]'(by simp at h; omega) := by
  simp
theorem coreF_len : ∀ (m : Nat) (l : List UInt8), (coreF m l).length ≤ l.length
  | 0, _ => Nat.le_refl _
  | m + 1, l => by
    rw [coreF]; split
    · have := coreF_len m (l.tail.dropLast); rw [core_len] at this; omega
    · exact Nat.le_refl _
theorem redStep_pop (p : List UInt8) (x c : UInt8) (h : x = turnB c) : redStep (p ++ [x]) c = p := by simp [redStep, h]
theorem redStep_push (p : List UInt8) (x c : UInt8) (h : x ≠ turnB c) : redStep (p ++ [x]) c = p ++ [x] ++ [c] := by simp [redStep, h]
theorem redStep_nil (c : UInt8) : redStep [] c = [c] := by simp [redStep]

end Go.Proofs.Ytaaeiogdhmiaaaa

/- Plain lists of bytes, second part: words without cancellation; inverses of words; reducing in parts. -/

namespace Go.Proofs.Ytaaeiogdhmiaaaa

/-- No letter stands beside its inverse. -/
def noC (l : List UInt8) : Prop := ∀ p x y q, l = p ++ x :: y :: q → x ≠ turnB y

theorem noC_nil : noC [] := fun p x y q h => by simp at h
theorem noC_one (x : UInt8) : noC [x] := fun p a b q h => by
  have := congrArg List.length h
  simp at this
  omega
theorem noC_cons (x y : UInt8) (r : List UInt8) : noC (x :: y :: r) ↔ x ≠ turnB y ∧ noC (y :: r) := by
  constructor
  · exact fun h => ⟨h [] x y r rfl, fun p a b q e => h (x :: p) a b q (by rw [e]; rfl)⟩
  · rintro ⟨h1, h2⟩ p a b q e
    cases p with
    | nil =>
      simp at e
      obtain ⟨rfl, rfl, rfl⟩ := e
      exact h1
    | cons c p =>
      simp at e
      exact h2 p a b q e.2
theorem noC_left {a b : List UInt8} (h : noC (a ++ b)) : noC a := fun p x y q e => h p x y (q ++ b) (by rw [e]; simp)
theorem noC_snoc (l : List UInt8) (c : UInt8) (h : noC l) (hc : l.getLast? ≠ some (turnB c)) : noC (l ++ [c]) := by
  intro p x y q e
  rcases (show q = [] ∨ ∃ q' z, q = q' ++ [z] by
    cases q with
    | nil => exact .inl rfl
    | cons a q => exact .inr (last_split (a :: q) (by simp))) with rfl | ⟨q, z, rfl⟩
  · have e2 : l ++ [c] = (p ++ [x]) ++ [y] := by rw [e]; simp
    obtain ⟨e3, e4⟩ := List.append_inj' e2 rfl
    have e5 : c = y := by simpa using e4
    subst e5
    intro hx
    exact hc (by rw [e3, hx]; simp)
  · have e2 : l ++ [c] = (p ++ x :: y :: q) ++ [z] := by rw [e]; simp
    obtain ⟨e3, _⟩ := List.append_inj' e2 rfl
    exact h p x y q e3
theorem noC_step (l : List UInt8) (c : UInt8) (h : noC l) : noC (redStep l c) := by
  unfold redStep
  split
  · cases l with
    | nil => exact noC_nil
    | cons a l =>
      obtain ⟨p, x, hp⟩ := last_split (a :: l) (by simp)
      rw [hp] at h ⊢
      rw [List.dropLast_concat]; exact noC_left h
  · rename_i hc; exact noC_snoc l c h hc
theorem noC_red : ∀ (s l : List UInt8), noC l → noC (redL l s)
  | [], _, h => h
  | c :: s, l, h => noC_red s (redStep l c) (noC_step l c h)
theorem red_of_noC : ∀ (s l : List UInt8), noC (l ++ s) → redL l s = l ++ s
  | [], l, _ => by simp [redL]
  | c :: s, l, h => by
    have h1 : l.getLast? ≠ some (turnB c) := fun e => by
      obtain ⟨p, x, rfl⟩ := last_split l (by cases l with | nil => simp at e | cons a l => simp)
      have e2 : x = turnB c := by simpa using e
      exact h p x c s (by simp) e2
    have h2 : redStep l c = l ++ [c] := by unfold redStep; rw [if_neg h1]
    show redL (redStep l c) s = _
    rw [h2, red_of_noC s (l ++ [c]) (by simpa using h)]
    simp
theorem red_iff (s : List UInt8) : redL [] s = s ↔ noC s :=
  ⟨fun h => by rw [← h]; exact noC_red s [] noC_nil, fun h => by have := red_of_noC s [] (by simpa using h); simpa using this⟩
theorem red_red (s : List UInt8) : redL [] (redL [] s) = redL [] s := (red_iff _).2 (noC_red s [] noC_nil)
theorem red_append (a b : List UInt8) : redL [] (redL [] a ++ b) = redL [] (a ++ b) := by rw [redL_append, redL_append, red_red]

theorem turn_tab : ∀ n : Fin 256, letB (UInt8.ofNat n.val) = true → turnB (turnB (UInt8.ofNat n.val)) = UInt8.ofNat n.val ∧ letB (turnB (UInt8.ofNat n.val)) = true := by decide +kernel
theorem turn_turn (c : UInt8) (h : letB c = true) : turnB (turnB c) = c ∧ letB (turnB c) = true := by
  have := turn_tab ⟨c.toNat, c.toNat_lt⟩
  simp only [UInt8.ofNat_toNat] at this
  exact this h
theorem backL_append (a b : List UInt8) : backL (a ++ b) = backL b ++ backL a := by simp [backL]
theorem letL_back (l : List UInt8) (h : letL l = true) : letL (backL l) = true := List.all_eq_true.2 fun c hc => by
  simp only [backL, List.mem_map, List.mem_reverse] at hc
  obtain ⟨d, hd, rfl⟩ := hc
  exact (turn_turn d (List.all_eq_true.1 h d hd)).2
theorem back_back : ∀ (l : List UInt8), letL l = true → backL (backL l) = l
  | [], _ => rfl
  | c :: l, h => by
    rw [letL_cons, Bool.and_eq_true] at h
    have e : backL (c :: l) = backL l ++ [turnB c] := by simp [backL]
    rw [e, backL_append, back_back l h.2]
    show [turnB (turnB c)] ++ l = _
    rw [(turn_turn c h.1).1]; rfl
theorem noC_back (l : List UInt8) (hl : letL l = true) (h : noC l) : noC (backL l) := by
  intro p x y q e
  have e2 : l = backL q ++ turnB y :: turnB x :: backL p := by
    have := congrArg backL e
    rw [back_back l hl, show p ++ x :: y :: q = p ++ ([x, y] ++ q) by simp, backL_append, backL_append] at this
    rw [this]
    simp [backL]
  have hx : letB x = true := by
    have := letL_back l hl
    exact List.all_eq_true.1 this x (by rw [e]; simp)
  have h2 := h _ _ _ _ e2
  rw [(turn_turn x hx).1] at h2
  exact fun e3 => h2 e3.symm
theorem red_back (l : List UInt8) (hl : letL l = true) (h : redL [] l = l) : redL [] (backL l) = backL l := (red_iff _).2 (noC_back l hl ((red_iff l).1 h))
/-- The program's own inverse of a list of letters. -/
theorem inv_back (l : List UInt8) (h : letL l = true) : l.reverse.map invB = backL l := by
  unfold backL
  apply List.map_congr_left
  intro c hc
  exact invB_let c (List.all_eq_true.1 h c (List.mem_reverse.1 hc))
theorem redX_back (l : List UInt8) (hl : letL l = true) (h : redL [] l = l) : redX [] (l.reverse.map invB) = backL l := by
  rw [inv_back l hl, redX_eq _ _ (letL_back l hl), red_back l hl h]

/-- The place of a letter's generator; the letter's sign. -/
def idxB (c : UInt8) : Nat := if 97 ≤ c.toNat then c.toNat - 97 else c.toNat - 65
def sgnB (c : UInt8) : Int := if 97 ≤ c.toNat then 1 else -1
def sumsStep (z : List Int) (c : UInt8) : List Int := z.set (idxB c) (z[idxB c]?.getD 0 + sgnB c)
def sumsL (l : List UInt8) : List Int := l.foldl sumsStep [0, 0, 0, 0]
theorem sumsL_snoc (l : List UInt8) (c : UInt8) : sumsL (l ++ [c]) = sumsStep (sumsL l) c := by simp [sumsL]
theorem idxB_lt (c : UInt8) (h : letB c = true) : idxB c < 4 := by
  have := (letB_iff c).1 h
  unfold idxB; split <;> omega
theorem sumsL_inv : ∀ (l : List UInt8), letL l = true → (sumsL l).length = 4 ∧ ∀ z ∈ sumsL l, -(l.length : Int) ≤ z ∧ z ≤ l.length := by
  have key : ∀ (n : Nat) (l : List UInt8), l.length = n → letL l = true → (sumsL l).length = 4 ∧ ∀ z ∈ sumsL l, -(l.length : Int) ≤ z ∧ z ≤ l.length := by
    intro n
    induction n with
    | zero =>
      intro l hl _
      obtain rfl := List.length_eq_zero_iff.1 hl
      refine ⟨rfl, fun z hz => ?_⟩
      simp [sumsL] at hz
      subst hz; simp
    | succ n ih =>
      intro l hl hlet
      obtain ⟨p, c, rfl⟩ := last_split l (by omega)
      rw [letL_append, Bool.and_eq_true] at hlet
      have hp : p.length = n := by simp at hl; omega
      obtain ⟨h1, h2⟩ := ih p hp hlet.1
      rw [sumsL_snoc]
      refine ⟨by unfold sumsStep; simpa using h1, fun z hz => ?_⟩
      have hs : -1 ≤ sgnB c ∧ sgnB c ≤ 1 := by unfold sgnB; split <;> omega
      rw [List.length_append, List.length_singleton]
      unfold sumsStep at hz
      rcases List.mem_or_eq_of_mem_set hz with hz | rfl
      · have := h2 z hz; omega
      · have h3 : -(p.length : Int) ≤ (sumsL p)[idxB c]?.getD 0 ∧ (sumsL p)[idxB c]?.getD 0 ≤ p.length := by
          cases e : (sumsL p)[idxB c]? with
          | none => simp
          | some v => exact h2 v (List.mem_of_getElem? e)
        omega
  exact fun l h => key l.length l rfl h

/-- Letters as often behind themselves as told. -/
def repL (n : Nat) (l : List UInt8) : List UInt8 := (List.replicate n l).flatten
theorem repL_add (a b : Nat) (l : List UInt8) : repL a l ++ repL b l = repL (a + b) l := by
  unfold repL; rw [← List.flatten_append, List.replicate_append_replicate]
theorem repL_zero (l : List UInt8) : repL 0 l = [] := rfl
theorem repL_one (l : List UInt8) : repL 1 l = l := by simp [repL]
theorem repL_len (n : Nat) (l : List UInt8) : (repL n l).length = n * l.length := by
  induction n with
  | zero => simp [repL]
  | succ n ih => rw [← repL_add, List.length_append, ih, repL_one, Nat.succ_mul]
theorem letL_rep (n : Nat) (l : List UInt8) (h : letL l = true) : letL (repL n l) = true := by
  induction n with
  | zero => rfl
  | succ n ih => rw [← repL_add, letL_append, ih, repL_one, h]; rfl
/-- The letters of a power. -/
def powL (n : Int) (l : List UInt8) : List UInt8 := repL n.natAbs (if n < 0 then backL l else l)

end Go.Proofs.Ytaaeiogdhmiaaaa

/- Letters of braids, over lists of bytes: which are letters, their places and their sums. -/

namespace Go.Proofs.Ytaaeiogdhmiaaaa
open Go.RowKit

/-- Letters of braids: 'x' to 'z' and their inverses. -/
def brB (c : UInt8) : Bool := decide ((120 ≤ c.toNat ∧ c.toNat ≤ 122) ∨ (88 ≤ c.toNat ∧ c.toNat ≤ 90))
/-- The first of both places that a letter exchanges. -/
def plN (c : UInt8) : Nat := if 97 ≤ c.toNat then c.toNat - 120 else c.toNat - 88
/-- The same as the program counts it, for all bytes. -/
def plI (c : UInt8) : Int := bits BinOp.or IntKind.u8 (c.toNat : Int) 32 - 120
def brL (n : Int) (c : UInt8) : Bool := brB c && decide ((plN c : Int) < n - 1)
def braidB (n : Int) (s : ByteArray) : Bool := decide (2 ≤ n ∧ n ≤ 4) && decide (s.size ≤ 30) && s.data.toList.all (brL n)

theorem brB_iff (c : UInt8) : brB c = true ↔ (120 ≤ c.toNat ∧ c.toNat ≤ 122) ∨ (88 ≤ c.toNat ∧ c.toNat ≤ 90) := by unfold brB; rw [decide_eq_true_eq]
theorem brB_no (c : UInt8) (h : brB c = false) : ¬ ((120 ≤ c.toNat ∧ c.toNat ≤ 122) ∨ (88 ≤ c.toNat ∧ c.toNat ≤ 90)) := of_decide_eq_false h
theorem plN_lt (c : UInt8) (h : brB c = true) : plN c < 3 := by
  have := (brB_iff c).1 h
  unfold plN; split <;> omega

theorem pl_tab : ((List.range 256).all fun n => !(decide ((120 ≤ n ∧ n ≤ 122) ∨ (88 ≤ n ∧ n ≤ 90))) ||
      (decide (bits BinOp.or IntKind.u8 (n : Int) 32 = ((if 97 ≤ n then n - 120 else n - 88 : Nat) : Int) + 120) && decide (bits BinOp.and IntKind.u8 (n : Int) 32 = if 97 ≤ n then 32 else 0) && decide (bits BinOp.xor IntKind.u8 (n : Int) 32 = if 97 ≤ n then (n : Int) - 32 else (n : Int) + 32))) = true := by kernel_rfl
theorem pl_tab2 : ((List.range 256).all fun n => decide ((120 ≤ n ∧ n ≤ 122) ∨ (88 ≤ n ∧ n ≤ 90)) || (decide (bits BinOp.or IntKind.u8 (n : Int) 32 < 120) || decide (123 ≤ bits BinOp.or IntKind.u8 (n : Int) 32))) = true := by kernel_rfl
theorem pl_yes (c : UInt8) (h : brB c = true) : plI c = (plN c : Int) ∧ bits BinOp.and IntKind.u8 (c.toNat : Int) 32 = (if 97 ≤ c.toNat then 32 else 0) ∧ bits BinOp.xor IntKind.u8 (c.toNat : Int) 32 = if 97 ≤ c.toNat then (c.toNat : Int) - 32 else (c.toNat : Int) + 32 := by
  have := List.all_eq_true.1 pl_tab c.toNat (List.mem_range.2 c.toNat_lt)
  simp only [Bool.or_eq_true, Bool.and_eq_true, Bool.not_eq_true', decide_eq_false_iff_not, decide_eq_true_eq] at this
  have := this.resolve_left (fun h2 => h2 ((brB_iff c).1 h))
  refine ⟨?_, this.1.2, this.2⟩
  unfold plI plN
  rw [this.1.1]; omega
theorem pl_no (c : UInt8) (h : brB c = false) : plI c < 0 ∨ 3 ≤ plI c := by
  have := List.all_eq_true.1 pl_tab2 c.toNat (List.mem_range.2 c.toNat_lt)
  simp only [Bool.or_eq_true, decide_eq_true_eq] at this
  have := this.resolve_left (brB_no c h)
  unfold plI
  omega
theorem or_range : ((List.range 256).all fun n => decide (0 ≤ bits BinOp.or IntKind.u8 (n : Int) 32) && decide (bits BinOp.or IntKind.u8 (n : Int) 32 ≤ 255)) = true := by kernel_rfl
theorem or_bnd (c : UInt8) : 0 ≤ bits BinOp.or IntKind.u8 (c.toNat : Int) 32 ∧ bits BinOp.or IntKind.u8 (c.toNat : Int) 32 ≤ 255 := by
  have := List.all_eq_true.1 or_range c.toNat (List.mem_range.2 c.toNat_lt)
  simpa using this

/-- A letter that the program takes is one, and the other way round. -/
theorem brL_place (n : Int) (hn : n ≤ 4) (c : UInt8) : brL n c = (decide (0 ≤ plI c) && decide (plI c < n - 1)) := by
  unfold brL
  cases h : brB c with
  | true =>
    obtain ⟨h1, _⟩ := pl_yes c h
    rw [h1]
    have : decide (0 ≤ (plN c : Int)) = true := decide_eq_true (by omega)
    rw [this]
  | false =>
    rcases pl_no c h with h2 | h2
    · rw [decide_eq_false (show ¬ 0 ≤ plI c by omega)]; rfl
    · rw [decide_eq_false (show ¬ plI c < n - 1 by omega), Bool.and_false]; rfl

theorem braid_all {n : Int} {s : ByteArray} (h : braidB n s = true) : (2 ≤ n ∧ n ≤ 4) ∧ s.size ≤ 30 ∧ ∀ c ∈ s.data.toList, brB c = true ∧ (plN c : Int) < n - 1 := by
  unfold braidB at h
  simp only [Bool.and_eq_true, decide_eq_true_eq, List.all_eq_true] at h
  refine ⟨h.1.1, h.1.2, fun c hc => ?_⟩
  have := h.2 c hc
  unfold brL at this
  simpa using this
theorem braid_of_all {n : Int} {s : ByteArray} (h1 : 2 ≤ n ∧ n ≤ 4) (h2 : s.size ≤ 30) (h3 : ∀ c ∈ s.data.toList, brB c = true ∧ (plN c : Int) < n - 1) : braidB n s = true := by
  unfold braidB
  simp only [Bool.and_eq_true, decide_eq_true_eq, List.all_eq_true]
  refine ⟨⟨h1, h2⟩, fun c hc => ?_⟩
  unfold brL
  simpa using h3 c hc

/-! ### Sums -/
def sgSum (l : List UInt8) : Int := (l.map sgnB).sum
theorem sgSum_append (a b : List UInt8) : sgSum (a ++ b) = sgSum a + sgSum b := by simp [sgSum]
theorem sgSum_one (c : UInt8) : sgSum [c] = sgnB c := by simp [sgSum]
theorem sgSum_bnd : ∀ l : List UInt8, -(l.length : Int) ≤ sgSum l ∧ sgSum l ≤ l.length
  | [] => by simp [sgSum]
  | c :: r => by
    have := sgSum_bnd r
    have h : -1 ≤ sgnB c ∧ sgnB c ≤ 1 := by unfold sgnB; split <;> omega
    have e : sgSum (c :: r) = sgnB c + sgSum r := by simp [sgSum]
    rw [e]
    simp only [List.length_cons]
    omega

/-! ### Inverses -/
theorem brB_turn {c : UInt8} (h : brB c = true) : turnB c = invB c ∧ brB (turnB c) = true ∧ plN (turnB c) = plN c ∧ sgnB (turnB c) = - sgnB c ∧ turnB (turnB c) = c := by
  have ht : ∀ n : Fin 256, brB (UInt8.ofNat n.val) = true → turnB (UInt8.ofNat n.val) = invB (UInt8.ofNat n.val) ∧ brB (turnB (UInt8.ofNat n.val)) = true ∧ plN (turnB (UInt8.ofNat n.val)) = plN (UInt8.ofNat n.val) ∧ sgnB (turnB (UInt8.ofNat n.val)) = - sgnB (UInt8.ofNat n.val) ∧ turnB (turnB (UInt8.ofNat n.val)) = UInt8.ofNat n.val := by decide +kernel
  have := ht ⟨c.toNat, c.toNat_lt⟩
  simp only [UInt8.ofNat_toNat] at this
  exact this h
theorem inv_backR (l : List UInt8) (h : ∀ c ∈ l, brB c = true) : l.reverse.map invB = backL l := by
  unfold backL
  exact List.map_congr_left fun c hc => (brB_turn (h c (by simpa using hc))).1.symm

end Go.Proofs.Ytaaeiogdhmiaaaa

/- Letters as a free group: reducing goes along, inverses cancel, sums of letters, powers, commutators, putting. -/

namespace Go.Proofs.Ytaaeiogdhmiaaaa
open Go.RowKit

theorem toList_size (s : ByteArray) : s.data.toList.length = s.size := by simp
theorem letL_step {l : List UInt8} {c : UInt8} (hl : letL l = true) (hc : letB c = true) : letL (redStep l c) = true := by
  unfold redStep
  split
  · exact letL_of_mem l _ hl fun _ h => List.dropLast_subset _ h
  · rw [letL_append, hl, letL_cons, hc]; rfl
theorem letL_red2 : ∀ (s acc : List UInt8), letL s = true → letL acc = true → letL (redL acc s) = true
  | [], _, _, h => h
  | c :: s, acc, h, ha => by
    rw [letL_cons, Bool.and_eq_true] at h
    exact letL_red2 s (redStep acc c) h.2 (letL_step ha h.1)
theorem step_cancel {l : List UInt8} (hn : noC l) {x : UInt8} (hx : letB x = true) : redStep (redStep l x) (turnB x) = l := by
  obtain ⟨ht, hx2⟩ := turn_turn x hx
  by_cases h : l.getLast? = some (turnB x)
  · obtain ⟨p, y, rfl⟩ := last_split l (by cases l with | nil => simp at h | cons a l => simp)
    have hy : y = turnB x := by simpa using h
    subst hy
    rw [redStep_pop p (turnB x) x rfl]
    by_cases h2 : p.getLast? = some (turnB (turnB x))
    · exfalso
      obtain ⟨q, z, rfl⟩ := last_split p (by cases p with | nil => simp at h2 | cons a l => simp)
      have hz : z = turnB (turnB x) := by simpa using h2
      exact hn q z (turnB x) [] (by simp) hz
    · unfold redStep; rw [if_neg h2]
  · have e : redStep l x = l ++ [x] := by unfold redStep; rw [if_neg h]
    rw [e, redStep_pop l x (turnB x) ht.symm]
theorem red_through : ∀ (y acc : List UInt8), noC acc → letL y = true → redL acc (redL [] y) = redL acc y := by
  intro y
  generalize hn : y.length = n
  induction n generalizing y with
  | zero => intro acc _ _; rw [List.length_eq_zero_iff.1 hn]; rfl
  | succ n ih =>
    intro acc ha hl
    obtain ⟨p, c, rfl⟩ := last_split y (by omega)
    have hp : p.length = n := by rw [List.length_append] at hn; simp at hn; exact hn
    rw [letL_append, Bool.and_eq_true] at hl
    have hc : letB c = true := by have := hl.2; simp [letL] at this; exact this
    have h1 := ih p hp acc ha hl.1
    rw [redL_snoc, redL_snoc]
    by_cases h : (redL [] p).getLast? = some (turnB c)
    · obtain ⟨q, z, hq⟩ := last_split (redL [] p) (by cases hr : redL [] p with | nil => rw [hr] at h; simp at h | cons a l => simp)
      rw [hq] at h h1 ⊢
      have hz : z = turnB c := by simpa using h
      subst hz
      rw [redStep_pop q (turnB c) c rfl, ← h1, redL_snoc]
      have := step_cancel (noC_red q acc ha) (turn_turn c hc).2
      rw [(turn_turn c hc).1] at this
      exact this.symm
    · have e : redStep (redL [] p) c = redL [] p ++ [c] := by unfold redStep; rw [if_neg h]
      rw [e, redL_snoc, h1]
/-- Reducing parts first. -/
theorem red_both {a b : List UInt8} (hb : letL b = true) : redL [] (redL [] a ++ redL [] b) = redL [] (a ++ b) := by
  rw [red_append, redL_append, redL_append, red_through b _ (noC_red a [] noC_nil) hb]
theorem red_right {a b : List UInt8} (hb : letL b = true) : redL [] (a ++ redL [] b) = redL [] (a ++ b) := by
  rw [redL_append, redL_append, red_through b _ (noC_red a [] noC_nil) hb]
/-- A word and its inverse. -/
theorem red_cancel : ∀ (s acc : List UInt8), noC acc → letL s = true → redL (redL acc s) (backL s) = acc := by
  intro s
  induction s with
  | nil => intro acc _ _; rfl
  | cons c s ih =>
    intro acc ha hl
    rw [letL_cons, Bool.and_eq_true] at hl
    have e : backL (c :: s) = backL s ++ [turnB c] := by simp [backL]
    have e2 : redL acc (c :: s) = redL (redStep acc c) s := rfl
    rw [e, redL_append, e2, ih _ (noC_step acc c ha) hl.2]
    exact step_cancel ha hl.1
theorem red_inv {s : List UInt8} (hl : letL s = true) (a : List UInt8) : redL [] (a ++ s ++ backL s) = redL [] a := by
  rw [redL_append, redL_append]
  exact red_cancel s _ (noC_red a [] noC_nil) hl
theorem red_inv2 {s : List UInt8} (hl : letL s = true) (a : List UInt8) : redL [] (a ++ backL s ++ s) = redL [] a := by
  have := red_inv (letL_back s hl) a
  rwa [back_back s hl] at this
/-- Words that are the same behind each other's inverse. -/
theorem red_unique {a b : List UInt8} (hb : letL b = true) (h : redL [] (a ++ backL b) = []) : redL [] a = redL [] b := by
  have h1 : redL [] (a ++ backL b ++ b) = redL [] a := red_inv2 hb a
  rw [← h1, redL_append, h]
theorem back_red {s : List UInt8} (hl : letL s = true) : backL (redL [] s) = redL [] (backL s) := by
  have hr := letL_red2 s [] hl rfl
  have h1 : redL [] (backL (redL [] s)) = backL (redL [] s) := red_back _ hr (red_red s)
  rw [← h1]
  refine red_unique (letL_back s hl) ?_
  rw [back_back s hl, ← red_right hl]
  have := red_inv2 hr []
  rw [List.nil_append] at this
  exact this
/-! ### Sums of letters -/
theorem sgnB_bnd2 (x : UInt8) : -1 ≤ sgnB x ∧ sgnB x ≤ 1 := by unfold sgnB; split <;> omega
def sgL (i : Nat) : List UInt8 → Int
  | [] => 0
  | c :: r => (if idxB c = i then sgnB c else 0) + sgL i r
theorem sgL_append (i : Nat) : ∀ a b : List UInt8, sgL i (a ++ b) = sgL i a + sgL i b
  | [], b => by simp [sgL]
  | c :: r, b => by rw [List.cons_append, sgL, sgL, sgL_append i r b]; omega
theorem sg_turn {c : UInt8} (hc : letB c = true) : idxB (turnB c) = idxB c ∧ sgnB (turnB c) = - sgnB c := by
  have h := (letB_iff c).1 hc
  unfold idxB sgnB
  rcases h with h | h
  · have := turnB_hi c h.1
    rw [if_neg (by omega), if_pos (by omega), if_neg (by omega), if_pos (by omega)]; omega
  · have := turnB_lo c (by omega)
    rw [if_pos (by omega), if_neg (by omega), if_pos (by omega), if_neg (by omega)]; omega
theorem sgL_turn (i : Nat) {c : UInt8} (hc : letB c = true) : sgL i [turnB c] = - sgL i [c] := by
  obtain ⟨h1, h2⟩ := sg_turn hc
  simp only [sgL]
  rw [h1, h2]; split <;> omega
theorem sgL_back (i : Nat) : ∀ s : List UInt8, letL s = true → sgL i (backL s) = - sgL i s
  | [], _ => by simp [sgL, backL]
  | c :: s, h => by
    rw [letL_cons, Bool.and_eq_true] at h
    have e : backL (c :: s) = backL s ++ [turnB c] := by simp [backL]
    rw [e, sgL_append, sgL_back i s h.2, sgL_turn i h.1, show c :: s = [c] ++ s from rfl, sgL_append]; omega
theorem sgL_step (i : Nat) {l : List UInt8} {c : UInt8} (hc : letB c = true) : sgL i (redStep l c) = sgL i l + sgL i [c] := by
  by_cases h : l.getLast? = some (turnB c)
  · obtain ⟨p, y, rfl⟩ := last_split l (by cases l with | nil => simp at h | cons a l => simp)
    have hy : y = turnB c := by simpa using h
    subst hy
    rw [redStep_pop p (turnB c) c rfl, sgL_append, sgL_turn i hc]; omega
  · have e : redStep l c = l ++ [c] := by unfold redStep; rw [if_neg h]
    rw [e, sgL_append]
theorem sgL_red (i : Nat) : ∀ (s acc : List UInt8), letL s = true → sgL i (redL acc s) = sgL i acc + sgL i s
  | [], acc, _ => by simp [redL_nil, sgL]
  | c :: s, acc, h => by
    rw [letL_cons, Bool.and_eq_true] at h
    have e : redL acc (c :: s) = redL (redStep acc c) s := rfl
    rw [e, sgL_red i s _ h.2, sgL_step i h.1, show c :: s = [c] ++ s from rfl, sgL_append]; omega
theorem sums_get : ∀ (s : List UInt8), letL s = true → ∀ i (h : i < (sumsL s).length), (sumsL s)[i] = sgL i s := by
  intro s
  generalize hn : s.length = n
  induction n generalizing s with
  | zero =>
    intro _ i h
    obtain rfl := List.length_eq_zero_iff.1 hn
    have h4 : i < 4 := h
    rcases (show i = 0 ∨ i = 1 ∨ i = 2 ∨ i = 3 by omega) with rfl | rfl | rfl | rfl <;> rfl
  | succ n ih =>
    intro hl i h
    obtain ⟨p, c, rfl⟩ := last_split s (by omega)
    have hp : p.length = n := by rw [List.length_append] at hn; simp at hn; exact hn
    rw [letL_append, Bool.and_eq_true] at hl
    have hc : letB c = true := by have := hl.2; simp [letL] at this; exact this
    have h4 := (sumsL_inv p hl.1).1
    have hi := idxB_lt c hc
    have h4s := (sumsL_inv (p ++ [c]) (by rw [letL_append, hl.1, hl.2]; rfl)).1
    have hi4 : i < (sumsL p).length := by omega
    have h1 := ih p hp hl.1 i hi4
    have e : sumsL (p ++ [c]) = (sumsL p).set (idxB c) ((sumsL p)[idxB c]?.getD 0 + sgnB c) := sumsL_snoc p c
    simp only [e]
    rw [List.getElem_set, sgL_append, ← h1]
    simp only [sgL]
    by_cases hic : idxB c = i
    · subst hic
      rw [if_pos rfl, if_pos rfl, List.getElem?_eq_getElem hi4]
      simp
    · rw [if_neg hic, if_neg hic]; omega
theorem sums_eq {s t : List UInt8} (hs : letL s = true) (ht : letL t = true) (h : ∀ i, i < 4 → sgL i s = sgL i t) : sumsL s = sumsL t := by
  have h1 := (sumsL_inv s hs).1
  have h2 := (sumsL_inv t ht).1
  refine List.ext_getElem (by omega) fun i hi hj => ?_
  rw [sums_get s hs, sums_get t ht]
  exact h i (by omega)
/-! ### Powers -/
theorem powL_next {s : List UInt8} (hl : letL s = true) (n : Int) : redL [] (powL (n + 1) s) = redL [] (powL n s ++ s) := by
  unfold powL
  by_cases h : n < 0
  · rw [if_pos h]
    obtain ⟨m, hm⟩ : ∃ m : Nat, n.natAbs = m + 1 := ⟨n.natAbs - 1, by omega⟩
    have e1 : repL n.natAbs (backL s) = repL m (backL s) ++ backL s := by rw [hm, ← repL_add m 1, repL_one]
    rw [e1, red_inv2 hl]
    by_cases h2 : n + 1 < 0
    · rw [if_pos h2, show (n + 1).natAbs = m by omega]
    · rw [if_neg h2, show (n + 1).natAbs = 0 by omega, show m = 0 by omega]; rfl
  · rw [if_neg h, if_neg (show ¬ n + 1 < 0 by omega), show (n + 1).natAbs = n.natAbs + 1 by omega, ← repL_add n.natAbs 1, repL_one]

end Go.Proofs.Ytaaeiogdhmiaaaa

/- The contracts of the model's small functions on letters and words. -/

namespace Go.Proofs.Ytaaeiogdhmiaaaa
open Go.RowKit

theorem turned_any (c : UInt8) (w : World) :
    Calls Try.prog 108 #[.int .u8 (c.toNat : Int)] w fun e w' => e = .returned (.int .u8 ((turnB c).toNat : Int)) ∧ w = w' := by
  have hc := c.toNat_lt
  by_cases h : 97 ≤ c.toNat
  · have H := Lib.hid (turnB_hi c h)
    go_enter Try.func108, Try.ntmps108
    go_wp2
    go_ret
    exact ⟨ret_int H.out.symm, rfl⟩
  · have H := Lib.hid (turnB_lo c (by omega))
    go_enter Try.func108, Try.ntmps108
    go_wp2
    go_ret
    exact ⟨ret_int H.out.symm, rfl⟩

theorem letter_any (c : UInt8) (w : World) :
    Calls Try.prog 129 #[.int .u8 (c.toNat : Int)] w fun e w' => e = .returned (.bool (letB c)) ∧ w = w' := by
  have hc := c.toNat_lt
  have H := Lib.hid (letB_iff c)
  rcases (show c.toNat < 65 ∨ (65 ≤ c.toNat ∧ c.toNat ≤ 68) ∨ (68 < c.toNat ∧ c.toNat < 97) ∨ (97 ≤ c.toNat ∧ c.toNat ≤ 100) ∨ 100 < c.toNat from by omega) with h | h | h | h | h
  all_goals
    first | obtain ⟨h1, h2⟩ := h | have h1 := h
    go_enter Try.func129, Try.ntmps129
    go_wp2
    go_ret
    refine ⟨ret_bool ?_, rfl⟩
    rw [Bool.eq_iff_iff, H.out]
    simp
    try omega

theorem letter_yes (c : UInt8) (w : World) (h : letB c = true) :
    Calls Try.prog 129 #[.int .u8 (c.toNat : Int)] w fun e w' => e = .returned (.bool true) ∧ w = w' := by
  rw [← h]; exact letter_any c w
theorem letter_no (c : UInt8) (w : World) (h : letB c = false) :
    Calls Try.prog 129 #[.int .u8 (c.toNat : Int)] w fun e w' => e = .returned (.bool false) ∧ w = w' := by
  rw [← h]; exact letter_any c w

theorem letters_any (s : ByteArray) (w : World) (hs : s.size ≤ maxLen) :
    Calls Try.prog 110 #[.string s] w fun e w' => e = .returned (.bool (letL s.data.toList)) ∧ w = w' := by
  unfold maxLen at hs
  go_enter Try.func110, Try.ntmps110
  go_wp2
  go_loop [3] (fun i => ∃ k : Nat, k ≤ s.size ∧ i = .int .i64 k ∧ Hid (letL (s.data.toList.take k) = true)) (fun i => s.size - (intOf i).toNat)
  case atStart => exact ⟨0, Nat.zero_le _, rfl, Lib.hid rfl⟩
  case round =>
    obtain ⟨k, hk, rfl, HL⟩ := hrel
    by_cases hlt : k < s.size
    · have hl : k < s.data.toList.length := by simpa using hlt
      cases hb : letB s[k] with
      | true =>
        have HB := Lib.hid hb
        clear hb
        go_wp2_with (go_at_call 129; refine (letter_yes _ _ HB.out).mono ?_; rintro e w' ⟨rfl, rfl⟩)
        go_round
        case rel => exact ⟨k + 1, by omega, by go_num, Lib.hid (by rw [letL_take_succ _ _ hl, HL.out]; exact HB.out)⟩
        case measure => simp [intOf]; omega
      | false =>
        have HB := Lib.hid hb
        clear hb
        go_wp2_with (go_at_call 129; refine (letter_no _ _ HB.out).mono ?_; rintro e w' ⟨rfl, rfl⟩)
        go_ret
        exact ⟨ret_bool (letL_false_of _ k hl HB.out).symm, rfl⟩
    · go_wp2
      go_ret
      exact ⟨ret_bool (by rw [← HL.out, List.take_of_length_le (by simp; omega)]), rfl⟩

theorem infoU8 : (Try.prog.info? 5).map (fun i => (i.zero, i.size, i.bytes)) = some (some (.int .u8 0), 1, 1) := by kernel_rfl

theorem turned_q (c : UInt8) (w : World) :
    Calls Try.prog 108 #[.int .u8 (c.toNat : Int)] w fun e w' => e = .returned (.int .u8 ((turnB c).toNat : Int)) ∧ w' = w :=
  (turned_any c w).mono fun _ _ ⟨he, hw⟩ => ⟨he, hw.symm⟩

set_option maxRecDepth 100000 in
set_option maxHeartbeats 1000000 in
theorem reduce_any (s : ByteArray) (w : World) (hs : s.size ≤ 1048576) :
    Calls Try.prog 85 #[.string s] w fun e w' => e = .returned (.string (bstr (redL [] s.data.toList))) ∧ Below w.heap.size w w' := by
  obtain ⟨i0, hi, hz0, hz1, hz2⟩ := info_parts infoU8
  go_enter Try.func85, Try.ntmps85
  go_wp2
  go_loopw [3, 4] (fun v i wr => ∃ (k n g cap : Nat) (l : List UInt8), k ≤ s.size ∧ i = .int .i64 k ∧ v = .slice (some ⟨g, 0, none⟩) n cap ∧ n ≤ k ∧ Hid (l = redL [] (s.data.toList.take k) ∧ l.length = n) ∧ wr.ownsRow w.heap.size 5 1 (.slice (some ⟨g, 0, none⟩) n cap) n (bytesV l) ∧ Below w.heap.size w wr)
    (fun _ i _ => s.size - (intOf i).toNat)
  case atStart => exact ⟨0, 0, w.heap.size, 0, [], Nat.zero_le _, rfl, rfl, Nat.le_refl _, Lib.hid ⟨rfl, rfl⟩, World.ownsRow_made w #[] 0 (Nat.le_refl _) (Nat.zero_le _) rfl, (Below.refl _ _).alloc (Nat.le_refl _) _⟩
  case round =>
    obtain ⟨k, n, g, cap, l, hk, rfl, rfl, hnk, HL, hown, hB⟩ := hrel
    obtain ⟨hnc, hcm, hbg, hgs⟩ := ownsRow_cap hown
    unfold maxLen at hcm
    by_cases hlt : k < s.size
    · have hl : k < s.data.toList.length := by simpa using hlt
      have HR : Hid (redL [] (s.data.toList.take (k + 1)) = redStep l s[k]) := by
        rw [take_snoc _ k hl, redL_snoc, HL.out.1]; rfl
      by_cases hn : 0 < n
      · -- there is a last letter
        obtain ⟨p, x, hp⟩ : ∃ p x, l = p ++ [x] := last_split l (by rw [HL.out.2]; exact hn)
        have hpl : p.length + 1 = n := by rw [← HL.out.2, hp]; simp
        have hcx : wr.cell? ⟨g, n - 1, none⟩ = some (.int .u8 (x.toNat : Int)) := by
          have := hown.cells rfl (n - 1) (.int .u8 (x.toNat : Int)) (by
            rw [hp]
            simp [bytesV]
            rw [show n - 1 = p.length by omega]; simp)
          rw [show (⟨g, n - 1, none⟩ : Addr) = (⟨g, 0, none⟩ : Addr).add (n - 1) by simp [Addr.add]]
          exact this
        by_cases hx : x = turnB s[k]
        · have ht : ((x.toNat : Int) == ((turnB s[k]).toNat : Int)) = true := by rw [hx]; simp
          have HX := Lib.hid hx
          have HP := Lib.hid hp
          have HN := Lib.hid hpl
          clear hp hx hpl
          go_wp2
          go_quiet ((go_at_call 108; exact Calls.quiet_of_same (turned_q _ _)))
          go_wp2
          go_roundw
          case rel =>
            have hpop : wr.ownsRow w.heap.size 5 1 (.slice (some ⟨g, 0, none⟩) (n - 1) cap) (n - 1) (bytesV p) := by
              obtain rfl := HN.out
              have h2 := hown
              rw [HP.out, bytesV_append] at h2
              exact ownsRow_pop (by simp [bytesV_length]) h2
            exact ⟨k + 1, n - 1, g, cap, p, by omega, by go_num, by simp, by omega, Lib.hid ⟨by rw [HR.out, HP.out, redStep_pop _ _ _ HX.out], by have := HN.out; omega⟩, ownsRow_drewN hpop _, below_drewN hB _⟩
          case measure => simp [intOf]; omega
        · have ht : ((x.toNat : Int) == ((turnB s[k]).toNat : Int)) = false := by
            rw [beq_eq_false_iff_ne]
            intro e
            exact hx (UInt8.toNat_inj.1 (by omega))
          have HX := Lib.hid hx
          have HP := Lib.hid hp
          have HN := Lib.hid hpl
          clear hp hx hpl
          go_wp2
          go_quiet ((go_at_call 108; exact Calls.quiet_of_same (turned_q _ _)))
          go_wp2_with (at_builtin; refine wpList_append_own _ rfl _ _ 62 rfl w.heap.size 5 i0 (.int .u8 0) 1 1 Try.underlying62 hi hz0 hz1 hz2 rfl (by decide) _ _ _ rfl ((ownsRow_drewN hown _).alloc _) ⟨wr.heap.size, 0, none⟩ 1 1 [.int .u8 (s[k].toNat : Int)] rfl rfl (cell_one_new _ _ _) (fun u hu => by simp at hu; subst hu; rfl) (by unfold maxLen; omega) (by omega) (by have := hB.size; simp; omega) ?_)
          intro v' w2 hown' hgrow' _
          obtain ⟨g', cap', rfl⟩ := ownsRow_succ hown'
          go_wp2
          go_roundw
          case rel => 
            exact ⟨k + 1, n + 1, g', cap', l ++ [s[k]], by omega, by go_num, rfl, by omega, Lib.hid ⟨by rw [HR.out, HP.out, redStep_push _ _ _ HX.out], by rw [List.length_append, HL.out.2]; rfl⟩, by rw [bytesV_append]; exact hown', ((below_drewN hB _).alloc (by simp; omega) _).grown hgrow' (by have := hB.size; simp; omega) (fun j hj => by cases hj; exact hbg)⟩
          case measure => simp [intOf]; omega
      · obtain rfl : n = 0 := by omega
        have HN : Hid (l = []) := List.length_eq_zero_iff.1 HL.out.2
        go_wp2
        go_quiet (fail)
        go_wp2_with (at_builtin; refine wpList_append_own _ rfl _ _ 62 rfl w.heap.size 5 i0 (.int .u8 0) 1 1 Try.underlying62 hi hz0 hz1 hz2 rfl (by decide) _ _ _ rfl ((ownsRow_drewN hown _).alloc _) ⟨wr.heap.size, 0, none⟩ 1 1 [.int .u8 (s[k].toNat : Int)] rfl rfl (cell_one_new _ _ _) (fun u hu => by simp at hu; subst hu; rfl) (by unfold maxLen; omega) (by omega) (by have := hB.size; simp; omega) ?_)
        intro v' w2 hown' hgrow' _
        obtain ⟨g', cap', rfl⟩ := ownsRow_succ hown'
        go_wp2
        go_roundw
        case rel =>
          exact ⟨k + 1, 1, g', cap', l ++ [s[k]], by omega, by go_num, rfl, by omega, Lib.hid ⟨by rw [HR.out, HN.out, redStep_nil]; rfl, by rw [List.length_append, HL.out.2]; rfl⟩, by rw [bytesV_append]; exact hown', ((below_drewN hB _).alloc (by simp; omega) _).grown hgrow' (by have := hB.size; simp; omega) (fun j hj => by cases hj; exact hbg)⟩
        case measure => simp [intOf]; omega
    · have hconv := run_convert_bytes_back (P := Try.prog) wr 62 9 5 ⟨g, 0, none⟩ cap l Try.underlying62 Try.underlying5 Try.underlying9 (fun j hj => hown.cells rfl j _ (by simp [bytesV, hj]))
      rw [HL.out.2] at hconv
      go_wp2
      go_ret
      exact ⟨ret_string (show bstr l = bstr (redL [] s.data.toList) by rw [HL.out.1, List.take_of_length_le (by simp; omega)]), hB⟩

end Go.Proofs.Ytaaeiogdhmiaaaa

/- The contracts of the model's functions on words: is a text a word, reducing, what is told. -/

namespace Go.Proofs.Ytaaeiogdhmiaaaa
open Go.RowKit

theorem letters_is (s : ByteArray) (b : Bool) (w : World) (hs : s.size ≤ maxLen) (h : letL s.data.toList = b) :
    Calls Try.prog 110 #[.string s] w fun e w' => e = .returned (.bool b) ∧ w = w' := by
  rw [← h]; exact letters_any s w hs
theorem reduce_is (s r : ByteArray) (w : World) (hs : s.size ≤ 1048576) (h : bstr (redL [] s.data.toList) = r) :
    Calls Try.prog 85 #[.string s] w fun e w' => e = .returned (.string r) ∧ Below w.heap.size w w' := by
  rw [← h]; exact reduce_any s w hs

theorem sWordIn_any (s : ByteArray) (w : World) (hs : s.size ≤ maxLen) :
    Calls Try.prog 76 #[.string s] w fun e w' => e = .returned (.bool (wordB s.data.toList)) ∧ Below w.heap.size w w' := by
  have hm := hs
  unfold maxLen at hm
  by_cases h1 : s.size ≤ 60
  · cases h2 : letL s.data.toList with
    | true =>
      have H2 := Lib.hid h2
      clear h2
      go_enter Try.func76, Try.ntmps76
      go_wp2_with (first | (go_at_call 110; refine (letters_is _ true _ hs H2.out).mono ?_; rintro e w' ⟨rfl, rfl⟩) | (go_at_call 85; refine (reduce_any _ _ (by omega)).mono ?_; rintro e w1 ⟨rfl, hb⟩))
      go_ret
      exact ⟨ret_bool (by rw [bytes_beq, bstr_toList]; unfold wordB; rw [H2.out]; simp [h1]), by assumption⟩
    | false =>
      have H2 := Lib.hid h2
      clear h2
      go_enter Try.func76, Try.ntmps76
      go_wp2_with (go_at_call 110; refine (letters_is _ false _ hs H2.out).mono ?_; rintro e w' ⟨rfl, rfl⟩)
      go_ret
      exact ⟨ret_bool (by unfold wordB; rw [H2.out]; simp), Below.refl _ _⟩
  · go_enter Try.func76, Try.ntmps76
    go_wp2
    go_ret
    exact ⟨ret_bool (by unfold wordB; simp; omega), Below.refl _ _⟩

end Go.Proofs.Ytaaeiogdhmiaaaa

/- The contracts of the model's functions on words, second part: inverses, cores. -/

namespace Go.Proofs.Ytaaeiogdhmiaaaa
open Go.RowKit

theorem sWordIn_is (s : ByteArray) (b : Bool) (w : World) (hs : s.size ≤ maxLen) (h : wordB s.data.toList = b) :
    Calls Try.prog 76 #[.string s] w fun e w' => e = .returned (.bool b) ∧ Below w.heap.size w w' := by
  rw [← h]; exact sWordIn_any s w hs

set_option maxRecDepth 100000 in
set_option maxHeartbeats 1000000 in
theorem back_any (s : ByteArray) (w : World) (hs : s.size ≤ 1048576) :
    Calls Try.prog 73 #[.string s] w fun e w' => e = .returned (.string (bstr (backL s.data.toList))) ∧ Below w.heap.size w w' := by
  obtain ⟨i0, hi, hz0, hz1, hz2⟩ := info_parts infoU8
  go_enter Try.func73, Try.ntmps73
  go_wp2
  go_loopw [3, 4] (fun v i wr => ∃ (k g cap : Nat), k ≤ s.size ∧ i = .int .i64 ((k : Int) - 1) ∧ v = .slice (some ⟨g, 0, none⟩) (s.size - k) cap ∧ wr.ownsRow w.heap.size 5 1 (.slice (some ⟨g, 0, none⟩) (s.size - k) cap) (s.size - k) (bytesV (backL (s.data.toList.drop k))) ∧ Below w.heap.size w wr)
    (fun _ i _ => (intOf i + 1).toNat)
  case atStart =>
    refine ⟨s.size, w.heap.size, 0, Nat.le_refl _, rfl, by simp, ?_, (Below.refl _ _).alloc (Nat.le_refl _) _⟩
    rw [Nat.sub_self, List.drop_of_length_le (by simp)]
    exact World.ownsRow_made w #[] 0 (Nat.le_refl _) (Nat.zero_le _) rfl
  case round =>
    obtain ⟨k, g, cap, hk, rfl, rfl, hown, hB⟩ := hrel
    obtain ⟨hnc, hcm, hbg, hgs⟩ := ownsRow_cap hown
    unfold maxLen at hcm
    by_cases hlt : 0 < k
    · obtain ⟨j, rfl⟩ : ∃ j, k = j + 1 := ⟨k - 1, by omega⟩
      have hl : j < s.data.toList.length := by simp; omega
      have HD : Hid (backL (s.data.toList.drop j) = backL (s.data.toList.drop (j + 1)) ++ [turnB s[j]]) := backL_drop _ j hl
      go_wp2_with fail
      refine (turned_any _ _).mono ?_
      rintro e w' ⟨rfl, rfl⟩
      go_wp2_with (at_builtin; refine wpList_append_own _ rfl _ _ 62 rfl w.heap.size 5 i0 (.int .u8 0) 1 1 Try.underlying62 hi hz0 hz1 hz2 rfl (by decide) _ _ _ rfl (hown.alloc _) ⟨wr.heap.size, 0, none⟩ 1 1 [.int .u8 ((turnB s[j]).toNat : Int)] rfl rfl (cell_one_new _ _ _) (fun u hu => by simp at hu; subst hu; rfl) (by unfold maxLen; omega) (by omega) (by have := hB.size; simp; omega) ?_)
      intro v' w2 hown' hgrow' _
      obtain ⟨g', cap', rfl⟩ := ownsRow_succ hown'
      have HO := Lib.hid hown'
      have hB' : Below w.heap.size w w2 := (hB.alloc (by have := hB.size; omega) _).grown hgrow' (by have := hB.size; simp; omega) (fun j hj => by cases hj; exact hbg)
      clear hown' hown hgrow'
      have he : s.size - (j + 1) + 1 = s.size - j := by omega
      rw [he]
      have HE := Lib.hid he
      clear he
      go_wp2
      go_roundw
      case rel =>
        refine ⟨j, g', cap', by omega, by go_num, rfl, ?_, hB'⟩
        have := HO.out
        rw [HE.out] at this
        rw [HD.out, bytesV_append]
        exact this
      case measure => simp [intOf]
    · have HK : Hid (k = 0) := Lib.hid (by omega)
      have hk0 : k ≤ 0 := by omega
      have hconv : (convert 62 9 (.slice (some ⟨g, 0, none⟩) (s.size - k) cap)).run Try.prog wr = .ok (.string (bstr (backL s.data.toList))) wr := by
        have := run_convert_bytes_back (P := Try.prog) wr 62 9 5 ⟨g, 0, none⟩ cap (backL s.data.toList) Try.underlying62 Try.underlying5 Try.underlying9 (fun j hj => hown.cells rfl j _ (by
          rw [HK.out, List.drop_zero]; simp [bytesV, hj]))
        rw [backL_length] at this
        rw [HK.out]
        exact this
      clear hown
      go_wp2
      go_ret
      exact ⟨rfl, hB⟩

theorem extract_core (s : ByteArray) : (s.extract 1 (s.size - 1)).data.toList = s.data.toList.tail.dropLast := by
  rw [Lib.extract_data, List.dropLast_eq_take]
  simp

end Go.Proofs.Ytaaeiogdhmiaaaa

/- The contracts of the model's products and commutators of words. -/

namespace Go.Proofs.Ytaaeiogdhmiaaaa
open Go.RowKit

/-- What is told of letters. -/
def toldV (l : List UInt8) : Value := if l.length ≤ 60 then .tuple #[.string (bstr l), .bool true] else .tuple #[.string ByteArray.empty, .bool false]
theorem toldV_yes {l : List UInt8} (h : l.length ≤ 60) : toldV l = .tuple #[.string (bstr l), .bool true] := if_pos h
theorem toldV_no {l : List UInt8} (h : ¬ l.length ≤ 60) : toldV l = .tuple #[.string ByteArray.empty, .bool false] := if_neg h

theorem append_toList (a b : ByteArray) : (a ++ b).data.toList = a.data.toList ++ b.data.toList := by simp
theorem append_size (a b : ByteArray) : (a ++ b).size = a.size + b.size := by simp

/-- The letters of a commutator. -/
def commL (a b : List UInt8) : List UInt8 := a ++ b ++ backL a ++ backL b

end Go.Proofs.Ytaaeiogdhmiaaaa

/- The contracts of the program's small functions on letters, and of the iterators over a text and over a word. -/

namespace Go.Proofs.Ytaaeiogdhmiaaaa
open Go.RowKit Go.Shelf

theorem xor_tab : ((List.range 256).all fun n => decide (bits BinOp.xor IntKind.u8 (n : Int) 32 = ((invB (UInt8.ofNat n)).toNat : Int))) = true := by kernel_rfl
theorem or_tab : ((List.range 256).all fun n => (decide (97 ≤ bits BinOp.or IntKind.u8 (n : Int) 32) && decide (bits BinOp.or IntKind.u8 (n : Int) 32 < 101)) == (decide ((97 ≤ n ∧ n ≤ 100) ∨ (65 ≤ n ∧ n ≤ 68)))) = true := by kernel_rfl

theorem xor_let (c : UInt8) : bits BinOp.xor IntKind.u8 (c.toNat : Int) 32 = ((invB c).toNat : Int) := by
  have := List.all_eq_true.1 xor_tab c.toNat (List.mem_range.2 c.toNat_lt)
  simp only [decide_eq_true_eq, UInt8.ofNat_toNat] at this
  exact this
theorem or_let (c : UInt8) : (decide (97 ≤ bits BinOp.or IntKind.u8 (c.toNat : Int) 32) && decide (bits BinOp.or IntKind.u8 (c.toNat : Int) 32 < 101)) = letB c := by
  have := List.all_eq_true.1 or_tab c.toNat (List.mem_range.2 c.toNat_lt)
  rw [beq_iff_eq] at this
  rw [this]; rfl

theorem inverse_any (c : UInt8) (w : World) :
    Calls Try.prog 75 #[.int .u8 (c.toNat : Int)] w fun e w' => e = .returned (.int .u8 ((invB c).toNat : Int)) ∧ w' = w := by
  have H := Lib.hid (xor_let c)
  go_enter Try.func75, Try.ntmps75
  go_wp2
  go_ret
  exact ⟨ret_int H.out, rfl⟩

theorem known_any (c : UInt8) (w : World) :
    Calls Try.prog 130 #[.int .u8 (c.toNat : Int)] w fun e w' => e = .returned (.bool (letB c)) ∧ w' = w := by
  have H := Lib.hid (or_let c)
  go_enter Try.func130, Try.ntmps130
  go_wp2
  · go_ret
    refine ⟨ret_bool ?_, rfl⟩
    rw [← H.out]
    have h1 : 97 ≤ bits BinOp.or IntKind.u8 (c.toNat : Int) 32 := by assumption
    simp [h1]
  · go_ret
    refine ⟨ret_bool ?_, rfl⟩
    rw [← H.out]
    have h1 : bits BinOp.or IntKind.u8 (c.toNat : Int) 32 < 97 := by first | assumption | omega
    have h2 : ¬ 97 ≤ bits BinOp.or IntKind.u8 (c.toNat : Int) 32 := by omega
    simp [h2]

theorem known_is (c : UInt8) (b : Bool) (w : World) (h : letB c = b) :
    Calls Try.prog 130 #[.int .u8 (c.toNat : Int)] w fun e w' => e = .returned (.bool b) ∧ w' = w := by
  rw [← h]; exact known_any c w

theorem infoLet : (Try.prog.info? 77).map (fun i => (i.zero, i.size, i.bytes)) = some (some (.int .u8 0), 1, 1) := by kernel_rfl

/-- 'with': the stack's step. -/
theorem with_pop (g cap n base : Nat) (p : List UInt8) (x c : UInt8) (w : World) (hn : 0 < n) (hx : x = invB c) (hp : p.length + 1 = n)
    (hown : w.ownsRow base 77 1 (.slice (some ⟨g, 0, none⟩) n cap) n (bytesV (p ++ [x]))) :
    Calls Try.prog 88 #[.slice (some ⟨g, 0, none⟩) n cap, .int .u8 (c.toNat : Int)] w fun e w' =>
      e = .returned (.slice (some ⟨g, 0, none⟩) (n - 1) cap) ∧ ∃ q, w' = w.drewN q := by
  obtain ⟨hnc, hcm, hbg, hgs⟩ := ownsRow_cap hown
  unfold maxLen at hcm
  have hcx : w.cell? ⟨g, n - 1, none⟩ = some (.int .u8 (x.toNat : Int)) := by
    have := hown.cells rfl (n - 1) (.int .u8 (x.toNat : Int)) (by
      simp [bytesV]
      rw [show n - 1 = p.length by omega]; simp)
    rw [show (⟨g, n - 1, none⟩ : Addr) = (⟨g, 0, none⟩ : Addr).add (n - 1) by simp [Addr.add]]
    exact this
  have ht : ((x.toNat : Int) == ((invB c).toNat : Int)) = true := by rw [hx]; simp
  have HN := Lib.hid hp
  have hd : decide ((1 : Int) ≤ (n : Int)) = true := by simp; omega
  clear hx hp
  go_enter Try.func88, Try.ntmps88
  go_wp2
  go_quiet ((go_at_call 75; exact Calls.quiet_of_same (inverse_any _ _)))
  go_wp2
  go_ret
  exact ⟨by simp, _, rfl⟩

theorem with_push (g cap n base : Nat) (l : List UInt8) (c : UInt8) (w : World) (hx : l.getLast? ≠ some (invB c)) (hl : l.length = n) (hn : n ≤ 1000000000) (hbs : base ≤ w.heap.size)
    (hown : w.ownsRow base 77 1 (.slice (some ⟨g, 0, none⟩) n cap) n (bytesV l)) :
    Calls Try.prog 88 #[.slice (some ⟨g, 0, none⟩) n cap, .int .u8 (c.toNat : Int)] w fun e w' =>
      ∃ g' cap', e = .returned (.slice (some ⟨g', 0, none⟩) (n + 1) cap') ∧ w'.ownsRow base 77 1 (.slice (some ⟨g', 0, none⟩) (n + 1) cap') (n + 1) (bytesV (l ++ [c])) ∧ w.grownBy w' (some g) := by
  obtain ⟨i0, hi, hz0, hz1, hz2⟩ := info_parts infoLet
  obtain ⟨hnc, hcm, hbg, hgs⟩ := ownsRow_cap hown
  unfold maxLen at hcm
  by_cases hn0 : 0 < n
  · obtain ⟨p, x, rfl⟩ : ∃ p x, l = p ++ [x] := last_split l (by omega)
    have hcx : w.cell? ⟨g, n - 1, none⟩ = some (.int .u8 (x.toNat : Int)) := by
      have := hown.cells rfl (n - 1) (.int .u8 (x.toNat : Int)) (by
        simp [bytesV]
        rw [show n - 1 = p.length by simp at hl; omega]; simp)
      rw [show (⟨g, n - 1, none⟩ : Addr) = (⟨g, 0, none⟩ : Addr).add (n - 1) by simp [Addr.add]]
      exact this
    have ht : ((x.toNat : Int) == ((invB c).toNat : Int)) = false := by
      rw [beq_eq_false_iff_ne]
      intro e
      exact hx (by simp; exact UInt8.toNat_inj.1 (by omega))
    have HX := Lib.hid hx
    have HN := Lib.hid hl
    have hd : decide ((1 : Int) ≤ (n : Int)) = true := by simp; omega
    clear hx hl
    go_enter Try.func88, Try.ntmps88
    go_wp2
    go_quiet ((go_at_call 75; exact Calls.quiet_of_same (inverse_any _ _)))
    go_wp2_with (at_builtin; refine wpList_append_own _ rfl _ _ 87 rfl base 77 i0 (.int .u8 0) 1 1 Try.underlying87 hi hz0 hz1 hz2 rfl (by decide) _ _ _ rfl ((ownsRow_drewN hown _).alloc _) ⟨w.heap.size, 0, none⟩ 1 1 [.int .u8 (c.toNat : Int)] rfl rfl (cell_one_new _ _ _) (fun u hu => by simp at hu; subst hu; rfl) (by unfold maxLen; omega) (by omega) (by simp; omega) ?_)
    intro v' w2 hown' hgrow' _
    obtain ⟨g', cap', rfl⟩ := ownsRow_succ hown'
    go_wp2
    go_ret
    exact ⟨g', cap', rfl, by rw [bytesV_append]; exact hown', ⟨hgrow'.os, hgrow'.tape, hgrow'.output, Nat.le_trans (by simp) hgrow'.size, fun k hk hne => (hgrow'.block k (by simp; omega) hne).trans (Below.heap_alloc _ _ _ (by simpa using hk))⟩⟩
  · obtain rfl : n = 0 := by omega
    obtain rfl : l = [] := List.length_eq_zero_iff.1 hl
    clear hx hl
    go_enter Try.func88, Try.ntmps88
    go_wp2
    go_quiet (fail)
    go_wp2_with (at_builtin; refine wpList_append_own _ rfl _ _ 87 rfl base 77 i0 (.int .u8 0) 1 1 Try.underlying87 hi hz0 hz1 hz2 rfl (by decide) _ _ _ rfl ((ownsRow_drewN hown _).alloc _) ⟨w.heap.size, 0, none⟩ 1 1 [.int .u8 (c.toNat : Int)] rfl rfl (cell_one_new _ _ _) (fun u hu => by simp at hu; subst hu; rfl) (by unfold maxLen; omega) (by omega) (by simp; omega) ?_)
    intro v' w2 hown' hgrow' _
    obtain ⟨g', cap', rfl⟩ := ownsRow_succ hown'
    go_wp2
    go_ret
    exact ⟨g', cap', rfl, by exact hown', ⟨hgrow'.os, hgrow'.tape, hgrow'.output, Nat.le_trans (by simp) hgrow'.size, fun k hk hne => (hgrow'.block k (by simp; omega) hne).trans (Below.heap_alloc _ _ _ (by simpa using hk))⟩⟩

/-- 'with': one step of the stack on a row that the caller owns. -/
theorem with_any (g cap n base : Nat) (l : List UInt8) (c : UInt8) (w : World) (hl : l.length = n) (hn : n ≤ 1000000000) (hbs : base ≤ w.heap.size)
    (hown : w.ownsRow base 77 1 (.slice (some ⟨g, 0, none⟩) n cap) n (bytesV l)) :
    Calls Try.prog 88 #[.slice (some ⟨g, 0, none⟩) n cap, .int .u8 (c.toNat : Int)] w fun e w' =>
      ∃ g' n' cap', e = .returned (.slice (some ⟨g', 0, none⟩) n' cap') ∧ (stepX l c).length = n' ∧ w'.ownsRow base 77 1 (.slice (some ⟨g', 0, none⟩) n' cap') n' (bytesV (stepX l c)) ∧ w.grownBy w' (some g) := by
  by_cases hx : l.getLast? = some (invB c)
  · have hn0 : 0 < n := by
      rw [← hl]; cases l with
      | nil => simp at hx
      | cons a l => simp
    obtain ⟨p, x, rfl⟩ := last_split l (by omega)
    have hxe : x = invB c := by simpa using hx
    have hp : p.length + 1 = n := by rw [← hl]; simp
    refine (with_pop g cap n base p x c w hn0 hxe hp hown).mono ?_
    rintro e w' ⟨rfl, q, rfl⟩
    refine ⟨g, n - 1, cap, rfl, by rw [stepX_pop p x c hxe]; omega, ?_, ⟨rfl, rfl, rfl, Nat.le_refl _, fun _ _ _ => rfl⟩⟩
    rw [stepX_pop p x c hxe]
    obtain rfl := hp
    rw [bytesV_append] at hown
    exact ownsRow_drewN (ownsRow_pop (by simp [bytesV_length]) hown) q
  · refine (with_push g cap n base l c w hx hl hn hbs hown).mono ?_
    rintro e w' ⟨g', cap', rfl, h1, h2⟩
    have hs : stepX l c = l ++ [c] := by unfold stepX; rw [if_neg hx]
    exact ⟨g', n + 1, cap', rfl, by rw [hs]; simp [hl], by rw [hs]; exact h1, h2⟩

theorem signsOf_any (s : ByteArray) (w : World) :
    Calls Try.prog 70 #[.string s] w fun e w' => e = .returned (.func (.func 106) #[] #[.pointer (some ⟨w.heap.size, 0, none⟩)]) ∧ w' = w.alloc (.cells #[.string s] 9) := by
  go_enter Try.func70, Try.ntmps70
  go_wp2
  go_ret
  exact ⟨rfl, rfl⟩
end Go.Proofs.Ytaaeiogdhmiaaaa

/- A loop over an iterator whose own body may hold such a loop: what a round keeps; the loop's law for bodies that never leave it. -/

namespace Go.Proofs.Ytaaeiogdhmiaaaa
open Go.RowKit Go.Shelf

abbrev encB (c : UInt8) : Array Value := #[.int .u8 (c.toNat : Int)]
/-- The type of a row's letters. -/
abbrev TL : TypeId := 77

/-- Cells that are no letters lie as they lay, but for the box B. -/
def KeepT (B : Nat) (W W' : World) : Prop := ∀ k cs t r, W.heap[k]? = some (.cells cs t r) → t ≠ TL → k ≠ B → W'.heap[k]? = some (.cells cs t r)
theorem KeepT.refl (B : Nat) (W : World) : KeepT B W W := fun _ _ _ _ h _ _ => h
theorem KeepT.trans {B : Nat} {X Y Z : World} (h : KeepT B X Y) (k : KeepT B Y Z) : KeepT B X Z := fun i cs t r hi ht hB => k i cs t r (h i cs t r hi ht hB) ht hB
theorem KeepT.putObj {B : Nat} {W : World} {l : Nat} {o : Obj} (o' : Obj) (hl : W.heap[l]? = some o) (ho : o.isCells = false) : KeepT B W (W.putObj l o') := fun k cs t r hk _ _ => by
  refine (World.putObj_heap_other (fun e => ?_)).trans hk
  subst e
  rw [hl] at hk; cases hk; cases ho
theorem KeepT.drewN (B : Nat) (W : World) (q : Nat) : KeepT B W (W.drewN q) := fun _ _ _ _ h _ _ => h
theorem KeepT.boxed {B k : Nat} {W W' : World} {t : TypeId} {v : Value} (h : KeepT B W W') (hb : Boxed W k t v) (ht : t ≠ TL) (hk : k ≠ B) : Boxed W' k t v := h k _ t _ hb ht hk

theorem keepsFrom_mono {B B' : Nat} {W W' : World} (h : KeepsFrom B W W') (hb : B ≤ B') : KeepsFrom B' W W' := ⟨h.size, fun k o hk => h.same k o (by omega)⟩
/-- What a round of the caller's body keeps. -/
def KeepR (n₀ B N : Nat) (W W' : World) : Prop := Below n₀ W W' ∧ KeepT B W W' ∧ KeepsFrom N W W'

theorem roundIn_any {m m' : Nat} {l : Nat} {P : Program} {f : FuncId} {tmps : Array Value} {assign body : Code} {w : World} {R : Ending → World → Prop} (h : RoundIn Fence.wide m P l f tmps assign body w R) : RoundIn Fence.wide m' P l f tmps assign body w R :=
  ⟨h.1, fun c cs _ => h.2 c cs (fun _ hd => by cases hd)⟩
theorem roundIn_inRound {m l' : Nat} {l : Nat} {P : Program} {f : FuncId} {tmps : Array Value} {assign body : Code} {w : World} {R : Ending → World → Prop} (h : RoundIn Fence.wide m P l f tmps assign body w R) : RoundIn (Fence.wide.inRound l') m P l f tmps assign body w R := h

/-- A value that gives the letters xs to every loop that never leaves its body. -/
def SeqO (n₀ : Nat) (w : World) (gf : Nat) (lb : Array Value) (xs : List UInt8) : Prop :=
  ∀ n, 12 ≤ n → ∀ (l B : Nat) (J : List UInt8 → World → Prop) (W : World), Below w.heap.size w W → n₀ ≤ B → B < W.heap.size → OwnFrom W.heap.size J →
    (∀ pre x W1, J pre W1 → pre ++ [x] <+: xs → YieldAt Fence.wide (n - 1) Try.prog l (encB x) W1 fun e W' => e = .returned (.bool true) ∧ J (pre ++ [x]) W' ∧ KeepR n₀ B W.heap.size W1 W') →
    J [] W →
    CallsIn Fence.wide n Try.prog gf (#[.func (.yield l) #[] #[]] ++ lb) W fun e W' => (∃ v, e = .returned v) ∧ J xs W'

theorem SeqO.later {n₀ n₁ : Nat} {w w' : World} {gf : Nat} {lb : Array Value} {xs : List UInt8} (h : SeqO n₀ w gf lb xs) (hb : Below w.heap.size w w') (hn : n₀ ≤ n₁) : SeqO n₁ w' gf lb xs :=
  fun n h8 l B J W hW hnB hB hJ hY h0 => h n h8 l B J W (hb.trans (hW.mono hb.size)) (Nat.le_trans hn hnB) hB hJ
    (fun pre x W1 hj hl => (hY pre x W1 hj hl).mono (fun _ _ ⟨a, b, c⟩ => ⟨a, b, c.1.mono hn, c.2⟩)) h0

theorem prefix_len {α : Type} {pre xs : List α} {x : α} (h : pre ++ [x] <+: xs) : pre.length < xs.length := by
  have := h.length_le; simp at this; omega
theorem prefix_mem {α : Type} {pre xs : List α} {x : α} (h : pre ++ [x] <+: xs) : x ∈ xs := h.subset (by simp)

/-- How a round's body ends: it goes on. -/
def goesOn {α : Type} (B : Nat) (Kp : Nat → World → World → Prop) (I : List α → World → Prop) (xs : List α) (W : World) : Exit → Act → World → Prop
  | .normal, _, W' => KeepsFrom B W W' ∧ Kp B W W' ∧ I xs W'
  | _, _, _ => False

/-- **The loop's law.** -/
theorem range_law {α : Type} {n : Nat} {g : Operand} {ps : Array Tmp} {assign body : Code} {Q : Exit → Act → World → Prop} {a : Act} {w : World} {gf : Nat} {lb : Array Value} (hn : 10 ≤ n)
    (hg : a.eval g = .func (.func gf) #[] lb) (eg : ∀ args w, (callFunc gf args).run Try.prog w = .ok (.enter gf args) w)
    {encs : α → Array Value} (hps : ∀ x, (encs x).size = ps.size) (Kp : Nat → World → World → Prop) (hKt : ∀ {N X Y Z}, Kp N X Y → Kp N Y Z → Kp N X Z)
    (hKp : ∀ N W l o o', l < N → w.heap.size ≤ l → W.heap[l]? = some o → o.isCells = false → o.isWalk = false → Kp N W (W.putObj l o')) (hKm : ∀ {X Y}, Kp w.heap.size X Y → Kp (w.heap.size + 2) X Y)
    {xs : List α}
    (hseq : ∀ (l : Nat) (J : List α → World → Prop) (V : World), Below w.heap.size w V → w.heap.size < V.heap.size → OwnFrom V.heap.size J →
      (∀ pre x W1, J pre W1 → pre ++ [x] <+: xs → YieldAt Fence.wide (n - 1 - 1) Try.prog l (encs x) W1 fun e W' => e = .returned (.bool true) ∧ J (pre ++ [x]) W' ∧ Kp V.heap.size W1 W') → J [] V →
      CallsIn Fence.wide (n - 1) Try.prog gf (#[.func (.yield l) #[] #[]] ++ lb) V fun e W' => (∃ v, e = .returned v) ∧ J xs W')
    (I : List α → World → Prop) (hI : OwnFrom w.heap.size I) (h0 : I [] w) (a₁ : α → Act)
    (hassign : ∀ (l : Nat) (x : α) (W : World) (K : Act → World → Prop), K (a₁ x) W →
      assign.wpIn (Fence.wide.inRound l) (n - 1 - 1) Try.prog (Exit.then K (fun _ _ _ => False)) { tmps := (ps.zip (encs x)).foldl (fun t (q, v) => t.setIfInBounds q v) a.tmps, defers := [] } W)
    (hbody : ∀ (l : Nat) (pre : List α) (x : α) (W : World), I pre W → pre ++ [x] <+: xs →
      body.wpIn (Fence.wide.inRound l) (n - 1 - 1) Try.prog (goesOn w.heap.size Kp I (pre ++ [x]) W) (a₁ x) W)
    (hdone : ∀ (D : Nat) (W : World), w.heap.size ≤ D → I xs W → W.heap[D]? = some (.deferred (some [])) → Q .normal { a with defers := { target := .collected D, args := #[] } :: a.defers } W) :
    (Code.rangeFunc g ps assign body).wpIn Fence.wide n Try.prog Q a w := by
  refine wpIn_rangeFunc fun fn hfn => ?_
  have lp : ∃ lp : LoopState → Loop, lp = fun st => { state := st, pending := none, fn, tmps := a.tmps, params := ps, assign, body, defers := w.heap.size } := ⟨_, rfl⟩
  obtain ⟨lp, hlp⟩ := lp
  have e1 := run_enterLoop_outer (P := Try.prog) (w := w) fn a.tmps ps assign body
  rw [show ({ state := .ready, pending := none, fn, tmps := a.tmps, params := ps, assign, body, defers := w.heap.size } : Loop) = lp .ready by rw [hlp]] at e1
  have kD : ((w.alloc (.deferred (some []))).alloc (.loop (lp .ready))).heap[w.heap.size]? = some (.deferred (some [])) := (Below.heap_alloc _ _ _ (by simp)).trans (World.alloc_heap_new w _)
  have kL : ((w.alloc (.deferred (some []))).alloc (.loop (lp .ready))).heap[w.heap.size + 1]? = some (.loop (lp .ready)) := by
    have := World.alloc_heap_new (w.alloc (.deferred (some []))) (.loop (lp .ready)); rwa [World.size_alloc] at this
  have i0 := hI.alloc (Obj.loop (lp .ready)) (hI.alloc (Obj.deferred (some [])) h0)
  have hs : ((w.alloc (.deferred (some []))).alloc (.loop (lp .ready))).heap.size = w.heap.size + 2 := by simp
  have hb : Below w.heap.size w ((w.alloc (.deferred (some []))).alloc (.loop (lp .ready))) := ((Below.refl _ w).alloc (Nat.le_refl _) _).alloc (by simp) _
  generalize ((w.alloc (.deferred (some []))).alloc (.loop (lp .ready))) = V at e1 kD kL i0 hs hb
  refine ⟨w.heap.size + 1, _, V, { target := .fn (.func gf) lb, args := #[.func (.yield (w.heap.size + 1)) #[] #[]] }, V, gf, #[.func (.yield (w.heap.size + 1)) #[] #[]] ++ lb, V, e1, ?_, fun f' hf' => ?_, ?_, fun _ => by omega, ?_⟩
  · simp only [resolve, hg]
    simp [go_sem]
  · trivial
  · simp [invoke, go_sem, eg]
  · refine (hseq (w.heap.size + 1) (fun pre W => I pre W ∧ W.heap[w.heap.size]? = some (.deferred (some [])) ∧ W.heap[w.heap.size + 1]? = some (.loop (lp .ready))) V hb (by omega) ?_ ?_ ⟨i0, kD, kL⟩).mono ?_
    · rintro s X Y row ⟨h1, h2, h3⟩ hgr hr
      have far : ∀ k, k < V.heap.size → k < X.heap.size → Y.heap[k]? = X.heap[k]? := fun k hk hX => hgr.block k hX (fun e => by have := (hr k e.symm).1; omega)
      exact ⟨hI s X Y row h1 hgr (fun r e => by obtain ⟨q1, q2⟩ := hr r e; exact ⟨by omega, q2⟩), (far _ (by omega) (Array.getElem?_eq_some_iff.1 h2).1).trans h2, (far _ (by omega) (Array.getElem?_eq_some_iff.1 h3).1).trans h3⟩
    · rintro pre x W ⟨h1, h2, h3⟩ hpre
      have hlt : w.heap.size + 1 < W.heap.size := (Array.getElem?_eq_some_iff.1 h3).1
      have hy := run_yield (P := Try.prog) (args := encs x) h3 (by rw [hlp]; exact hps x)
      rw [hlp] at hy
      refine ⟨fn, _, assign, body, hy, roundIn_of_wpIn hfn (hassign _ x W _ ⟨_, run_beginRound h3 (by rw [hlp]), ?_⟩)⟩
      have b3 : (W.putObj (w.heap.size + 1) (.loop { lp .ready with state := .busy })).heap[w.heap.size + 1]? = some (.loop { lp .ready with state := .busy }) := World.putObj_heap_same hlt
      have b2 : (W.putObj (w.heap.size + 1) (.loop { lp .ready with state := .busy })).heap[w.heap.size]? = some (.deferred (some [])) := (World.putObj_heap_other (by omega)).trans h2
      have b1 := hI.putObj (.loop { lp .ready with state := .busy }) h1 (by omega) h3 rfl
      have bk : Kp (w.heap.size + 2) W (W.putObj (w.heap.size + 1) (.loop { lp .ready with state := .busy })) := hKp _ W _ _ _ (by omega) (by omega) h3 rfl rfl
      generalize (W.putObj (w.heap.size + 1) (.loop { lp .ready with state := .busy })) = X at b1 b2 b3 bk
      refine wpIn_mono (hbody _ pre x X b1 hpre) ?_
      intro e a3 Y hgo
      cases e with
      | normal => ?_
      | _ => exact hgo.elim
      obtain ⟨k3, kp, hi⟩ := hgo
      have c3 := k3.same _ _ (by omega) b3 rfl
      have c2 := k3.same _ _ (Nat.le_refl _) b2 rfl
      have he := run_endRound (P := Try.prog) none c3
      refine ⟨_, _, he, rfl, ⟨hI.putObj _ hi (by omega) c3 rfl, (World.putObj_heap_other (by omega)).trans c2, ?_⟩, ?_⟩
      · rw [hlp]
        rw [hlp] at c3
        exact World.putObj_heap_same (Array.getElem?_eq_some_iff.1 c3).1
      · rw [hs]
        exact hKt (hKt bk (hKm kp)) (hKp _ Y _ _ _ (by omega) (by omega) c3 rfl rfl)
    · rintro e W ⟨⟨v, rfl⟩, h1, h2, h3⟩
      have he := run_endLoop (P := Try.prog) h3 (by rw [hlp]; simp)
      rw [show (lp .ready).pending = none by rw [hlp]] at he
      exact ⟨none, _, he, hdone _ _ (Nat.le_refl _) (hI.putObj _ h1 (by omega) h3 rfl) ((World.putObj_heap_other (by omega)).trans h2)⟩

/-- The law at an iterator over letters. -/
theorem range_letters {n : Nat} {g : Operand} {p : Tmp} {assign body : Code} {Q : Exit → Act → World → Prop} {a : Act} {w : World} {gf : Nat} {lb : Array Value} (hn : 14 ≤ n)
    (hg : a.eval g = .func (.func gf) #[] lb) (eg : ∀ args w, (callFunc gf args).run Try.prog w = .ok (.enter gf args) w)
    {n₀ B : Nat} {xs : List UInt8} (hseq : SeqO n₀ w gf lb xs) (hn₀ : n₀ ≤ w.heap.size) (hnB : n₀ ≤ B) (hB : B < w.heap.size)
    (I : List UInt8 → World → Prop) (hI : OwnFrom w.heap.size I) (h0 : I [] w) (a₁ : UInt8 → Act)
    (hassign : ∀ (l : Nat) (x : UInt8) (W : World) (K : Act → World → Prop), K (a₁ x) W →
      assign.wpIn (Fence.wide.inRound l) (n - 1 - 1) Try.prog (Exit.then K (fun _ _ _ => False)) { tmps := (#[p].zip (encB x)).foldl (fun t (q, v) => t.setIfInBounds q v) a.tmps, defers := [] } W)
    (hbody : ∀ (l : Nat) (pre : List UInt8) (x : UInt8) (W : World), I pre W → pre ++ [x] <+: xs →
      body.wpIn (Fence.wide.inRound l) (n - 1 - 1) Try.prog (goesOn w.heap.size (KeepR n₀ B) I (pre ++ [x]) W) (a₁ x) W)
    (hdone : ∀ (D : Nat) (W : World), w.heap.size ≤ D → I xs W → W.heap[D]? = some (.deferred (some [])) → Q .normal { a with defers := { target := .collected D, args := #[] } :: a.defers } W) :
    (Code.rangeFunc g #[p] assign body).wpIn Fence.wide n Try.prog Q a w :=
  range_law (by omega) hg eg (fun _ => rfl) (KeepR n₀ B) (fun h k => ⟨h.1.trans k.1, h.2.1.trans k.2.1, h.2.2.trans k.2.2⟩)
    (fun N W l o o' hl hwl hW ho hwk => ⟨belowK_b hn₀ W l o o' hwl hW ho hwk, KeepT.putObj _ hW ho, KeepsFrom.of_grownBy (grownBy_putObj' W l o') (fun j e => by cases e; exact hl)⟩)
    (fun h => ⟨h.1, h.2.1, keepsFrom_mono h.2.2 (by omega)⟩)
    (fun l J V hV hlt hJ hY h0 => hseq (n - 1) (by omega) l B J V hV hnB (by omega) hJ hY h0) I hI h0 a₁ hassign hbody hdone

end Go.Proofs.Ytaaeiogdhmiaaaa

/- The iterators' contracts: over the bytes of a text, over the letters of a word, over those of its inverse. -/

namespace Go.Proofs.Ytaaeiogdhmiaaaa
open Go.RowKit Go.Shelf

attribute [local go_sem] Oper.semAt_some

/-- A value that gives the letters xs, whatever the loop's body does above n₀. -/
def SeqOf (n₀ : Nat) (w : World) (gf : Nat) (lb : Array Value) (xs : List UInt8) : Prop :=
  ∀ n, 3 ≤ n → SeqStopsK Fence.wide n Try.prog gf lb encB (Below n₀) (fun ys => ys = xs) (fun pre => pre <+: xs) xs.length w

theorem SeqOf.later {n₀ n₁ : Nat} {w w' : World} {gf : Nat} {lb : Array Value} {xs : List UInt8} (h : SeqOf n₀ w gf lb xs) (hb : Below w.heap.size w w') (hn : n₀ ≤ n₁) : SeqOf n₁ w' gf lb xs :=
  fun n h3 l J Jx W hW hJ hJx hY h0 => h n h3 l J Jx W (hb.trans (hW.mono hb.size)) hJ hJx
    (fun pre x W1 hj hl => (hY pre x W1 hj hl).mono (fun _ _ hr => hr.elim (fun ⟨a, b, c⟩ => .inl ⟨a, b, c.mono hn⟩) .inr)) h0

set_option maxRecDepth 100000 in
set_option maxHeartbeats 1000000 in
/-- 'signsOf': the bytes of a text, one by one. -/
theorem signs1_in (n : Nat) (hn : 1 ≤ n) (l Bs n₀ : Nat) (s : ByteArray) (hs : s.size ≤ 1048576) (hb : Bs < n₀) (J Jx : List UInt8 → World → Prop)
    (hY : ∀ pre x W, J pre W → pre ++ [x] <+: s.data.toList → YieldAt Fence.wide (n - 1) Try.prog l (encB x) W fun e W' =>
      (e = .returned (.bool true) ∧ J (pre ++ [x]) W' ∧ Below n₀ W W') ∨ (e = .returned (.bool false) ∧ Jx (pre ++ [x]) W'))
    (W : World) (hBs : W.cell? ⟨Bs, 0, none⟩ = some (.string s)) (h0 : J [] W) :
    CallsIn Fence.wide n Try.prog 106 #[.func (.yield l) #[] #[], .pointer (some ⟨Bs, 0, none⟩)] W fun e W' => (∃ v, e = .returned v) ∧
      ((∃ ys, ys = s.data.toList ∧ J ys W') ∨ (∃ pre, pre <+: s.data.toList ∧ Jx pre W')) := by
  refine callsIn_of_wp Try.func106 rfl trivial ?_ rfl
  simp only [Try.ntmps106, List.size_toArray, List.length_cons, List.length_nil, Nat.reduceAdd, Nat.reduceSub, Array.replicate_succ, Array.replicate_zero, List.push_toArray, List.append_toArray, List.nil_append, List.cons_append]
  gi_wp2
  gi_loopw [6] (fun i wr => ∃ k : Nat, k ≤ s.size ∧ i = .int .i64 k ∧ J (s.data.toList.take k) wr ∧ Below n₀ W wr)
    (fun i _ => s.size - (intOf i).toNat)
  case atStart => exact ⟨0, Nat.zero_le _, rfl, h0, Below.refl _ _⟩
  case round =>
    obtain ⟨k, hk, rfl, hJs, hnx⟩ := hrel
    have hcx : wr.cell? ⟨Bs, 0, none⟩ = some (.string s) := (hnx.cell (p := ⟨Bs, 0, none⟩) hb).trans hBs
    by_cases hlt : k < s.size
    · have hl : k < s.data.toList.length := by simpa using hlt
      have HS : Hid (s.data.toList.take (k + 1) = s.data.toList.take k ++ [s[k]]) := take_snoc _ k hl
      obtain ⟨fn, tmps, assign, body, hy, hR⟩ := hY _ s[k] wr hJs (by rw [← HS.out]; exact List.take_prefix _ _)
      gi_wp2
      refine hR.mono ?_
      rintro e W3 (⟨rfl, hJ3, hk3⟩ | ⟨rfl, hJx3⟩)
      · gi_wp2
        go_roundw
        case rel => exact ⟨k + 1, by omega, by simp, by rw [HS.out]; exact hJ3, hnx.trans hk3⟩
        case measure => simp [intOf]; omega
      · gi_wp2
        refine bodyPost_ret (results_none rfl _ _ _) rfl ?_
        exact ⟨⟨_, rfl⟩, .inr ⟨_, by rw [← HS.out]; exact List.take_prefix _ _, hJx3⟩⟩
    · have HA : Hid (s.data.toList.take k = s.data.toList) := List.take_of_length_le (by simp; omega)
      gi_wp2
      go_end0
      exact ⟨⟨_, rfl⟩, .inl ⟨_, HA.out, hJs⟩⟩

theorem signs_seq (s : ByteArray) (hs : s.size ≤ 1048576) (w : World) (Bs n₀ : Nat) (hB : Bs < n₀) (hn₀ : n₀ ≤ w.heap.size) (hc : w.cell? ⟨Bs, 0, none⟩ = some (.string s)) :
    SeqOf n₀ w 106 #[.pointer (some ⟨Bs, 0, none⟩)] s.data.toList := fun n h3 l J Jx W hW _ _ hY h0 =>
  signs1_in n (by omega) l Bs n₀ s hs hB J Jx (fun pre x W1 hj hp => hY pre x W1 hj (prefix_len hp)) W ((hW.cell (p := ⟨Bs, 0, none⟩) (by show Bs < w.heap.size; omega)).trans hc) h0

/-- A contract with two outcomes of a round gives the one for loops that never leave. -/
theorem seqO_of {n₀ : Nat} {w : World} {gf : Nat} {lb : Array Value} {xs : List UInt8}
    (h : ∀ n, 3 ≤ n → ∀ (l : Nat) (J Jx : List UInt8 → World → Prop) (W : World), Below w.heap.size w W →
      (∀ pre x W1, J pre W1 → pre ++ [x] <+: xs → YieldAt Fence.wide (n - 1) Try.prog l (encB x) W1 fun e W' =>
        (e = .returned (.bool true) ∧ J (pre ++ [x]) W' ∧ Below n₀ W1 W') ∨ (e = .returned (.bool false) ∧ Jx (pre ++ [x]) W')) →
      J [] W → CallsIn Fence.wide n Try.prog gf (#[.func (.yield l) #[] #[]] ++ lb) W fun e W' => (∃ v, e = .returned v) ∧ ((∃ ys, ys = xs ∧ J ys W') ∨ (∃ pre, pre <+: xs ∧ Jx pre W'))) : SeqO n₀ w gf lb xs :=
  fun n h8 l B J W hW _ _ _ hY h0 => by
    refine (h n (by omega) l J (fun _ _ => False) W hW (fun pre x W1 hj hl => (hY pre x W1 hj hl).mono (fun _ _ ⟨a, b, c⟩ => .inl ⟨a, b, c.1⟩)) h0).mono ?_
    rintro e W' ⟨hv, ⟨ys, rfl, hJ'⟩ | ⟨_, _, hf⟩⟩
    · exact ⟨hv, hJ'⟩
    · exact hf.elim

theorem signs_seqO (s : ByteArray) (hs : s.size ≤ 1048576) (w : World) (Bs n₀ : Nat) (hB : Bs < n₀) (hn₀ : n₀ ≤ w.heap.size) (hc : w.cell? ⟨Bs, 0, none⟩ = some (.string s)) :
    SeqO n₀ w 106 #[.pointer (some ⟨Bs, 0, none⟩)] s.data.toList :=
  seqO_of fun n h3 l J Jx W hW hY h0 => signs1_in n (by omega) l Bs n₀ s hs hB J Jx hY W ((hW.cell (p := ⟨Bs, 0, none⟩) (by show Bs < w.heap.size; omega)).trans hc) h0

end Go.Proofs.Ytaaeiogdhmiaaaa

/- The contract of the program's 'reduced': the letters of all parts, one part behind the other, reduced. -/

namespace Go.Proofs.Ytaaeiogdhmiaaaa
open Go.RowKit Go.Shelf

attribute [local go_sem] Oper.semAt_some

structure Part where
  gf : Nat
  lb : Array Value
  xs : List UInt8

def cat (ps : List Part) : List UInt8 := (ps.map Part.xs).flatten
theorem cat_take_succ (ps : List Part) (k : Nat) (h : k < ps.length) : cat (ps.take (k + 1)) = cat (ps.take k) ++ ps[k].xs := by
  unfold cat; rw [List.take_succ_eq_append_getElem h]; simp only [List.map_append, List.flatten_append, List.map_cons, List.map_nil, List.flatten_cons, List.flatten_nil, List.append_nil]

/-- The marks that loops over iterators leave among the deferred calls. -/
def mk (D : Nat) : Deferred := { target := .collected D, args := #[] }
def Marked (base : Nat) (Ds : List Nat) (W : World) : Prop := Ds.Nodup ∧ ∀ D ∈ Ds, base ≤ D ∧ W.heap[D]? = some (.deferred (some []))

theorem leaves_marks {F : Fence} {n : Nat} {P : Program} {fn : Func} {tmps : Array Value} {R : Ending → World → Prop} {base : Nat} (Q : World → Prop)
    (hQ : ∀ W D o', Q W → base ≤ D → W.heap[D]? = some (.deferred (some [])) → Q (W.putObj D o')) (hend : ∀ W, Q W → LeavesIn F n P fn tmps R [] .returning W) :
    ∀ (Ds : List Nat) (W : World), Q W → Marked base Ds W → LeavesInM F n P fn tmps R (Ds.map mk) .returning W
  | [], W, hq, _ => hend W hq
  | D :: Ds, W, hq, hm => by
    obtain ⟨hnd, hall⟩ := hm
    obtain ⟨hb, hK⟩ := hall D (by simp)
    rw [List.nodup_cons] at hnd
    refine ⟨by simp, .inl ⟨D, _, rfl, run_takeDeferred hK, leaves_marks Q hQ hend Ds _ (hQ _ _ _ hq hb hK) ⟨hnd.2, fun E hE => ?_⟩⟩⟩
    obtain ⟨h1, h2⟩ := hall E (by simp [hE])
    exact ⟨h1, (World.putObj_heap_other (fun e => hnd.1 (by rw [← e]; exact hE))).trans h2⟩

/-- The box B holds a slice that owns the letters L. -/
def Hold (base B : Nat) (L : List UInt8) (W : World) : Prop :=
  ∃ v, Boxed W B 87 v ∧ W.ownsRow base 77 1 v L.length (bytesV L) ∧ ∃ g cap, v = .slice (some ⟨g, 0, none⟩) L.length cap

theorem Hold.own (base B : Nat) (f : List UInt8 → List UInt8) : Own (fun pre W => Hold base B (f pre) W) :=
  holdsRow_own base B _ _ 1 (fun pre => (f pre).length) (fun pre => bytesV (f pre)) (fun pre v => ∃ g cap, v = .slice (some ⟨g, 0, none⟩) (f pre).length cap)

theorem Hold.putObj {base B : Nat} {L : List UInt8} {W : World} (h : Hold base B L W) {D : Nat} {o : Obj} (o' : Obj) (hD : W.heap[D]? = some o) (ho : o.isCells = false) : Hold base B L (W.putObj D o') :=
  (Hold.own base B id) L W _ (some D) h (grownBy_putObj' W D o') (fun r e => by cases e; exact ⟨o, hD, ho⟩)

theorem Hold.step {base B : Nat} {W w1 : World} {g m cap g' m' cap' : Nat} {xs ys : List Value} (hv : Boxed W B 87 (.slice (some ⟨g, 0, none⟩) m cap)) (hrow : W.ownsRow base 77 1 (.slice (some ⟨g, 0, none⟩) m cap) m xs)
    (hn₀ : base ≤ W.heap.size) (hB : base ≤ B) (hown' : w1.ownsRow base 77 1 (.slice (some ⟨g', 0, none⟩) m' cap') m' ys) (hgrow : W.grownBy w1 (some g)) :
    Boxed w1 B 87 (.slice (some ⟨g, 0, none⟩) m cap) ∧ Boxed (w1.setCell ⟨B, 0, none⟩ (.slice (some ⟨g', 0, none⟩) m' cap')) B 87 (.slice (some ⟨g', 0, none⟩) m' cap') ∧
    (w1.setCell ⟨B, 0, none⟩ (.slice (some ⟨g', 0, none⟩) m' cap')).ownsRow base 77 1 (.slice (some ⟨g', 0, none⟩) m' cap') m' ys ∧
    KeepsOthers W (w1.setCell ⟨B, 0, none⟩ (.slice (some ⟨g', 0, none⟩) m' cap')) ∧ Below base W (w1.setCell ⟨B, 0, none⟩ (.slice (some ⟨g', 0, none⟩) m' cap')) ∧
    KeepT B W (w1.setCell ⟨B, 0, none⟩ (.slice (some ⟨g', 0, none⟩) m' cap')) := by
  have hv1 : Boxed w1 B 87 (.slice (some ⟨g, 0, none⟩) m cap) := hv.kept hgrow (hv.not_row (by decide) hrow)
  refine ⟨hv1, hv1.set _, hown'.kept (grownBy_setCell' w1 B _) (.inr (hv1.not_row (by decide) hown').symm), ?_, ?_, ?_⟩
  · refine (KeepsOthers.of_grownBy hgrow fun j o ej hj => ?_).trans (KeepsOthers.setCell _ _ _)
    rcases hrow.2 with ⟨h, _⟩ | ⟨g1, cap1, cur, h, _, hgb, _⟩
    · cases h
    · cases h; cases ej
      rw [hgb] at hj; cases hj; rfl
  · refine ((Below.refl base W).grown hgrow hn₀ fun j ej => ?_).setCell (p := ⟨B, 0, none⟩) hB _
    cases ej; exact (ownsRow_cap hrow).2.2.1
  · intro k cs t r hk ht hkB
    rw [Below.heap_setCell _ _ _ k hkB, hgrow.block k (Array.getElem?_eq_some_iff.1 hk).1 (fun e => ?_), hk]
    cases e
    rcases hrow.2 with ⟨h, _⟩ | ⟨g1, cap1, cur, h, _, hgb, _⟩
    · cases h
    · cases h
      rw [hgb] at hk; cases hk; exact ht rfl

set_option maxRecDepth 100000 in
set_option maxHeartbeats 1000000 in
theorem reduced_in (n : Nat) (hn : 20 ≤ n) (a : Option Addr) (b off cap : Nat) (ps : List Part) (w : World) (ha : 0 < ps.length → a = some ⟨b, off, none⟩) (hb : b < w.heap.size)
    (hc : ∀ i (h : i < ps.length), w.cell? ⟨b, off + i, none⟩ = some (.func (.func ps[i].gf) #[] ps[i].lb))
    (hs : ∀ p ∈ ps, SeqO w.heap.size w p.gf p.lb p.xs ∧ ∀ args w, (callFunc p.gf args).run Try.prog w = .ok (.enter p.gf args) w)
    (hl : (cat ps).length ≤ 100000000) (hps : ps.length ≤ 1000000) :
    CallsIn Fence.wide n Try.prog 104 #[.slice a ps.length cap] w fun e w' =>
      ∃ g m cap', e = .returned (.slice (some ⟨g, 0, none⟩) m cap') ∧ (redX [] (cat ps)).length = m ∧ w'.ownsRow w.heap.size 77 1 (.slice (some ⟨g, 0, none⟩) m cap') m (bytesV (redX [] (cat ps))) ∧ Below w.heap.size w w' := by
  refine callsIn_of_wp_marks Try.func104 rfl trivial ?_ rfl
  simp only [Try.ntmps104, List.size_toArray, List.length_cons, List.length_nil, Nat.reduceAdd, Nat.reduceSub, Array.replicate_succ, Array.replicate_zero, List.push_toArray, List.append_toArray, List.nil_append, List.cons_append]
  have HC := Lib.hid hc
  have HS := Lib.hid hs
  have HA := Lib.hid ha
  clear hc hs ha
  gi_wp2
  refine wpIn_loop (fun a' W => ∃ (k : Nat) (u5 u6 u11 u12 u13 u14 u15 u16 u17 u18 u19 u20 : Value) (Ds : List Nat),
      a' = { tmps := #[.slice a ps.length cap, undef, .slice none 0 0, .pointer (some ⟨w.heap.size + 1, 0, none⟩), undef, u5, u6, .slice (some ⟨w.heap.size, 0, none⟩) 0 0, .slice a ps.length cap, .int .i64 ps.length, .int .i64 k, u11, u12, u13, u14, u15, u16, u17, u18, u19, u20], defers := Ds.map mk }
      ∧ k ≤ ps.length ∧ Marked w.heap.size Ds W ∧ Hold w.heap.size (w.heap.size + 1) (redX [] (cat (ps.take k))) W ∧ Below w.heap.size w W)
    (fun a' _ => ps.length - (intOf (a'.tmps.getD 10 undef)).toNat) ?start ?round
  case start =>
    refine ⟨0, _, _, _, _, _, _, _, _, _, _, _, _, [], rfl, Nat.zero_le _, ⟨List.nodup_nil, fun D h => by cases h⟩, ?_, ((Below.refl _ w).alloc (Nat.le_refl _) _).alloc (by simp) _⟩
    have hbx := Boxed.new (w.alloc (.cells #[] 77)) 87 (.slice (some ⟨w.heap.size, 0, none⟩) 0 0)
    rw [World.size_alloc] at hbx
    exact ⟨_, hbx, (World.ownsRow_made w #[] 0 (Nat.le_refl _) (Nat.zero_le _) rfl).alloc _, _, _, rfl⟩
  case round =>
    rintro a' wr ⟨k, u5, u6, u11, u12, u13, u14, u15, u16, u17, u18, u19, u20, Ds, rfl, hk, hM, hH, hB⟩
    by_cases hlt : k < ps.length
    · obtain ⟨hseq, hent⟩ := HS.out ps[k] (List.getElem_mem hlt)
      obtain rfl := HA.out (by omega)
      have hck := HC.out k hlt
      have hck' : wr.cell? ⟨b, off + k, none⟩ = some (.func (.func ps[k].gf) #[] ps[k].lb) := (hB.cell (p := ⟨b, off + k, none⟩) hb).trans hck
      clear hck
      have HE := Lib.hid hent
      clear hent
      have hHk := hH
      have hcat := cat_take_succ ps k hlt
      have hlen0 : (cat (ps.take k)).length + ps[k].xs.length ≤ 100000000 := by
        have h1 : (cat (ps.take (k + 1))).length ≤ (cat ps).length := by
          have : cat ps = cat (ps.take (k + 1)) ++ cat (ps.drop (k + 1)) := by
            unfold cat; rw [← List.flatten_append, ← List.map_append, List.take_append_drop]
          rw [this]; simp
        rw [hcat, List.length_append] at h1; omega
      have HCat := Lib.hid hcat
      clear hcat
      have hML : ∀ D ∈ Ds, D < wr.heap.size := fun D hD => (Array.getElem?_eq_some_iff.1 (hM.2 D hD).2).1
      have HML := Lib.hid hML
      have HM := Lib.hid hM
      clear hML hM hH
      gi_wp2
      refine range_letters (by omega) (gf := ps[k].gf) (lb := ps[k].lb) rfl HE.out
        (hseq.later hB (Nat.le_refl _)) hB.size (B := w.heap.size + 1) (by omega) (by obtain ⟨v, h1, _⟩ := hHk; exact h1.lt)
        (fun pre W => Hold w.heap.size (w.heap.size + 1) (redX (redX [] (cat (ps.take k))) pre) W ∧ Marked w.heap.size Ds W ∧ Below w.heap.size w W)
        (OwnFrom.and (Own.from (Hold.own w.heap.size (w.heap.size + 1) (redX (redX [] (cat (ps.take k))))) _)
          (OwnFrom.and (fun s W W' row hs hg hr => ⟨hs.1, fun D hD => ⟨(hs.2 D hD).1, (hg.block D (Array.getElem?_eq_some_iff.1 (hs.2 D hD).2).1 (fun e => by have := (hr D e.symm).1; have := HML.out D hD; omega)).trans (hs.2 D hD).2⟩⟩)
            (ownFrom_below (Nat.le_refl _) hB.size)))
        ⟨hHk, HM.out, hB⟩
        (fun x => { tmps := #[.slice (some ⟨b, off, none⟩) ps.length cap, undef, .slice none 0 0, .pointer (some ⟨w.heap.size + 1, 0, none⟩), undef, .func (.func ps[k].gf) #[] ps[k].lb, .int .u8 (x.toNat : Int), .slice (some ⟨w.heap.size, 0, none⟩) 0 0, .slice (some ⟨b, off, none⟩) ps.length cap, .int .i64 ps.length, .int .i64 k, .bool true, .pointer (some ⟨b, off + k, none⟩), .func (.func ps[k].gf) #[] ps[k].lb, .func (.func ps[k].gf) #[] ps[k].lb, .int .u8 (x.toNat : Int), u16, u17, u18, u19, u20], defers := [] }) ?assign ?body ?done
      case assign =>
        intro l x W K hK
        gi_wp2
        exact hK
      case body =>
        rintro l pre x W ⟨⟨v, hbx, hrow, g, cap', rfl⟩, hM', hB'⟩ hpre
        have hlen := prefix_len hpre
        clear hpre
        have hcell := hbx.cell
        have hL : (redX (redX [] (cat (ps.take k))) pre).length ≤ 100000000 := by
          have h1 := redX_len pre (redX [] (cat (ps.take k)))
          have h2 := redX_len (cat (ps.take k)) []
          simp at h2
          omega
        have HL := Lib.hid hL
        have hrow0 := Lib.hid hrow
        have hbx0 := Lib.hid hbx
        have HM' := Lib.hid hM'
        clear hL hM' hbx
        gi_wp2_with fail
        refine ⟨trivial, fun _ => by omega, ?_⟩
        have hbs : w.heap.size ≤ W.heap.size := hB'.size
        refine (CallsIn.inRound l (callsIn_wide.2 (with_any _ _ _ w.heap.size _ x _ rfl (by have := HL.out; omega) hbs hrow0.out))).mono ?_
        rintro e w1 ⟨g', n', cap'', rfl, hl', hown', hgrow⟩
        obtain ⟨b1, b2, b3, b4, b5, b6⟩ := Hold.step hbx0.out hrow0.out hbs (by omega) hown' hgrow
        have hc1 := b1.cell
        have hf1 := b1.frozen
        gi_wp2
        refine ⟨b4.from _, ⟨b5, b6, b4.from _⟩, ⟨?_, ⟨HM'.out.1, fun D hD => ⟨(HM'.out.2 D hD).1, b4.same D _ (HM'.out.2 D hD).2 rfl⟩⟩, hB'.trans b5⟩⟩
        obtain rfl := hl'
        rw [redX_snoc]
        exact ⟨_, b2, b3, g', cap'', rfl⟩
      case done =>
        rintro D W hD ⟨hHo, hM', hB'⟩ hK
        have hM2 : Marked w.heap.size (D :: Ds) W := ⟨List.nodup_cons.2 ⟨fun h => by have := HML.out D h; omega, hM'.1⟩, fun E hE => by
          rcases List.mem_cons.1 hE with rfl | hE
          · exact ⟨Nat.le_trans hB.size hD, hK⟩
          · exact hM'.2 E hE⟩
        have HM2 := Lib.hid hM2
        clear hM' hM2 hK
        have hHo' : Hold w.heap.size (w.heap.size + 1) (redX [] (cat (ps.take (k + 1)))) W := by
          rw [HCat.out, redX_append]; exact hHo
        clear hHo
        gi_wp2
        refine ⟨⟨k + 1, _, _, _, _, _, _, _, _, _, _, _, _, D :: Ds, rfl, by omega, HM2.out, hHo', hB'⟩, ?_⟩
        simp [intOf]
        omega
    · obtain rfl : k = ps.length := by omega
      rw [List.take_of_length_le (Nat.le_refl _)] at hH
      have hH0 := Lib.hid hH
      have HM := Lib.hid hM
      obtain ⟨v, hbx, hrow, g, cap', rfl⟩ := hH
      have hcell := hbx.cell
      clear hrow hbx hM
      gi_wp2
      refine leaves_marks (base := w.heap.size) (fun W => W.ownsRow w.heap.size 77 1 (.slice (some ⟨g, 0, none⟩) (redX [] (cat ps)).length cap') (redX [] (cat ps)).length (bytesV (redX [] (cat ps))) ∧ Below w.heap.size w W) ?_ ?_ Ds wr ?_ HM.out
      · rintro W D o' ⟨q1, q2⟩ hD hK
        exact ⟨ownsRow_putObj q1 o' hK rfl, q2.trans (belowK_b (w := w) (Nat.le_refl _) W D _ _ hD hK rfl rfl)⟩
      · rintro W ⟨q1, q2⟩
        exact ⟨_, results_tmp rfl _ _ _, g, _, cap', rfl, rfl, q1, q2⟩
      · obtain ⟨v, h1, h2, g2, cap2, rfl⟩ := hH0.out
        have := h1.cell
        rw [hcell] at this
        cases this
        exact ⟨h2, hB⟩

end Go.Proofs.Ytaaeiogdhmiaaaa

/- What the laws' proofs stand on, part 1 of 6. -/
import Derived.Test.YtbbkpaledlbcmaaRows
import Derived.WalkKit
import Derived.ProofKit
import Derived.Conc.Holds
import Derived.Leaving
import Derived.Below
import Derived.Laws.AppendOwn
import Derived.Deep.Draws
import Derived.Laws.Strings
import Derived.Test.YtbbkpaledlbcmaaChecked
import Derived.WalkSmall
import Derived.RangeFuncBox
import Derived.Maps.AppendAt
import Derived.WalkSpells
import Derived.Deep.QuietTactic
import Derived.BigQuiet
import Derived.Lib.Hide
import Derived.Laws.BytesString
import Derived.Laws.IdiomStrings
import Derived.Outline
import Derived.Lib.Strings
import Derived.RangeFuncNested
import Derived.RangeFuncBound
import Derived.RangeFuncCalls
import Derived.RangeFuncLeaves
import Derived.Shelf.Abstract
import Derived.Shelf.RegionOpen
import Derived.OwnWalkIn
import Derived.TacticsInMore
import Derived.LoopNIn
import Derived.LoopIn
import Derived.IntWalk
import Derived.Deep.SlicePairs
import Derived.Lib.Bytealg
import Derived.Lib.Small
import Derived.Sort.Grow
import Derived.Deep.RegionHeld3
import Derived.Sort.Walk0
import Derived.StillTailTactics
import Derived.Laws.EntriesVeiled
import Derived.Laws.AppendOwnNone

/- The closed facts of a row that ask how the order of initialisation begins, told from its first words alone: a long one would cost the kernel too much memory. -/

namespace Go.Proofs.Ytbbkpaledlbcmaa
open Go.RowKit

def signs (l : List Nat) : List Char := l.map Char.ofNat
def wd1 : List Nat := [104, 97, 114, 110, 101, 115, 115]
def wd2 : List Nat := [98, 99, 97, 56, 57, 52, 49, 97, 54, 49, 55, 54, 49, 48, 56, 102, 101, 100, 57, 48, 49, 48, 54, 53, 52, 50, 102, 102, 52, 51, 50, 53, 99, 97, 56, 55, 98, 101, 98, 102, 99, 50, 49, 51, 54, 98, 48, 98, 56, 99, 50, 101, 53, 97, 49, 97, 98, 49, 57, 97, 97, 98, 98, 48]
def wd3 : List Nat := [99, 117, 116]
def wd4 : List Nat := [97, 116, 32, 108, 111, 111, 112, 46, 101, 120, 97, 109, 112, 108, 101, 47, 102, 111, 120, 99, 97, 108, 99, 117, 108, 117, 115, 47, 108, 97, 119, 115, 46, 70, 110, 77, 97, 116, 114, 105, 120, 32, 108, 111, 111, 112, 46, 101, 120, 97, 109, 112, 108, 101, 47, 102, 111, 120, 99, 97, 108, 99, 117, 108, 117, 115, 47, 108, 97, 119, 115, 46, 70, 110, 77, 97, 116, 114, 105, 120, 79, 110, 101, 32, 108, 111, 111, 112, 46, 101, 120, 97, 109, 112, 108, 101, 47, 102, 111, 120, 99, 97, 108, 99, 117, 108, 117, 115, 47, 108, 97, 119, 115, 46, 70, 110, 77, 97, 116, 114, 105, 120, 84, 105, 109, 101, 115, 32, 108, 111, 111, 112, 46, 101, 120, 97, 109, 112, 108, 101, 47, 102, 111, 120, 99, 97, 108, 99, 117, 108, 117, 115, 47, 108, 97, 119, 115, 46, 70, 110, 77, 97, 116, 114, 105, 120, 68, 101, 116, 32, 108, 111, 111, 112, 46, 101, 120, 97, 109, 112, 108, 101, 47, 102, 111, 120, 99, 97, 108, 99, 117, 108, 117, 115, 47, 108, 97, 119, 115, 46, 70, 110, 77, 97, 116, 114, 105, 120, 76, 101, 115, 115, 32, 108, 111, 111, 112, 46, 101, 120, 97, 109, 112, 108, 101, 47, 102, 111, 120, 99, 97, 108, 99, 117, 108, 117, 115, 47, 108, 97, 119, 115, 46, 70, 110, 70, 108, 105, 112, 32, 108, 111, 111, 112, 46, 101, 120, 97, 109, 112, 108, 101, 47, 102, 111, 120, 99, 97, 108, 99, 117, 108, 117, 115, 47, 108, 97, 119, 115, 46, 70, 110, 67, 117, 116, 32, 108, 111, 111, 112, 46, 101, 120, 97, 109, 112, 108, 101, 47, 102, 111, 120, 99, 97, 108, 99, 117, 108, 117, 115, 47, 108, 97, 119, 115, 46, 70, 110, 68, 101, 116, 32, 108, 111, 111, 112, 46, 101, 120, 97, 109, 112, 108, 101, 47, 102, 111, 120, 99, 97, 108, 99, 117, 108, 117, 115, 47, 108, 97, 119, 115, 46, 70, 110, 84, 114, 97, 99, 101, 32, 108, 111, 111, 112, 46, 101, 120, 97, 109, 112, 108, 101, 47, 102, 111, 120, 99, 97, 108, 99, 117, 108, 117, 115, 47, 108, 97, 119, 115, 46, 70, 110, 69, 120, 97, 99, 116, 87, 111, 114, 100, 83, 117, 109, 115, 32, 108, 111, 111, 112, 46, 101, 120, 97, 109, 112, 108, 101, 47, 102, 111, 120, 99, 97, 108, 99, 117, 108, 117, 115, 47, 108, 97, 119, 115, 46, 70, 110, 69, 120, 97, 99, 116, 77, 97, 116, 114, 105, 120, 84, 105, 109, 101, 115, 32, 108, 111, 111, 112, 46, 101, 120, 97, 109, 112, 108, 101, 47, 102, 111, 120, 99, 97, 108, 99, 117, 108, 117, 115, 47, 108, 97, 119, 115, 46, 70, 110, 69, 120, 97, 99, 116, 77, 97, 116, 114, 105, 120, 76, 101, 115, 115, 32, 108, 111, 111, 112, 46, 101, 120, 97, 109, 112, 108, 101, 47, 102, 111, 120, 99, 97, 108, 99, 117, 108, 117, 115, 47, 108, 97, 119, 115, 46, 70, 110, 69, 120, 97, 99, 116, 77, 97, 116, 114, 105, 120, 67, 117, 116, 32, 108, 111, 111, 112, 46, 101, 120, 97, 109, 112, 108, 101, 47, 102, 111, 120, 99, 97, 108, 99, 117, 108, 117, 115, 47, 108, 97, 119, 115, 46, 70, 110, 69, 120, 97, 99, 116, 77, 97, 116, 114, 105, 120, 68, 101, 116, 32, 108, 111, 111, 112, 46, 101, 120, 97, 109, 112, 108, 101, 47, 102, 111, 120, 99, 97, 108, 99, 117, 108, 117, 115, 47, 108, 97, 119, 115, 46, 70, 110, 69, 120, 97, 99, 116, 71, 114, 111, 117, 112, 73, 110, 32, 108, 111, 111, 112, 46, 101, 120, 97, 109, 112, 108, 101, 47, 102, 111, 120, 99, 97, 108, 99, 117, 108, 117, 115, 47, 108, 97, 119, 115, 46, 70, 110, 69, 120, 97, 99, 116, 71, 114, 111, 117, 112, 69, 118, 101, 110, 32, 108, 111, 111, 112, 46, 101, 120, 97, 109, 112, 108, 101, 47, 102, 111, 120, 99, 97, 108, 99, 117, 108, 117, 115, 47, 108, 97, 119, 115, 46, 70, 110, 69, 120, 97, 99, 116, 71, 114, 111, 117, 112, 83, 117, 109, 115, 32, 108, 111, 111, 112, 46, 101, 120, 97, 109, 112, 108, 101, 47, 102, 111, 120, 99, 97, 108, 99, 117, 108, 117, 115, 47, 108, 97, 119, 115, 46, 70, 110, 69, 120, 97, 99, 116, 71, 114, 111, 117, 112, 65, 98, 101, 108, 32, 108, 111, 111, 112, 46, 101, 120, 97, 109, 112, 108, 101, 47, 102, 111, 120, 99, 97, 108, 99, 117, 108, 117, 115, 47, 108, 97, 119, 115, 46, 70, 110, 69, 120, 97, 99, 116, 71, 114, 111, 117, 112, 77, 111, 118, 101, 32, 108, 111, 111, 112, 46, 101, 120, 97, 109, 112, 108, 101, 47, 102, 111, 120, 99, 97, 108, 99, 117, 108, 117, 115, 47, 108, 97, 119, 115, 46, 70, 110, 69, 120, 97, 99, 116, 71, 114, 111, 117, 112, 74, 111, 105, 110, 32, 108, 111, 111, 112, 46, 101, 120, 97, 109, 112, 108, 101, 47, 102, 111, 120, 99, 97, 108, 99, 117, 108, 117, 115, 47, 108, 97, 119, 115, 46, 70, 110, 69, 120, 97, 99, 116, 71, 114, 111, 117, 112, 71, 114, 111, 119]
theorem order_is : Try.prog.initOrder = String.ofList (signs wd1 ++ Char.ofNat 32 :: (signs wd2 ++ Char.ofNat 32 :: (signs wd3 ++ Char.ofNat 32 :: signs wd4))) := by kernel_rfl
theorem words_next (q : List Char) : ∀ p : List Char, (p.all fun c => !decide (c = Char.ofNat 32)) = true → wordsSigns (p ++ Char.ofNat 32 :: q) = p :: wordsSigns q
  | [], _ => rfl
  | c :: p, h => by
    rw [List.all_cons, Bool.and_eq_true] at h
    have ih := words_next q p h.2
    have hc : c ≠ Char.ofNat 32 := by simpa using h.1
    rw [List.cons_append, wordsSigns, ih]
    intro e
    exact hc e
theorem words_are : ∃ W, wordsSigns Try.prog.initOrder.toList = signs wd1 :: signs wd2 :: signs wd3 :: W := by
  refine ⟨wordsSigns (signs wd4), ?_⟩
  rw [order_is, String.toList_ofList, words_next _ _ (by kernel_rfl), words_next _ _ (by kernel_rfl), words_next _ _ (by kernel_rfl)]
theorem main_w (W : List (List Char)) : behindMainWord (signs wd1 :: signs wd2 :: signs wd3 :: W) = signs wd3 :: W := by kernel_rfl
theorem cut_w (W : List (List Char)) : stripLifts liftWords (signs wd3 :: W) = ([], signs wd3 :: W) := by kernel_rfl
theorem cut_1 : (signs wd3 == "gc".toList || signs wd3 == "spec".toList) = false := by kernel_rfl
theorem cut_2 : (signs wd3 == "cut".toList) = true := by kernel_rfl
theorem cut_3 : (some (signs wd3) == some "cut".toList) = true := by kernel_rfl
theorem cut_4 : (some (signs wd3) == some "carried".toList) = false := by kernel_rfl
theorem heads_of (P : Program) (W : List (List Char)) (h : behindMainWord (wordsSigns P.initOrder.toList) = signs wd3 :: W) : P.headLifts = [] := by
  unfold Program.headLifts
  rw [h, cut_w]
  show (if (some (signs wd3) == some "cut".toList) = true then ([] : List String) else []) = []
  rw [if_pos cut_3]
theorem make_of (P : Program) (W : List (List Char)) (h : behindMainWord (wordsSigns P.initOrder.toList) = signs wd3 :: W) : P.make = some .cut := by
  unfold Program.make
  rw [h]
  dsimp only
  rw [if_neg (by rw [cut_1]; exact Bool.false_ne_true), if_pos (by rw [cut_2, Bool.true_or])]
theorem lifts_of (P : Program) (W : List (List Char)) (h : behindMainWord (wordsSigns P.initOrder.toList) = signs wd3 :: W) : P.liftsFinal = false := by
  unfold Program.liftsFinal
  rw [h, heads_of P W h]
  show ((some (signs wd3) == some "carried".toList) && _ || ([] : List String).contains "finals") = false
  rw [cut_4, Bool.false_and]
  rfl
theorem enter_of (P : Program) (W : List (List Char)) (h : behindMainWord (wordsSigns P.initOrder.toList) = signs wd3 :: W) (hl : P.laysLater = false) (hr : P.bearsReflect = false) (hd : P.doorFits [] = true) : P.mayEnter = true := by
  unfold Program.mayEnter
  rw [h]
  dsimp only
  rw [cut_w]
  dsimp only
  rw [hl, hr, hd, show (signs wd3 :: W).head? = some (signs wd3) from rfl, cut_3]
  simp
theorem words_main : ∃ W, behindMainWord (wordsSigns Try.prog.initOrder.toList) = signs wd3 :: W := by
  obtain ⟨W, hW⟩ := words_are
  exact ⟨W, by rw [hW]; exact main_w W⟩
theorem later_no : Try.prog.laysLater = false := by kernel_rfl
theorem reflect_no : Try.prog.bearsReflect = false := by kernel_rfl
theorem door_yes : Try.prog.doorFits [] = true := by kernel_rfl
theorem make_is : Try.prog.make = some .cut := by
  obtain ⟨W, hW⟩ := words_main
  exact make_of _ W hW
theorem lifts_is : Try.prog.liftsFinal = false := by
  obtain ⟨W, hW⟩ := words_main
  exact lifts_of _ W hW
theorem enter_is : Try.prog.mayEnter = true := by
  obtain ⟨W, hW⟩ := words_main
  exact enter_of _ W hW later_no reflect_no door_yes
def restOf (P : Program) (f : FuncId) (fn : Func) (s : ChangeSpec) (c : OpenClaim) : { b : Bool // P.mayEnter = true → P.liftsFinal = false → P.make = some .cut → joinedFacts P f fn s c = b } := by
  refine ⟨?b, fun h1 h2 h3 => ?h⟩
  case h =>
    unfold joinedFacts
    rw [h1, h2, h3]

end Go.Proofs.Ytbbkpaledlbcmaa

/- A call that starts no goroutine: what is said of it alone holds as 'leaving', too. -/

namespace Go.Proofs.Ytbbkpaledlbcmaa

theorem leaving_of_handed {a : Assume} {C : Checked} {os : Os} {f : FuncId} {r : Reach} {Pre : World → Array Value → Prop} {Post : World → Array Value → Value → World → Prop} (h : ReturnsInHanded a C os f r Pre Post) : ReturnsInLeavingWide a C os f r Pre Post := fun enter => by
  obtain ⟨g0, g1, g2, g3, all⟩ := h enter
  refine ⟨g0, g1, g2, g3, fun w tape i hf => ?_⟩
  obtain ⟨n, v, w', hn, hc, hr, hp, ⟨j, last, hj, hs, hq, hh, he⟩, ha⟩ := all w tape i hf
  exact ⟨n, v, w', hn, hc, hr, hp, ⟨j, last, hj, hs, hh, onlyLeaving_of_quiet hq, he⟩, ha⟩

end Go.Proofs.Ytbbkpaledlbcmaa

/- Plain lists of bytes: words of the free group as lists of bytes, reducing them by a stack, their inverses. Nothing of the program is imported. -/

namespace Go.Proofs.Ytbbkpaledlbcmaa

/-- The inverse of a letter, as the model has it. -/
def turnB (c : UInt8) : UInt8 := if 97 ≤ c.toNat then c - 32 else c + 32
/-- Is a byte a letter? -/
def letB (c : UInt8) : Bool := decide ((97 ≤ c.toNat ∧ c.toNat ≤ 100) ∨ (65 ≤ c.toNat ∧ c.toNat ≤ 68))
/-- One step of the stack. -/
def redStep (l : List UInt8) (c : UInt8) : List UInt8 := if l.getLast? = some (turnB c) then l.dropLast else l ++ [c]
/-- The stack. -/
def redL (l : List UInt8) (s : List UInt8) : List UInt8 := s.foldl redStep l
def letL (s : List UInt8) : Bool := s.all letB
def backL (s : List UInt8) : List UInt8 := (s.reverse).map turnB
def bytesV (l : List UInt8) : List Value := l.map fun c => Value.int .u8 (c.toNat : Int)

theorem bytesV_length (l : List UInt8) : (bytesV l).length = l.length := by simp [bytesV]
theorem bytesV_append (a b : List UInt8) : bytesV (a ++ b) = bytesV a ++ bytesV b := by simp [bytesV]

theorem redL_snoc (l s : List UInt8) (c : UInt8) : redL l (s ++ [c]) = redStep (redL l s) c := by simp [redL]
theorem redL_nil (l : List UInt8) : redL l [] = l := rfl
theorem redL_append (l a b : List UInt8) : redL l (a ++ b) = redL (redL l a) b := by simp [redL]
theorem redStep_len (l : List UInt8) (c : UInt8) : (redStep l c).length ≤ l.length + 1 := by
  unfold redStep; split <;> simp <;> omega
theorem redL_len (s : List UInt8) : ∀ l : List UInt8, (redL l s).length ≤ l.length + s.length := by
  induction s with
  | nil => intro l; simp [redL]
  | cons c s ih =>
    intro l
    have h := ih (redStep l c)
    have h2 := redStep_len l c
    show (redL (redStep l c) s).length ≤ _
    simp only [List.length_cons]
    omega
theorem letB_iff (c : UInt8) : letB c = true ↔ ((97 ≤ c.toNat ∧ c.toNat ≤ 100) ∨ (65 ≤ c.toNat ∧ c.toNat ≤ 68)) := by simp [letB]
theorem turnB_hi (c : UInt8) (h : 97 ≤ c.toNat) : ((turnB c).toNat : Int) = (c.toNat : Int) - 32 := by
  unfold turnB
  rw [if_pos h, UInt8.toNat_sub_of_le _ _ (by rw [UInt8.le_iff_toNat_le]; show 32 ≤ _; omega)]
  show ((c.toNat - 32 : Nat) : Int) = _
  omega
theorem turnB_lo (c : UInt8) (h : c.toNat < 97) : ((turnB c).toNat : Int) = (c.toNat : Int) + 32 := by
  unfold turnB
  rw [if_neg (by omega), UInt8.toNat_add]
  show (((c.toNat + 32) % 256 : Nat) : Int) = _
  omega
def wordB (l : List UInt8) : Bool := decide (l.length ≤ 60) && letL l && decide (redL [] l = l)
def bstr (l : List UInt8) : ByteArray := ⟨l.toArray⟩
theorem bstr_toList (l : List UInt8) : (bstr l).data.toList = l := rfl
theorem bstr_size (l : List UInt8) : (bstr l).size = l.length := by simp [bstr, ByteArray.size]
theorem bstr_of (s : ByteArray) : bstr s.data.toList = s := by simp [bstr]
theorem bstr_inj {a b : List UInt8} (h : bstr a = bstr b) : a = b := by
  have := congrArg (fun s : ByteArray => s.data.toList) h
  simpa [bstr] using this
theorem bytes_beq (a b : ByteArray) : (a.toList == b.toList) = decide (a.data.toList = b.data.toList) := by
  rw [ByteArray.toList_eq, ByteArray.toList_eq, Bool.eq_iff_iff]; simp
theorem bytes_ext {a b : ByteArray} (h : a.data.toList = b.data.toList) : a = b := by
  rw [← bstr_of a, ← bstr_of b, h]
theorem take_snoc (s : List UInt8) (k : Nat) (h : k < s.length) : s.take (k + 1) = s.take k ++ [s[k]] := by
  rw [List.take_succ_eq_append_getElem h]
/-- The program's own inverse of a letter, of whatever byte. -/
def invB (c : UInt8) : UInt8 := c ^^^ 32
def stepX (l : List UInt8) (c : UInt8) : List UInt8 := if l.getLast? = some (invB c) then l.dropLast else l ++ [c]
def redX (l : List UInt8) (s : List UInt8) : List UInt8 := s.foldl stepX l
theorem redX_snoc (l s : List UInt8) (c : UInt8) : redX l (s ++ [c]) = stepX (redX l s) c := by simp [redX]
theorem redX_append (l a b : List UInt8) : redX l (a ++ b) = redX (redX l a) b := by simp [redX]
theorem stepX_len (l : List UInt8) (c : UInt8) : (stepX l c).length ≤ l.length + 1 := by
  unfold stepX; split <;> simp <;> omega
theorem redX_len (s : List UInt8) : ∀ l : List UInt8, (redX l s).length ≤ l.length + s.length := by
  induction s with
  | nil => intro l; simp [redX]
  | cons c s ih =>
    intro l
    have h := ih (stepX l c)
    have h2 := stepX_len l c
    show (redX (stepX l c) s).length ≤ _
    simp only [List.length_cons]
    omega
theorem stepX_pop (p : List UInt8) (x c : UInt8) (h : x = invB c) : stepX (p ++ [x]) c = p := by simp [stepX, h]
theorem inv_tab : ∀ n : Fin 256, letB (UInt8.ofNat n.val) = true → invB (UInt8.ofNat n.val) = turnB (UInt8.ofNat n.val) := by decide +kernel
theorem invB_let (c : UInt8) (h : letB c = true) : invB c = turnB c := by
  have := inv_tab ⟨c.toNat, c.toNat_lt⟩
  simp only [UInt8.ofNat_toNat] at this
  exact this h
theorem letL_cons (c : UInt8) (s : List UInt8) : letL (c :: s) = (letB c && letL s) := rfl
theorem letL_append (a b : List UInt8) : letL (a ++ b) = (letL a && letL b) := by simp [letL]
theorem redX_eq : ∀ (s l : List UInt8), letL s = true → redX l s = redL l s
  | [], _, _ => rfl
  | c :: s, l, h => by
    rw [letL_cons, Bool.and_eq_true] at h
    have e : stepX l c = redStep l c := by unfold stepX redStep; rw [invB_let c h.1]
    show redX (stepX l c) s = redL (redStep l c) s
    rw [e]; exact redX_eq s _ h.2
theorem letL_prefix {a b : List UInt8} (h : a <+: b) (ha : letL a = false) : letL b = false := by
  obtain ⟨t, rfl⟩ := h
  rw [letL_append, ha]; rfl
theorem ret_int {k : IntKind} {a b : Int} (h : a = b) : Ending.returned (.int k a) = .returned (.int k b) := by rw [h]
theorem ret_bool {a b : Bool} (h : a = b) : Ending.returned (.bool a) = .returned (.bool b) := by rw [h]
theorem ret_string {a b : ByteArray} (h : a = b) : Ending.returned (.string a) = .returned (.string b) := by rw [h]
theorem letL_take_succ (s : List UInt8) (k : Nat) (hk : k < s.length) : letL (s.take (k + 1)) = (letL (s.take k) && letB s[k]) := by
  unfold letL; rw [List.take_succ_eq_append_getElem hk, List.all_append]; simp
theorem letL_false_of (s : List UInt8) (k : Nat) (hk : k < s.length) (h : letB s[k] = false) : letL s = false := by
  unfold letL; rw [List.all_eq_false]; exact ⟨s[k], List.getElem_mem hk, by simp [h]⟩
theorem last_split (l : List UInt8) (h : 0 < l.length) : ∃ p x, l = p ++ [x] := by
  have hne : l ≠ [] := by intro e; subst e; simp at h
  exact ⟨l.dropLast, l.getLast hne, (List.dropLast_concat_getLast hne).symm⟩
theorem ownsRow_cap {w : World} {base : Nat} {e : TypeId} {size g cap n : Nat} {xs : List Value} (h : w.ownsRow base e size (.slice (some ⟨g, 0, none⟩) n cap) n xs) : n ≤ cap ∧ cap ≤ maxLen ∧ base ≤ g ∧ g < w.heap.size := by
  have hl := h.lt g rfl
  obtain ⟨_, h2 | ⟨g', cap', cur, hv, hg, hh, hn, hc, hs, ht⟩⟩ := h
  · cases h2.1
  · cases hv; exact ⟨hn, hc, hl.1, hl.2⟩
theorem ownsRow_drewN {w : World} {base : Nat} {e : TypeId} {size : Nat} {v : Value} {n : Nat} {xs : List Value} (h : w.ownsRow base e size v n xs) (q : Nat) : (w.drewN q).ownsRow base e size v n xs := h
theorem ownsRow_base {w : World} {b1 b2 : Nat} {e : TypeId} {size : Nat} {v : Value} {n : Nat} {xs : List Value} (h : w.ownsRow b1 e size v n xs) (hb : b2 ≤ b1) : w.ownsRow b2 e size v n xs := by
  obtain ⟨h1, h2 | ⟨g, cap, cur, a, b, c⟩⟩ := h
  · exact ⟨h1, .inl h2⟩
  · exact ⟨h1, .inr ⟨g, cap, cur, a, Nat.le_trans hb b, c⟩⟩
theorem bytesV_set (l : List UInt8) (k : Nat) (c : UInt8) : (bytesV l).set k (.int .u8 (c.toNat : Int)) = bytesV (l.set k c) := by
  simp [bytesV, List.map_set]
theorem fill_set (l : List UInt8) (n k : Nat) (hl : l.length = n) (hk : k < n) : (l.take k ++ List.replicate (n - k) 0).set k (l[k]'(by omega)) = l.take (k + 1) ++ List.replicate (n - (k + 1)) 0 := by
  have h1 : (l.take k).length = k := by simp; omega
  rw [List.set_append_right _ _ (by omega), h1, Nat.sub_self, take_snoc l k (by omega)]
  obtain ⟨m, hm⟩ : ∃ m, n - k = m + 1 := ⟨n - k - 1, by omega⟩
  rw [hm, List.replicate_succ, show n - (k + 1) = m by omega]
  simp only [List.set_cons_zero, List.append_assoc, List.singleton_append]
theorem redL_full : ∀ (s l : List UInt8), (redL l s).length = l.length + s.length → redL l s = l ++ s
  | [], l, _ => by simp [redL]
  | c :: s, l, h => by
    have h0 : redL l (c :: s) = redL (redStep l c) s := rfl
    rw [h0] at h ⊢
    have h1 := redL_len s (redStep l c)
    have h2 : (redStep l c).length = l.length + 1 := by
      have := redStep_len l c
      simp only [List.length_cons] at h
      omega
    have h3 : redStep l c = l ++ [c] := by
      unfold redStep at h2 ⊢
      split at h2
      · simp at h2
      · rename_i hx; rw [if_neg hx]
    rw [h3] at h ⊢
    rw [redL_full s _ (by simp only [List.length_cons, List.length_append, List.length_nil] at h ⊢; omega)]
    simp
theorem wordB_iff (l : List UInt8) : wordB l = true ↔ l.length ≤ 60 ∧ letL l = true ∧ redL [] l = l := by
  simp [wordB, and_assoc]
theorem backL_drop (s : List UInt8) (k : Nat) (h : k < s.length) : backL (s.drop k) = backL (s.drop (k + 1)) ++ [turnB s[k]] := by
  unfold backL
  rw [List.drop_eq_getElem_cons h, List.reverse_cons, List.map_append]
  rfl
theorem backL_length (s : List UInt8) : (backL s).length = s.length := by simp [backL]
/-- Both ends are taken out as long as they are inverse to each other. -/
def coreC (l : List UInt8) : Bool := decide (1 < l.length) && decide (l.head? = some (turnB (l.getLast?.getD 0)))
def coreF : Nat → List UInt8 → List UInt8
  | 0, l => l
  | n + 1, l => if coreC l then coreF n (l.tail.dropLast) else l
def coreL (l : List UInt8) : List UInt8 := coreF l.length l
theorem coreF_false {l : List UInt8} (h : coreC l = false) : ∀ m, coreF m l = l
  | 0 => rfl
  | m + 1 => by rw [coreF, h]; rfl
theorem coreF_true {l : List UInt8} (h : coreC l = true) (m : Nat) : coreF (m + 1) l = coreF m (l.tail.dropLast) := by rw [coreF, h]; rfl
theorem coreC_get (l : List UInt8) (h : 1 < l.length) : coreC l = decide (l[0] = turnB (l[l.length - 1])) := by
  unfold coreC
  rw [List.getLast?_eq_getElem?, List.getElem?_eq_getElem (by omega), List.head?_eq_getElem?, List.getElem?_eq_getElem (by omega)]
  simp [h]
theorem letL_get (l : List UInt8) (h : letL l = true) (i : Nat) (hi : i < l.length) : letB l[i] = true := List.all_eq_true.1 h _ (List.getElem_mem hi)
theorem letL_of_mem (l m : List UInt8) (h : letL l = true) (hm : ∀ c ∈ m, c ∈ l) : letL m = true := List.all_eq_true.2 fun c hc => List.all_eq_true.1 h c (hm c hc)
theorem letL_core (l : List UInt8) (h : letL l = true) : letL (l.tail.dropLast) = true := letL_of_mem l _ h fun _ hc => List.mem_of_mem_tail (List.dropLast_subset _ hc)
theorem core_len (l : List UInt8) : (l.tail.dropLast).length = l.length - 2 := by simp; omega
theorem core_get (l : List UInt8) (j : Nat) (h : j < (l.tail.dropLast).length) : (l.tail.dropLast)[j] = l[j + 1]'(by simp at h; omega) := by
  simp
theorem coreF_len : ∀ (m : Nat) (l : List UInt8), (coreF m l).length ≤ l.length
  | 0, _ => Nat.le_refl _
  | m + 1, l => by
    rw [coreF]; split
    · have := coreF_len m (l.tail.dropLast); rw [core_len] at this; omega
    · exact Nat.le_refl _
theorem redStep_pop (p : List UInt8) (x c : UInt8) (h : x = turnB c) : redStep (p ++ [x]) c = p := by simp [redStep, h]
theorem redStep_push (p : List UInt8) (x c : UInt8) (h : x ≠ turnB c) : redStep (p ++ [x]) c = p ++ [x] ++ [c] := by simp [redStep, h]
theorem redStep_nil (c : UInt8) : redStep [] c = [c] := by simp [redStep]

end Go.Proofs.Ytbbkpaledlbcmaa

/- The contracts of the model's small functions on letters and words. -/

namespace Go.Proofs.Ytbbkpaledlbcmaa
open Go.RowKit

theorem turned_any (c : UInt8) (w : World) :
    Calls Try.prog 185 #[.int .u8 (c.toNat : Int)] w fun e w' => e = .returned (.int .u8 ((turnB c).toNat : Int)) ∧ w = w' := by
  have hc := c.toNat_lt
  by_cases h : 97 ≤ c.toNat
  · have H := Lib.hid (turnB_hi c h)
    go_enter Try.func185, Try.ntmps185
    go_wp2
    go_ret
    exact ⟨ret_int H.out.symm, rfl⟩
  · have H := Lib.hid (turnB_lo c (by omega))
    go_enter Try.func185, Try.ntmps185
    go_wp2
    go_ret
    exact ⟨ret_int H.out.symm, rfl⟩

theorem letter_any (c : UInt8) (w : World) :
    Calls Try.prog 195 #[.int .u8 (c.toNat : Int)] w fun e w' => e = .returned (.bool (letB c)) ∧ w = w' := by
  have hc := c.toNat_lt
  have H := Lib.hid (letB_iff c)
  rcases (show c.toNat < 65 ∨ (65 ≤ c.toNat ∧ c.toNat ≤ 68) ∨ (68 < c.toNat ∧ c.toNat < 97) ∨ (97 ≤ c.toNat ∧ c.toNat ≤ 100) ∨ 100 < c.toNat from by omega) with h | h | h | h | h
  all_goals
    first | obtain ⟨h1, h2⟩ := h | have h1 := h
    go_enter Try.func195, Try.ntmps195
    go_wp2
    go_ret
    refine ⟨ret_bool ?_, rfl⟩
    rw [Bool.eq_iff_iff, H.out]
    simp
    try omega

theorem letter_yes (c : UInt8) (w : World) (h : letB c = true) :
    Calls Try.prog 195 #[.int .u8 (c.toNat : Int)] w fun e w' => e = .returned (.bool true) ∧ w = w' := by
  rw [← h]; exact letter_any c w
theorem letter_no (c : UInt8) (w : World) (h : letB c = false) :
    Calls Try.prog 195 #[.int .u8 (c.toNat : Int)] w fun e w' => e = .returned (.bool false) ∧ w = w' := by
  rw [← h]; exact letter_any c w

theorem letters_any (s : ByteArray) (w : World) (hs : s.size ≤ maxLen) :
    Calls Try.prog 168 #[.string s] w fun e w' => e = .returned (.bool (letL s.data.toList)) ∧ w = w' := by
  unfold maxLen at hs
  go_enter Try.func168, Try.ntmps168
  go_wp2
  go_loop [3] (fun i => ∃ k : Nat, k ≤ s.size ∧ i = .int .i64 k ∧ Hid (letL (s.data.toList.take k) = true)) (fun i => s.size - (intOf i).toNat)
  case atStart => exact ⟨0, Nat.zero_le _, rfl, Lib.hid rfl⟩
  case round =>
    obtain ⟨k, hk, rfl, HL⟩ := hrel
    by_cases hlt : k < s.size
    · have hl : k < s.data.toList.length := by simpa using hlt
      cases hb : letB s[k] with
      | true =>
        have HB := Lib.hid hb
        clear hb
        go_wp2_with (go_at_call 195; refine (letter_yes _ _ HB.out).mono ?_; rintro e w' ⟨rfl, rfl⟩)
        go_round
        case rel => exact ⟨k + 1, by omega, by go_num, Lib.hid (by rw [letL_take_succ _ _ hl, HL.out]; exact HB.out)⟩
        case measure => simp [intOf]; omega
      | false =>
        have HB := Lib.hid hb
        clear hb
        go_wp2_with (go_at_call 195; refine (letter_no _ _ HB.out).mono ?_; rintro e w' ⟨rfl, rfl⟩)
        go_ret
        exact ⟨ret_bool (letL_false_of _ k hl HB.out).symm, rfl⟩
    · go_wp2
      go_ret
      exact ⟨ret_bool (by rw [← HL.out, List.take_of_length_le (by simp; omega)]), rfl⟩

theorem infoU8 : (Try.prog.info? 5).map (fun i => (i.zero, i.size, i.bytes)) = some (some (.int .u8 0), 1, 1) := by kernel_rfl

theorem turned_q (c : UInt8) (w : World) :
    Calls Try.prog 185 #[.int .u8 (c.toNat : Int)] w fun e w' => e = .returned (.int .u8 ((turnB c).toNat : Int)) ∧ w' = w :=
  (turned_any c w).mono fun _ _ ⟨he, hw⟩ => ⟨he, hw.symm⟩

set_option maxRecDepth 100000 in
set_option maxHeartbeats 1000000 in
theorem reduce_any (s : ByteArray) (w : World) (hs : s.size ≤ 1048576) :
    Calls Try.prog 145 #[.string s] w fun e w' => e = .returned (.string (bstr (redL [] s.data.toList))) ∧ Below w.heap.size w w' := by
  obtain ⟨i0, hi, hz0, hz1, hz2⟩ := info_parts infoU8
  go_enter Try.func145, Try.ntmps145
  go_wp2
  go_loopw [3, 4] (fun v i wr => ∃ (k n g cap : Nat) (l : List UInt8), k ≤ s.size ∧ i = .int .i64 k ∧ v = .slice (some ⟨g, 0, none⟩) n cap ∧ n ≤ k ∧ Hid (l = redL [] (s.data.toList.take k) ∧ l.length = n) ∧ wr.ownsRow w.heap.size 5 1 (.slice (some ⟨g, 0, none⟩) n cap) n (bytesV l) ∧ Below w.heap.size w wr)
    (fun _ i _ => s.size - (intOf i).toNat)
  case atStart => exact ⟨0, 0, w.heap.size, 0, [], Nat.zero_le _, rfl, rfl, Nat.le_refl _, Lib.hid ⟨rfl, rfl⟩, World.ownsRow_made w #[] 0 (Nat.le_refl _) (Nat.zero_le _) rfl, (Below.refl _ _).alloc (Nat.le_refl _) _⟩
  case round =>
    obtain ⟨k, n, g, cap, l, hk, rfl, rfl, hnk, HL, hown, hB⟩ := hrel
    obtain ⟨hnc, hcm, hbg, hgs⟩ := ownsRow_cap hown
    unfold maxLen at hcm
    by_cases hlt : k < s.size
    · have hl : k < s.data.toList.length := by simpa using hlt
      have HR : Hid (redL [] (s.data.toList.take (k + 1)) = redStep l s[k]) := by
        rw [take_snoc _ k hl, redL_snoc, HL.out.1]; rfl
      by_cases hn : 0 < n
      · -- there is a last letter
        obtain ⟨p, x, hp⟩ : ∃ p x, l = p ++ [x] := last_split l (by rw [HL.out.2]; exact hn)
        have hpl : p.length + 1 = n := by rw [← HL.out.2, hp]; simp
        have hcx : wr.cell? ⟨g, n - 1, none⟩ = some (.int .u8 (x.toNat : Int)) := by
          have := hown.cells rfl (n - 1) (.int .u8 (x.toNat : Int)) (by
            rw [hp]
            simp [bytesV]
            rw [show n - 1 = p.length by omega]; simp)
          rw [show (⟨g, n - 1, none⟩ : Addr) = (⟨g, 0, none⟩ : Addr).add (n - 1) by simp [Addr.add]]
          exact this
        by_cases hx : x = turnB s[k]
        · have ht : ((x.toNat : Int) == ((turnB s[k]).toNat : Int)) = true := by rw [hx]; simp
          have HX := Lib.hid hx
          have HP := Lib.hid hp
          have HN := Lib.hid hpl
          clear hp hx hpl
          go_wp2
          go_quiet ((go_at_call 185; exact Calls.quiet_of_same (turned_q _ _)))
          go_wp2
          go_roundw
          case rel =>
            have hpop : wr.ownsRow w.heap.size 5 1 (.slice (some ⟨g, 0, none⟩) (n - 1) cap) (n - 1) (bytesV p) := by
              obtain rfl := HN.out
              have h2 := hown
              rw [HP.out, bytesV_append] at h2
              exact ownsRow_pop (by simp [bytesV_length]) h2
            exact ⟨k + 1, n - 1, g, cap, p, by omega, by go_num, by simp, by omega, Lib.hid ⟨by rw [HR.out, HP.out, redStep_pop _ _ _ HX.out], by have := HN.out; omega⟩, ownsRow_drewN hpop _, below_drewN hB _⟩
          case measure => simp [intOf]; omega
        · have ht : ((x.toNat : Int) == ((turnB s[k]).toNat : Int)) = false := by
            rw [beq_eq_false_iff_ne]
            intro e
            exact hx (UInt8.toNat_inj.1 (by omega))
          have HX := Lib.hid hx
          have HP := Lib.hid hp
          have HN := Lib.hid hpl
          clear hp hx hpl
          go_wp2
          go_quiet ((go_at_call 185; exact Calls.quiet_of_same (turned_q _ _)))
          go_wp2_with (at_builtin; refine wpList_append_own _ rfl _ _ 22 rfl w.heap.size 5 i0 (.int .u8 0) 1 1 Try.underlying22 hi hz0 hz1 hz2 rfl (by decide) _ _ _ rfl ((ownsRow_drewN hown _).alloc _) ⟨wr.heap.size, 0, none⟩ 1 1 [.int .u8 (s[k].toNat : Int)] rfl rfl (cell_one_new _ _ _) (fun u hu => by simp at hu; subst hu; rfl) (by unfold maxLen; omega) (by omega) (by have := hB.size; simp; omega) ?_)
          intro v' w2 hown' hgrow' _
          obtain ⟨g', cap', rfl⟩ := ownsRow_succ hown'
          go_wp2
          go_roundw
          case rel => 
            exact ⟨k + 1, n + 1, g', cap', l ++ [s[k]], by omega, by go_num, rfl, by omega, Lib.hid ⟨by rw [HR.out, HP.out, redStep_push _ _ _ HX.out], by rw [List.length_append, HL.out.2]; rfl⟩, by rw [bytesV_append]; exact hown', ((below_drewN hB _).alloc (by simp; omega) _).grown hgrow' (by have := hB.size; simp; omega) (fun j hj => by cases hj; exact hbg)⟩
          case measure => simp [intOf]; omega
      · obtain rfl : n = 0 := by omega
        have HN : Hid (l = []) := List.length_eq_zero_iff.1 HL.out.2
        go_wp2
        go_quiet (fail)
        go_wp2_with (at_builtin; refine wpList_append_own _ rfl _ _ 22 rfl w.heap.size 5 i0 (.int .u8 0) 1 1 Try.underlying22 hi hz0 hz1 hz2 rfl (by decide) _ _ _ rfl ((ownsRow_drewN hown _).alloc _) ⟨wr.heap.size, 0, none⟩ 1 1 [.int .u8 (s[k].toNat : Int)] rfl rfl (cell_one_new _ _ _) (fun u hu => by simp at hu; subst hu; rfl) (by unfold maxLen; omega) (by omega) (by have := hB.size; simp; omega) ?_)
        intro v' w2 hown' hgrow' _
        obtain ⟨g', cap', rfl⟩ := ownsRow_succ hown'
        go_wp2
        go_roundw
        case rel =>
          exact ⟨k + 1, 1, g', cap', l ++ [s[k]], by omega, by go_num, rfl, by omega, Lib.hid ⟨by rw [HR.out, HN.out, redStep_nil]; rfl, by rw [List.length_append, HL.out.2]; rfl⟩, by rw [bytesV_append]; exact hown', ((below_drewN hB _).alloc (by simp; omega) _).grown hgrow' (by have := hB.size; simp; omega) (fun j hj => by cases hj; exact hbg)⟩
        case measure => simp [intOf]; omega
    · have hconv := run_convert_bytes_back (P := Try.prog) wr 22 9 5 ⟨g, 0, none⟩ cap l Try.underlying22 Try.underlying5 Try.underlying9 (fun j hj => hown.cells rfl j _ (by simp [bytesV, hj]))
      rw [HL.out.2] at hconv
      go_wp2
      go_ret
      exact ⟨ret_string (show bstr l = bstr (redL [] s.data.toList) by rw [HL.out.1, List.take_of_length_le (by simp; omega)]), hB⟩

end Go.Proofs.Ytbbkpaledlbcmaa

/- The contracts of the model's functions on words: is a text a word, reducing, what is told. -/

namespace Go.Proofs.Ytbbkpaledlbcmaa
open Go.RowKit

theorem letters_is (s : ByteArray) (b : Bool) (w : World) (hs : s.size ≤ maxLen) (h : letL s.data.toList = b) :
    Calls Try.prog 168 #[.string s] w fun e w' => e = .returned (.bool b) ∧ w = w' := by
  rw [← h]; exact letters_any s w hs
theorem reduce_is (s r : ByteArray) (w : World) (hs : s.size ≤ 1048576) (h : bstr (redL [] s.data.toList) = r) :
    Calls Try.prog 145 #[.string s] w fun e w' => e = .returned (.string r) ∧ Below w.heap.size w w' := by
  rw [← h]; exact reduce_any s w hs

theorem sWordIn_any (s : ByteArray) (w : World) (hs : s.size ≤ maxLen) :
    Calls Try.prog 124 #[.string s] w fun e w' => e = .returned (.bool (wordB s.data.toList)) ∧ Below w.heap.size w w' := by
  have hm := hs
  unfold maxLen at hm
  by_cases h1 : s.size ≤ 60
  · cases h2 : letL s.data.toList with
    | true =>
      have H2 := Lib.hid h2
      clear h2
      go_enter Try.func124, Try.ntmps124
      go_wp2_with (first | (go_at_call 168; refine (letters_is _ true _ hs H2.out).mono ?_; rintro e w' ⟨rfl, rfl⟩) | (go_at_call 145; refine (reduce_any _ _ (by omega)).mono ?_; rintro e w1 ⟨rfl, hb⟩))
      go_ret
      exact ⟨ret_bool (by rw [bytes_beq, bstr_toList]; unfold wordB; rw [H2.out]; simp [h1]), by assumption⟩
    | false =>
      have H2 := Lib.hid h2
      clear h2
      go_enter Try.func124, Try.ntmps124
      go_wp2_with (go_at_call 168; refine (letters_is _ false _ hs H2.out).mono ?_; rintro e w' ⟨rfl, rfl⟩)
      go_ret
      exact ⟨ret_bool (by unfold wordB; rw [H2.out]; simp), Below.refl _ _⟩
  · go_enter Try.func124, Try.ntmps124
    go_wp2
    go_ret
    exact ⟨ret_bool (by unfold wordB; simp; omega), Below.refl _ _⟩

end Go.Proofs.Ytbbkpaledlbcmaa

/- The contracts of the model's functions on words, second part: inverses, cores. -/

namespace Go.Proofs.Ytbbkpaledlbcmaa
open Go.RowKit

theorem sWordIn_is (s : ByteArray) (b : Bool) (w : World) (hs : s.size ≤ maxLen) (h : wordB s.data.toList = b) :
    Calls Try.prog 124 #[.string s] w fun e w' => e = .returned (.bool b) ∧ Below w.heap.size w w' := by
  rw [← h]; exact sWordIn_any s w hs

set_option maxRecDepth 100000 in
set_option maxHeartbeats 1000000 in
theorem back_any (s : ByteArray) (w : World) (hs : s.size ≤ 1048576) :
    Calls Try.prog 146 #[.string s] w fun e w' => e = .returned (.string (bstr (backL s.data.toList))) ∧ Below w.heap.size w w' := by
  obtain ⟨i0, hi, hz0, hz1, hz2⟩ := info_parts infoU8
  go_enter Try.func146, Try.ntmps146
  go_wp2
  go_loopw [3, 4] (fun v i wr => ∃ (k g cap : Nat), k ≤ s.size ∧ i = .int .i64 ((k : Int) - 1) ∧ v = .slice (some ⟨g, 0, none⟩) (s.size - k) cap ∧ wr.ownsRow w.heap.size 5 1 (.slice (some ⟨g, 0, none⟩) (s.size - k) cap) (s.size - k) (bytesV (backL (s.data.toList.drop k))) ∧ Below w.heap.size w wr)
    (fun _ i _ => (intOf i + 1).toNat)
  case atStart =>
    refine ⟨s.size, w.heap.size, 0, Nat.le_refl _, rfl, by simp, ?_, (Below.refl _ _).alloc (Nat.le_refl _) _⟩
    rw [Nat.sub_self, List.drop_of_length_le (by simp)]
    exact World.ownsRow_made w #[] 0 (Nat.le_refl _) (Nat.zero_le _) rfl
  case round =>
    obtain ⟨k, g, cap, hk, rfl, rfl, hown, hB⟩ := hrel
    obtain ⟨hnc, hcm, hbg, hgs⟩ := ownsRow_cap hown
    unfold maxLen at hcm
    by_cases hlt : 0 < k
    · obtain ⟨j, rfl⟩ : ∃ j, k = j + 1 := ⟨k - 1, by omega⟩
      have hl : j < s.data.toList.length := by simp; omega
      have HD : Hid (backL (s.data.toList.drop j) = backL (s.data.toList.drop (j + 1)) ++ [turnB s[j]]) := backL_drop _ j hl
      go_wp2_with fail
      refine (turned_any _ _).mono ?_
      rintro e w' ⟨rfl, rfl⟩
      go_wp2_with (at_builtin; refine wpList_append_own _ rfl _ _ 22 rfl w.heap.size 5 i0 (.int .u8 0) 1 1 Try.underlying22 hi hz0 hz1 hz2 rfl (by decide) _ _ _ rfl (hown.alloc _) ⟨wr.heap.size, 0, none⟩ 1 1 [.int .u8 ((turnB s[j]).toNat : Int)] rfl rfl (cell_one_new _ _ _) (fun u hu => by simp at hu; subst hu; rfl) (by unfold maxLen; omega) (by omega) (by have := hB.size; simp; omega) ?_)
      intro v' w2 hown' hgrow' _
      obtain ⟨g', cap', rfl⟩ := ownsRow_succ hown'
      have HO := Lib.hid hown'
      have hB' : Below w.heap.size w w2 := (hB.alloc (by have := hB.size; omega) _).grown hgrow' (by have := hB.size; simp; omega) (fun j hj => by cases hj; exact hbg)
      clear hown' hown hgrow'
      have he : s.size - (j + 1) + 1 = s.size - j := by omega
      rw [he]
      have HE := Lib.hid he
      clear he
      go_wp2
      go_roundw
      case rel =>
        refine ⟨j, g', cap', by omega, by go_num, rfl, ?_, hB'⟩
        have := HO.out
        rw [HE.out] at this
        rw [HD.out, bytesV_append]
        exact this
      case measure => simp [intOf]
    · have HK : Hid (k = 0) := Lib.hid (by omega)
      have hk0 : k ≤ 0 := by omega
      have hconv : (convert 22 9 (.slice (some ⟨g, 0, none⟩) (s.size - k) cap)).run Try.prog wr = .ok (.string (bstr (backL s.data.toList))) wr := by
        have := run_convert_bytes_back (P := Try.prog) wr 22 9 5 ⟨g, 0, none⟩ cap (backL s.data.toList) Try.underlying22 Try.underlying5 Try.underlying9 (fun j hj => hown.cells rfl j _ (by
          rw [HK.out, List.drop_zero]; simp [bytesV, hj]))
        rw [backL_length] at this
        rw [HK.out]
        exact this
      clear hown
      go_wp2
      go_ret
      exact ⟨rfl, hB⟩

theorem extract_core (s : ByteArray) : (s.extract 1 (s.size - 1)).data.toList = s.data.toList.tail.dropLast := by
  rw [Lib.extract_data, List.dropLast_eq_take]
  simp

end Go.Proofs.Ytbbkpaledlbcmaa

/- Plain lists of bytes, second part: words without cancellation; inverses of words; reducing in parts. -/

namespace Go.Proofs.Ytbbkpaledlbcmaa

/-- No letter stands beside its inverse. -/
def noC (l : List UInt8) : Prop := ∀ p x y q, l = p ++ x :: y :: q → x ≠ turnB y

theorem noC_nil : noC [] := fun p x y q h => by simp at h
theorem noC_one (x : UInt8) : noC [x] := fun p a b q h => by
  have := congrArg List.length h
  simp at this
  omega
theorem noC_cons (x y : UInt8) (r : List UInt8) : noC (x :: y :: r) ↔ x ≠ turnB y ∧ noC (y :: r) := by
  constructor
  · exact fun h => ⟨h [] x y r rfl, fun p a b q e => h (x :: p) a b q (by rw [e]; rfl)⟩
  · rintro ⟨h1, h2⟩ p a b q e
    cases p with
    | nil =>
      simp at e
      obtain ⟨rfl, rfl, rfl⟩ := e
      exact h1
    | cons c p =>
      simp at e
      exact h2 p a b q e.2
theorem noC_left {a b : List UInt8} (h : noC (a ++ b)) : noC a := fun p x y q e => h p x y (q ++ b) (by rw [e]; simp)
theorem noC_snoc (l : List UInt8) (c : UInt8) (h : noC l) (hc : l.getLast? ≠ some (turnB c)) : noC (l ++ [c]) := by
  intro p x y q e
  rcases (show q = [] ∨ ∃ q' z, q = q' ++ [z] by
    cases q with
    | nil => exact .inl rfl
    | cons a q => exact .inr (last_split (a :: q) (by simp))) with rfl | ⟨q, z, rfl⟩
  · have e2 : l ++ [c] = (p ++ [x]) ++ [y] := by rw [e]; simp
    obtain ⟨e3, e4⟩ := List.append_inj' e2 rfl
    have e5 : c = y := by simpa using e4
    subst e5
    intro hx
    exact hc (by rw [e3, hx]; simp)
  · have e2 : l ++ [c] = (p ++ x :: y :: q) ++ [z] := by rw [e]; simp
    obtain ⟨e3, _⟩ := List.append_inj' e2 rfl
    exact h p x y q e3
theorem noC_step (l : List UInt8) (c : UInt8) (h : noC l) : noC (redStep l c) := by
  unfold redStep
  split
  · cases l with
    | nil => exact noC_nil
    | cons a l =>
      obtain ⟨p, x, hp⟩ := last_split (a :: l) (by simp)
      rw [hp] at h ⊢
      rw [List.dropLast_concat]; exact noC_left h
  · rename_i hc; exact noC_snoc l c h hc
theorem noC_red : ∀ (s l : List UInt8), noC l → noC (redL l s)
  | [], _, h => h
  | c :: s, l, h => noC_red s (redStep l c) (noC_step l c h)
theorem red_of_noC : ∀ (s l : List UInt8), noC (l ++ s) → redL l s = l ++ s
  | [], l, _ => by simp [redL]
  | c :: s, l, h => by
    have h1 : l.getLast? ≠ some (turnB c) := fun e => by
      obtain ⟨p, x, rfl⟩ := last_split l (by cases l with | nil => simp at e | cons a l => simp)
      have e2 : x = turnB c := by simpa using e
      exact h p x c s (by simp) e2
    have h2 : redStep l c = l ++ [c] := by unfold redStep; rw [if_neg h1]
    show redL (redStep l c) s = _
    rw [h2, red_of_noC s (l ++ [c]) (by simpa using h)]
    simp
theorem red_iff (s : List UInt8) : redL [] s = s ↔ noC s :=
  ⟨fun h => by rw [← h]; exact noC_red s [] noC_nil, fun h => by have := red_of_noC s [] (by simpa using h); simpa using this⟩
theorem red_red (s : List UInt8) : redL [] (redL [] s) = redL [] s := (red_iff _).2 (noC_red s [] noC_nil)
theorem red_append (a b : List UInt8) : redL [] (redL [] a ++ b) = redL [] (a ++ b) := by rw [redL_append, redL_append, red_red]

theorem turn_tab : ∀ n : Fin 256, letB (UInt8.ofNat n.val) = true → turnB (turnB (UInt8.ofNat n.val)) = UInt8.ofNat n.val ∧ letB (turnB (UInt8.ofNat n.val)) = true := by decide +kernel
theorem turn_turn (c : UInt8) (h : letB c = true) : turnB (turnB c) = c ∧ letB (turnB c) = true := by
  have := turn_tab ⟨c.toNat, c.toNat_lt⟩
  simp only [UInt8.ofNat_toNat] at this
  exact this h
theorem backL_append (a b : List UInt8) : backL (a ++ b) = backL b ++ backL a := by simp [backL]
theorem letL_back (l : List UInt8) (h : letL l = true) : letL (backL l) = true := List.all_eq_true.2 fun c hc => by
  simp only [backL, List.mem_map, List.mem_reverse] at hc
  obtain ⟨d, hd, rfl⟩ := hc
  exact (turn_turn d (List.all_eq_true.1 h d hd)).2
theorem back_back : ∀ (l : List UInt8), letL l = true → backL (backL l) = l
  | [], _ => rfl
  | c :: l, h => by
    rw [letL_cons, Bool.and_eq_true] at h
    have e : backL (c :: l) = backL l ++ [turnB c] := by simp [backL]
    rw [e, backL_append, back_back l h.2]
    show [turnB (turnB c)] ++ l = _
    rw [(turn_turn c h.1).1]; rfl
theorem noC_back (l : List UInt8) (hl : letL l = true) (h : noC l) : noC (backL l) := by
  intro p x y q e
  have e2 : l = backL q ++ turnB y :: turnB x :: backL p := by
    have := congrArg backL e
    rw [back_back l hl, show p ++ x :: y :: q = p ++ ([x, y] ++ q) by simp, backL_append, backL_append] at this
    rw [this]
    simp [backL]
  have hx : letB x = true := by
    have := letL_back l hl
    exact List.all_eq_true.1 this x (by rw [e]; simp)
  have h2 := h _ _ _ _ e2
  rw [(turn_turn x hx).1] at h2
  exact fun e3 => h2 e3.symm
theorem red_back (l : List UInt8) (hl : letL l = true) (h : redL [] l = l) : redL [] (backL l) = backL l := (red_iff _).2 (noC_back l hl ((red_iff l).1 h))
/-- The program's own inverse of a list of letters. -/
theorem inv_back (l : List UInt8) (h : letL l = true) : l.reverse.map invB = backL l := by
  unfold backL
  apply List.map_congr_left
  intro c hc
  exact invB_let c (List.all_eq_true.1 h c (List.mem_reverse.1 hc))
theorem redX_back (l : List UInt8) (hl : letL l = true) (h : redL [] l = l) : redX [] (l.reverse.map invB) = backL l := by
  rw [inv_back l hl, redX_eq _ _ (letL_back l hl), red_back l hl h]

/-- The place of a letter's generator; the letter's sign. -/
def idxB (c : UInt8) : Nat := if 97 ≤ c.toNat then c.toNat - 97 else c.toNat - 65
def sgnB (c : UInt8) : Int := if 97 ≤ c.toNat then 1 else -1
def sumsStep (z : List Int) (c : UInt8) : List Int := z.set (idxB c) (z[idxB c]?.getD 0 + sgnB c)
def sumsL (l : List UInt8) : List Int := l.foldl sumsStep [0, 0, 0, 0]
theorem sumsL_snoc (l : List UInt8) (c : UInt8) : sumsL (l ++ [c]) = sumsStep (sumsL l) c := by simp [sumsL]
theorem idxB_lt (c : UInt8) (h : letB c = true) : idxB c < 4 := by
  have := (letB_iff c).1 h
  unfold idxB; split <;> omega
theorem sumsL_inv : ∀ (l : List UInt8), letL l = true → (sumsL l).length = 4 ∧ ∀ z ∈ sumsL l, -(l.length : Int) ≤ z ∧ z ≤ l.length := by
  have key : ∀ (n : Nat) (l : List UInt8), l.length = n → letL l = true → (sumsL l).length = 4 ∧ ∀ z ∈ sumsL l, -(l.length : Int) ≤ z ∧ z ≤ l.length := by
    intro n
    induction n with
    | zero =>
      intro l hl _
      obtain rfl := List.length_eq_zero_iff.1 hl
      refine ⟨rfl, fun z hz => ?_⟩
      simp [sumsL] at hz
      subst hz; simp
    | succ n ih =>
      intro l hl hlet
      obtain ⟨p, c, rfl⟩ := last_split l (by omega)
      rw [letL_append, Bool.and_eq_true] at hlet
      have hp : p.length = n := by simp at hl; omega
      obtain ⟨h1, h2⟩ := ih p hp hlet.1
      rw [sumsL_snoc]
      refine ⟨by unfold sumsStep; simpa using h1, fun z hz => ?_⟩
      have hs : -1 ≤ sgnB c ∧ sgnB c ≤ 1 := by unfold sgnB; split <;> omega
      rw [List.length_append, List.length_singleton]
      unfold sumsStep at hz
      rcases List.mem_or_eq_of_mem_set hz with hz | rfl
      · have := h2 z hz; omega
      · have h3 : -(p.length : Int) ≤ (sumsL p)[idxB c]?.getD 0 ∧ (sumsL p)[idxB c]?.getD 0 ≤ p.length := by
          cases e : (sumsL p)[idxB c]? with
          | none => simp
          | some v => exact h2 v (List.mem_of_getElem? e)
        omega
  exact fun l h => key l.length l rfl h

/-- Letters as often behind themselves as told. -/
def repL (n : Nat) (l : List UInt8) : List UInt8 := (List.replicate n l).flatten
theorem repL_add (a b : Nat) (l : List UInt8) : repL a l ++ repL b l = repL (a + b) l := by
  unfold repL; rw [← List.flatten_append, List.replicate_append_replicate]
theorem repL_zero (l : List UInt8) : repL 0 l = [] := rfl
theorem repL_one (l : List UInt8) : repL 1 l = l := by simp [repL]
theorem repL_len (n : Nat) (l : List UInt8) : (repL n l).length = n * l.length := by
  induction n with
  | zero => simp [repL]
  | succ n ih => rw [← repL_add, List.length_append, ih, repL_one, Nat.succ_mul]
theorem letL_rep (n : Nat) (l : List UInt8) (h : letL l = true) : letL (repL n l) = true := by
  induction n with
  | zero => rfl
  | succ n ih => rw [← repL_add, letL_append, ih, repL_one, h]; rfl
/-- The letters of a power. -/
def powL (n : Int) (l : List UInt8) : List UInt8 := repL n.natAbs (if n < 0 then backL l else l)

end Go.Proofs.Ytbbkpaledlbcmaa

/- The contracts of the laws' own helpers on slices of ints: are two equal, put marks in, are the marks still there. -/

namespace Go.Proofs.Ytbbkpaledlbcmaa
open Go.RowKit

def intsV (zs : List Int) : List Value := zs.map (Value.int .i64)
theorem intsV_len (zs : List Int) : (intsV zs).length = zs.length := by simp [intsV]
theorem infoInt : (Try.prog.info? 3).map (fun i => (i.zero, i.size, i.bytes)) = some (some (.int .i64 0), 1, 8) := by kernel_rfl

/-- The value v is a slice of the call's own that holds the ints zs, in a block from base on. -/
def IntRow (base : Nat) (w : World) (v : Value) (zs : List Int) : Prop := w.ownsRow base 3 1 v zs.length (intsV zs)

theorem IntRow.shape {base : Nat} {w : World} {v : Value} {zs : List Int} (h : IntRow base w v zs) :
    ∃ a g cap, v = .slice a zs.length cap ∧ (0 < zs.length → a = some ⟨g, 0, none⟩ ∧ base ≤ g ∧ g < w.heap.size) ∧ zs.length ≤ maxLen ∧ ∀ j (hj : j < zs.length), w.cell? ⟨g, j, none⟩ = some (.int .i64 zs[j]) ∧ w.frozen? ⟨g, j, none⟩ = false := by
  rcases h.2 with ⟨rfl, h0⟩ | ⟨g, cap, cur, rfl, hb, hg, hn, hc, _⟩
  · exact ⟨none, 0, 0, by rw [h0], fun h => by omega, by rw [h0]; exact Nat.zero_le _, fun j hj => by omega⟩
  · refine ⟨some ⟨g, 0, none⟩, g, cap, rfl, fun _ => ⟨rfl, hb, (Array.getElem?_eq_some_iff.1 hg).1⟩, Nat.le_trans hn hc, fun j hj => ⟨?_, h.frozenAt j⟩⟩
    rw [h.cellAt j (by omega)]
    simp [intsV, hj]
theorem IntRow.below {base : Nat} {w w' : World} {v : Value} {zs : List Int} (h : IntRow base w v zs) (hb : Below w.heap.size w w') : IntRow base w' v zs :=
  h.kept ⟨hb.os, hb.tape, hb.output, hb.size, fun j hj _ => hb.block j hj⟩ (row := none) (by
    rcases h.2 with ⟨rfl, _⟩ | ⟨g, cap, cur, rfl, _⟩
    · exact .inl rfl
    · exact .inr (by simp [Value.ownBlock]))
theorem IntRow.mono {b1 b2 : Nat} {w : World} {v : Value} {zs : List Int} (h : IntRow b1 w v zs) (hb : b2 ≤ b1) : IntRow b2 w v zs := ownsRow_base h hb

set_option maxRecDepth 100000 in
set_option maxHeartbeats 1000000 in
theorem eqIntS_yes (b1 b2 : Nat) (v1 v2 : Value) (zs : List Int) (w : World) (h1 : IntRow b1 w v1 zs) (h2 : IntRow b2 w v2 zs) :
    Calls Try.prog 54 #[v1, v2] w fun e w' => e = .returned (.bool true) ∧ Below w.heap.size w w' := by
  obtain ⟨a1, g1, c1, rfl, hs1, hm, hc1⟩ := h1.shape
  obtain ⟨a2, g2, c2, rfl, hs2, _, hc2⟩ := h2.shape
  obtain ⟨n, hn⟩ : ∃ n, zs.length = n := ⟨_, rfl⟩
  rw [hn] at hs1 hs2 hm ⊢
  have HC1 := Lib.hid hc1
  have HC2 := Lib.hid hc2
  have HS1 := Lib.hid hs1
  have HS2 := Lib.hid hs2
  have HN := Lib.hid hn
  clear hc1 hc2 hs1 hs2 hn h1 h2
  unfold maxLen at hm
  go_enter Try.func54, Try.ntmps54
  go_wp2
  go_loopw [5] (fun i wr => ∃ k : Nat, k ≤ n ∧ i = .int .i64 k ∧ Below w.heap.size w wr) (fun i _ => n - (intOf i).toNat)
  case atStart => exact ⟨0, Nat.zero_le _, rfl, Below.refl _ _⟩
  case round =>
    obtain ⟨k, hk, rfl, hB⟩ := hrel
    by_cases hlt : k < n
    · obtain ⟨rfl, _, hg1⟩ := HS1.out (by omega)
      obtain ⟨rfl, _, hg2⟩ := HS2.out (by omega)
      have hkz : k < zs.length := by rw [HN.out]; exact hlt
      obtain ⟨z, hz⟩ : ∃ z, zs[k] = z := ⟨_, rfl⟩
      have d1 : wr.cell? ⟨g1, k, none⟩ = some (.int .i64 z) := by rw [← hz]; exact (hB.cell (p := ⟨g1, k, none⟩) hg1).trans (HC1.out k hkz).1
      have d2 : wr.cell? ⟨g2, k, none⟩ = some (.int .i64 z) := by rw [← hz]; exact (hB.cell (p := ⟨g2, k, none⟩) hg2).trans (HC2.out k hkz).1
      clear hz hkz
      go_wp2
      go_quiet (fail)
      go_wp2
      go_roundw
      case rel => exact ⟨k + 1, by omega, by go_num, below_drewN hB _⟩
      case measure => simp [intOf]; omega
    · go_wp2
      go_ret
      exact ⟨rfl, hB⟩

/-- The marks k, k + 1, .. -/
def marks (k n : Nat) : List Int := (List.range n).map fun i => ((k + i : Nat) : Int)
theorem marks_succ (k j : Nat) : marks k (j + 1) = marks k j ++ [((k + j : Nat) : Int)] := by simp [marks, List.range_succ]
theorem marks_len (k n : Nat) : (marks k n).length = n := by simp [marks]

set_option maxRecDepth 100000 in
set_option maxHeartbeats 1000000 in
theorem markIntS_any (base : Nat) (v : Value) (zs : List Int) (k : Nat) (w : World) (h : IntRow base w v zs) (hk : k ≤ 1000000000000) (hn2 : zs.length ≤ 1000000000000) :
    Calls Try.prog 55 #[v, .int .i64 k] w fun e w' => e = .returned (.int .i64 ((k + zs.length : Nat) : Int)) ∧ IntRow base w' v (marks k zs.length) ∧ w.grownBy w' v.ownBlock := by
  by_cases h0 : zs.length = 0
  · obtain ⟨a1, g1, c1, rfl, hs1, hm, hc1⟩ := h.shape
    rw [h0] at h ⊢
    have H := Lib.hid h
    clear h hc1 hs1 hm
    go_enter Try.func55, Try.ntmps55
    go_wp2
    go_loopw [1, 5] (fun q i wr => q = .int .i64 k ∧ i = .int .i64 0 ∧ w = wr) (fun _ _ _ => 0)
    case atStart => exact ⟨rfl, rfl, rfl⟩
    case round =>
      obtain ⟨rfl, rfl, rfl⟩ := hrel
      go_wp2
      go_ret
      refine ⟨by simp, ?_, World.grownBy.refl _ _⟩
      have hz : zs = [] := List.length_eq_zero_iff.1 h0
      have := H.out
      subst hz
      exact this
  · obtain ⟨n, hn⟩ : ∃ n, zs.length = n := ⟨_, rfl⟩
    rcases h.2 with ⟨rfl, h0'⟩ | ⟨g, cap, cur, rfl, hb, hg, hnc, hcm, _⟩
    · exact absurd h0' h0
    rw [hn] at h0 hn2 hnc ⊢
    have h' : w.ownsRow base 3 1 (.slice (some ⟨g, 0, none⟩) n cap) n (intsV (marks k 0 ++ zs.drop 0)) := by
      have := h; unfold IntRow at this; rw [hn] at this; simpa [marks] using this
    have HN := Lib.hid hn
    clear h hn hg
    unfold maxLen at hcm
    go_enter Try.func55, Try.ntmps55
    go_wp2
    go_loopw [1, 5] (fun q i wr => ∃ j : Nat, j ≤ n ∧ q = .int .i64 ((k + j : Nat) : Int) ∧ i = .int .i64 j ∧ wr.ownsRow base 3 1 (.slice (some ⟨g, 0, none⟩) n cap) n (intsV (marks k j ++ zs.drop j)) ∧ w.grownBy wr (some g)) (fun _ i _ => n - (intOf i).toNat)
    case atStart => exact ⟨0, Nat.zero_le _, by simp, rfl, h', World.grownBy.refl _ _⟩
    case round =>
      obtain ⟨j, hj, rfl, rfl, hr, hG⟩ := hrel
      by_cases hlt : j < n
      · have hjz : j < zs.length := by rw [HN.out]; exact hlt
        have hcl : wr.cell? ⟨g, j, none⟩ = some (.int .i64 zs[j]) := by
          rw [hr.cellAt j (by omega)]
          simp only [intsV, List.getElem?_map]
          rw [List.getElem?_append_right (by rw [marks_len]; exact Nat.le_refl _), marks_len, Nat.sub_self, List.getElem?_drop, Nat.add_zero, List.getElem?_eq_getElem hjz]
          rfl
        have hfr := hr.frozenAt j
        have HR := Lib.hid hr
        have HG := Lib.hid hG
        clear hr hG
        go_wp2
        go_roundw
        case rel =>
          have hst := HR.out.stored j (.int .i64 ((k + j : Nat) : Int))
          refine ⟨j + 1, by omega, by go_num, by go_num, ?_, HG.out.trans hst.2⟩
          have e : (intsV (marks k j ++ zs.drop j)).set j (.int .i64 ((k + j : Nat) : Int)) = intsV (marks k (j + 1) ++ zs.drop (j + 1)) := by
            unfold intsV
            rw [List.map_append, List.set_append_right _ _ (by simp [marks_len]), List.length_map, marks_len, Nat.sub_self, List.drop_eq_getElem_cons hjz, List.map_cons, List.set_cons_zero, marks_succ, List.map_append, List.map_append, List.append_assoc]
            rfl
          rw [← e]
          exact hst.1
        case measure => simp [intOf]; omega
      · obtain rfl : j = n := by omega
        rw [List.drop_of_length_le (by rw [HN.out]; exact Nat.le_refl _), List.append_nil] at hr
        have HR := Lib.hid hr
        have HG := Lib.hid hG
        clear hr hG h'
        go_wp2
        go_ret
        refine ⟨rfl, ?_, HG.out⟩
        unfold IntRow
        rw [marks_len]
        exact HR.out

set_option maxRecDepth 100000 in
set_option maxHeartbeats 1000000 in
theorem heldIntS_any (base : Nat) (v : Value) (n k : Nat) (w : World) (h : IntRow base w v (marks k n)) (hk : k ≤ 1000000000000) (hn2 : n ≤ 1000000000000) :
    Calls Try.prog 56 #[v, .int .i64 k] w fun e w' => e = .returned (.int .i64 ((k + n : Nat) : Int)) ∧ w = w' := by
  obtain ⟨a, g, cap, rfl, hs, hm, hc⟩ := h.shape
  simp only [marks_len] at hs hc ⊢
  have HC := Lib.hid hc
  have HS := Lib.hid hs
  clear hc hs hm h
  go_enter Try.func56, Try.ntmps56
  go_wp2
  go_loop [1, 5] (fun q i => ∃ j : Nat, j ≤ n ∧ q = .int .i64 ((k + j : Nat) : Int) ∧ i = .int .i64 j) (fun _ i => n - (intOf i).toNat)
  case atStart => exact ⟨0, Nat.zero_le _, by simp, rfl⟩
  case round =>
    obtain ⟨j, hj, rfl, rfl⟩ := hrel
    by_cases hlt : j < n
    · obtain ⟨rfl, _, hg⟩ := HS.out (by omega)
      have hcl : w.cell? ⟨g, j, none⟩ = some (.int .i64 ((k + j : Nat) : Int)) := by
        have := (HC.out j hlt).1
        simpa [marks] using this
      go_wp2
      go_round
      case rel => exact ⟨j + 1, by omega, by go_num, by go_num⟩
      case measure => simp [intOf]; omega
    · obtain rfl : j = n := by omega
      go_wp2
      go_ret
      exact ⟨rfl, rfl⟩

end Go.Proofs.Ytbbkpaledlbcmaa

/- The contracts of the model's sums of letters. -/

namespace Go.Proofs.Ytbbkpaledlbcmaa
open Go.RowKit

theorem sIndex_any (c : UInt8) (w : World) (h : letB c = true) :
    Calls Try.prog 169 #[.int .u8 (c.toNat : Int)] w fun e w' => e = .returned (.int .i64 (idxB c : Int)) ∧ w = w' := by
  have hc := (letB_iff c).1 h
  clear h
  by_cases h97 : 97 ≤ c.toNat
  · have H : Hid ((idxB c : Int) = (c.toNat : Int) - 97) := Lib.hid (by unfold idxB; rw [if_pos h97]; omega)
    have h2 : c.toNat ≤ 100 := by omega
    clear hc
    go_enter Try.func169, Try.ntmps169
    go_wp2
    go_ret
    exact ⟨ret_int H.out.symm, rfl⟩
  · have H : Hid ((idxB c : Int) = (c.toNat : Int) - 65) := Lib.hid (by unfold idxB; rw [if_neg h97]; omega)
    have h2 : c.toNat ≤ 68 := by omega
    have h3 : 65 ≤ c.toNat := by omega
    clear hc
    go_enter Try.func169, Try.ntmps169
    go_wp2
    go_ret
    exact ⟨ret_int H.out.symm, rfl⟩

set_option maxRecDepth 100000 in
set_option maxHeartbeats 1000000 in
theorem sSums_any (s : ByteArray) (w : World) (hs : s.size ≤ 1048576) (hl : letL s.data.toList = true) :
    Calls Try.prog 125 #[.string s] w fun e w' => ∃ v, e = .returned v ∧ IntRow w.heap.size w' v (sumsL s.data.toList) ∧ Below w.heap.size w w' := by
  have HL := Lib.hid hl
  clear hl
  obtain ⟨i0, hi, hz0, hz1, hz2⟩ := info_parts infoInt
  go_enter Try.func125, Try.ntmps125
  go_wp2_with (at_make; refine wpList_make_full _ rfl _ _ 33 rfl w.heap.size 3 i0 (.int .i64 0) 1 Try.underlying33 hi hz0 hz1 .i64 .i64 _ _ 4 rfl rfl rfl rfl (by rw [hz2]; decide) (by unfold maxLen; decide) (Nat.le_refl _) ?_; intro w1 hrow hgrow)
  have hB1 : Below w.heap.size w w1 := (Below.refl _ _).grown hgrow (Nat.le_refl _) (fun k e => by cases e)
  have hrow0 : w1.ownsRow w.heap.size 3 1 (.slice (some ⟨w.heap.size, 0, none⟩) 4 4) 4 (intsV (sumsL (s.data.toList.take 0))) := by
    have e : (madeCells (Value.cells (.int .i64 0)) (4 * 1)).toList = intsV (sumsL (s.data.toList.take 0)) := by
      rw [show Value.cells (.int .i64 0) = #[.int .i64 0] from rfl, toList_madeCells_one]; rfl
    rw [← e]; exact hrow
  clear hrow hgrow
  go_loopw [4] (fun i wr => ∃ k : Nat, k ≤ s.size ∧ i = .int .i64 k ∧ wr.ownsRow w.heap.size 3 1 (.slice (some ⟨w.heap.size, 0, none⟩) 4 4) 4 (intsV (sumsL (s.data.toList.take k))) ∧ Below w.heap.size w wr)
    (fun i _ => s.size - (intOf i).toNat)
  case atStart => exact ⟨0, Nat.zero_le _, rfl, hrow0, hB1⟩
  case round =>
    obtain ⟨k, hk, rfl, hr, hB⟩ := hrel
    by_cases hlt : k < s.size
    · have hl : k < s.data.toList.length := by simpa using hlt
      have hlet : letB s[k] = true := letL_get _ HL.out k hl
      have hlk : letL (s.data.toList.take k) = true := letL_of_mem _ _ HL.out (fun _ h => List.mem_of_mem_take h)
      obtain ⟨hz4, hzb⟩ := sumsL_inv _ hlk
      obtain ⟨j, hj⟩ : ∃ j, idxB s[k] = j := ⟨_, rfl⟩
      have hj4 : j < 4 := by rw [← hj]; exact idxB_lt _ hlet
      obtain ⟨z, hz⟩ : ∃ z, (sumsL (s.data.toList.take k))[j]'(by omega) = z := ⟨_, rfl⟩
      have hzm := hzb z (by rw [← hz]; exact List.getElem_mem _)
      have htl : (s.data.toList.take k).length ≤ k := List.length_take_le _ _
      have hz1' : -(1048576 : Int) ≤ z := by omega
      have hz2' : z ≤ 1048576 := by omega
      have hcl : wr.cell? ⟨w.heap.size, j, none⟩ = some (.int .i64 z) := by
        rw [hr.cellAt j (by omega), ← hz]
        simp [intsV, hz4, hj4]
      have hfr := hr.frozenAt j
      have hstep : ∀ u : Int, u = z + sgnB s[k] → (intsV (sumsL (s.data.toList.take k))).set j (.int .i64 u) = intsV (sumsL (s.data.toList.take (k + 1))) := by
        intro u hu
        rw [take_snoc _ k hl, sumsL_snoc]
        unfold sumsStep intsV
        have e1 : s.data.toList[k] = s[k] := rfl
        rw [e1, hj, List.getElem?_eq_getElem (by omega), Option.getD_some, hz, ← hu, List.map_set]
      have HST := Lib.hid hstep
      have HLet := Lib.hid hlet
      have HJ := Lib.hid hj
      have HR := Lib.hid hr
      clear hstep hlet hlk hz4 hzb hz hzm htl hr hj
      by_cases h97 : 97 ≤ s[k].toNat
      · have HG : Hid (sgnB s[k] = 1) := by unfold sgnB; rw [if_pos h97]; exact Lib.hid rfl
        go_wp2_with fail
        refine (sIndex_any _ _ HLet.out).mono ?_
        rw [HJ.out]
        rintro e w2 ⟨rfl, rfl⟩
        go_wp2_with fail
        go_roundw
        case rel =>
          have hst := HR.out.stored j (.int .i64 (z + 1))
          refine ⟨k + 1, by omega, by go_num, ?_, hB.setCell (p := ⟨w.heap.size, j, none⟩) (Nat.le_refl _) _⟩
          rw [← HST.out (z + 1) (by rw [HG.out])]
          exact hst.1
        case measure => simp [intOf]; omega
      · have HG : Hid (sgnB s[k] = -1) := by unfold sgnB; rw [if_neg h97]; exact Lib.hid rfl
        go_wp2_with fail
        refine (sIndex_any _ _ HLet.out).mono ?_
        rw [HJ.out]
        rintro e w2 ⟨rfl, rfl⟩
        go_wp2_with fail
        go_roundw
        case rel =>
          have hst := HR.out.stored j (.int .i64 (z - 1))
          refine ⟨k + 1, by omega, by go_num, ?_, hB.setCell (p := ⟨w.heap.size, j, none⟩) (Nat.le_refl _) _⟩
          rw [← HST.out (z - 1) (by rw [HG.out]; omega)]
          exact hst.1
        case measure => simp [intOf]; omega
    · have HE : Hid (s.data.toList.take k = s.data.toList) := List.take_of_length_le (by simp; omega)
      have HR := Lib.hid hr
      clear hr
      go_wp2_with fail
      go_ret
      refine ⟨_, rfl, ?_, hB⟩
      have := HR.out
      rw [HE.out] at this
      unfold IntRow
      rw [(sumsL_inv _ HL.out).1]
      exact this

theorem sWordSums_yes (s : ByteArray) (w : World) (h : wordB s.data.toList = true) :
    Calls Try.prog 52 #[.string s] w fun e w' => ∃ v, e = .returned (.tuple #[v, .bool true]) ∧ IntRow w.heap.size w' v (sumsL s.data.toList) ∧ Below w.heap.size w w' := by
  obtain ⟨h1, h2, _⟩ := (wordB_iff _).1 h
  have hs : s.size ≤ 60 := by simpa using h1
  have H := Lib.hid h
  have H2 := Lib.hid h2
  clear h h1 h2
  go_enter Try.func52, Try.ntmps52
  go_wp2_with fail
  refine (sWordIn_is _ true _ (by unfold maxLen; omega) H.out).mono ?_
  rintro e w1 ⟨rfl, hb1⟩
  go_wp2_with fail
  refine (sSums_any _ _ (by omega) H2.out).mono ?_
  rintro e w2 ⟨v, rfl, hr, hb2⟩
  have HR := Lib.hid hr
  clear hr
  go_wp2_with fail
  go_ret2
  exact ⟨v, rfl, HR.out.mono hb1.size, hb1.trans (hb2.mono hb1.size)⟩

theorem sWordSums_no (s : ByteArray) (w : World) (hs : s.size ≤ maxLen) (h : wordB s.data.toList = false) :
    Calls Try.prog 52 #[.string s] w fun e w' => ∃ v, e = .returned (.tuple #[v, .bool false]) ∧ IntRow w.heap.size w' v [] ∧ Below w.heap.size w w' := by
  have H := Lib.hid h
  clear h
  go_enter Try.func52, Try.ntmps52
  go_wp2_with fail
  refine (sWordIn_is _ false _ hs H.out).mono ?_
  rintro e w1 ⟨rfl, hb1⟩
  go_wp2_with fail
  go_ret2
  exact ⟨_, rfl, World.ownsRow_made w1 #[] 0 hb1.size (Nat.zero_le _) rfl, hb1.alloc hb1.size _⟩

end Go.Proofs.Ytbbkpaledlbcmaa

/- The contracts of the program's small functions on letters, and of the iterators over a text and over a word. -/

namespace Go.Proofs.Ytbbkpaledlbcmaa
open Go.RowKit Go.Shelf

theorem xor_tab : ((List.range 256).all fun n => decide (bits BinOp.xor IntKind.u8 (n : Int) 32 = ((invB (UInt8.ofNat n)).toNat : Int))) = true := by kernel_rfl
theorem or_tab : ((List.range 256).all fun n => (decide (97 ≤ bits BinOp.or IntKind.u8 (n : Int) 32) && decide (bits BinOp.or IntKind.u8 (n : Int) 32 < 101)) == (decide ((97 ≤ n ∧ n ≤ 100) ∨ (65 ≤ n ∧ n ≤ 68)))) = true := by kernel_rfl

theorem xor_let (c : UInt8) : bits BinOp.xor IntKind.u8 (c.toNat : Int) 32 = ((invB c).toNat : Int) := by
  have := List.all_eq_true.1 xor_tab c.toNat (List.mem_range.2 c.toNat_lt)
  simp only [decide_eq_true_eq, UInt8.ofNat_toNat] at this
  exact this
theorem or_let (c : UInt8) : (decide (97 ≤ bits BinOp.or IntKind.u8 (c.toNat : Int) 32) && decide (bits BinOp.or IntKind.u8 (c.toNat : Int) 32 < 101)) = letB c := by
  have := List.all_eq_true.1 or_tab c.toNat (List.mem_range.2 c.toNat_lt)
  rw [beq_iff_eq] at this
  rw [this]; rfl

theorem inverse_any (c : UInt8) (w : World) :
    Calls Try.prog 155 #[.int .u8 (c.toNat : Int)] w fun e w' => e = .returned (.int .u8 ((invB c).toNat : Int)) ∧ w' = w := by
  have H := Lib.hid (xor_let c)
  go_enter Try.func155, Try.ntmps155
  go_wp2
  go_ret
  exact ⟨ret_int H.out, rfl⟩

theorem known_any (c : UInt8) (w : World) :
    Calls Try.prog 197 #[.int .u8 (c.toNat : Int)] w fun e w' => e = .returned (.bool (letB c)) ∧ w' = w := by
  have H := Lib.hid (or_let c)
  go_enter Try.func197, Try.ntmps197
  go_wp2
  · go_ret
    refine ⟨ret_bool ?_, rfl⟩
    rw [← H.out]
    have h1 : 97 ≤ bits BinOp.or IntKind.u8 (c.toNat : Int) 32 := by assumption
    simp [h1]
  · go_ret
    refine ⟨ret_bool ?_, rfl⟩
    rw [← H.out]
    have h1 : bits BinOp.or IntKind.u8 (c.toNat : Int) 32 < 97 := by first | assumption | omega
    have h2 : ¬ 97 ≤ bits BinOp.or IntKind.u8 (c.toNat : Int) 32 := by omega
    simp [h2]

theorem known_is (c : UInt8) (b : Bool) (w : World) (h : letB c = b) :
    Calls Try.prog 197 #[.int .u8 (c.toNat : Int)] w fun e w' => e = .returned (.bool b) ∧ w' = w := by
  rw [← h]; exact known_any c w

theorem infoLet : (Try.prog.info? 153).map (fun i => (i.zero, i.size, i.bytes)) = some (some (.int .u8 0), 1, 1) := by kernel_rfl

/-- 'with': the stack's step. -/
theorem with_pop (g cap n base : Nat) (p : List UInt8) (x c : UInt8) (w : World) (hn : 0 < n) (hx : x = invB c) (hp : p.length + 1 = n)
    (hown : w.ownsRow base 153 1 (.slice (some ⟨g, 0, none⟩) n cap) n (bytesV (p ++ [x]))) :
    Calls Try.prog 154 #[.slice (some ⟨g, 0, none⟩) n cap, .int .u8 (c.toNat : Int)] w fun e w' =>
      e = .returned (.slice (some ⟨g, 0, none⟩) (n - 1) cap) ∧ ∃ q, w' = w.drewN q := by
  obtain ⟨hnc, hcm, hbg, hgs⟩ := ownsRow_cap hown
  unfold maxLen at hcm
  have hcx : w.cell? ⟨g, n - 1, none⟩ = some (.int .u8 (x.toNat : Int)) := by
    have := hown.cells rfl (n - 1) (.int .u8 (x.toNat : Int)) (by
      simp [bytesV]
      rw [show n - 1 = p.length by omega]; simp)
    rw [show (⟨g, n - 1, none⟩ : Addr) = (⟨g, 0, none⟩ : Addr).add (n - 1) by simp [Addr.add]]
    exact this
  have ht : ((x.toNat : Int) == ((invB c).toNat : Int)) = true := by rw [hx]; simp
  have HN := Lib.hid hp
  have hd : decide ((1 : Int) ≤ (n : Int)) = true := by simp; omega
  clear hx hp
  go_enter Try.func154, Try.ntmps154
  go_wp2
  go_quiet ((go_at_call 155; exact Calls.quiet_of_same (inverse_any _ _)))
  go_wp2
  go_ret
  exact ⟨by simp, _, rfl⟩

theorem with_push (g cap n base : Nat) (l : List UInt8) (c : UInt8) (w : World) (hx : l.getLast? ≠ some (invB c)) (hl : l.length = n) (hn : n ≤ 1000000000) (hbs : base ≤ w.heap.size)
    (hown : w.ownsRow base 153 1 (.slice (some ⟨g, 0, none⟩) n cap) n (bytesV l)) :
    Calls Try.prog 154 #[.slice (some ⟨g, 0, none⟩) n cap, .int .u8 (c.toNat : Int)] w fun e w' =>
      ∃ g' cap', e = .returned (.slice (some ⟨g', 0, none⟩) (n + 1) cap') ∧ w'.ownsRow base 153 1 (.slice (some ⟨g', 0, none⟩) (n + 1) cap') (n + 1) (bytesV (l ++ [c])) ∧ w.grownBy w' (some g) := by
  obtain ⟨i0, hi, hz0, hz1, hz2⟩ := info_parts infoLet
  obtain ⟨hnc, hcm, hbg, hgs⟩ := ownsRow_cap hown
  unfold maxLen at hcm
  by_cases hn0 : 0 < n
  · obtain ⟨p, x, rfl⟩ : ∃ p x, l = p ++ [x] := last_split l (by omega)
    have hcx : w.cell? ⟨g, n - 1, none⟩ = some (.int .u8 (x.toNat : Int)) := by
      have := hown.cells rfl (n - 1) (.int .u8 (x.toNat : Int)) (by
        simp [bytesV]
        rw [show n - 1 = p.length by simp at hl; omega]; simp)
      rw [show (⟨g, n - 1, none⟩ : Addr) = (⟨g, 0, none⟩ : Addr).add (n - 1) by simp [Addr.add]]
      exact this
    have ht : ((x.toNat : Int) == ((invB c).toNat : Int)) = false := by
      rw [beq_eq_false_iff_ne]
      intro e
      exact hx (by simp; exact UInt8.toNat_inj.1 (by omega))
    have HX := Lib.hid hx
    have HN := Lib.hid hl
    have hd : decide ((1 : Int) ≤ (n : Int)) = true := by simp; omega
    clear hx hl
    go_enter Try.func154, Try.ntmps154
    go_wp2
    go_quiet ((go_at_call 155; exact Calls.quiet_of_same (inverse_any _ _)))
    go_wp2_with (at_builtin; refine wpList_append_own _ rfl _ _ 122 rfl base 153 i0 (.int .u8 0) 1 1 Try.underlying122 hi hz0 hz1 hz2 rfl (by decide) _ _ _ rfl ((ownsRow_drewN hown _).alloc _) ⟨w.heap.size, 0, none⟩ 1 1 [.int .u8 (c.toNat : Int)] rfl rfl (cell_one_new _ _ _) (fun u hu => by simp at hu; subst hu; rfl) (by unfold maxLen; omega) (by omega) (by simp; omega) ?_)
    intro v' w2 hown' hgrow' _
    obtain ⟨g', cap', rfl⟩ := ownsRow_succ hown'
    go_wp2
    go_ret
    exact ⟨g', cap', rfl, by rw [bytesV_append]; exact hown', ⟨hgrow'.os, hgrow'.tape, hgrow'.output, Nat.le_trans (by simp) hgrow'.size, fun k hk hne => (hgrow'.block k (by simp; omega) hne).trans (Below.heap_alloc _ _ _ (by simpa using hk))⟩⟩
  · obtain rfl : n = 0 := by omega
    obtain rfl : l = [] := List.length_eq_zero_iff.1 hl
    clear hx hl
    go_enter Try.func154, Try.ntmps154
    go_wp2
    go_quiet (fail)
    go_wp2_with (at_builtin; refine wpList_append_own _ rfl _ _ 122 rfl base 153 i0 (.int .u8 0) 1 1 Try.underlying122 hi hz0 hz1 hz2 rfl (by decide) _ _ _ rfl ((ownsRow_drewN hown _).alloc _) ⟨w.heap.size, 0, none⟩ 1 1 [.int .u8 (c.toNat : Int)] rfl rfl (cell_one_new _ _ _) (fun u hu => by simp at hu; subst hu; rfl) (by unfold maxLen; omega) (by omega) (by simp; omega) ?_)
    intro v' w2 hown' hgrow' _
    obtain ⟨g', cap', rfl⟩ := ownsRow_succ hown'
    go_wp2
    go_ret
    exact ⟨g', cap', rfl, by exact hown', ⟨hgrow'.os, hgrow'.tape, hgrow'.output, Nat.le_trans (by simp) hgrow'.size, fun k hk hne => (hgrow'.block k (by simp; omega) hne).trans (Below.heap_alloc _ _ _ (by simpa using hk))⟩⟩

/-- 'with': one step of the stack on a row that the caller owns. -/
theorem with_any (g cap n base : Nat) (l : List UInt8) (c : UInt8) (w : World) (hl : l.length = n) (hn : n ≤ 1000000000) (hbs : base ≤ w.heap.size)
    (hown : w.ownsRow base 153 1 (.slice (some ⟨g, 0, none⟩) n cap) n (bytesV l)) :
    Calls Try.prog 154 #[.slice (some ⟨g, 0, none⟩) n cap, .int .u8 (c.toNat : Int)] w fun e w' =>
      ∃ g' n' cap', e = .returned (.slice (some ⟨g', 0, none⟩) n' cap') ∧ (stepX l c).length = n' ∧ w'.ownsRow base 153 1 (.slice (some ⟨g', 0, none⟩) n' cap') n' (bytesV (stepX l c)) ∧ w.grownBy w' (some g) := by
  by_cases hx : l.getLast? = some (invB c)
  · have hn0 : 0 < n := by
      rw [← hl]; cases l with
      | nil => simp at hx
      | cons a l => simp
    obtain ⟨p, x, rfl⟩ := last_split l (by omega)
    have hxe : x = invB c := by simpa using hx
    have hp : p.length + 1 = n := by rw [← hl]; simp
    refine (with_pop g cap n base p x c w hn0 hxe hp hown).mono ?_
    rintro e w' ⟨rfl, q, rfl⟩
    refine ⟨g, n - 1, cap, rfl, by rw [stepX_pop p x c hxe]; omega, ?_, ⟨rfl, rfl, rfl, Nat.le_refl _, fun _ _ _ => rfl⟩⟩
    rw [stepX_pop p x c hxe]
    obtain rfl := hp
    rw [bytesV_append] at hown
    exact ownsRow_drewN (ownsRow_pop (by simp [bytesV_length]) hown) q
  · refine (with_push g cap n base l c w hx hl hn hbs hown).mono ?_
    rintro e w' ⟨g', cap', rfl, h1, h2⟩
    have hs : stepX l c = l ++ [c] := by unfold stepX; rw [if_neg hx]
    exact ⟨g', n + 1, cap', rfl, by rw [hs]; simp [hl], by rw [hs]; exact h1, h2⟩

theorem signsOf_any (s : ByteArray) (w : World) :
    Calls Try.prog 196 #[.string s] w fun e w' => e = .returned (.func (.func 208) #[] #[.pointer (some ⟨w.heap.size, 0, none⟩)]) ∧ w' = w.alloc (.cells #[.string s] 9) := by
  go_enter Try.func196, Try.ntmps196
  go_wp2
  go_ret
  exact ⟨rfl, rfl⟩
end Go.Proofs.Ytbbkpaledlbcmaa

/- A loop over an iterator whose own body may hold such a loop: what a round keeps; the loop's law for bodies that never leave it. -/

namespace Go.Proofs.Ytbbkpaledlbcmaa
open Go.RowKit Go.Shelf

abbrev encB (c : UInt8) : Array Value := #[.int .u8 (c.toNat : Int)]
/-- The type of a row's letters. -/
abbrev TL : TypeId := 153

/-- Cells that are no letters lie as they lay, but for the box B. -/
def KeepT (B : Nat) (W W' : World) : Prop := ∀ k cs t r, W.heap[k]? = some (.cells cs t r) → t ≠ TL → k ≠ B → W'.heap[k]? = some (.cells cs t r)
theorem KeepT.refl (B : Nat) (W : World) : KeepT B W W := fun _ _ _ _ h _ _ => h
theorem KeepT.trans {B : Nat} {X Y Z : World} (h : KeepT B X Y) (k : KeepT B Y Z) : KeepT B X Z := fun i cs t r hi ht hB => k i cs t r (h i cs t r hi ht hB) ht hB
theorem KeepT.putObj {B : Nat} {W : World} {l : Nat} {o : Obj} (o' : Obj) (hl : W.heap[l]? = some o) (ho : o.isCells = false) : KeepT B W (W.putObj l o') := fun k cs t r hk _ _ => by
  refine (World.putObj_heap_other (fun e => ?_)).trans hk
  subst e
  rw [hl] at hk; cases hk; cases ho
theorem KeepT.drewN (B : Nat) (W : World) (q : Nat) : KeepT B W (W.drewN q) := fun _ _ _ _ h _ _ => h
theorem KeepT.boxed {B k : Nat} {W W' : World} {t : TypeId} {v : Value} (h : KeepT B W W') (hb : Boxed W k t v) (ht : t ≠ TL) (hk : k ≠ B) : Boxed W' k t v := h k _ t _ hb ht hk

theorem keepsFrom_mono {B B' : Nat} {W W' : World} (h : KeepsFrom B W W') (hb : B ≤ B') : KeepsFrom B' W W' := ⟨h.size, fun k o hk => h.same k o (by omega)⟩
/-- What a round of the caller's body keeps. -/
def KeepR (n₀ B N : Nat) (W W' : World) : Prop := Below n₀ W W' ∧ KeepT B W W' ∧ KeepsFrom N W W'

theorem roundIn_any {m m' : Nat} {l : Nat} {P : Program} {f : FuncId} {tmps : Array Value} {assign body : Code} {w : World} {R : Ending → World → Prop} (h : RoundIn Fence.wide m P l f tmps assign body w R) : RoundIn Fence.wide m' P l f tmps assign body w R :=
  ⟨h.1, fun c cs _ => h.2 c cs (fun _ hd => by cases hd)⟩
theorem roundIn_inRound {m l' : Nat} {l : Nat} {P : Program} {f : FuncId} {tmps : Array Value} {assign body : Code} {w : World} {R : Ending → World → Prop} (h : RoundIn Fence.wide m P l f tmps assign body w R) : RoundIn (Fence.wide.inRound l') m P l f tmps assign body w R := h

/-- A value that gives the letters xs to every loop that never leaves its body. -/
def SeqO (n₀ : Nat) (w : World) (gf : Nat) (lb : Array Value) (xs : List UInt8) : Prop :=
  ∀ n, 12 ≤ n → ∀ (l B : Nat) (J : List UInt8 → World → Prop) (W : World), Below w.heap.size w W → n₀ ≤ B → B < W.heap.size → OwnFrom W.heap.size J →
    (∀ pre x W1, J pre W1 → pre ++ [x] <+: xs → YieldAt Fence.wide (n - 1) Try.prog l (encB x) W1 fun e W' => e = .returned (.bool true) ∧ J (pre ++ [x]) W' ∧ KeepR n₀ B W.heap.size W1 W') →
    J [] W →
    CallsIn Fence.wide n Try.prog gf (#[.func (.yield l) #[] #[]] ++ lb) W fun e W' => (∃ v, e = .returned v) ∧ J xs W'

theorem SeqO.later {n₀ n₁ : Nat} {w w' : World} {gf : Nat} {lb : Array Value} {xs : List UInt8} (h : SeqO n₀ w gf lb xs) (hb : Below w.heap.size w w') (hn : n₀ ≤ n₁) : SeqO n₁ w' gf lb xs :=
  fun n h8 l B J W hW hnB hB hJ hY h0 => h n h8 l B J W (hb.trans (hW.mono hb.size)) (Nat.le_trans hn hnB) hB hJ
    (fun pre x W1 hj hl => (hY pre x W1 hj hl).mono (fun _ _ ⟨a, b, c⟩ => ⟨a, b, c.1.mono hn, c.2⟩)) h0

theorem prefix_len {α : Type} {pre xs : List α} {x : α} (h : pre ++ [x] <+: xs) : pre.length < xs.length := by
  have := h.length_le; simp at this; omega
theorem prefix_mem {α : Type} {pre xs : List α} {x : α} (h : pre ++ [x] <+: xs) : x ∈ xs := h.subset (by simp)

/-- How a round's body ends: it goes on. -/
def goesOn {α : Type} (B : Nat) (Kp : Nat → World → World → Prop) (I : List α → World → Prop) (xs : List α) (W : World) : Exit → Act → World → Prop
  | .normal, _, W' => KeepsFrom B W W' ∧ Kp B W W' ∧ I xs W'
  | _, _, _ => False

/-- **The loop's law.** -/
theorem range_law {α : Type} {n : Nat} {g : Operand} {ps : Array Tmp} {assign body : Code} {Q : Exit → Act → World → Prop} {a : Act} {w : World} {gf : Nat} {lb : Array Value} (hn : 10 ≤ n)
    (hg : a.eval g = .func (.func gf) #[] lb) (eg : ∀ args w, (callFunc gf args).run Try.prog w = .ok (.enter gf args) w)
    {encs : α → Array Value} (hps : ∀ x, (encs x).size = ps.size) (Kp : Nat → World → World → Prop) (hKt : ∀ {N X Y Z}, Kp N X Y → Kp N Y Z → Kp N X Z)
    (hKp : ∀ N W l o o', l < N → w.heap.size ≤ l → W.heap[l]? = some o → o.isCells = false → o.isWalk = false → Kp N W (W.putObj l o')) (hKm : ∀ {X Y}, Kp w.heap.size X Y → Kp (w.heap.size + 2) X Y)
    {xs : List α}
    (hseq : ∀ (l : Nat) (J : List α → World → Prop) (V : World), Below w.heap.size w V → w.heap.size < V.heap.size → OwnFrom V.heap.size J →
      (∀ pre x W1, J pre W1 → pre ++ [x] <+: xs → YieldAt Fence.wide (n - 1 - 1) Try.prog l (encs x) W1 fun e W' => e = .returned (.bool true) ∧ J (pre ++ [x]) W' ∧ Kp V.heap.size W1 W') → J [] V →
      CallsIn Fence.wide (n - 1) Try.prog gf (#[.func (.yield l) #[] #[]] ++ lb) V fun e W' => (∃ v, e = .returned v) ∧ J xs W')
    (I : List α → World → Prop) (hI : OwnFrom w.heap.size I) (h0 : I [] w) (a₁ : α → Act)
    (hassign : ∀ (l : Nat) (x : α) (W : World) (K : Act → World → Prop), K (a₁ x) W →
      assign.wpIn (Fence.wide.inRound l) (n - 1 - 1) Try.prog (Exit.then K (fun _ _ _ => False)) { tmps := (ps.zip (encs x)).foldl (fun t (q, v) => t.setIfInBounds q v) a.tmps, defers := [] } W)
    (hbody : ∀ (l : Nat) (pre : List α) (x : α) (W : World), I pre W → pre ++ [x] <+: xs →
      body.wpIn (Fence.wide.inRound l) (n - 1 - 1) Try.prog (goesOn w.heap.size Kp I (pre ++ [x]) W) (a₁ x) W)
    (hdone : ∀ (D : Nat) (W : World), w.heap.size ≤ D → I xs W → W.heap[D]? = some (.deferred (some [])) → Q .normal { a with defers := { target := .collected D, args := #[] } :: a.defers } W) :
    (Code.rangeFunc g ps assign body).wpIn Fence.wide n Try.prog Q a w := by
  refine wpIn_rangeFunc fun fn hfn => ?_
  have lp : ∃ lp : LoopState → Loop, lp = fun st => { state := st, pending := none, fn, tmps := a.tmps, params := ps, assign, body, defers := w.heap.size } := ⟨_, rfl⟩
  obtain ⟨lp, hlp⟩ := lp
  have e1 := run_enterLoop_outer (P := Try.prog) (w := w) fn a.tmps ps assign body
  rw [show ({ state := .ready, pending := none, fn, tmps := a.tmps, params := ps, assign, body, defers := w.heap.size } : Loop) = lp .ready by rw [hlp]] at e1
  have kD : ((w.alloc (.deferred (some []))).alloc (.loop (lp .ready))).heap[w.heap.size]? = some (.deferred (some [])) := (Below.heap_alloc _ _ _ (by simp)).trans (World.alloc_heap_new w _)
  have kL : ((w.alloc (.deferred (some []))).alloc (.loop (lp .ready))).heap[w.heap.size + 1]? = some (.loop (lp .ready)) := by
    have := World.alloc_heap_new (w.alloc (.deferred (some []))) (.loop (lp .ready)); rwa [World.size_alloc] at this
  have i0 := hI.alloc (Obj.loop (lp .ready)) (hI.alloc (Obj.deferred (some [])) h0)
  have hs : ((w.alloc (.deferred (some []))).alloc (.loop (lp .ready))).heap.size = w.heap.size + 2 := by simp
  have hb : Below w.heap.size w ((w.alloc (.deferred (some []))).alloc (.loop (lp .ready))) := ((Below.refl _ w).alloc (Nat.le_refl _) _).alloc (by simp) _
  generalize ((w.alloc (.deferred (some []))).alloc (.loop (lp .ready))) = V at e1 kD kL i0 hs hb
  refine ⟨w.heap.size + 1, _, V, { target := .fn (.func gf) lb, args := #[.func (.yield (w.heap.size + 1)) #[] #[]] }, V, gf, #[.func (.yield (w.heap.size + 1)) #[] #[]] ++ lb, V, e1, ?_, fun f' hf' => ?_, ?_, fun _ => by omega, ?_⟩
  · simp only [resolve, hg]
    simp [go_sem]
  · trivial
  · simp [invoke, go_sem, eg]
  · refine (hseq (w.heap.size + 1) (fun pre W => I pre W ∧ W.heap[w.heap.size]? = some (.deferred (some [])) ∧ W.heap[w.heap.size + 1]? = some (.loop (lp .ready))) V hb (by omega) ?_ ?_ ⟨i0, kD, kL⟩).mono ?_
    · rintro s X Y row ⟨h1, h2, h3⟩ hgr hr
      have far : ∀ k, k < V.heap.size → k < X.heap.size → Y.heap[k]? = X.heap[k]? := fun k hk hX => hgr.block k hX (fun e => by have := (hr k e.symm).1; omega)
      exact ⟨hI s X Y row h1 hgr (fun r e => by obtain ⟨q1, q2⟩ := hr r e; exact ⟨by omega, q2⟩), (far _ (by omega) (Array.getElem?_eq_some_iff.1 h2).1).trans h2, (far _ (by omega) (Array.getElem?_eq_some_iff.1 h3).1).trans h3⟩
    · rintro pre x W ⟨h1, h2, h3⟩ hpre
      have hlt : w.heap.size + 1 < W.heap.size := (Array.getElem?_eq_some_iff.1 h3).1
      have hy := run_yield (P := Try.prog) (args := encs x) h3 (by rw [hlp]; exact hps x)
      rw [hlp] at hy
      refine ⟨fn, _, assign, body, hy, roundIn_of_wpIn hfn (hassign _ x W _ ⟨_, run_beginRound h3 (by rw [hlp]), ?_⟩)⟩
      have b3 : (W.putObj (w.heap.size + 1) (.loop { lp .ready with state := .busy })).heap[w.heap.size + 1]? = some (.loop { lp .ready with state := .busy }) := World.putObj_heap_same hlt
      have b2 : (W.putObj (w.heap.size + 1) (.loop { lp .ready with state := .busy })).heap[w.heap.size]? = some (.deferred (some [])) := (World.putObj_heap_other (by omega)).trans h2
      have b1 := hI.putObj (.loop { lp .ready with state := .busy }) h1 (by omega) h3 rfl
      have bk : Kp (w.heap.size + 2) W (W.putObj (w.heap.size + 1) (.loop { lp .ready with state := .busy })) := hKp _ W _ _ _ (by omega) (by omega) h3 rfl rfl
      generalize (W.putObj (w.heap.size + 1) (.loop { lp .ready with state := .busy })) = X at b1 b2 b3 bk
      refine wpIn_mono (hbody _ pre x X b1 hpre) ?_
      intro e a3 Y hgo
      cases e with
      | normal => ?_
      | _ => exact hgo.elim
      obtain ⟨k3, kp, hi⟩ := hgo
      have c3 := k3.same _ _ (by omega) b3 rfl
      have c2 := k3.same _ _ (Nat.le_refl _) b2 rfl
      have he := run_endRound (P := Try.prog) none c3
      refine ⟨_, _, he, rfl, ⟨hI.putObj _ hi (by omega) c3 rfl, (World.putObj_heap_other (by omega)).trans c2, ?_⟩, ?_⟩
      · rw [hlp]
        rw [hlp] at c3
        exact World.putObj_heap_same (Array.getElem?_eq_some_iff.1 c3).1
      · rw [hs]
        exact hKt (hKt bk (hKm kp)) (hKp _ Y _ _ _ (by omega) (by omega) c3 rfl rfl)
    · rintro e W ⟨⟨v, rfl⟩, h1, h2, h3⟩
      have he := run_endLoop (P := Try.prog) h3 (by rw [hlp]; simp)
      rw [show (lp .ready).pending = none by rw [hlp]] at he
      exact ⟨none, _, he, hdone _ _ (Nat.le_refl _) (hI.putObj _ h1 (by omega) h3 rfl) ((World.putObj_heap_other (by omega)).trans h2)⟩

/-- The law at an iterator over letters. -/
theorem range_letters {n : Nat} {g : Operand} {p : Tmp} {assign body : Code} {Q : Exit → Act → World → Prop} {a : Act} {w : World} {gf : Nat} {lb : Array Value} (hn : 14 ≤ n)
    (hg : a.eval g = .func (.func gf) #[] lb) (eg : ∀ args w, (callFunc gf args).run Try.prog w = .ok (.enter gf args) w)
    {n₀ B : Nat} {xs : List UInt8} (hseq : SeqO n₀ w gf lb xs) (hn₀ : n₀ ≤ w.heap.size) (hnB : n₀ ≤ B) (hB : B < w.heap.size)
    (I : List UInt8 → World → Prop) (hI : OwnFrom w.heap.size I) (h0 : I [] w) (a₁ : UInt8 → Act)
    (hassign : ∀ (l : Nat) (x : UInt8) (W : World) (K : Act → World → Prop), K (a₁ x) W →
      assign.wpIn (Fence.wide.inRound l) (n - 1 - 1) Try.prog (Exit.then K (fun _ _ _ => False)) { tmps := (#[p].zip (encB x)).foldl (fun t (q, v) => t.setIfInBounds q v) a.tmps, defers := [] } W)
    (hbody : ∀ (l : Nat) (pre : List UInt8) (x : UInt8) (W : World), I pre W → pre ++ [x] <+: xs →
      body.wpIn (Fence.wide.inRound l) (n - 1 - 1) Try.prog (goesOn w.heap.size (KeepR n₀ B) I (pre ++ [x]) W) (a₁ x) W)
    (hdone : ∀ (D : Nat) (W : World), w.heap.size ≤ D → I xs W → W.heap[D]? = some (.deferred (some [])) → Q .normal { a with defers := { target := .collected D, args := #[] } :: a.defers } W) :
    (Code.rangeFunc g #[p] assign body).wpIn Fence.wide n Try.prog Q a w :=
  range_law (by omega) hg eg (fun _ => rfl) (KeepR n₀ B) (fun h k => ⟨h.1.trans k.1, h.2.1.trans k.2.1, h.2.2.trans k.2.2⟩)
    (fun N W l o o' hl hwl hW ho hwk => ⟨belowK_b hn₀ W l o o' hwl hW ho hwk, KeepT.putObj _ hW ho, KeepsFrom.of_grownBy (grownBy_putObj' W l o') (fun j e => by cases e; exact hl)⟩)
    (fun h => ⟨h.1, h.2.1, keepsFrom_mono h.2.2 (by omega)⟩)
    (fun l J V hV hlt hJ hY h0 => hseq (n - 1) (by omega) l B J V hV hnB (by omega) hJ hY h0) I hI h0 a₁ hassign hbody hdone

end Go.Proofs.Ytbbkpaledlbcmaa

/- The iterators' contracts: over the bytes of a text, over the letters of a word, over those of its inverse. -/

namespace Go.Proofs.Ytbbkpaledlbcmaa
open Go.RowKit Go.Shelf

attribute [local go_sem] Oper.semAt_some

/-- A value that gives the letters xs, whatever the loop's body does above n₀. -/
def SeqOf (n₀ : Nat) (w : World) (gf : Nat) (lb : Array Value) (xs : List UInt8) : Prop :=
  ∀ n, 3 ≤ n → SeqStopsK Fence.wide n Try.prog gf lb encB (Below n₀) (fun ys => ys = xs) (fun pre => pre <+: xs) xs.length w

theorem SeqOf.later {n₀ n₁ : Nat} {w w' : World} {gf : Nat} {lb : Array Value} {xs : List UInt8} (h : SeqOf n₀ w gf lb xs) (hb : Below w.heap.size w w') (hn : n₀ ≤ n₁) : SeqOf n₁ w' gf lb xs :=
  fun n h3 l J Jx W hW hJ hJx hY h0 => h n h3 l J Jx W (hb.trans (hW.mono hb.size)) hJ hJx
    (fun pre x W1 hj hl => (hY pre x W1 hj hl).mono (fun _ _ hr => hr.elim (fun ⟨a, b, c⟩ => .inl ⟨a, b, c.mono hn⟩) .inr)) h0

set_option maxRecDepth 100000 in
set_option maxHeartbeats 1000000 in
/-- 'signsOf': the bytes of a text, one by one. -/
theorem signs1_in (n : Nat) (hn : 1 ≤ n) (l Bs n₀ : Nat) (s : ByteArray) (hs : s.size ≤ 1048576) (hb : Bs < n₀) (J Jx : List UInt8 → World → Prop)
    (hY : ∀ pre x W, J pre W → pre ++ [x] <+: s.data.toList → YieldAt Fence.wide (n - 1) Try.prog l (encB x) W fun e W' =>
      (e = .returned (.bool true) ∧ J (pre ++ [x]) W' ∧ Below n₀ W W') ∨ (e = .returned (.bool false) ∧ Jx (pre ++ [x]) W'))
    (W : World) (hBs : W.cell? ⟨Bs, 0, none⟩ = some (.string s)) (h0 : J [] W) :
    CallsIn Fence.wide n Try.prog 208 #[.func (.yield l) #[] #[], .pointer (some ⟨Bs, 0, none⟩)] W fun e W' => (∃ v, e = .returned v) ∧
      ((∃ ys, ys = s.data.toList ∧ J ys W') ∨ (∃ pre, pre <+: s.data.toList ∧ Jx pre W')) := by
  refine callsIn_of_wp Try.func208 rfl trivial ?_ rfl
  simp only [Try.ntmps208, List.size_toArray, List.length_cons, List.length_nil, Nat.reduceAdd, Nat.reduceSub, Array.replicate_succ, Array.replicate_zero, List.push_toArray, List.append_toArray, List.nil_append, List.cons_append]
  gi_wp2
  gi_loopw [6] (fun i wr => ∃ k : Nat, k ≤ s.size ∧ i = .int .i64 k ∧ J (s.data.toList.take k) wr ∧ Below n₀ W wr)
    (fun i _ => s.size - (intOf i).toNat)
  case atStart => exact ⟨0, Nat.zero_le _, rfl, h0, Below.refl _ _⟩
  case round =>
    obtain ⟨k, hk, rfl, hJs, hnx⟩ := hrel
    have hcx : wr.cell? ⟨Bs, 0, none⟩ = some (.string s) := (hnx.cell (p := ⟨Bs, 0, none⟩) hb).trans hBs
    by_cases hlt : k < s.size
    · have hl : k < s.data.toList.length := by simpa using hlt
      have HS : Hid (s.data.toList.take (k + 1) = s.data.toList.take k ++ [s[k]]) := take_snoc _ k hl
      obtain ⟨fn, tmps, assign, body, hy, hR⟩ := hY _ s[k] wr hJs (by rw [← HS.out]; exact List.take_prefix _ _)
      gi_wp2
      refine hR.mono ?_
      rintro e W3 (⟨rfl, hJ3, hk3⟩ | ⟨rfl, hJx3⟩)
      · gi_wp2
        go_roundw
        case rel => exact ⟨k + 1, by omega, by simp, by rw [HS.out]; exact hJ3, hnx.trans hk3⟩
        case measure => simp [intOf]; omega
      · gi_wp2
        refine bodyPost_ret (results_none rfl _ _ _) rfl ?_
        exact ⟨⟨_, rfl⟩, .inr ⟨_, by rw [← HS.out]; exact List.take_prefix _ _, hJx3⟩⟩
    · have HA : Hid (s.data.toList.take k = s.data.toList) := List.take_of_length_le (by simp; omega)
      gi_wp2
      go_end0
      exact ⟨⟨_, rfl⟩, .inl ⟨_, HA.out, hJs⟩⟩

theorem signs_seq (s : ByteArray) (hs : s.size ≤ 1048576) (w : World) (Bs n₀ : Nat) (hB : Bs < n₀) (hn₀ : n₀ ≤ w.heap.size) (hc : w.cell? ⟨Bs, 0, none⟩ = some (.string s)) :
    SeqOf n₀ w 208 #[.pointer (some ⟨Bs, 0, none⟩)] s.data.toList := fun n h3 l J Jx W hW _ _ hY h0 =>
  signs1_in n (by omega) l Bs n₀ s hs hB J Jx (fun pre x W1 hj hp => hY pre x W1 hj (prefix_len hp)) W ((hW.cell (p := ⟨Bs, 0, none⟩) (by show Bs < w.heap.size; omega)).trans hc) h0

/-- A contract with two outcomes of a round gives the one for loops that never leave. -/
theorem seqO_of {n₀ : Nat} {w : World} {gf : Nat} {lb : Array Value} {xs : List UInt8}
    (h : ∀ n, 3 ≤ n → ∀ (l : Nat) (J Jx : List UInt8 → World → Prop) (W : World), Below w.heap.size w W →
      (∀ pre x W1, J pre W1 → pre ++ [x] <+: xs → YieldAt Fence.wide (n - 1) Try.prog l (encB x) W1 fun e W' =>
        (e = .returned (.bool true) ∧ J (pre ++ [x]) W' ∧ Below n₀ W1 W') ∨ (e = .returned (.bool false) ∧ Jx (pre ++ [x]) W')) →
      J [] W → CallsIn Fence.wide n Try.prog gf (#[.func (.yield l) #[] #[]] ++ lb) W fun e W' => (∃ v, e = .returned v) ∧ ((∃ ys, ys = xs ∧ J ys W') ∨ (∃ pre, pre <+: xs ∧ Jx pre W'))) : SeqO n₀ w gf lb xs :=
  fun n h8 l B J W hW _ _ _ hY h0 => by
    refine (h n (by omega) l J (fun _ _ => False) W hW (fun pre x W1 hj hl => (hY pre x W1 hj hl).mono (fun _ _ ⟨a, b, c⟩ => .inl ⟨a, b, c.1⟩)) h0).mono ?_
    rintro e W' ⟨hv, ⟨ys, rfl, hJ'⟩ | ⟨_, _, hf⟩⟩
    · exact ⟨hv, hJ'⟩
    · exact hf.elim

theorem signs_seqO (s : ByteArray) (hs : s.size ≤ 1048576) (w : World) (Bs n₀ : Nat) (hB : Bs < n₀) (hn₀ : n₀ ≤ w.heap.size) (hc : w.cell? ⟨Bs, 0, none⟩ = some (.string s)) :
    SeqO n₀ w 208 #[.pointer (some ⟨Bs, 0, none⟩)] s.data.toList :=
  seqO_of fun n h3 l J Jx W hW hY h0 => signs1_in n (by omega) l Bs n₀ s hs hB J Jx hY W ((hW.cell (p := ⟨Bs, 0, none⟩) (by show Bs < w.heap.size; omega)).trans hc) h0

end Go.Proofs.Ytbbkpaledlbcmaa

/- The contract of the program's 'reduced': the letters of all parts, one part behind the other, reduced. -/

namespace Go.Proofs.Ytbbkpaledlbcmaa
open Go.RowKit Go.Shelf

attribute [local go_sem] Oper.semAt_some

structure Part where
  gf : Nat
  lb : Array Value
  xs : List UInt8

def cat (ps : List Part) : List UInt8 := (ps.map Part.xs).flatten
theorem cat_take_succ (ps : List Part) (k : Nat) (h : k < ps.length) : cat (ps.take (k + 1)) = cat (ps.take k) ++ ps[k].xs := by
  unfold cat; rw [List.take_succ_eq_append_getElem h]; simp only [List.map_append, List.flatten_append, List.map_cons, List.map_nil, List.flatten_cons, List.flatten_nil, List.append_nil]

/-- The marks that loops over iterators leave among the deferred calls. -/
def mk (D : Nat) : Deferred := { target := .collected D, args := #[] }
def Marked (base : Nat) (Ds : List Nat) (W : World) : Prop := Ds.Nodup ∧ ∀ D ∈ Ds, base ≤ D ∧ W.heap[D]? = some (.deferred (some []))

theorem leaves_marks {F : Fence} {n : Nat} {P : Program} {fn : Func} {tmps : Array Value} {R : Ending → World → Prop} {base : Nat} (Q : World → Prop)
    (hQ : ∀ W D o', Q W → base ≤ D → W.heap[D]? = some (.deferred (some [])) → Q (W.putObj D o')) (hend : ∀ W, Q W → LeavesIn F n P fn tmps R [] .returning W) :
    ∀ (Ds : List Nat) (W : World), Q W → Marked base Ds W → LeavesInM F n P fn tmps R (Ds.map mk) .returning W
  | [], W, hq, _ => hend W hq
  | D :: Ds, W, hq, hm => by
    obtain ⟨hnd, hall⟩ := hm
    obtain ⟨hb, hK⟩ := hall D (by simp)
    rw [List.nodup_cons] at hnd
    refine ⟨by simp, .inl ⟨D, _, rfl, run_takeDeferred hK, leaves_marks Q hQ hend Ds _ (hQ _ _ _ hq hb hK) ⟨hnd.2, fun E hE => ?_⟩⟩⟩
    obtain ⟨h1, h2⟩ := hall E (by simp [hE])
    exact ⟨h1, (World.putObj_heap_other (fun e => hnd.1 (by rw [← e]; exact hE))).trans h2⟩

/-- The box B holds a slice that owns the letters L. -/
def Hold (base B : Nat) (L : List UInt8) (W : World) : Prop :=
  ∃ v, Boxed W B 122 v ∧ W.ownsRow base 153 1 v L.length (bytesV L) ∧ ∃ g cap, v = .slice (some ⟨g, 0, none⟩) L.length cap

theorem Hold.own (base B : Nat) (f : List UInt8 → List UInt8) : Own (fun pre W => Hold base B (f pre) W) :=
  holdsRow_own base B _ _ 1 (fun pre => (f pre).length) (fun pre => bytesV (f pre)) (fun pre v => ∃ g cap, v = .slice (some ⟨g, 0, none⟩) (f pre).length cap)

theorem Hold.putObj {base B : Nat} {L : List UInt8} {W : World} (h : Hold base B L W) {D : Nat} {o : Obj} (o' : Obj) (hD : W.heap[D]? = some o) (ho : o.isCells = false) : Hold base B L (W.putObj D o') :=
  (Hold.own base B id) L W _ (some D) h (grownBy_putObj' W D o') (fun r e => by cases e; exact ⟨o, hD, ho⟩)

theorem Hold.step {base B : Nat} {W w1 : World} {g m cap g' m' cap' : Nat} {xs ys : List Value} (hv : Boxed W B 122 (.slice (some ⟨g, 0, none⟩) m cap)) (hrow : W.ownsRow base 153 1 (.slice (some ⟨g, 0, none⟩) m cap) m xs)
    (hn₀ : base ≤ W.heap.size) (hB : base ≤ B) (hown' : w1.ownsRow base 153 1 (.slice (some ⟨g', 0, none⟩) m' cap') m' ys) (hgrow : W.grownBy w1 (some g)) :
    Boxed w1 B 122 (.slice (some ⟨g, 0, none⟩) m cap) ∧ Boxed (w1.setCell ⟨B, 0, none⟩ (.slice (some ⟨g', 0, none⟩) m' cap')) B 122 (.slice (some ⟨g', 0, none⟩) m' cap') ∧
    (w1.setCell ⟨B, 0, none⟩ (.slice (some ⟨g', 0, none⟩) m' cap')).ownsRow base 153 1 (.slice (some ⟨g', 0, none⟩) m' cap') m' ys ∧
    KeepsOthers W (w1.setCell ⟨B, 0, none⟩ (.slice (some ⟨g', 0, none⟩) m' cap')) ∧ Below base W (w1.setCell ⟨B, 0, none⟩ (.slice (some ⟨g', 0, none⟩) m' cap')) ∧
    KeepT B W (w1.setCell ⟨B, 0, none⟩ (.slice (some ⟨g', 0, none⟩) m' cap')) := by
  have hv1 : Boxed w1 B 122 (.slice (some ⟨g, 0, none⟩) m cap) := hv.kept hgrow (hv.not_row (by decide) hrow)
  refine ⟨hv1, hv1.set _, hown'.kept (grownBy_setCell' w1 B _) (.inr (hv1.not_row (by decide) hown').symm), ?_, ?_, ?_⟩
  · refine (KeepsOthers.of_grownBy hgrow fun j o ej hj => ?_).trans (KeepsOthers.setCell _ _ _)
    rcases hrow.2 with ⟨h, _⟩ | ⟨g1, cap1, cur, h, _, hgb, _⟩
    · cases h
    · cases h; cases ej
      rw [hgb] at hj; cases hj; rfl
  · refine ((Below.refl base W).grown hgrow hn₀ fun j ej => ?_).setCell (p := ⟨B, 0, none⟩) hB _
    cases ej; exact (ownsRow_cap hrow).2.2.1
  · intro k cs t r hk ht hkB
    rw [Below.heap_setCell _ _ _ k hkB, hgrow.block k (Array.getElem?_eq_some_iff.1 hk).1 (fun e => ?_), hk]
    cases e
    rcases hrow.2 with ⟨h, _⟩ | ⟨g1, cap1, cur, h, _, hgb, _⟩
    · cases h
    · cases h
      rw [hgb] at hk; cases hk; exact ht rfl

set_option maxRecDepth 100000 in
set_option maxHeartbeats 1000000 in
theorem reduced_in (n : Nat) (hn : 20 ≤ n) (a : Option Addr) (b off cap : Nat) (ps : List Part) (w : World) (ha : 0 < ps.length → a = some ⟨b, off, none⟩) (hb : b < w.heap.size)
    (hc : ∀ i (h : i < ps.length), w.cell? ⟨b, off + i, none⟩ = some (.func (.func ps[i].gf) #[] ps[i].lb))
    (hs : ∀ p ∈ ps, SeqO w.heap.size w p.gf p.lb p.xs ∧ ∀ args w, (callFunc p.gf args).run Try.prog w = .ok (.enter p.gf args) w)
    (hl : (cat ps).length ≤ 100000000) (hps : ps.length ≤ 1000000) :
    CallsIn Fence.wide n Try.prog 148 #[.slice a ps.length cap] w fun e w' =>
      ∃ g m cap', e = .returned (.slice (some ⟨g, 0, none⟩) m cap') ∧ (redX [] (cat ps)).length = m ∧ w'.ownsRow w.heap.size 153 1 (.slice (some ⟨g, 0, none⟩) m cap') m (bytesV (redX [] (cat ps))) ∧ Below w.heap.size w w' := by
  refine callsIn_of_wp_marks Try.func148 rfl trivial ?_ rfl
  simp only [Try.ntmps148, List.size_toArray, List.length_cons, List.length_nil, Nat.reduceAdd, Nat.reduceSub, Array.replicate_succ, Array.replicate_zero, List.push_toArray, List.append_toArray, List.nil_append, List.cons_append]
  have HC := Lib.hid hc
  have HS := Lib.hid hs
  have HA := Lib.hid ha
  clear hc hs ha
  gi_wp2
  refine wpIn_loop (fun a' W => ∃ (k : Nat) (u5 u6 u11 u12 u13 u14 u15 u16 u17 u18 u19 u20 : Value) (Ds : List Nat),
      a' = { tmps := #[.slice a ps.length cap, undef, .slice none 0 0, .pointer (some ⟨w.heap.size + 1, 0, none⟩), undef, u5, u6, .slice (some ⟨w.heap.size, 0, none⟩) 0 0, .slice a ps.length cap, .int .i64 ps.length, .int .i64 k, u11, u12, u13, u14, u15, u16, u17, u18, u19, u20], defers := Ds.map mk }
      ∧ k ≤ ps.length ∧ Marked w.heap.size Ds W ∧ Hold w.heap.size (w.heap.size + 1) (redX [] (cat (ps.take k))) W ∧ Below w.heap.size w W)
    (fun a' _ => ps.length - (intOf (a'.tmps.getD 10 undef)).toNat) ?start ?round
  case start =>
    refine ⟨0, _, _, _, _, _, _, _, _, _, _, _, _, [], rfl, Nat.zero_le _, ⟨List.nodup_nil, fun D h => by cases h⟩, ?_, ((Below.refl _ w).alloc (Nat.le_refl _) _).alloc (by simp) _⟩
    have hbx := Boxed.new (w.alloc (.cells #[] 153)) 122 (.slice (some ⟨w.heap.size, 0, none⟩) 0 0)
    rw [World.size_alloc] at hbx
    exact ⟨_, hbx, (World.ownsRow_made w #[] 0 (Nat.le_refl _) (Nat.zero_le _) rfl).alloc _, _, _, rfl⟩
  case round =>
    rintro a' wr ⟨k, u5, u6, u11, u12, u13, u14, u15, u16, u17, u18, u19, u20, Ds, rfl, hk, hM, hH, hB⟩
    by_cases hlt : k < ps.length
    · obtain ⟨hseq, hent⟩ := HS.out ps[k] (List.getElem_mem hlt)
      obtain rfl := HA.out (by omega)
      have hck := HC.out k hlt
      have hck' : wr.cell? ⟨b, off + k, none⟩ = some (.func (.func ps[k].gf) #[] ps[k].lb) := (hB.cell (p := ⟨b, off + k, none⟩) hb).trans hck
      clear hck
      have HE := Lib.hid hent
      clear hent
      have hHk := hH
      have hcat := cat_take_succ ps k hlt
      have hlen0 : (cat (ps.take k)).length + ps[k].xs.length ≤ 100000000 := by
        have h1 : (cat (ps.take (k + 1))).length ≤ (cat ps).length := by
          have : cat ps = cat (ps.take (k + 1)) ++ cat (ps.drop (k + 1)) := by
            unfold cat; rw [← List.flatten_append, ← List.map_append, List.take_append_drop]
          rw [this]; simp
        rw [hcat, List.length_append] at h1; omega
      have HCat := Lib.hid hcat
      clear hcat
      have hML : ∀ D ∈ Ds, D < wr.heap.size := fun D hD => (Array.getElem?_eq_some_iff.1 (hM.2 D hD).2).1
      have HML := Lib.hid hML
      have HM := Lib.hid hM
      clear hML hM hH
      gi_wp2
      refine range_letters (by omega) (gf := ps[k].gf) (lb := ps[k].lb) rfl HE.out
        (hseq.later hB (Nat.le_refl _)) hB.size (B := w.heap.size + 1) (by omega) (by obtain ⟨v, h1, _⟩ := hHk; exact h1.lt)
        (fun pre W => Hold w.heap.size (w.heap.size + 1) (redX (redX [] (cat (ps.take k))) pre) W ∧ Marked w.heap.size Ds W ∧ Below w.heap.size w W)
        (OwnFrom.and (Own.from (Hold.own w.heap.size (w.heap.size + 1) (redX (redX [] (cat (ps.take k))))) _)
          (OwnFrom.and (fun s W W' row hs hg hr => ⟨hs.1, fun D hD => ⟨(hs.2 D hD).1, (hg.block D (Array.getElem?_eq_some_iff.1 (hs.2 D hD).2).1 (fun e => by have := (hr D e.symm).1; have := HML.out D hD; omega)).trans (hs.2 D hD).2⟩⟩)
            (ownFrom_below (Nat.le_refl _) hB.size)))
        ⟨hHk, HM.out, hB⟩
        (fun x => { tmps := #[.slice (some ⟨b, off, none⟩) ps.length cap, undef, .slice none 0 0, .pointer (some ⟨w.heap.size + 1, 0, none⟩), undef, .func (.func ps[k].gf) #[] ps[k].lb, .int .u8 (x.toNat : Int), .slice (some ⟨w.heap.size, 0, none⟩) 0 0, .slice (some ⟨b, off, none⟩) ps.length cap, .int .i64 ps.length, .int .i64 k, .bool true, .pointer (some ⟨b, off + k, none⟩), .func (.func ps[k].gf) #[] ps[k].lb, .func (.func ps[k].gf) #[] ps[k].lb, .int .u8 (x.toNat : Int), u16, u17, u18, u19, u20], defers := [] }) ?assign ?body ?done
      case assign =>
        intro l x W K hK
        gi_wp2
        exact hK
      case body =>
        rintro l pre x W ⟨⟨v, hbx, hrow, g, cap', rfl⟩, hM', hB'⟩ hpre
        have hlen := prefix_len hpre
        clear hpre
        have hcell := hbx.cell
        have hL : (redX (redX [] (cat (ps.take k))) pre).length ≤ 100000000 := by
          have h1 := redX_len pre (redX [] (cat (ps.take k)))
          have h2 := redX_len (cat (ps.take k)) []
          simp at h2
          omega
        have HL := Lib.hid hL
        have hrow0 := Lib.hid hrow
        have hbx0 := Lib.hid hbx
        have HM' := Lib.hid hM'
        clear hL hM' hbx
        gi_wp2_with fail
        refine ⟨trivial, fun _ => by omega, ?_⟩
        have hbs : w.heap.size ≤ W.heap.size := hB'.size
        refine (CallsIn.inRound l (callsIn_wide.2 (with_any _ _ _ w.heap.size _ x _ rfl (by have := HL.out; omega) hbs hrow0.out))).mono ?_
        rintro e w1 ⟨g', n', cap'', rfl, hl', hown', hgrow⟩
        obtain ⟨b1, b2, b3, b4, b5, b6⟩ := Hold.step hbx0.out hrow0.out hbs (by omega) hown' hgrow
        have hc1 := b1.cell
        have hf1 := b1.frozen
        gi_wp2
        refine ⟨b4.from _, ⟨b5, b6, b4.from _⟩, ⟨?_, ⟨HM'.out.1, fun D hD => ⟨(HM'.out.2 D hD).1, b4.same D _ (HM'.out.2 D hD).2 rfl⟩⟩, hB'.trans b5⟩⟩
        obtain rfl := hl'
        rw [redX_snoc]
        exact ⟨_, b2, b3, g', cap'', rfl⟩
      case done =>
        rintro D W hD ⟨hHo, hM', hB'⟩ hK
        have hM2 : Marked w.heap.size (D :: Ds) W := ⟨List.nodup_cons.2 ⟨fun h => by have := HML.out D h; omega, hM'.1⟩, fun E hE => by
          rcases List.mem_cons.1 hE with rfl | hE
          · exact ⟨Nat.le_trans hB.size hD, hK⟩
          · exact hM'.2 E hE⟩
        have HM2 := Lib.hid hM2
        clear hM' hM2 hK
        have hHo' : Hold w.heap.size (w.heap.size + 1) (redX [] (cat (ps.take (k + 1)))) W := by
          rw [HCat.out, redX_append]; exact hHo
        clear hHo
        gi_wp2
        refine ⟨⟨k + 1, _, _, _, _, _, _, _, _, _, _, _, _, D :: Ds, rfl, by omega, HM2.out, hHo', hB'⟩, ?_⟩
        simp [intOf]
        omega
    · obtain rfl : k = ps.length := by omega
      rw [List.take_of_length_le (Nat.le_refl _)] at hH
      have hH0 := Lib.hid hH
      have HM := Lib.hid hM
      obtain ⟨v, hbx, hrow, g, cap', rfl⟩ := hH
      have hcell := hbx.cell
      clear hrow hbx hM
      gi_wp2
      refine leaves_marks (base := w.heap.size) (fun W => W.ownsRow w.heap.size 153 1 (.slice (some ⟨g, 0, none⟩) (redX [] (cat ps)).length cap') (redX [] (cat ps)).length (bytesV (redX [] (cat ps))) ∧ Below w.heap.size w W) ?_ ?_ Ds wr ?_ HM.out
      · rintro W D o' ⟨q1, q2⟩ hD hK
        exact ⟨ownsRow_putObj q1 o' hK rfl, q2.trans (belowK_b (w := w) (Nat.le_refl _) W D _ _ hD hK rfl rfl)⟩
      · rintro W ⟨q1, q2⟩
        exact ⟨_, results_tmp rfl _ _ _, g, _, cap', rfl, rfl, q1, q2⟩
      · obtain ⟨v, h1, h2, g2, cap2, rfl⟩ := hH0.out
        have := h1.cell
        rw [hcell] at this
        cases this
        exact ⟨h2, hB⟩

end Go.Proofs.Ytbbkpaledlbcmaa

/- The contracts of the program's 'text', 'told', 'reduceText' and 'wordOf'. -/

namespace Go.Proofs.Ytbbkpaledlbcmaa
open Go.RowKit Go.Shelf

attribute [local go_sem] Oper.semAt_some

/-- The cells from an address on are the letters l. -/
def Letters (g off : Nat) (l : List UInt8) (w : World) : Prop := g < w.heap.size ∧ ∀ j (h : j < l.length), w.cell? ⟨g, off + j, none⟩ = some (.int .u8 (l[j].toNat : Int))

theorem letters_of_owns {base g cap n : Nat} {e : TypeId} {l : List UInt8} {w : World} (hown : w.ownsRow base e 1 (.slice (some ⟨g, 0, none⟩) n cap) n (bytesV l)) : Letters g 0 l w :=
  ⟨(ownsRow_cap hown).2.2.2, fun j h => by
    have := hown.cells rfl j (.int .u8 (l[j].toNat : Int)) (by simp [bytesV, h])
    rw [show (⟨g, 0 + j, none⟩ : Addr) = (⟨g, 0, none⟩ : Addr).add j by simp [Addr.add]]
    exact this⟩
theorem Letters.below {g off : Nat} {l : List UInt8} {w w' : World} (h : Letters g off l w) (hb : Below w.heap.size w w') : Letters g off l w' :=
  ⟨Nat.lt_of_lt_of_le h.1 hb.size, fun j hj => (hb.cell (p := ⟨g, off + j, none⟩) h.1).trans (h.2 j hj)⟩

set_option maxRecDepth 100000 in
set_option maxHeartbeats 1000000 in
theorem text_letters (g off cap n : Nat) (l : List UInt8) (w : World) (hl : l.length = n) (hn : n ≤ 60) (hlet : Letters g off l w) :
    Calls Try.prog 206 #[.slice (some ⟨g, off, none⟩) n cap] w fun e w' => e = .returned (.string (bstr l)) ∧ Below w.heap.size w w' := by
  obtain ⟨hgs, hcells⟩ := hlet
  have HCe := Lib.hid hcells
  clear hcells
  obtain ⟨i0, hi, hz0, hz1, hz2⟩ := info_parts infoU8
  go_enter Try.func206, Try.ntmps206
  go_wp2_with (at_make; refine wpList_make_full _ rfl _ _ 22 rfl w.heap.size 5 i0 (.int .u8 0) 1 Try.underlying22 hi hz0 hz1 .i64 .i64 _ _ n rfl rfl rfl rfl (by rw [hz2]; omega) (by unfold maxLen; omega) (Nat.le_refl _) ?_; intro w1 hrow hgrow)
  rw [show (madeCells (Value.cells (.int .u8 0)) (n * 1)).toList = bytesV (l.take 0 ++ List.replicate (n - 0) 0) by
    rw [show Value.cells (.int .u8 0) = #[.int .u8 0] from rfl, toList_madeCells_one]; simp [bytesV]] at hrow
  go_loopw [11] (fun i wr => ∃ k : Nat, k ≤ n ∧ i = .int .i64 k ∧ wr.ownsRow w.heap.size 5 1 (.slice (some ⟨w.heap.size, 0, none⟩) n n) n (bytesV (l.take k ++ List.replicate (n - k) 0)) ∧ Below w.heap.size w wr)
    (fun i _ => n - (intOf i).toNat)
  case atStart => exact ⟨0, Nat.zero_le _, rfl, hrow, (Below.refl _ _).grown hgrow (Nat.le_refl _) (fun k e => by cases e)⟩
  case round =>
    obtain ⟨k, hk, rfl, hr, hB⟩ := hrel
    by_cases hlt : k < n
    · have hsrc : wr.cell? ⟨g, off + k, none⟩ = some (.int .u8 ((l[k]'(by omega)).toNat : Int)) := (hB.cell (p := ⟨g, off + k, none⟩) hgs).trans (HCe.out k (by omega))
      have hfil := fill_set l n k hl hlt
      have hlen : (l.take k ++ List.replicate (n - k) (0 : UInt8)).length = n := by simp; omega
      have hdst : wr.cell? ⟨w.heap.size, k, none⟩ = some (.int .u8 0) := by
        rw [hr.cellAt k (by omega)]
        simp only [bytesV, List.getElem?_map]
        rw [List.getElem?_append_right (by simp; omega), List.getElem?_replicate]
        simp
        omega
      have hfr := hr.frozenAt k
      have HR := Lib.hid hr
      have HF := Lib.hid hfil
      clear hr hfil hlen
      go_wp2
      go_roundw
      case rel =>
        have hst := HR.out.stored k (.int .u8 ((l[k]'(by omega)).toNat : Int))
        refine ⟨k + 1, by omega, by go_num, ?_, hB.setCell (p := ⟨w.heap.size, k, none⟩) (Nat.le_refl _) _⟩
        rw [← HF.out, ← bytesV_set]
        exact hst.1
      case measure => simp [intOf]; omega
    · obtain rfl : k = n := by omega
      have hconv : (convert 22 9 (.slice (some ⟨w.heap.size, 0, none⟩) k k)).run Try.prog wr = .ok (.string (bstr l)) wr := by
        have := run_convert_bytes_back (P := Try.prog) wr 22 9 5 ⟨w.heap.size, 0, none⟩ k l Try.underlying22 Try.underlying5 Try.underlying9 (fun j hj => hr.cells rfl j _ (by
          have : l.take k = l := List.take_of_length_le (by omega)
          rw [this]; simp [bytesV, hj]))
        rw [hl] at this
        exact this
      clear hr
      go_wp2
      go_ret
      exact ⟨rfl, hB⟩

set_option maxRecDepth 100000 in
set_option maxHeartbeats 1000000 in
theorem told_letters (g off cap n : Nat) (l : List UInt8) (w : World) (hl : l.length = n) (hn : n ≤ 60) (hlet : Letters g off l w) :
    Calls Try.prog 255 #[.slice (some ⟨g, off, none⟩) n cap] w fun e w' => e = .returned (.tuple #[.string (bstr l), .bool true]) ∧ Below w.heap.size w w' := by
  have HT := Lib.hid (text_letters g off cap n l w hl hn hlet)
  clear hl hlet
  go_enter Try.func255, Try.ntmps255
  go_wp2_with fail
  refine HT.out.mono ?_
  rintro e w1 ⟨rfl, hb⟩
  go_wp2
  go_ret2
  exact ⟨rfl, hb⟩

theorem told_yes (base g cap n : Nat) (l : List UInt8) (w : World) (hl : l.length = n) (hn : n ≤ 60)
    (hown : w.ownsRow base 153 1 (.slice (some ⟨g, 0, none⟩) n cap) n (bytesV l)) :
    Calls Try.prog 255 #[.slice (some ⟨g, 0, none⟩) n cap] w fun e w' => e = .returned (.tuple #[.string (bstr l), .bool true]) ∧ Below w.heap.size w w' :=
  told_letters g 0 cap n l w hl hn (letters_of_owns hown)

set_option maxRecDepth 100000 in
set_option maxHeartbeats 1000000 in
theorem told_no (a : Option Addr) (cap n : Nat) (w : World) (hn : 60 < n) (hm : n ≤ maxLen) :
    Calls Try.prog 255 #[.slice a n cap] w fun e w' => e = .returned (.tuple #[.string ByteArray.empty, .bool false]) ∧ w = w' := by
  unfold maxLen at hm
  go_enter Try.func255, Try.ntmps255
  go_wp2
  go_ret2
  exact ⟨rfl, rfl⟩

set_option maxRecDepth 100000 in
set_option maxHeartbeats 1000000 in
theorem reduceText_in (n : Nat) (hn : 30 ≤ n) (s : ByteArray) (w : World) (hs : s.size ≤ 1048576) :
    CallsIn Fence.wide n Try.prog 170 #[.string s] w fun e w' =>
      ((letL s.data.toList = false ∧ e = .returned (.tuple #[.slice none 0 0, .bool false])) ∨
       (letL s.data.toList = true ∧ ∃ g m cap, e = .returned (.tuple #[.slice (some ⟨g, 0, none⟩) m cap, .bool true]) ∧ (redL [] s.data.toList).length = m ∧
          w'.ownsRow w.heap.size 153 1 (.slice (some ⟨g, 0, none⟩) m cap) m (bytesV (redL [] s.data.toList)))) ∧ Below w.heap.size w w' := by
  refine callsIn_of_wp_marks Try.func170 rfl trivial ?_ rfl
  simp only [Try.ntmps170, List.size_toArray, List.length_cons, List.length_nil, Nat.reduceAdd, Nat.reduceSub, Array.replicate_succ, Array.replicate_zero, List.push_toArray, List.append_toArray, List.nil_append, List.cons_append]
  gi_wp2_with fail
  refine ⟨trivial, fun _ => by omega, ?_⟩
  refine (callsIn_wide.2 (signsOf_any s _)).mono ?_
  rintro e w1 ⟨rfl, rfl⟩
  have b0 := ((Boxed.new w 122 (.slice none 0 0)).alloc (.cells #[.bool false] 4)).alloc (.cells #[.string s] 9)
  have b1 := (Boxed.new (w.alloc (.cells #[.slice none 0 0] 122)) 4 (.bool false)).alloc (.cells #[.string s] 9)
  rw [World.size_alloc] at b1
  have b2 := Boxed.new ((w.alloc (.cells #[.slice none 0 0] 122)).alloc (.cells #[.bool false] 4)) 9 (.string s)
  rw [World.size_alloc, World.size_alloc] at b2
  have hB0 : Below w.heap.size w (((w.alloc (.cells #[.slice none 0 0] 122)).alloc (.cells #[.bool false] 4)).alloc (.cells #[.string s] 9)) := (((Below.refl _ w).alloc (Nat.le_refl _) _).alloc (by simp) _).alloc (by simp; omega) _
  have hsz : (((w.alloc (.cells #[.slice none 0 0] 122)).alloc (.cells #[.bool false] 4)).alloc (.cells #[.string s] 9)).heap.size = w.heap.size + 3 := by simp
  obtain ⟨W0, hW0⟩ : ∃ W0, (((w.alloc (.cells #[.slice none 0 0] 122)).alloc (.cells #[.bool false] 4)).alloc (.cells #[.string s] 9)) = W0 := ⟨_, rfl⟩
  simp only [World.size_alloc]
  rw [hW0] at b0 b1 b2 hB0 hsz ⊢
  clear hW0
  gi_wp2
  refine wpIn_rangeFunc_ownG rfl (by omega) (gf := 208) (lb := #[.pointer (some ⟨w.heap.size + 1 + 1, 0, none⟩)]) rfl trivial (enters_of Try.func208 (by kernel_rfl) rfl)
    (signs_seq s hs W0 (w.heap.size + 1 + 1) W0.heap.size (by omega) (Nat.le_refl _) b2.cell (n - 1) (by omega)) belowK_t (belowK_b (Nat.le_refl _)) (Below.refl _ _) (fun _ => rfl)
    (fun pre W => (Boxed W w.heap.size 122 (.slice none 0 0) ∧ Boxed W (w.heap.size + 1) 4 (.bool false)) ∧ letL pre = true ∧ Below W0.heap.size W0 W)
    (fun c pre W => ((c = .ret ∧ letL pre = false) ∧ Boxed W w.heap.size 122 (.slice none 0 0) ∧ Boxed W (w.heap.size + 1) 4 (.bool false)) ∧ Below w.heap.size w W)
    (OwnFrom.and (Own.from (fun s A B row hs hg hr => ⟨boxed_own w.heap.size _ (fun _ : Unit => .slice none 0 0) () A B row hs.1 hg hr, boxed_own (w.heap.size + 1) _ (fun _ : Unit => .bool false) () A B row hs.2 hg hr⟩) _) (OwnFrom.and (ownFrom_pure _ _) (ownFrom_below (Nat.le_refl _) (Nat.le_refl _))))
    (fun c => OwnFrom.and (Own.from (fun s A B row hs hg hr => ⟨hs.1, boxed_own w.heap.size _ (fun _ : Unit => .slice none 0 0) () A B row hs.2.1 hg hr, boxed_own (w.heap.size + 1) _ (fun _ : Unit => .bool false) () A B row hs.2.2 hg hr⟩) _) (ownFrom_below (Nat.le_refl _) (by omega)))
    ⟨⟨b0, b1⟩, rfl, Below.refl _ _⟩
    (fun x => { tmps := #[.string s, undef, .pointer (some ⟨w.heap.size, 0, none⟩), .pointer (some ⟨w.heap.size + 1, 0, none⟩), .int .u8 (x.toNat : Int), .string s, .func (.func 208) #[] #[.pointer (some ⟨w.heap.size + 1 + 1, 0, none⟩)], .int .u8 (x.toNat : Int), undef, undef, undef, undef, undef, undef, undef], defers := [] }) ?assign ?body ?done ?stop
  case assign =>
    intro l x W K hK
    gi_wp2
    exact hK
  case body =>
    rintro l pre x W ⟨⟨c0, c1⟩, hl, hB⟩ hlen
    have d0 := c0.cell
    have d1 := c1.cell
    have f0 := c0.frozen
    have f1 := c1.frozen
    have C0 := Lib.hid c0
    have C1 := Lib.hid c1
    have HL := Lib.hid hl
    clear c0 c1 hl
    cases hx : letB x with
    | true =>
      have HX := Lib.hid hx
      clear hx
      gi_wp2_with fail
      refine ⟨trivial, fun _ => by omega, ?_⟩
      refine (CallsIn.inRound l (callsIn_wide.2 (known_is x true W HX.out))).mono ?_
      rintro e w1 ⟨rfl, rfl⟩
      gi_wp2
      exact ⟨KeepsFrom.refl _ _, Below.refl _ _, ⟨C0.out, C1.out⟩, by rw [letL_append, HL.out]; simp [letL, HX.out], hB⟩
    | false =>
      have HX := Lib.hid hx
      clear hx
      gi_wp2_with fail
      refine ⟨trivial, fun _ => by omega, ?_⟩
      refine (CallsIn.inRound l (callsIn_wide.2 (known_is x false W HX.out))).mono ?_
      rintro e w1 ⟨rfl, rfl⟩
      gi_wp2
      have hB1 : Below w.heap.size w w1 := hB0.trans (hB.mono (by omega))
      exact ⟨((KeepsOthers.setCell _ _ _).trans (KeepsOthers.setCell _ _ _)).from _, ⟨⟨rfl, by rw [letL_append]; simp [letL, HX.out]⟩, (C0.out.set _).other (by omega) _, (C1.out.other (by omega) _).set _⟩, (hB1.setCell (p := ⟨w.heap.size, 0, none⟩) (Nat.le_refl _) _).setCell (p := ⟨w.heap.size + 1, 0, none⟩) (by show w.heap.size ≤ w.heap.size + 1; omega) _⟩
  case done =>
    rintro D ys W hD rfl ⟨⟨c0, c1⟩, hl, hB⟩ hK
    gi_wp2_with fail
    refine ⟨trivial, fun _ => by omega, ?_⟩
    refine (callsIn_wide.2 (signsOf_any s _)).mono ?_
    rintro e w1 ⟨rfl, rfl⟩
    have hBW : Below w.heap.size w W := hB0.trans (hB.mono (by omega))
    have hbs := Boxed.new W 9 (.string s)
    have hWs : W0.heap.size ≤ W.heap.size := hB.size
    have hDlt : D < W.heap.size := (Array.getElem?_eq_some_iff.1 hK).1
    have b0W := Lib.hid c0
    have b1W := Lib.hid c1
    have HK := Lib.hid hK
    have HL := Lib.hid hl
    clear c0 c1 hK hl
    gi_wp2_with fail
    refine ⟨trivial, fun _ => by omega, ?_⟩
    have hrd := reduced_in (n - 1) (by omega) (some ⟨W.heap.size + 1, 0, none⟩) (W.heap.size + 1) 0 1 [⟨208, #[.pointer (some ⟨W.heap.size, 0, none⟩)], s.data.toList⟩]
      ((W.alloc (.cells #[.string s] 9)).alloc (.cells #[.func (.func 208) #[] #[.pointer (some ⟨W.heap.size, 0, none⟩)]] 149)) (fun _ => rfl) (by simp)
      (fun i h => by
        obtain rfl : i = 0 := by simpa using h
        exact (World.cell?_alloc_at _ _ _ _ (by simp)).trans rfl)
      (fun p hp => by
        obtain rfl := List.mem_singleton.1 hp
        exact ⟨signs_seqO s hs _ W.heap.size _ (by simp; omega) (Nat.le_refl _) (hbs.alloc _).cell, enters_of Try.func208 (by kernel_rfl) rfl⟩)
      (by simp [cat]; omega) (by simp)
    refine hrd.mono ?_
    clear hrd
    rintro e w4 ⟨g, m, cap', rfl, hm, hown, hb4⟩
    simp only [cat, List.map_cons, List.map_nil, List.flatten_cons, List.flatten_nil, List.append_nil] at hm hown
    rw [redX_eq _ _ HL.out] at hm hown
    have hWb : Below W.heap.size W w4 := (((Below.refl _ W).alloc (Nat.le_refl _) _).alloc (by simp) _).trans (hb4.mono (by simp; omega))
    have c0 : Boxed w4 w.heap.size 122 (.slice none 0 0) := (hWb.block _ (by omega)).trans b0W.out
    have c1 : Boxed w4 (w.heap.size + 1) 4 (.bool false) := (hWb.block _ (by omega)).trans b1W.out
    have hK4 : w4.heap[D]? = some (.deferred (some [])) := (hWb.block _ hDlt).trans HK.out
    have hgs := (ownsRow_cap hown).2.2.1
    simp only [World.size_alloc] at hgs
    have d0 := c0.cell
    have d1 := c1.cell
    have f0 := c0.frozen
    have f1 := c1.frozen
    have C0 := Lib.hid c0
    have C1 := Lib.hid c1
    have HK4 := Lib.hid hK4
    have Hm := Lib.hid hm
    have HO := Lib.hid hown
    clear c0 c1 hK4 hm hown hb4 hbs
    gi_wp2
    obtain ⟨W5, hW5⟩ : ∃ W5, (w4.setCell ⟨w.heap.size, 0, none⟩ (.slice (some ⟨g, 0, none⟩) m cap')).setCell ⟨w.heap.size + 1, 0, none⟩ (.bool true) = W5 := ⟨_, rfl⟩
    have e0 : Boxed W5 w.heap.size 122 (.slice (some ⟨g, 0, none⟩) m cap') := by rw [← hW5]; exact (C0.out.set _).other (by omega) _
    have e1 : Boxed W5 (w.heap.size + 1) 4 (.bool true) := by rw [← hW5]; exact (C1.out.other (by omega) _).set _
    have hK5 : W5.heap[D]? = some (.deferred (some [])) := by rw [← hW5]; exact ((KeepsOthers.setCell _ _ _).trans (KeepsOthers.setCell _ _ _)).same D _ HK4.out rfl
    have hB5 : Below w.heap.size w W5 := by rw [← hW5]; exact ((hBW.trans (hWb.mono (by omega))).setCell (p := ⟨w.heap.size, 0, none⟩) (Nat.le_refl _) _).setCell (p := ⟨w.heap.size + 1, 0, none⟩) (by show w.heap.size ≤ w.heap.size + 1; omega) _
    have hO5 : W5.ownsRow w.heap.size 153 1 (.slice (some ⟨g, 0, none⟩) m cap') m (bytesV (redL [] s.data.toList)) := by
      rw [← hW5]
      refine ownsRow_base (((HO.out.kept (grownBy_setCell' _ _ _) (.inr (fun e => by simp [Value.ownBlock] at e; omega))).kept (grownBy_setCell' _ _ _) (.inr (fun e => by simp [Value.ownBlock] at e; omega)))) (by simp; omega)
    rw [hW5]
    clear hW5
    refine ⟨by simp, .inl ⟨_, _, rfl, run_takeDeferred hK5, ?_⟩⟩
    have g0 := (e0.kept (grownBy_putObj' W5 D (.deferred none)) (fun e => by cases e; omega)).cell
    have g1 := (e1.kept (grownBy_putObj' W5 D (.deferred none)) (fun e => by cases e; omega)).cell
    refine ⟨.tuple #[.slice (some ⟨g, 0, none⟩) m cap', .bool true], by simp [results, Try.f170, go_sem, g0, g1], .inr ⟨HL.out, g, m, cap', rfl, Hm.out, ownsRow_putObj hO5 _ hK5 rfl⟩, hB5.trans (belowK_b (w := w) (Nat.le_refl _) W5 D _ _ (by omega) hK5 rfl rfl)⟩
  case stop =>
    rintro D c pre W hD hpre ⟨⟨⟨rfl, hl⟩, c0, c1⟩, hB⟩ hK
    gi_wp2
    refine ⟨by simp, .inl ⟨_, _, rfl, run_takeDeferred hK, ?_⟩⟩
    have e0 := (c0.kept (grownBy_putObj' W D (.deferred none)) (fun e => by cases e; omega)).cell
    have e1 := (c1.kept (grownBy_putObj' W D (.deferred none)) (fun e => by cases e; omega)).cell
    refine ⟨.tuple #[.slice none 0 0, .bool false], by simp [results, Try.f170, go_sem, e0, e1], .inl ⟨letL_prefix hpre hl, rfl⟩, hB.trans (belowK_b (w := w) (Nat.le_refl _) W D _ _ (by omega) hK rfl rfl)⟩

end Go.Proofs.Ytbbkpaledlbcmaa

/- The iterators over the letters of a word, forwards and backwards, and over those of its inverse. -/

namespace Go.Proofs.Ytbbkpaledlbcmaa
open Go.RowKit Go.Shelf

attribute [local go_sem] Oper.semAt_some

/-- The slice value sv is a word with the letters l. -/
def IsWord (n₀ : Nat) (w : World) (sv : Value) (l : List UInt8) : Prop :=
  ∃ g off cap, sv = .slice (some ⟨g, off, none⟩) l.length cap ∧ g < n₀ ∧ l.length ≤ 100000 ∧ ∀ j (h : j < l.length), w.cell? ⟨g, off + j, none⟩ = some (.int .u8 (l[j].toNat : Int))
theorem IsWord.below {n₀ : Nat} {w w' : World} {sv : Value} {l : List UInt8} (h : IsWord n₀ w sv l) (hb : Below n₀ w w') : IsWord n₀ w' sv l := by
  obtain ⟨g, off, cap, rfl, hg, hl, hc⟩ := h
  exact ⟨g, off, cap, rfl, hg, hl, fun j hj => (hb.cell (p := ⟨g, off + j, none⟩) hg).trans (hc j hj)⟩
theorem IsWord.mono {n₀ n₁ : Nat} {w : World} {sv : Value} {l : List UInt8} (h : IsWord n₀ w sv l) (hb : n₀ ≤ n₁) : IsWord n₁ w sv l := by
  obtain ⟨g, off, cap, rfl, hg, hl, hc⟩ := h
  exact ⟨g, off, cap, rfl, by omega, hl, hc⟩

set_option maxRecDepth 100000 in
set_option maxHeartbeats 1000000 in
/-- slices.Values at a word. -/
theorem values1_in (n : Nat) (hn : 1 ≤ n) (l Bs n₀ : Nat) (L : List UInt8) (sv : Value) (J Jx : List UInt8 → World → Prop)
    (hY : ∀ pre x W, J pre W → pre ++ [x] <+: L → YieldAt Fence.wide (n - 1) Try.prog l (encB x) W fun e W' =>
      (e = .returned (.bool true) ∧ J (pre ++ [x]) W' ∧ Below n₀ W W') ∨ (e = .returned (.bool false) ∧ Jx (pre ++ [x]) W'))
    (W : World) (hBs : W.cell? ⟨Bs, 0, none⟩ = some sv) (hw : IsWord n₀ W sv L) (h0 : J [] W) :
    CallsIn Fence.wide n Try.prog 204 #[.func (.yield l) #[] #[], .pointer (some ⟨Bs, 0, none⟩)] W fun e W' => (∃ v, e = .returned v) ∧
      ((∃ ys, ys = L ∧ J ys W') ∨ (∃ pre, pre <+: L ∧ Jx pre W')) := by
  obtain ⟨g, off, cap, rfl, hg, hL, hc⟩ := hw
  obtain ⟨len, hlen⟩ : ∃ len, L.length = len := ⟨_, rfl⟩
  rw [hlen] at hBs hL
  have HC := Lib.hid hc
  have HL := Lib.hid hlen
  clear hc hlen
  refine callsIn_of_wp Try.func204 rfl trivial ?_ rfl
  simp only [Try.ntmps204, List.size_toArray, List.length_cons, List.length_nil, Nat.reduceAdd, Nat.reduceSub, Array.replicate_succ, Array.replicate_zero, List.push_toArray, List.append_toArray, List.nil_append, List.cons_append]
  gi_wp2
  gi_loopw [7] (fun i wr => ∃ k : Nat, k ≤ len ∧ i = .int .i64 k ∧ J (L.take k) wr ∧ Below n₀ W wr)
    (fun i _ => len - (intOf i).toNat)
  case atStart => exact ⟨0, Nat.zero_le _, rfl, h0, Below.refl _ _⟩
  case round =>
    obtain ⟨k, hk, rfl, hJs, hnx⟩ := hrel
    by_cases hlt : k < len
    · have hkl : k < L.length := by rw [HL.out]; exact hlt
      obtain ⟨x, hx⟩ : ∃ x, L[k] = x := ⟨_, rfl⟩
      have hcx : wr.cell? ⟨g, off + k, none⟩ = some (.int .u8 (x.toNat : Int)) := by rw [← hx]; exact (hnx.cell (p := ⟨g, off + k, none⟩) hg).trans (HC.out k hkl)
      have HS : Hid (L.take (k + 1) = L.take k ++ [x]) := by rw [← hx]; exact take_snoc _ k hkl
      obtain ⟨fn, tmps, assign, body, hy, hR⟩ := hY _ x wr hJs (by rw [← HS.out]; exact List.take_prefix _ _)
      clear hx hkl
      gi_wp2
      refine hR.mono ?_
      rintro e W3 (⟨rfl, hJ3, hk3⟩ | ⟨rfl, hJx3⟩)
      · gi_wp2
        go_roundw
        case rel => exact ⟨k + 1, by omega, by simp, by rw [HS.out]; exact hJ3, hnx.trans hk3⟩
        case measure => simp [intOf]; omega
      · gi_wp2
        refine bodyPost_ret (results_none rfl _ _ _) rfl ?_
        exact ⟨⟨_, rfl⟩, .inr ⟨_, by rw [← HS.out]; exact List.take_prefix _ _, hJx3⟩⟩
    · have HA : Hid (L.take k = L) := List.take_of_length_le (by rw [HL.out]; omega)
      gi_wp2
      go_end0
      exact ⟨⟨_, rfl⟩, .inl ⟨_, HA.out, hJs⟩⟩

theorem values_any (a : Option Addr) (len cap : Nat) (w : World) :
    Calls Try.prog 186 #[.slice a len cap] w fun e w' => e = .returned (.func (.func 204) #[] #[.pointer (some ⟨w.heap.size, 0, none⟩)]) ∧ w' = w.alloc (.cells #[.slice a len cap] 122) := by
  go_enter Try.func186, Try.ntmps186
  go_wp2
  go_ret
  exact ⟨rfl, rfl⟩

theorem values_seq (L : List UInt8) (sv : Value) (w : World) (Bs n₀ : Nat) (hB : Bs < w.heap.size) (hn₀ : n₀ ≤ w.heap.size) (hc : w.cell? ⟨Bs, 0, none⟩ = some sv) (hw : IsWord n₀ w sv L) :
    SeqO n₀ w 204 #[.pointer (some ⟨Bs, 0, none⟩)] L := seqO_of fun n h3 l J Jx W hW hY h0 =>
  values1_in n (by omega) l Bs n₀ L sv J Jx hY W ((hW.cell (p := ⟨Bs, 0, none⟩) hB).trans hc) (hw.below (hW.mono hn₀)) h0

abbrev encI (x : Nat × UInt8) : Array Value := #[.int .i64 (x.1 : Int), .int .u8 (x.2.toNat : Int)]
/-- What slices.Backward gives when the letters from the place k on have come. -/
def bk (L : List UInt8) (k : Nat) : List (Nat × UInt8) := ((L.zipIdx.drop k).map fun p => (p.2, p.1)).reverse
theorem bk_step (L : List UInt8) (k : Nat) (h : k < L.length) : bk L k = bk L (k + 1) ++ [(k, L[k])] := by
  unfold bk
  rw [List.drop_eq_getElem_cons (by simpa using h)]
  simp
theorem bk_prefix (L : List UInt8) (k : Nat) : bk L k <+: bk L 0 := by
  unfold bk
  rw [List.reverse_prefix, List.drop_zero]
  exact (List.drop_suffix k _).map _
theorem bk_len (L : List UInt8) (k : Nat) : (bk L k).length = L.length - k := by simp [bk]
theorem bk_snd (L : List UInt8) (f : UInt8 → UInt8) : (bk L 0).map (fun p => f p.2) = L.reverse.map f := by
  unfold bk
  rw [List.drop_zero, List.map_reverse, List.map_map, List.map_reverse]
  congr 1
  have : L.map f = L.zipIdx.map (f ∘ Prod.fst) := by rw [← List.map_map]; simp
  rw [this]; rfl

set_option maxRecDepth 100000 in
set_option maxHeartbeats 1000000 in
/-- slices.Backward at a word. -/
theorem backward1_in (n : Nat) (hn : 1 ≤ n) (l Bs : Nat) (n₀ : Nat) (Kp : World → World → Prop) (hKt : ∀ {A B C : World}, Kp A B → Kp B C → Kp A C) (hKr : ∀ A, Kp A A) (L : List UInt8) (sv : Value) (J : List (Nat × UInt8) → World → Prop)
    (hY : ∀ pre x W, J pre W → pre ++ [x] <+: bk L 0 → YieldAt Fence.wide (n - 1) Try.prog l (encI x) W fun e W' => e = .returned (.bool true) ∧ J (pre ++ [x]) W' ∧ Kp W W')
    (W : World) (hBs : ∀ W', Kp W W' → W'.cell? ⟨Bs, 0, none⟩ = some sv) (hw : ∀ W', Kp W W' → IsWord n₀ W' sv L) (h0 : J [] W) :
    CallsIn Fence.wide n Try.prog 205 #[.func (.yield l) #[] #[], .pointer (some ⟨Bs, 0, none⟩)] W fun e W' => (∃ v, e = .returned v) ∧ J (bk L 0) W' := by
  obtain ⟨g, off, cap, rfl, hg, hL, hc⟩ := hw W (hKr W)
  obtain ⟨len, hlen⟩ : ∃ len, L.length = len := ⟨_, rfl⟩
  have hBs0 := hBs W (hKr W)
  have hBs1 : Hid (∀ W', Kp W W' → W'.cell? ⟨Bs, 0, none⟩ = some (.slice (some ⟨g, off, none⟩) len cap)) := by rw [← hlen]; exact hBs
  rw [hlen] at hBs0 hL
  have HW : Hid (∀ W', Kp W W' → ∀ j (h : j < L.length), W'.cell? ⟨g, off + j, none⟩ = some (.int .u8 (L[j].toNat : Int))) := fun W' hk j h => by
    obtain ⟨g2, off2, cap2, e, _, _, hc2⟩ := hw W' hk
    cases e
    exact hc2 j h
  have HL := Lib.hid hlen
  clear hc hlen hw hBs hg
  refine callsIn_of_wp Try.func205 rfl trivial ?_ rfl
  simp only [Try.ntmps205, List.size_toArray, List.length_cons, List.length_nil, Nat.reduceAdd, Nat.reduceSub, Array.replicate_succ, Array.replicate_zero, List.push_toArray, List.append_toArray, List.nil_append, List.cons_append]
  gi_wp2
  gi_loopw [3] (fun i wr => ∃ k : Nat, k ≤ len ∧ i = .int .i64 ((k : Int) - 1) ∧ J (bk L k) wr ∧ Kp W wr)
    (fun i _ => (intOf i + 1).toNat)
  case atStart => exact ⟨len, Nat.le_refl _, rfl, by unfold bk; rw [List.drop_of_length_le (by simp; rw [HL.out]; exact Nat.le_refl _)]; exact h0, hKr W⟩
  case round =>
    obtain ⟨k, hk, rfl, hJs, hnx⟩ := hrel
    have hcB := hBs1.out wr hnx
    by_cases hlt : 0 < k
    · obtain ⟨j, rfl⟩ : ∃ j, k = j + 1 := ⟨k - 1, by omega⟩
      have hkl : j < L.length := by rw [HL.out]; omega
      obtain ⟨x, hx⟩ : ∃ x, L[j] = x := ⟨_, rfl⟩
      have hcx : wr.cell? ⟨g, off + j, none⟩ = some (.int .u8 (x.toNat : Int)) := by rw [← hx]; exact HW.out wr hnx j hkl
      have HS : Hid (bk L j = bk L (j + 1) ++ [(j, x)]) := by rw [← hx]; exact bk_step _ j hkl
      obtain ⟨fn, tmps, assign, body, hy, hR⟩ := hY _ (j, x) wr hJs (by rw [← HS.out]; exact bk_prefix L j)
      clear hx hkl
      gi_wp2
      refine hR.mono ?_
      rintro e W3 ⟨rfl, hJ3, hk3⟩
      gi_wp2
      go_roundw
      case rel => exact ⟨j, by omega, by go_num, by rw [HS.out]; exact hJ3, hKt hnx hk3⟩
      case measure => simp [intOf]
    · have hk0 : k ≤ 0 := by omega
      have HA : Hid (bk L k = bk L 0) := by rw [show k = 0 by omega]; exact Lib.hid rfl
      gi_wp2
      go_end0
      exact ⟨⟨_, rfl⟩, by rw [← HA.out]; exact hJs⟩

theorem backward_any (a : Option Addr) (len cap : Nat) (w : World) :
    Calls Try.prog 188 #[.slice a len cap] w fun e w' => e = .returned (.func (.func 205) #[] #[.pointer (some ⟨w.heap.size, 0, none⟩)]) ∧ w' = w.alloc (.cells #[.slice a len cap] 122) := by
  go_enter Try.func188, Try.ntmps188
  go_wp2
  go_ret
  exact ⟨rfl, rfl⟩

theorem iTurned_any (a : Option Addr) (len cap : Nat) (w : World) :
    Calls Try.prog 150 #[.slice a len cap] w fun e w' => e = .returned (.func (.func 187) #[] #[.pointer (some ⟨w.heap.size, 0, none⟩)]) ∧ w' = w.alloc (.cells #[.slice a len cap] 122) := by
  go_enter Try.func150, Try.ntmps150
  go_wp2
  go_ret
  exact ⟨rfl, rfl⟩

end Go.Proofs.Ytbbkpaledlbcmaa

/- The iterator over the letters of a word's inverse: a loop over slices.Backward that hands each letter's inverse on. -/

namespace Go.Proofs.Ytbbkpaledlbcmaa
open Go.RowKit Go.Shelf

attribute [local go_sem] Oper.semAt_some

abbrev YT : TypeId := 184
abbrev WT : TypeId := 122

set_option maxRecDepth 100000 in
set_option maxHeartbeats 1000000 in
theorem turned_seq (L : List UInt8) (sv : Value) (w : World) (Bs n₀ : Nat) (hBs : Bs < n₀) (hn₀ : n₀ ≤ w.heap.size) (hc : w.cell? ⟨Bs, 0, none⟩ = some sv) (hw : IsWord n₀ w sv L) :
    SeqO n₀ w 187 #[.pointer (some ⟨Bs, 0, none⟩)] (L.reverse.map invB) := fun n h8 l B J W hW hnB hB hJ hY h0 => by
  have hcW : W.cell? ⟨Bs, 0, none⟩ = some sv := (hW.cell (p := ⟨Bs, 0, none⟩) (by show Bs < w.heap.size; omega)).trans hc
  have hwW : IsWord n₀ W sv L := hw.below (hW.mono hn₀)
  obtain ⟨g, off, cap, rfl, hg, hL, hcc⟩ := hwW
  obtain ⟨len, hlen⟩ : ∃ len, L.length = len := ⟨_, rfl⟩
  rw [hlen] at hcW hL
  have hBW : Bs < W.heap.size := by have := hW.size; omega
  have hcY : (W.alloc (.cells #[.func (.yield l) #[] #[]] YT)).cell? ⟨Bs, 0, none⟩ = some (.slice (some ⟨g, off, none⟩) len cap) := (World.cell?_alloc_past _ _ _ hBW).trans hcW
  have HLen := Lib.hid hlen
  have HW0 := Lib.hid hw
  clear hw
  clear hcc hc hlen
  refine callsIn_of_wp_marks Try.func187 rfl trivial ?_ rfl
  simp only [Try.ntmps187, List.size_toArray, List.length_cons, List.length_nil, Nat.reduceAdd, Nat.reduceSub, Array.replicate_succ, Array.replicate_zero, List.push_toArray, List.append_toArray, List.nil_append, List.cons_append]
  gi_wp2_with fail
  refine ⟨trivial, fun _ => by omega, ?_⟩
  refine (callsIn_wide.2 (backward_any _ _ _ _)).mono ?_
  rintro e w1 ⟨rfl, rfl⟩
  gi_wp2_with fail
  have hW1 : Below W.heap.size W ((W.alloc (.cells #[.func (.yield l) #[] #[]] YT)).alloc (.cells #[.slice (some ⟨g, off, none⟩) len cap] WT)) := ((Below.refl _ W).alloc (Nat.le_refl _) _).alloc (by simp) _
  have hJ1 : J [] ((W.alloc (.cells #[.func (.yield l) #[] #[]] YT)).alloc (.cells #[.slice (some ⟨g, off, none⟩) len cap] WT)) := hJ.alloc _ (hJ.alloc _ h0)
  have bY := (Boxed.new W YT (.func (.yield l) #[] #[])).alloc (.cells #[.slice (some ⟨g, off, none⟩) len cap] WT)
  have bS := Boxed.new (W.alloc (.cells #[.func (.yield l) #[] #[]] YT)) WT (.slice (some ⟨g, off, none⟩) len cap)
  rw [World.size_alloc] at bS
  have hsz : ((W.alloc (.cells #[.func (.yield l) #[] #[]] YT)).alloc (.cells #[.slice (some ⟨g, off, none⟩) len cap] WT)).heap.size = W.heap.size + 2 := by simp
  generalize ((W.alloc (.cells #[.func (.yield l) #[] #[]] YT)).alloc (.cells #[.slice (some ⟨g, off, none⟩) len cap] WT)) = V at hW1 hJ1 bY bS hsz ⊢
  have hnW : n₀ ≤ W.heap.size := Nat.le_trans hn₀ hW.size
  have hwV : IsWord n₀ V (.slice (some ⟨g, off, none⟩) len cap) L := by
    have := (HW0.out.below (hW.mono hn₀)).below (hW1.mono hnW)
    rw [HLen.out] at this
    exact this
  refine range_law (by omega) (gf := 205) (lb := #[.pointer (some ⟨W.heap.size + 1, 0, none⟩)]) rfl (enters_of Try.func205 (by kernel_rfl) rfl)
    (encs := encI) (fun _ => rfl) (fun _ A C => Below n₀ A C ∧ KeepT B A C) (fun h k => ⟨h.1.trans k.1, h.2.trans k.2⟩)
    (fun N X k o o' _ hk hX ho hwk => ⟨belowK_b (w := V) (by omega) X k o o' hk hX ho hwk, KeepT.putObj _ hX ho⟩) (fun h => h) (xs := bk L 0)
    (fun l' J' V' hV' _ _ hY' h0' => backward1_in (n - 1) (by omega) l' (W.heap.size + 1) n₀ _ (fun h k => ⟨h.1.trans k.1, h.2.trans k.2⟩) (fun A => ⟨Below.refl _ _, KeepT.refl _ _⟩) L (.slice (some ⟨g, off, none⟩) len cap) J' hY' V'
      (fun W' hk => (hk.2.boxed ((hV'.block _ (by omega)).trans bS) (by decide) (by omega)).cell) (fun W' hk => (hwV.below (hV'.mono (by omega))).below hk.1) h0')
    (fun pre X => J (pre.map fun p => invB p.2) X ∧ Boxed X W.heap.size YT (.func (.yield l) #[] #[]) ∧ V.heap.size ≤ X.heap.size)
    (fun s X Y row hs hgr hr => ⟨hJ (s.map fun p => invB p.2) X Y row hs.1 hgr (fun r e => by obtain ⟨q1, q2⟩ := hr r e; exact ⟨by omega, q2⟩), boxed_own W.heap.size _ (fun _ : Unit => .func (.yield l) #[] #[]) () X Y row hs.2.1 hgr (fun r e => (hr r e).2), Nat.le_trans hs.2.2 hgr.size⟩)
    ⟨hJ1, bY, Nat.le_refl _⟩
    (fun x => { tmps := #[.func (.yield l) #[] #[], .pointer (some ⟨Bs, 0, none⟩), .pointer (some ⟨W.heap.size, 0, none⟩), undef, .int .u8 (x.2.toNat : Int), .slice (some ⟨g, off, none⟩) len cap, .func (.func 205) #[] #[.pointer (some ⟨W.heap.size + 1, 0, none⟩)], .int .i64 (x.1 : Int), .int .u8 (x.2.toNat : Int), undef, undef, undef, undef, undef], defers := [] }) ?assign ?body ?done
  case assign =>
    intro l x W K hK
    gi_wp2
    exact hK
  case body =>
    rintro l' pre x X ⟨hj, hbx, hsX⟩ hpre
    have hpm : (pre.map fun p => invB p.2) ++ [invB x.2] <+: L.reverse.map invB := by
      have := hpre.map (fun p : Nat × UInt8 => invB p.2)
      rw [bk_snd, List.map_append] at this
      exact this
    have hcy := hbx.cell
    have hd : 1 ≤ n - 1 - 1 := by omega
    have hmx : Try.prog.follows .mixedOrders = true := by kernel_rfl
    have hjd : J (pre.map fun p => invB p.2) X.drew := hJ _ X X.drew none hj ⟨rfl, rfl, rfl, Nat.le_refl _, fun _ _ _ => rfl⟩ (fun r e => by cases e)
    obtain ⟨fn, tmps, asg, bd, hy, hR0⟩ := hY (pre.map fun p => invB p.2) (invB x.2) X.drew hjd hpm
    have hR := Lib.hid (roundIn_inRound (l' := l') (roundIn_any (m' := n - 1 - 1 - 1) hR0))
    have HJ := Lib.hid hj
    clear hR0 hj hjd hpm hpre
    gi_wp2
    gi_region_with_o (first
      | (refine ⟨trivial, ?_⟩; gi_at_call 155; refine (CallsIn.inRound l' (callsIn_wide.2 (inverse_any _ _))).mono ?_; rintro e w' ⟨rfl, rfl⟩)
      | (refine hR.out.mono ?_; rintro e W3 ⟨rfl, hJ3, hk3⟩))
    all_goals gi_wp2
    all_goals
      have hkf : KeepsFrom W.heap.size X W3 := ⟨hk3.2.2.size, hk3.2.2.same⟩
      have hkt : KeepT B X W3 := hk3.2.1
      refine ⟨keepsFrom_mono hkf (by omega), ⟨(Below.refl n₀ X).drew.trans hk3.1, hkt⟩, ?_, hkt.boxed hbx (by decide) (by omega), Nat.le_trans hsX hkf.size⟩
      rw [List.map_append]
      exact hJ3
  case done =>
    rintro D X hD ⟨hj, _, _⟩ hK
    rw [bk_snd] at hj
    gi_wp2
    refine ⟨by simp, .inl ⟨_, _, rfl, run_takeDeferred hK, ?_⟩⟩
    exact ⟨_, results_none rfl _ _ _, ⟨_, rfl⟩, hJ.putObj _ hj (by omega) hK rfl⟩

end Go.Proofs.Ytbbkpaledlbcmaa

/- The contracts of the program's 'wordOf', 'WordIn' and 'WordReduce'. -/

namespace Go.Proofs.Ytbbkpaledlbcmaa
open Go.RowKit Go.Shelf

theorem reduceText_no (s : ByteArray) (w : World) (hs : s.size ≤ 1048576) (h : letL s.data.toList = false) :
    Calls Try.prog 170 #[.string s] w fun e w' => e = .returned (.tuple #[.slice none 0 0, .bool false]) ∧ Below w.heap.size w w' := by
  refine ((callsIn_wide (n := 30)).1 (reduceText_in 30 (by omega) s w hs)).mono ?_
  rintro e w' ⟨⟨_, rfl⟩ | ⟨h2, _⟩, hb⟩
  · exact ⟨rfl, hb⟩
  · rw [h] at h2; cases h2

theorem reduceText_yes (s : ByteArray) (w : World) (hs : s.size ≤ 1048576) (h : letL s.data.toList = true) :
    Calls Try.prog 170 #[.string s] w fun e w' => ∃ g m cap, e = .returned (.tuple #[.slice (some ⟨g, 0, none⟩) m cap, .bool true]) ∧ (redL [] s.data.toList).length = m ∧
      w'.ownsRow w.heap.size 153 1 (.slice (some ⟨g, 0, none⟩) m cap) m (bytesV (redL [] s.data.toList)) ∧ Below w.heap.size w w' := by
  refine ((callsIn_wide (n := 30)).1 (reduceText_in 30 (by omega) s w hs)).mono ?_
  rintro e w' ⟨⟨h2, _⟩ | ⟨_, g, m, cap, rfl, hm, ho⟩, hb⟩
  · rw [h] at h2; cases h2
  · exact ⟨g, m, cap, rfl, hm, ho, hb⟩

set_option maxHeartbeats 400000 in
theorem wordOf_yes (s : ByteArray) (w : World) (h : wordB s.data.toList = true) :
    Calls Try.prog 126 #[.string s] w fun e w' => ∃ g cap, e = .returned (.tuple #[.slice (some ⟨g, 0, none⟩) s.size cap, .bool true]) ∧
      w'.ownsRow w.heap.size 153 1 (.slice (some ⟨g, 0, none⟩) s.size cap) s.size (bytesV s.data.toList) ∧ Below w.heap.size w w' := by
  obtain ⟨h1, h2, h3⟩ := (wordB_iff _).1 h
  have hs : s.size ≤ 60 := by simpa using h1
  have H2 := Lib.hid h2
  have H3 := Lib.hid h3
  clear h h1 h2 h3
  go_enter Try.func126, Try.ntmps126
  go_wp2_with (go_at_call 170; refine (reduceText_yes _ _ (by omega) H2.out).mono ?_; rintro e w1 ⟨g, m, cap, rfl, hm, hown, hb⟩; have hm2 : m = s.size := (by rw [← hm, H3.out]; simp); subst hm2; rw [H3.out] at hown; clear hm)
  go_ret2
  exact ⟨_, _, rfl, by assumption, by assumption⟩

set_option maxHeartbeats 400000 in
theorem wordOf_no (s : ByteArray) (w : World) (hm : s.size ≤ maxLen) (h : wordB s.data.toList = false) :
    Calls Try.prog 126 #[.string s] w fun e w' => e = .returned (.tuple #[.slice none 0 0, .bool false]) ∧ Below w.heap.size w w' := by
  unfold maxLen at hm
  by_cases hs : s.size ≤ 60
  · cases h2 : letL s.data.toList with
    | false =>
      have H2 := Lib.hid h2
      clear h2 h
      go_enter Try.func126, Try.ntmps126
      go_wp2_with (go_at_call 170; refine (reduceText_no _ _ (by omega) H2.out).mono ?_; rintro e w1 ⟨rfl, hb⟩)
      go_ret2
      exact ⟨rfl, by assumption⟩
    | true =>
      have hlt : (redL [] s.data.toList).length < s.size := by
        have h3 : redL [] s.data.toList ≠ s.data.toList := fun h3 => by
          have := (wordB_iff s.data.toList).2 ⟨by simpa using hs, h2, h3⟩
          rw [h] at this; cases this
        have h4 := redL_len s.data.toList []
        have h5 : (redL [] s.data.toList).length ≠ s.size := fun h5 => h3 (by
          have := redL_full s.data.toList [] (by rw [h5]; simp)
          simpa using this)
        simp at h4
        omega
      have H2 := Lib.hid h2
      have H3 := Lib.hid hlt
      clear h2 h hlt
      go_enter Try.func126, Try.ntmps126
      go_wp2_with (go_at_call 170; refine (reduceText_yes _ _ (by omega) H2.out).mono ?_; rintro e w1 ⟨g, m, cap, rfl, hm, hown, hb⟩; have hm2 : m < s.size := (by rw [← hm]; exact H3.out); clear hm hown)
      go_ret2
      exact ⟨rfl, by assumption⟩
  · clear h
    go_enter Try.func126, Try.ntmps126
    go_wp2
    go_ret2
    exact ⟨rfl, Below.refl _ _⟩

end Go.Proofs.Ytbbkpaledlbcmaa

/- The contract of the program's 'WordTurned'. -/

namespace Go.Proofs.Ytbbkpaledlbcmaa
open Go.RowKit Go.Shelf

theorem isWord_of_owns {base g cap n n₀ : Nat} {e : TypeId} {l : List UInt8} {w : World} (hl : l.length = n) (hn : n ≤ 100000) (hown : w.ownsRow base e 1 (.slice (some ⟨g, 0, none⟩) n cap) n (bytesV l)) (hg : w.heap.size ≤ n₀) :
    IsWord n₀ w (.slice (some ⟨g, 0, none⟩) n cap) l := by
  subst hl
  obtain ⟨h1, h2⟩ := letters_of_owns hown
  exact ⟨g, 0, cap, rfl, by omega, hn, h2⟩

abbrev IT : TypeId := 149

end Go.Proofs.Ytbbkpaledlbcmaa

/- The contracts of the program's 'wordsOf' and 'letters'. -/

namespace Go.Proofs.Ytbbkpaledlbcmaa
open Go.RowKit Go.Shelf

theorem letters_fwd (a : Option Addr) (len cap : Nat) (k : Int) (w : World) (hk : 0 ≤ k) :
    Calls Try.prog 149 #[.slice a len cap, .int .i64 k] w fun e w' => e = .returned (.func (.func 204) #[] #[.pointer (some ⟨w.heap.size, 0, none⟩)]) ∧ w' = w.alloc (.cells #[.slice a len cap] WT) := by
  go_enter Try.func149, Try.ntmps149
  go_wp2_with fail
  refine (values_any _ _ _ _).mono ?_
  rintro e w1 ⟨rfl, rfl⟩
  go_wp2_with fail
  go_ret
  exact ⟨rfl, rfl⟩

theorem letters_bwd (a : Option Addr) (len cap : Nat) (k : Int) (w : World) (hk : k < 0) :
    Calls Try.prog 149 #[.slice a len cap, .int .i64 k] w fun e w' => e = .returned (.func (.func 187) #[] #[.pointer (some ⟨w.heap.size, 0, none⟩)]) ∧ w' = w.alloc (.cells #[.slice a len cap] WT) := by
  go_enter Try.func149, Try.ntmps149
  go_wp2_with fail
  refine (iTurned_any _ _ _ _).mono ?_
  rintro e w1 ⟨rfl, rfl⟩
  go_wp2_with fail
  go_ret
  exact ⟨rfl, rfl⟩

theorem infoWord : (Try.prog.info? 122).map (fun i => (i.zero, i.size, i.bytes)) = some (some (.slice none 0 0), 1, 24) := by kernel_rfl

/-- The slice value v is a word with the letters l, in a block from lo on. -/
def WordAt (lo : Nat) (w : World) (v : Value) (l : List UInt8) : Prop :=
  ∃ g cap, v = .slice (some ⟨g, 0, none⟩) l.length cap ∧ lo ≤ g ∧ g < w.heap.size ∧ l.length ≤ 60 ∧ ∀ j (h : j < l.length), w.cell? ⟨g, j, none⟩ = some (.int .u8 (l[j].toNat : Int))
theorem WordAt.below {lo : Nat} {w w' : World} {v : Value} {l : List UInt8} (h : WordAt lo w v l) (hb : Below w.heap.size w w') : WordAt lo w' v l := by
  obtain ⟨g, cap, rfl, h1, h2, h3, h4⟩ := h
  exact ⟨g, cap, rfl, h1, Nat.lt_of_lt_of_le h2 hb.size, h3, fun j hj => (hb.cell (p := ⟨g, j, none⟩) h2).trans (h4 j hj)⟩
theorem WordAt.setCell {lo : Nat} {w : World} {v : Value} {l : List UInt8} (h : WordAt lo w v l) {a : Addr} (ha : a.block < lo) (u : Value) : WordAt lo (w.setCell a u) v l := by
  obtain ⟨g, cap, rfl, h1, h2, h3, h4⟩ := h
  exact ⟨g, cap, rfl, h1, Nat.lt_of_lt_of_le h2 (KeepsWalks.setCell w a u).size, h3, fun j hj => (World.cell?_of_block (a := ⟨g, j, none⟩) (Below.heap_setCell w a u g (by omega))).trans (h4 j hj)⟩
theorem WordAt.isWord {lo : Nat} {w : World} {v : Value} {l : List UInt8} (h : WordAt lo w v l) : IsWord w.heap.size w v l := by
  obtain ⟨g, cap, rfl, h1, h2, h3, h4⟩ := h
  exact ⟨g, 0, cap, rfl, h2, by omega, fun j hj => by rw [Nat.zero_add]; exact h4 j hj⟩
theorem WordAt.slice {lo : Nat} {w : World} {v : Value} {l : List UInt8} (h : WordAt lo w v l) : ∃ g cap, v = .slice (some ⟨g, 0, none⟩) l.length cap := by
  obtain ⟨g, cap, rfl, _⟩ := h; exact ⟨g, cap, rfl⟩

set_option maxRecDepth 100000 in
set_option maxHeartbeats 1000000 in
theorem wordsOf_any (a : Option Addr) (b off cap n : Nat) (ss : List ByteArray) (w : World) (hn : ss.length = n) (hn2 : n ≤ 1000000) (ha : 0 < n → a = some ⟨b, off, none⟩) (hb : b < w.heap.size)
    (hc : ∀ i (h : i < ss.length), w.cell? ⟨b, off + i, none⟩ = some (.string ss[i])) (hm : ∀ s ∈ ss, s.size ≤ maxLen) :
    Calls Try.prog 175 #[.slice a n cap] w fun e w' =>
      ((e = .returned (.tuple #[.slice none 0 0, .bool false]) ∧ ∃ s ∈ ss, wordB s.data.toList = false) ∨
       (∃ g vals, e = .returned (.tuple #[.slice (some ⟨g, 0, none⟩) n n, .bool true]) ∧ (∀ s ∈ ss, wordB s.data.toList = true) ∧ w'.ownsRow w.heap.size WT 1 (.slice (some ⟨g, 0, none⟩) n n) n vals ∧
        ∀ j (h : j < ss.length) v, vals[j]? = some v → WordAt w.heap.size w' v ss[j].data.toList)) ∧ Below w.heap.size w w' := by
  obtain ⟨i0, hi, hz0, hz1, hz2⟩ := info_parts infoWord
  have HC := Lib.hid hc
  have HM := Lib.hid hm
  have HA := Lib.hid ha
  have HN := Lib.hid hn
  clear hc hm ha hn
  go_enter Try.func175, Try.ntmps175
  go_wp2_with (at_make; refine wpList_make_full _ rfl _ _ 134 rfl w.heap.size 122 i0 (.slice none 0 0) 1 Try.underlying134 hi hz0 hz1 .i64 .i64 _ _ n rfl rfl rfl rfl (by rw [hz2]; omega) (by unfold maxLen; omega) (Nat.le_refl _) ?_; intro w1 hrow hgrow)
  have hB1 : Below w.heap.size w w1 := (Below.refl _ _).grown hgrow (Nat.le_refl _) (fun k e => by cases e)
  have hgs1 := (ownsRow_cap hrow).2.2.2
  go_loopw [14] (fun i wr => ∃ (k : Nat) (vals : List Value), k ≤ n ∧ i = .int .i64 k ∧ wr.ownsRow w.heap.size WT 1 (.slice (some ⟨w.heap.size, 0, none⟩) n n) n vals ∧ Hid (∀ j (h : j < ss.length), j < k → wordB ss[j].data.toList = true ∧ ∀ v, vals[j]? = some v → WordAt (w.heap.size + 1) wr v ss[j].data.toList) ∧ Below w.heap.size w wr)
    (fun i _ => n - (intOf i).toNat)
  case atStart => exact ⟨0, _, Nat.zero_le _, rfl, hrow, Lib.hid (fun j _ h => absurd h (Nat.not_lt_zero _)), hB1⟩
  case round =>
    obtain ⟨k, vals, hk, rfl, hr, HV, hB⟩ := hrel
    by_cases hlt : k < n
    · have hks : k < ss.length := by rw [HN.out]; exact hlt
      obtain ⟨s, hs⟩ : ∃ s, ss[k] = s := ⟨_, rfl⟩
      obtain rfl := HA.out (by omega)
      have hcs : wr.cell? ⟨b, off + k, none⟩ = some (.string s) := by rw [← hs]; exact (hB.cell (p := ⟨b, off + k, none⟩) hb).trans (HC.out k hks)
      have hsm : s.size ≤ maxLen := by rw [← hs]; exact HM.out _ (List.getElem_mem hks)
      have HS := Lib.hid hs
      clear hs
      have hgs := (ownsRow_cap hr).2.2.2
      have HR := Lib.hid hr
      clear hr
      cases hw : wordB s.data.toList with
      | true =>
        have HW := Lib.hid hw
        clear hw
        go_wp2_with fail
        refine (wordOf_yes s wr HW.out).mono ?_
        rintro e w2 ⟨g, cap2, rfl, hown, hb2⟩
        have hr2 : w2.ownsRow w.heap.size WT 1 (.slice (some ⟨w.heap.size, 0, none⟩) n n) n vals := HR.out.kept ⟨hb2.os, hb2.tape, hb2.output, hb2.size, fun j hj _ => hb2.block j hj⟩ (row := none) (.inr (by simp [Value.ownBlock]))
        have hWA : WordAt (w.heap.size + 1) w2 (.slice (some ⟨g, 0, none⟩) s.size cap2) s.data.toList := by
          obtain ⟨h1, h2⟩ := letters_of_owns hown
          have h3 := (ownsRow_cap hown).2.2.1
          exact ⟨g, cap2, by simp, by omega, h1, by have := ((wordB_iff _).1 HW.out).1; exact this, fun j hj => by have := h2 j hj; rw [Nat.zero_add] at this; exact this⟩
        have hB2 : Below w.heap.size w w2 := hB.trans (hb2.mono hB.size)
        obtain ⟨u, hu⟩ : ∃ u, w2.cell? ⟨w.heap.size, k, none⟩ = some u := by
          have hl := hr2.1
          rw [Nat.mul_one] at hl
          rw [hr2.cellAt k (by omega)]
          exact ⟨vals[k]'(by omega), List.getElem?_eq_getElem (by omega)⟩
        have hfr := hr2.frozenAt k
        have HR2 := Lib.hid hr2
        have HWA := Lib.hid hWA
        have HB2 := Lib.hid hb2
        clear hown hr2 hWA hb2
        go_wp2_with fail
        go_roundw
        case rel =>
          have hst := HR2.out.stored k (.slice (some ⟨g, 0, none⟩) s.size cap2)
          refine ⟨k + 1, _, by omega, by go_num, hst.1, Lib.hid ?_, hB2.setCell (p := ⟨w.heap.size, k, none⟩) (Nat.le_refl _) _⟩
          intro j hj hjk
          by_cases hjk2 : j = k
          · subst hjk2
            refine ⟨by rw [HS.out]; exact HW.out, fun v hv => ?_⟩
            have hl := HR2.out.1
            rw [Nat.mul_one] at hl
            rw [List.getElem?_set_self (by omega)] at hv
            cases hv
            rw [HS.out]
            exact HWA.out.setCell (by show w.heap.size < w.heap.size + 1; omega) _
          · obtain ⟨q1, q2⟩ := HV.out j hj (by omega)
            refine ⟨q1, fun v hv => ?_⟩
            rw [List.getElem?_set_ne (by omega)] at hv
            exact ((q2 v hv).below HB2.out).setCell (by show w.heap.size < w.heap.size + 1; omega) _
        case measure => simp [intOf]; omega
      | false =>
        have HW := Lib.hid hw
        clear hw
        go_wp2_with fail
        refine (wordOf_no s wr hsm HW.out).mono ?_
        rintro e w2 ⟨rfl, hb2⟩
        go_wp2_with fail
        go_ret2
        exact ⟨.inl ⟨rfl, s, by rw [← HS.out]; exact List.getElem_mem hks, HW.out⟩, hB.trans (hb2.mono hB.size)⟩
    · obtain rfl : k = n := by omega
      have HR := Lib.hid hr
      clear hr
      go_wp2_with fail
      go_ret2
      refine ⟨.inr ⟨w.heap.size, vals, rfl, fun s hs => ?_, HR.out, fun j hj v hv => ?_⟩, hB⟩
      · obtain ⟨j, hj, rfl⟩ := List.getElem_of_mem hs
        exact (HV.out j hj (by rw [← HN.out]; exact hj)).1
      · obtain ⟨g, cap2, h1, h2, h3⟩ := (HV.out j hj (by rw [← HN.out]; exact hj)).2 v hv
        exact ⟨g, cap2, h1, by omega, h3⟩

end Go.Proofs.Ytbbkpaledlbcmaa

/- The contract of the program's 'WordSums'. -/

namespace Go.Proofs.Ytbbkpaledlbcmaa
open Go.RowKit Go.Shelf

attribute [local go_sem] Oper.semAt_some

theorem idx_tab : ((List.range 256).all fun n => !(decide ((97 ≤ n ∧ n ≤ 100) ∨ (65 ≤ n ∧ n ≤ 68))) || (decide (bits BinOp.or IntKind.u8 (n : Int) 32 = ((if 97 ≤ n then n - 97 else n - 65 : Nat) : Int) + 97) && decide (bits BinOp.and IntKind.u8 (n : Int) 32 = if 97 ≤ n then 32 else 0))) = true := by kernel_rfl
theorem idx_let (c : UInt8) (h : letB c = true) : bits BinOp.or IntKind.u8 (c.toNat : Int) 32 = (idxB c : Int) + 97 ∧ bits BinOp.and IntKind.u8 (c.toNat : Int) 32 = if 97 ≤ c.toNat then 32 else 0 := by
  have := List.all_eq_true.1 idx_tab c.toNat (List.mem_range.2 c.toNat_lt)
  simp only [Bool.or_eq_true, Bool.and_eq_true, Bool.not_eq_true', decide_eq_false_iff_not, decide_eq_true_eq] at this
  exact this.resolve_left (fun h2 => h2 ((letB_iff c).1 h))

theorem iIndex_any (c : UInt8) (w : World) (h : letB c = true) :
    Calls Try.prog 171 #[.int .u8 (c.toNat : Int)] w fun e w' => e = .returned (.int .i64 (idxB c : Int)) ∧ w' = w := by
  have hb := (idx_let c h).1
  have hj := idxB_lt c h
  obtain ⟨j, hje⟩ : ∃ j, idxB c = j := ⟨_, rfl⟩
  rw [hje] at hb hj ⊢
  clear hje h
  go_enter Try.func171, Try.ntmps171
  go_wp2
  go_ret
  exact ⟨rfl, rfl⟩

theorem iSign_any (c : UInt8) (w : World) (h : letB c = true) :
    Calls Try.prog 172 #[.int .u8 (c.toNat : Int)] w fun e w' => e = .returned (.int .i64 (sgnB c)) ∧ w' = w := by
  have hb := (idx_let c h).2
  by_cases h97 : 97 ≤ c.toNat
  · rw [if_pos h97] at hb
    have hs : Hid (sgnB c = 1) := by unfold sgnB; rw [if_pos h97]; exact Lib.hid rfl
    clear h h97
    go_enter Try.func172, Try.ntmps172
    go_wp2
    go_ret
    exact ⟨ret_int hs.out.symm, rfl⟩
  · rw [if_neg h97] at hb
    have hs : Hid (sgnB c = -1) := by unfold sgnB; rw [if_neg h97]; exact Lib.hid rfl
    clear h h97
    go_enter Try.func172, Try.ntmps172
    go_wp2
    go_ret
    exact ⟨ret_int hs.out.symm, rfl⟩

set_option maxRecDepth 100000 in
set_option maxHeartbeats 2000000 in
theorem iSums_in (n : Nat) (hn : 40 ≤ n) (g0 cap0 : Nat) (s : ByteArray) (w : World) (h : wordB s.data.toList = true) (hw : IsWord w.heap.size w (.slice (some ⟨g0, 0, none⟩) s.size cap0) s.data.toList) :
    CallsIn Fence.wide n Try.prog 127 #[.slice (some ⟨g0, 0, none⟩) s.size cap0] w fun e w' => e = .returned (.slice (some ⟨w.heap.size, 0, none⟩) 4 4) ∧ IntRow w.heap.size w' (.slice (some ⟨w.heap.size, 0, none⟩) 4 4) (sumsL s.data.toList) ∧ Below w.heap.size w w' := by
  obtain ⟨h1, h2, _⟩ := (wordB_iff _).1 h
  have hs : s.size ≤ 60 := by simpa using h1
  have H2 := Lib.hid h2
  have HW0 := Lib.hid hw
  clear h h1 h2 hw
  have hmk : ∀ w, (Instr.makeSlice 33 (.int .i64 4) (.int .i64 4)).run Try.prog w = .ok (.slice (some ⟨w.heap.size, 0, none⟩) 4 4) (w.alloc (.cells #[.int .i64 0, .int .i64 0, .int .i64 0, .int .i64 0] 3)) := fun _ => by kernel_rfl
  refine callsIn_of_wp_marks Try.func127 rfl trivial ?_ rfl
  simp only [Try.ntmps127, List.size_toArray, List.length_cons, List.length_nil, Nat.reduceAdd, Nat.reduceSub, Array.replicate_succ, Array.replicate_zero, List.push_toArray, List.append_toArray, List.nil_append, List.cons_append]
  gi_wp2_with fail
  refine ⟨trivial, fun _ => by omega, ?_⟩
  refine (callsIn_wide.2 (letters_fwd _ _ _ 1 _ (by decide))).mono ?_
  rintro e w2 ⟨rfl, rfl⟩
  have hrow : (w.alloc (.cells #[.int .i64 0, .int .i64 0, .int .i64 0, .int .i64 0] 3)).ownsRow w.heap.size 3 1 (.slice (some ⟨w.heap.size, 0, none⟩) 4 4) 4 (intsV (sumsL [])) :=
    ⟨rfl, .inr ⟨_, 4, #[.int .i64 0, .int .i64 0, .int .i64 0, .int .i64 0], rfl, Nat.le_refl _, heap_alloc_new w _, Nat.le_refl _, by decide, rfl, rfl⟩⟩
  have hrow2 := (hrow.alloc (.cells #[.slice (some ⟨w.heap.size, 0, none⟩) 4 4] 33)).alloc (.cells #[.slice (some ⟨g0, 0, none⟩) s.size cap0] WT)
  have hbx := (Boxed.new (w.alloc (.cells #[.int .i64 0, .int .i64 0, .int .i64 0, .int .i64 0] 3)) 33 (.slice (some ⟨w.heap.size, 0, none⟩) 4 4)).alloc (.cells #[.slice (some ⟨g0, 0, none⟩) s.size cap0] WT)
  have hbi := Boxed.new ((w.alloc (.cells #[.int .i64 0, .int .i64 0, .int .i64 0, .int .i64 0] 3)).alloc (.cells #[.slice (some ⟨w.heap.size, 0, none⟩) 4 4] 33)) WT (.slice (some ⟨g0, 0, none⟩) s.size cap0)
  have hBv : Below w.heap.size w (((w.alloc (.cells #[.int .i64 0, .int .i64 0, .int .i64 0, .int .i64 0] 3)).alloc (.cells #[.slice (some ⟨w.heap.size, 0, none⟩) 4 4] 33)).alloc (.cells #[.slice (some ⟨g0, 0, none⟩) s.size cap0] WT)) := (((Below.refl _ w).alloc (Nat.le_refl _) _).alloc (by simp) _).alloc (by simp; omega) _
  have hsz : (((w.alloc (.cells #[.int .i64 0, .int .i64 0, .int .i64 0, .int .i64 0] 3)).alloc (.cells #[.slice (some ⟨w.heap.size, 0, none⟩) 4 4] 33)).alloc (.cells #[.slice (some ⟨g0, 0, none⟩) s.size cap0] WT)).heap.size = w.heap.size + 3 := by simp
  simp only [World.size_alloc] at hbx hbi ⊢
  generalize (((w.alloc (.cells #[.int .i64 0, .int .i64 0, .int .i64 0, .int .i64 0] 3)).alloc (.cells #[.slice (some ⟨w.heap.size, 0, none⟩) 4 4] 33)).alloc (.cells #[.slice (some ⟨g0, 0, none⟩) s.size cap0] WT)) = V at hrow2 hbx hbi hBv hsz ⊢
  have hwV : IsWord w.heap.size V (.slice (some ⟨g0, 0, none⟩) s.size cap0) s.data.toList := HW0.out.below hBv
  have HBI := Lib.hid hbi
  have HBX := Lib.hid hbx
  have HR2 := Lib.hid hrow2
  have HWV := Lib.hid hwV
  clear hrow hrow2 hbx hbi hwV hmk
  gi_wp2_with fail
  refine range_letters (by omega) (gf := 204) (lb := #[.pointer (some ⟨w.heap.size + 1 + 1, 0, none⟩)]) rfl (enters_of Try.func204 (by kernel_rfl) rfl)
    (n₀ := w.heap.size) (B := w.heap.size) (xs := s.data.toList) (values_seq s.data.toList _ V (w.heap.size + 1 + 1) w.heap.size (by omega) (by omega) HBI.out.cell HWV.out) (by omega) (Nat.le_refl _) (by omega)
    (fun pre X => (∃ v, Boxed X (w.heap.size + 1) 33 v ∧ X.ownsRow w.heap.size 3 1 v 4 (intsV (sumsL pre)) ∧ v = .slice (some ⟨w.heap.size, 0, none⟩) 4 4) ∧ Below w.heap.size w X)
    (OwnFrom.and (Own.from (holdsRow_own w.heap.size (w.heap.size + 1) 33 3 1 (fun _ => 4) (fun pre => intsV (sumsL pre)) (fun _ v => v = .slice (some ⟨w.heap.size, 0, none⟩) 4 4)) _) (ownFrom_below (Nat.le_refl _) (by omega)))
    ⟨⟨_, HBX.out, HR2.out, rfl⟩, hBv⟩
    (fun x => { tmps := #[.slice (some ⟨g0, 0, none⟩) s.size cap0, undef, .slice none 0 0, .pointer (some ⟨w.heap.size + 1, 0, none⟩), .int .u8 (x.toNat : Int), .slice (some ⟨w.heap.size, 0, none⟩) 4 4, .slice (some ⟨g0, 0, none⟩) s.size cap0, .func (.func 204) #[] #[.pointer (some ⟨w.heap.size + 1 + 1, 0, none⟩)], .int .u8 (x.toNat : Int), undef, undef, undef, undef, undef, undef, undef, undef, undef, undef], defers := [] }) ?assign ?body ?done
  case assign =>
    intro l x W K hK
    gi_wp2
    exact hK
  case body =>
    rintro l pre x X ⟨⟨v, hbx, hrow, rfl⟩, hB⟩ hpre
    have hlet : letB x = true := List.all_eq_true.1 H2.out x (prefix_mem hpre)
    have hlp : letL pre = true := letL_of_mem _ _ H2.out (fun c hc => hpre.subset (by simp [hc]))
    have hplen := prefix_len hpre
    rw [show s.data.toList.length = s.size by simp] at hplen
    obtain ⟨hz4, hzb⟩ := sumsL_inv _ hlp
    obtain ⟨j, hj⟩ : ∃ j, idxB x = j := ⟨_, rfl⟩
    have hj4 : j < 4 := by rw [← hj]; exact idxB_lt _ hlet
    obtain ⟨z, hz⟩ : ∃ z, (sumsL pre)[j]'(by omega) = z := ⟨_, rfl⟩
    have hzm := hzb z (by rw [← hz]; exact List.getElem_mem _)
    have hz1' : -(1048576 : Int) ≤ z := by omega
    have hz2' : z ≤ 1048576 := by omega
    have hcl : X.cell? ⟨w.heap.size, j, none⟩ = some (.int .i64 z) := by
      rw [hrow.cellAt j (by omega), ← hz]
      simp [intsV, hz4, hj4]
    have hfr := hrow.frozenAt j
    have hj4' : (j : Int) < 4 := by omega
    have hbc := hbx.cell
    have hstep : (intsV (sumsL pre)).set j (.int .i64 (z + sgnB x)) = intsV (sumsL (pre ++ [x])) := by
      rw [sumsL_snoc]
      unfold sumsStep intsV
      rw [hj, List.getElem?_eq_getElem (by omega), Option.getD_some, hz, List.map_set]
    have hsg : -1 ≤ sgnB x ∧ sgnB x ≤ 1 := by unfold sgnB; split <;> omega
    obtain ⟨u, hu⟩ : ∃ u, sgnB x = u := ⟨_, rfl⟩
    rw [hu] at hstep hsg
    obtain ⟨hu1, hu2⟩ := hsg
    have HST := Lib.hid hstep
    have HLet := Lib.hid hlet
    have HJ := Lib.hid hj
    have HU := Lib.hid hu
    have HR := Lib.hid hrow
    have HBX' := Lib.hid hbx
    have hd : 1 ≤ n - 1 - 1 := by omega
    have hmx : Try.prog.follows .mixedOrders = true := by kernel_rfl
    have hix : ∀ W, Calls Try.prog 171 #[.int .u8 (x.toNat : Int)] W fun e w' => e = .returned (.int .i64 (j : Int)) ∧ w' = W := fun W => by rw [← hj]; exact iIndex_any x W hlet
    have hsx : ∀ W, Calls Try.prog 172 #[.int .u8 (x.toNat : Int)] W fun e w' => e = .returned (.int .i64 u) ∧ w' = W := fun W => by rw [← hu]; exact iSign_any x W hlet
    have HIX := Lib.hid hix
    have HSX := Lib.hid hsx
    clear hstep hlet hlp hz4 hzb hz hzm hrow hj hu hbx hpre hplen hix hsx
    gi_wp2
    gi_region_with_o (first | (refine ⟨trivial, ?_⟩; gi_at_call 171; refine (CallsIn.inRound l (callsIn_wide.2 (HIX.out _))).mono ?_; rintro e w' ⟨rfl, rfl⟩) | (refine ⟨trivial, ?_⟩; gi_at_call 172; refine (CallsIn.inRound l (callsIn_wide.2 (HSX.out _))).mono ?_; rintro e w' ⟨rfl, rfl⟩))
    all_goals gi_wp2
    all_goals
      have hwrap : IntKind.i64.wrap (z + u) = z + u := IntWalk.i64_in _ (by omega)
      rw [hwrap]
      have hst := HR.out.stored j (.int .i64 (z + u))
      rw [HST.out] at hst
      have hko : KeepsOthers X (X.setCell ⟨w.heap.size, j, none⟩ (.int .i64 (z + u))).drew := (KeepsOthers.setCell _ _ _).trans (KeepsOthers.drew _)
      exact ⟨hko.from _, ⟨((Below.refl _ X).setCell (p := ⟨w.heap.size, j, none⟩) (Nat.le_refl _) _).drew, fun k cs t r hk _ hkB => (Below.heap_setCell _ _ _ k hkB).trans hk, hko.from _⟩,
        ⟨_, (Below.heap_setCell X ⟨w.heap.size, j, none⟩ _ (w.heap.size + 1) (by show w.heap.size + 1 ≠ w.heap.size; omega)).trans HBX'.out, hst.1, rfl⟩, (hB.setCell (p := ⟨w.heap.size, j, none⟩) (Nat.le_refl _) _).drew⟩
  case done =>
    rintro D X hD ⟨⟨v, hbx, hrow, rfl⟩, hB⟩ hK
    have hbc := hbx.cell
    have HR := Lib.hid hrow
    clear hrow hbx
    gi_wp2
    refine ⟨by simp, .inl ⟨_, _, rfl, run_takeDeferred hK, ?_⟩⟩
    refine ⟨.slice (some ⟨w.heap.size, 0, none⟩) 4 4, by simp [results, Try.f127, go_sem], rfl, ?_, hB.trans (belowK_b (w := w) (Nat.le_refl _) X D _ _ (by omega) hK rfl rfl)⟩
    have := ownsRow_putObj HR.out (.deferred none) hK rfl
    unfold IntRow
    rw [(sumsL_inv _ H2.out).1]
    exact this

theorem iSums_any (g0 cap0 : Nat) (s : ByteArray) (w : World) (h : wordB s.data.toList = true) (hw : IsWord w.heap.size w (.slice (some ⟨g0, 0, none⟩) s.size cap0) s.data.toList) :
    Calls Try.prog 127 #[.slice (some ⟨g0, 0, none⟩) s.size cap0] w fun e w' => e = .returned (.slice (some ⟨w.heap.size, 0, none⟩) 4 4) ∧ IntRow w.heap.size w' (.slice (some ⟨w.heap.size, 0, none⟩) 4 4) (sumsL s.data.toList) ∧ Below w.heap.size w w' :=
  (callsIn_wide (n := 50)).1 (iSums_in 50 (by omega) g0 cap0 s w h hw)

theorem iWordSums_yes (s : ByteArray) (w : World) (h : wordB s.data.toList = true) :
    Calls Try.prog 53 #[.string s] w fun e w' => ∃ v, e = .returned (.tuple #[v, .bool true]) ∧ IntRow w.heap.size w' v (sumsL s.data.toList) ∧ Below w.heap.size w w' := by
  have hs : s.size ≤ 60 := by have := ((wordB_iff _).1 h).1; simpa using this
  have H := Lib.hid h
  clear h
  go_enter Try.func53, Try.ntmps53
  go_wp2_with fail
  refine (wordOf_yes s _ H.out).mono ?_
  rintro e w1 ⟨g0, cap0, rfl, hown, hb1⟩
  have HW := Lib.hid (isWord_of_owns (n₀ := w1.heap.size) (l := s.data.toList) (by simp) (by omega) hown (Nat.le_refl _))
  clear hown
  go_wp2_with fail
  refine (iSums_any g0 cap0 s w1 H.out HW.out).mono ?_
  rintro e w2 ⟨rfl, hr2, hb2⟩
  have HR := Lib.hid hr2
  have HB := Lib.hid (hb1.trans (hb2.mono hb1.size))
  have hs1 := hb1.size
  clear hr2 hb2 hb1
  go_wp2
  go_ret2
  exact ⟨_, rfl, HR.out.mono hs1, HB.out⟩

theorem iWordSums_no (s : ByteArray) (w : World) (hs : s.size ≤ maxLen) (h : wordB s.data.toList = false) :
    Calls Try.prog 53 #[.string s] w fun e w' => ∃ v, e = .returned (.tuple #[v, .bool false]) ∧ IntRow w.heap.size w' v [] ∧ Below w.heap.size w w' := by
  have H := Lib.hid h
  clear h
  refine (callsIn_wide (n := 50)).1 ?_
  refine callsIn_of_wp_marks Try.func53 rfl trivial ?_ rfl
  simp only [Try.ntmps53, List.size_toArray, List.length_cons, List.length_nil, Nat.reduceAdd, Nat.reduceSub, Array.replicate_succ, Array.replicate_zero, List.push_toArray, List.append_toArray, List.nil_append, List.cons_append]
  gi_wp2_with fail
  refine ⟨trivial, ?_⟩
  refine (callsIn_wide.2 (wordOf_no s _ hs H.out)).mono ?_
  rintro e w1 ⟨rfl, hb1⟩
  gi_wp2_with fail
  exact ⟨.tuple #[.slice none 0 0, .bool false], by simp [results, Try.f53, go_sem], _, rfl, World.ownsRow_nil _ _ _ _, hb1⟩

end Go.Proofs.Ytbbkpaledlbcmaa

/- The contracts of the laws' own helpers on slices of strings: the size they take, a copy of them, are two equal. -/

namespace Go.Proofs.Ytbbkpaledlbcmaa
open Go.RowKit

def strsV (zs : List ByteArray) : List Value := zs.map Value.string
theorem strsV_len (zs : List ByteArray) : (strsV zs).length = zs.length := by simp [strsV]
theorem infoStr : (Try.prog.info? 9).map (fun i => (i.zero, i.size, i.bytes)) = some (some (.string ByteArray.empty), 1, 16) := by kernel_rfl

theorem addr_add_block (x : Addr) (i : Nat) : (x.add i).block = x.block := by
  obtain ⟨b, off, sb⟩ := x
  unfold Addr.add
  split <;> rfl

/-- A slice at a whose first cells are the strings zs. -/
structure StrsAt (w : World) (a : Option Addr) (zs : List ByteArray) : Prop where
  cells : 0 < zs.length → ∃ x : Addr, a = some x ∧ x.block < w.heap.size ∧ ∀ i (h : i < zs.length), w.cell? (x.add i) = some (.string zs[i])
  small : ∀ s ∈ zs, s.size ≤ maxLen
theorem StrsAt.below {w w' : World} {a : Option Addr} {zs : List ByteArray} (h : StrsAt w a zs) (hb : Below w.heap.size w w') : StrsAt w' a zs :=
  ⟨fun h0 => by
    obtain ⟨x, e, h1, h2⟩ := h.cells h0
    exact ⟨x, e, Nat.lt_of_lt_of_le h1 hb.size, fun i hi => (hb.cell (p := x.add i) (by rw [addr_add_block]; exact h1)).trans (h2 i hi)⟩, h.small⟩

set_option maxRecDepth 100000 in
set_option maxHeartbeats 1000000 in
theorem szStringS_any (a : Option Addr) (cap n left : Nat) (zs : List ByteArray) (w : World) (hn : zs.length = n) (hm : n ≤ maxLen) (hs : StrsAt w a zs) (hl : left ≤ 1048576) :
    Calls Try.prog 133 #[.slice a n cap, .int .i64 left] w fun e w' =>
      (∃ k : Int, e = .returned (.int .i64 k) ∧ (k < 0 ∨ (0 ≤ k ∧ n ≤ left ∧ Hid (∀ s ∈ zs, s.size ≤ left)))) ∧ w = w' := by
  have HS := Lib.hid hs
  have HN := Lib.hid hn
  clear hs hn
  unfold maxLen at hm
  by_cases h0 : left < n
  · go_enter Try.func133, Try.ntmps133
    go_wp2
    go_ret
    exact ⟨⟨-1, rfl, .inl (by omega)⟩, rfl⟩
  · go_enter Try.func133, Try.ntmps133
    go_wp2
    go_loop [1, 5] (fun q i => ∃ (k : Nat) (m : Int), k ≤ n ∧ q = .int .i64 m ∧ i = .int .i64 k ∧ 0 ≤ m ∧ m ≤ left ∧ Hid (∀ j (h : j < zs.length), j < k → zs[j].size ≤ left)) (fun _ i => n - (intOf i).toNat)
    case atStart => exact ⟨0, _, Nat.zero_le _, rfl, rfl, by omega, by omega, Lib.hid (fun j _ h => absurd h (Nat.not_lt_zero _))⟩
    case round =>
      obtain ⟨k, m, hk, rfl, rfl, hm0, hm1, HJ⟩ := hrel
      by_cases hlt : k < n
      · have hkz : k < zs.length := by rw [HN.out]; exact hlt
        obtain ⟨x, rfl, hb, hc⟩ := HS.out.cells (by omega)
        obtain ⟨s, hs⟩ : ∃ s, zs[k] = s := ⟨_, rfl⟩
        have hck : w.cell? (x.add k) = some (.string s) := by rw [← hs]; exact hc k hkz
        have hsm : s.size ≤ maxLen := by rw [← hs]; exact HS.out.small _ (List.getElem_mem hkz)
        have HE := Lib.hid hs
        clear hs hc
        unfold maxLen at hsm
        by_cases hlt2 : m < s.size
        · go_wp2
          go_ret
          exact ⟨⟨_, rfl, .inl (by omega)⟩, rfl⟩
        · go_wp2
          go_round
          case rel =>
            refine ⟨k + 1, _, by omega, rfl, by go_num, by omega, by omega, Lib.hid ?_⟩
            intro j hj hjk
            by_cases e : j = k
            · subst e; rw [HE.out]; omega
            · exact HJ.out j hj (by omega)
          case measure => simp [intOf]; omega
      · obtain rfl : k = n := by omega
        go_wp2
        go_ret
        refine ⟨⟨_, rfl, .inr ⟨by omega, by omega, Lib.hid ?_⟩⟩, rfl⟩
        intro s hs
        obtain ⟨j, hj, rfl⟩ := List.mem_iff_getElem.1 hs
        exact HJ.out j hj (by rw [← HN.out]; exact hj)

theorem fillS_set (zs : List ByteArray) (n k : Nat) (hl : zs.length = n) (hk : k < n) :
    (strsV (zs.take k ++ List.replicate (n - k) ByteArray.empty)).set k (.string (zs[k]'(by omega))) = strsV (zs.take (k + 1) ++ List.replicate (n - (k + 1)) ByteArray.empty) := by
  unfold strsV
  rw [List.map_append, List.set_append_right _ _ (by simp; omega), List.length_map, List.length_take, Nat.min_eq_left (by omega), Nat.sub_self, List.take_succ_eq_append_getElem (by omega : k < zs.length), show n - k = (n - (k + 1)) + 1 by omega, List.replicate_succ, List.map_cons, List.set_cons_zero, List.map_append, List.map_append, List.append_assoc]
  rfl

set_option maxRecDepth 100000 in
set_option maxHeartbeats 1000000 in
theorem toStringS_any (a : Option Addr) (cap n : Nat) (zs : List ByteArray) (w : World) (hn : zs.length = n) (hm : n ≤ 1048576) (hs : StrsAt w a zs) :
    Calls Try.prog 135 #[.slice a n cap] w fun e w' =>
      e = .returned (.slice (some ⟨w.heap.size, 0, none⟩) n n) ∧ w'.ownsRow w.heap.size 9 1 (.slice (some ⟨w.heap.size, 0, none⟩) n n) n (strsV zs) ∧ Below w.heap.size w w' := by
  obtain ⟨i0, hi, hz0, hz1, hz2⟩ := info_parts infoStr
  have HS := Lib.hid hs
  have HN := Lib.hid hn
  clear hs hn
  go_enter Try.func135, Try.ntmps135
  go_wp2_with (at_make; refine wpList_make_full _ rfl _ _ 59 rfl w.heap.size 9 i0 (.string ByteArray.empty) 1 Try.underlying59 hi hz0 hz1 .i64 .i64 _ _ n rfl rfl rfl rfl (by rw [hz2]; omega) (by unfold maxLen; omega) (Nat.le_refl _) ?_; intro w1 hrow hgrow)
  rw [show (madeCells (Value.cells (.string ByteArray.empty)) (n * 1)).toList = strsV (zs.take 0 ++ List.replicate (n - 0) ByteArray.empty) by
    rw [show Value.cells (.string ByteArray.empty) = #[.string ByteArray.empty] from rfl, toList_madeCells_one]; simp [strsV]] at hrow
  have hB1 : Below w.heap.size w w1 := (Below.refl _ _).grown hgrow (Nat.le_refl _) (fun k e => by cases e)
  go_loopw [4] (fun i wr => ∃ k : Nat, k ≤ n ∧ i = .int .i64 k ∧ wr.ownsRow w.heap.size 9 1 (.slice (some ⟨w.heap.size, 0, none⟩) n n) n (strsV (zs.take k ++ List.replicate (n - k) ByteArray.empty)) ∧ Below w.heap.size w wr)
    (fun i _ => n - (intOf i).toNat)
  case atStart => exact ⟨0, Nat.zero_le _, rfl, hrow, hB1⟩
  case round =>
    obtain ⟨k, hk, rfl, hr, hB⟩ := hrel
    by_cases hlt : k < n
    · have hkz : k < zs.length := by rw [HN.out]; exact hlt
      obtain ⟨x, rfl, hb, hc⟩ := HS.out.cells (by omega)
      obtain ⟨s, hs⟩ : ∃ s, zs[k] = s := ⟨_, rfl⟩
      have hsrc : wr.cell? (x.add k) = some (.string s) := by rw [← hs]; exact (hB.cell (p := x.add k) (by rw [addr_add_block]; exact hb)).trans (hc k hkz)
      have hfil := fillS_set zs n k HN.out hlt
      rw [hs] at hfil
      have hdst : wr.cell? ⟨w.heap.size, k, none⟩ = some (.string ByteArray.empty) := by
        rw [hr.cellAt k (by omega)]
        simp only [strsV, List.getElem?_map]
        rw [List.getElem?_append_right (by simp; omega), List.getElem?_replicate]
        simp
        omega
      have hfr := hr.frozenAt k
      have HR := Lib.hid hr
      have HF := Lib.hid hfil
      have HE := Lib.hid hs
      clear hr hfil hs hc
      go_wp2
      go_roundw
      case rel =>
        have hst := HR.out.stored k (.string s)
        refine ⟨k + 1, by omega, by go_num, ?_, hB.setCell (p := ⟨w.heap.size, k, none⟩) (Nat.le_refl _) _⟩
        rw [← HF.out]
        exact hst.1
      case measure => simp [intOf]; omega
    · obtain rfl : k = n := by omega
      rw [Nat.sub_self, List.replicate_zero, List.append_nil, List.take_of_length_le (by rw [HN.out]; exact Nat.le_refl _)] at hr
      have HR := Lib.hid hr
      clear hr hrow
      go_wp2
      go_ret
      exact ⟨rfl, HR.out, hB⟩

set_option maxRecDepth 100000 in
set_option maxHeartbeats 1000000 in
theorem eqStringS_yes (a1 a2 : Option Addr) (c1 c2 n : Nat) (zs : List ByteArray) (w : World) (hn : zs.length = n) (hm : n ≤ maxLen) (h1 : StrsAt w a1 zs) (h2 : StrsAt w a2 zs) :
    Calls Try.prog 137 #[.slice a1 n c1, .slice a2 n c2] w fun e w' => e = .returned (.bool true) ∧ Below w.heap.size w w' := by
  have H1 := Lib.hid h1
  have H2 := Lib.hid h2
  have HN := Lib.hid hn
  clear h1 h2 hn
  unfold maxLen at hm
  go_enter Try.func137, Try.ntmps137
  go_wp2
  go_loopw [5] (fun i wr => ∃ k : Nat, k ≤ n ∧ i = .int .i64 k ∧ Below w.heap.size w wr) (fun i _ => n - (intOf i).toNat)
  case atStart => exact ⟨0, Nat.zero_le _, rfl, Below.refl _ _⟩
  case round =>
    obtain ⟨k, hk, rfl, hB⟩ := hrel
    by_cases hlt : k < n
    · have hkz : k < zs.length := by rw [HN.out]; exact hlt
      obtain ⟨x1, rfl, hb1, hc1⟩ := H1.out.cells (by omega)
      obtain ⟨x2, rfl, hb2, hc2⟩ := H2.out.cells (by omega)
      obtain ⟨z, hz⟩ : ∃ z, zs[k] = z := ⟨_, rfl⟩
      have d1 : wr.cell? (x1.add k) = some (.string z) := by rw [← hz]; exact (hB.cell (p := x1.add k) (by rw [addr_add_block]; exact hb1)).trans (hc1 k hkz)
      have d2 : wr.cell? (x2.add k) = some (.string z) := by rw [← hz]; exact (hB.cell (p := x2.add k) (by rw [addr_add_block]; exact hb2)).trans (hc2 k hkz)
      clear hz hkz hc1 hc2
      go_wp2
      go_quiet (fail)
      go_wp2
      go_roundw
      case rel => exact ⟨k + 1, by omega, by go_num, below_drewN hB _⟩
      case measure => simp [intOf]; omega
    · go_wp2
      go_ret
      exact ⟨rfl, hB⟩

end Go.Proofs.Ytbbkpaledlbcmaa

/- Rows of a call's own when other blocks turn. -/

namespace Go.Proofs.Ytbbkpaledlbcmaa
open Go.RowKit

theorem ownsRow_touched {w w' : World} {base : Nat} {e : TypeId} {size : Nat} {v : Value} {n : Nat} {xs : List Value} (h : w.ownsRow base e size v n xs) (ht : ∀ b, v.ownBlock = some b → b < w.heap.size → w'.heap[b]? = w.heap[b]?) : w'.ownsRow base e size v n xs := by
  refine ⟨h.1, ?_⟩
  rcases h.2 with ⟨rfl, h0⟩ | ⟨g, cap, cur, rfl, hb, hg, h3⟩
  · exact .inl ⟨rfl, h0⟩
  · exact .inr ⟨g, cap, cur, rfl, hb, (ht g rfl (Array.getElem?_eq_some_iff.1 hg).1).trans hg, h3⟩
/-- What lies elsewhere is as it was. -/
structure Touched (S : Nat → Prop) (w w' : World) : Prop where
  os : w'.os = w.os
  tape : w'.tape = w.tape
  output : w'.output = w.output
  size : w.heap.size ≤ w'.heap.size
  block : ∀ i, i < w.heap.size → ¬ S i → w'.heap[i]? = w.heap[i]?
theorem Touched.refl (S : Nat → Prop) (w : World) : Touched S w w := ⟨rfl, rfl, rfl, Nat.le_refl _, fun _ _ _ => rfl⟩
theorem Touched.grown {S : Nat → Prop} {w w1 w2 : World} {row : Option Nat} (h : Touched S w w1) (hg : w1.grownBy w2 row) (hS : ∀ b, row = some b → S b) : Touched S w w2 :=
  ⟨hg.os.trans h.os, hg.tape.trans h.tape, hg.output.trans h.output, Nat.le_trans h.size hg.size, fun i hi hn => by
    rw [hg.block i (Nat.lt_of_lt_of_le hi h.size) (fun e => hn (hS i e.symm)), h.block i hi hn]⟩
theorem Touched.below {S : Nat → Prop} {lo : Nat} {w w' : World} (h : Touched S w w') (hl : lo ≤ w.heap.size) (hS : ∀ i, S i → lo ≤ i) : Below lo w w' :=
  ⟨h.os, h.tape, h.output, h.size, fun i hi => h.block i (by omega) fun hs => by have := hS i hs; omega⟩
theorem ownsRow_bel {w w' : World} {base : Nat} {e : TypeId} {size : Nat} {v : Value} {n : Nat} {xs : List Value} (h : w.ownsRow base e size v n xs) (hb : Below w.heap.size w w') : w'.ownsRow base e size v n xs :=
  ownsRow_touched h fun b _ hl => hb.block b hl
theorem ownsRow_lt {w : World} {base size : Nat} {e : TypeId} {v : Value} {n : Nat} {xs : List Value} (h : w.ownsRow base e size v n xs) : ∀ j, v.ownBlock = some j → base ≤ j ∧ j < w.heap.size := fun j e => by
  rcases h.2 with ⟨rfl, _⟩ | ⟨g, cap, cur, rfl, hb, hg, _⟩
  · cases e
  · simp [Value.ownBlock] at e
    subst e
    exact ⟨hb, (Array.getElem?_eq_some_iff.1 hg).1⟩
theorem Touched.trans {S : Nat → Prop} {w w1 w2 : World} (h : Touched S w w1) (k : Touched S w1 w2) : Touched S w w2 :=
  ⟨k.os.trans h.os, k.tape.trans h.tape, k.output.trans h.output, Nat.le_trans h.size k.size, fun i hi hn => (k.block i (Nat.lt_of_lt_of_le hi h.size) hn).trans (h.block i hi hn)⟩
theorem Touched.mono {S T : Nat → Prop} {w w' : World} (h : Touched S w w') (hS : ∀ b, S b → T b) : Touched T w w' :=
  ⟨h.os, h.tape, h.output, h.size, fun i hi hn => h.block i hi fun hs => hn (hS i hs)⟩
theorem Touched.of_below {S : Nat → Prop} {w w' : World} (h : Below w.heap.size w w') : Touched S w w' := ⟨h.os, h.tape, h.output, h.size, fun i hi _ => h.block i hi⟩

end Go.Proofs.Ytbbkpaledlbcmaa

/- A slice of strings that came in, and its copy. -/

namespace Go.Proofs.Ytbbkpaledlbcmaa
open Go.RowKit

/-- The slice at a of n cells holds the strings zs. -/
structure IsStrs (w : World) (a : Option Addr) (n : Nat) (zs : List ByteArray) : Prop where
  len : zs.length = n
  max : n ≤ maxLen
  at_ : StrsAt w a zs
theorem strsAt_new (w : World) (a : Option Addr) (len : Nat) (ss : List ByteArray) (x : Addr) (ha : a = some x) (hl : len ≤ ss.length) (hc : ∀ i, i < ss.length → w.cell? (x.add i) = some (.string (ss.getD i ByteArray.empty))) (hm : ∀ s ∈ ss, s.size ≤ maxLen) : StrsAt w a (ss.take len) :=
  ⟨fun h0 => ⟨x, ha, by
      have := hc 0 (by simp at h0; omega)
      have h := World.block_lt_of_cell? _ _ this
      rw [addr_add_block] at h
      exact h, fun i hi => by
      simp only [List.length_take] at hi
      have := hc i (by omega)
      rw [List.getElem_take]
      rw [List.getD_eq_getElem?_getD, List.getElem?_eq_getElem (by omega)] at this
      exact this⟩, fun s hs => hm s (List.mem_of_mem_take hs)⟩

theorem strsAt_of_owns {w : World} {base g cap n : Nat} {e : TypeId} {zs : List ByteArray} (hn : zs.length = n) (h : w.ownsRow base e 1 (.slice (some ⟨g, 0, none⟩) n cap) n (strsV zs)) (hm : ∀ s ∈ zs, s.size ≤ maxLen) :
    StrsAt w (some ⟨g, 0, none⟩) zs ∧ g < w.heap.size ∧ ∀ i (h : i < zs.length), w.cell? ⟨g, i, none⟩ = some (.string zs[i]) := by
  have hg : g < w.heap.size := by
    rcases h.2 with ⟨h, _⟩ | ⟨g1, cap1, cur, h1, _, hgb, _⟩
    · cases h
    · cases h1; exact (Array.getElem?_eq_some_iff.1 hgb).1
  have hc : ∀ i (h : i < zs.length), w.cell? ⟨g, i, none⟩ = some (.string zs[i]) := fun i hi => by
    rw [h.cellAt i (by omega)]
    simp [strsV, hi]
  refine ⟨⟨fun _ => ⟨_, rfl, hg, fun i hi => ?_⟩, hm⟩, hg, hc⟩
  have e1 : (⟨g, 0, none⟩ : Addr).add i = ⟨g, i, none⟩ := by unfold Addr.add; split <;> simp_all
  rw [e1]; exact hc i hi

end Go.Proofs.Ytbbkpaledlbcmaa

/- Terms in memory; a class of worlds for regions that draw their order and whose callees make memory; the contracts of the laws' own helpers on terms. -/

namespace Go.Proofs.Ytbbkpaledlbcmaa
open Go.RowKit

/-- A term. -/
structure Tm where
  c : Int
  s : ByteArray
  deriving Inhabited
def termV (t : Tm) : Value := .agg #[.int .i64 t.c, .string t.s]
def termsV (ts : List Tm) : List Value := (ts.map fun t => [Value.int .i64 t.c, Value.string t.s]).flatten
theorem termsV_len (ts : List Tm) : (termsV ts).length = ts.length * 2 := by
  induction ts with
  | nil => rfl
  | cons t r ih => unfold termsV at *; simp only [List.map_cons, List.flatten_cons, List.length_append, ih, List.length_cons, List.length_nil]; omega
theorem termsV_cons (t : Tm) (r : List Tm) : termsV (t :: r) = .int .i64 t.c :: .string t.s :: termsV r := rfl
theorem termsV_append (a b : List Tm) : termsV (a ++ b) = termsV a ++ termsV b := by simp [termsV]
theorem termsV_get (ts : List Tm) : ∀ (i : Nat) (h : i < ts.length), (termsV ts)[i * 2]? = some (.int .i64 ts[i].c) ∧ (termsV ts)[i * 2 + 1]? = some (.string ts[i].s) := by
  induction ts with
  | nil => intro i h; simp at h
  | cons t r ih =>
    intro i h
    cases i with
    | zero => exact ⟨rfl, rfl⟩
    | succ i =>
      obtain ⟨h1, h2⟩ := ih i (by simpa using h)
      rw [termsV_cons, show (i + 1) * 2 = i * 2 + 1 + 1 by omega, show i * 2 + 1 + 1 + 1 = (i * 2 + 1) + 1 + 1 by omega]
      exact ⟨h1, h2⟩

theorem addr_next (x : Addr) (i : Nat) : x.add (i * 2 + 1) = ⟨(x.add (i * 2)).block, (x.add (i * 2)).off + 1, none⟩ := by
  rw [← Go.Deep.add_add]
  unfold Addr.add
  simp
/-- Terms from the address x on. -/
def TermsAt (w : World) (x : Addr) (ts : List Tm) : Prop :=
  x.block < w.heap.size ∧ ∀ i (h : i < ts.length), w.cell? (x.add (i * 2)) = some (.int .i64 ts[i].c) ∧ w.cell? (x.add (i * 2 + 1)) = some (.string ts[i].s)
theorem TermsAt.below {w w' : World} {x : Addr} {ts : List Tm} (h : TermsAt w x ts) (hb : Below w.heap.size w w') : TermsAt w' x ts :=
  ⟨Nat.lt_of_lt_of_le h.1 hb.size, fun i hi => by
    obtain ⟨h1, h2⟩ := h.2 i hi
    exact ⟨(hb.cell (p := x.add (i * 2)) (by rw [addr_add_block]; exact h.1)).trans h1, (hb.cell (p := x.add (i * 2 + 1)) (by rw [addr_add_block]; exact h.1)).trans h2⟩⟩

/-- A slice of terms that came in. -/
structure IsTerms (w : World) (a : Option Addr) (n : Nat) (ts : List Tm) : Prop where
  len : ts.length = n
  max : n ≤ maxLen
  at_ : 0 < n → ∃ x, a = some x ∧ TermsAt w x ts
  small : ∀ t ∈ ts, t.s.size ≤ maxLen ∧ -9223372036854775808 ≤ t.c ∧ t.c ≤ 9223372036854775807
theorem IsTerms.below {w w' : World} {a : Option Addr} {n : Nat} {ts : List Tm} (h : IsTerms w a n ts) (hb : Below w.heap.size w w') : IsTerms w' a n ts :=
  ⟨h.len, h.max, fun h0 => by obtain ⟨x, e, hx⟩ := h.at_ h0; exact ⟨x, e, hx.below hb⟩, h.small⟩

/-! ### Worlds behind w, what was there as it was -/
structure BelowBy (w : World) where
  world : World
  below : Below w.heap.size w world
instance (w : World) : Inhabited (BelowBy w) := ⟨⟨w, Below.refl _ _⟩⟩
theorem wp_region_below {P : Program} {id : Nat} {Q : Exit → Act → World → Prop} {a : Act} {w : World} {l : List Oper} (hm : P.follows .mixedOrders = true) (hB : Region.lexB .any l.toArray = true)
    (h : wpQuiet P l.toArray (fun w' => ∃ p : BelowBy w, w' = p.world) (fun a' => ∀ w', (∃ p : BelowBy w, w' = p.world) → Q .normal a' w') l a) : (Code.region id l.toArray true).wp P Q a w :=
  wp_region_quiet (C := fun w' => ∃ p : BelowBy w, w' = p.world) hm hB ⟨⟨w.drew, (Below.refl _ _).drew⟩, rfl⟩ (by simpa using h)
theorem BelowBy.cell {w : World} {a : Addr} {v : Value} (hb : a.block < w.heap.size) (h : w.cell? a = some v) (p : BelowBy w) : p.world.cell? a = some v := (p.below.cell (p := a) hb).trans h
theorem Calls.bel {P : Program} {f : FuncId} {args : Array Value} {w : World} {p : BelowBy w} {v : Value}
    (h : Calls P f args p.world fun e w' => e = .returned v ∧ Below p.world.heap.size p.world w') : Calls P f args p.world fun e w'' => e = .returned v ∧ ∃ q : BelowBy w, w'' = q.world :=
  h.mono fun _ w' ⟨he, hb⟩ => ⟨he, ⟨w', p.below.trans (hb.mono p.below.size)⟩, rfl⟩

end Go.Proofs.Ytbbkpaledlbcmaa

/- The contracts of the laws' own helpers on terms: a copy; are two equal. -/

namespace Go.Proofs.Ytbbkpaledlbcmaa
open Go.RowKit

def zeroTm : Tm := ⟨0, ByteArray.empty⟩
theorem made_terms (n : Nat) : (madeCells #[.int .i64 0, .string ByteArray.empty] (n * 2)).toList = termsV (List.replicate n zeroTm) := by
  apply List.ext_getElem
  · simp [madeCells, termsV_len]
  · intro j h1 h2
    have hj : j < n * 2 := by simpa [madeCells] using h1
    have hg := termsV_get (List.replicate n zeroTm) (j / 2) (by simp; omega)
    simp only [List.getElem_replicate] at hg
    have e1 : (madeCells #[.int .i64 0, .string ByteArray.empty] (n * 2)).toList[j] = #[Value.int .i64 0, .string ByteArray.empty][j % 2]! := by simp [madeCells]
    rw [e1]
    rcases Nat.mod_two_eq_zero_or_one j with h | h
    · rw [h]
      have e2 : j / 2 * 2 = j := by omega
      rw [e2] at hg
      have := (List.getElem?_eq_some_iff.1 hg.1).2
      rw [this]; rfl
    · rw [h]
      have e2 : j / 2 * 2 + 1 = j := by omega
      rw [e2] at hg
      have := (List.getElem?_eq_some_iff.1 hg.2).2
      rw [this]; rfl

/-- One term more is filled in. -/
theorem fill_terms (ts : List Tm) (n k : Nat) (hl : ts.length = n) (hk : k < n) :
    ((termsV (ts.take k ++ List.replicate (n - k) zeroTm)).set (k * 2) (.int .i64 (ts[k]'(by omega)).c)).set (k * 2 + 1) (.string (ts[k]'(by omega)).s) = termsV (ts.take (k + 1) ++ List.replicate (n - (k + 1)) zeroTm) := by
  have hkl : (termsV (ts.take k)).length = k * 2 := by rw [termsV_len, List.length_take, Nat.min_eq_left (by omega)]
  rw [termsV_append, show n - k = (n - (k + 1)) + 1 by omega, List.replicate_succ, termsV_cons, List.set_append_right _ _ (by omega), hkl, Nat.sub_self, List.set_cons_zero, List.set_append_right _ _ (by omega), hkl, Nat.add_sub_cancel_left, List.set_cons_succ, List.set_cons_zero,
    List.take_succ_eq_append_getElem (by omega : k < ts.length), termsV_append, termsV_append, List.append_assoc]
  rfl

/-- A row of terms of the call's own reads as terms. -/
theorem termsAt_of_owns {w : World} {base g cap n : Nat} {e : TypeId} {ts : List Tm} (hn : ts.length = n) (h : w.ownsRow base e 2 (.slice (some ⟨g, 0, none⟩) n cap) n (termsV ts)) : TermsAt w ⟨g, 0, none⟩ ts := by
  have hg : g < w.heap.size := by
    rcases h.2 with ⟨h, _⟩ | ⟨g1, cap1, cur, h1, _, hgb, _⟩
    · cases h
    · cases h1; exact (Array.getElem?_eq_some_iff.1 hgb).1
  have ha : ∀ j, (⟨g, 0, none⟩ : Addr).add j = ⟨g, j, none⟩ := fun j => by unfold Addr.add; split <;> simp_all
  refine ⟨hg, fun i hi => ?_⟩
  rw [ha, ha, h.cellAt _ (by omega), h.cellAt _ (by omega)]
  exact termsV_get ts i hi

end Go.Proofs.Ytbbkpaledlbcmaa

/- The contracts of the model's 'l6In', 'l2Less', 'SumIn'. -/

namespace Go.Proofs.Ytbbkpaledlbcmaa
open Go.RowKit

def inR (a b c : Int) : Bool := decide (a ≤ c) && decide (c ≤ b)
/-- Shorter words first, of one length byte by byte. -/
def lessW (a b : ByteArray) : Bool := if a.size = b.size then Op.bytesLess a.toList b.toList else decide (a.size < b.size)
/-- Is the term at j as a sum wants it, beside the one ahead of it? -/
def goodAt (ts : List Tm) (j : Nat) : Bool :=
  (ts.getD j default).c != 0 && inR (-1000000) 1000000 (ts.getD j default).c && wordB (ts.getD j default).s.data.toList && (decide (j = 0) || lessW (ts.getD (j - 1) default).s (ts.getD j default).s)
def allGood (ts : List Tm) (n : Nat) : Bool := (List.range n).all (goodAt ts)
theorem allGood_succ (ts : List Tm) (n : Nat) : allGood ts (n + 1) = (allGood ts n && goodAt ts n) := by simp [allGood, List.range_succ]
theorem allGood_false (ts : List Tm) (n k : Nat) (hk : k < n) (h : goodAt ts k = false) : allGood ts n = false :=
  List.all_eq_false.2 ⟨k, List.mem_range.2 hk, by simp [h]⟩
/-- Is this a sum? -/
def sumB (ts : List Tm) : Bool := allGood ts ts.length && decide (ts.length ≤ 300)

theorem sumB_false (ts : List Tm) (k : Nat) (hk : k < ts.length) (h : goodAt ts k = false) : sumB ts = false := by
  unfold sumB; rw [allGood_false ts _ k hk h, Bool.false_and]
theorem goodAt_c (ts : List Tm) (k : Nat) (t : Tm) (ht : ts.getD k default = t) (h : t.c = 0) : goodAt ts k = false := by
  unfold goodAt; rw [ht, h]; rfl
theorem goodAt_r (ts : List Tm) (k : Nat) (t : Tm) (ht : ts.getD k default = t) (h : inR (-1000000) 1000000 t.c = false) : goodAt ts k = false := by
  unfold goodAt; rw [ht, h]; simp
theorem goodAt_w (ts : List Tm) (k : Nat) (t : Tm) (ht : ts.getD k default = t) (h : wordB t.s.data.toList = false) : goodAt ts k = false := by
  unfold goodAt; rw [ht, h]; simp
theorem goodAt_zero (ts : List Tm) (k : Nat) (t : Tm) (hk : k = 0) (ht : ts.getD k default = t) (h0 : ¬ t.c = 0) (h1 : inR (-1000000) 1000000 t.c = true) (h2 : wordB t.s.data.toList = true) : goodAt ts k = true := by
  unfold goodAt; rw [ht, h1, h2]; simp [h0, hk]
theorem goodAt_succ (ts : List Tm) (k : Nat) (t p : Tm) (hk : 0 < k) (ht : ts.getD k default = t) (hp : ts.getD (k - 1) default = p) (h0 : ¬ t.c = 0) (h1 : inR (-1000000) 1000000 t.c = true) (h2 : wordB t.s.data.toList = true) : goodAt ts k = lessW p.s t.s := by
  have h3 : ¬ k = 0 := by omega
  unfold goodAt; rw [ht, hp, h1, h2]; simp [h0, h3]

theorem l6In_any (c a b : Int) (w : World) :
    Calls Try.prog 91 #[.int .i64 c, .int .i64 a, .int .i64 b] w fun e w' => e = .returned (.bool (inR a b c)) ∧ w = w' := by
  by_cases h : a ≤ c
  · go_enter Try.func91, Try.ntmps91
    go_wp2
    go_ret
    exact ⟨ret_bool (by simp [inR, h]), rfl⟩
  · go_enter Try.func91, Try.ntmps91
    go_wp2
    go_ret
    exact ⟨ret_bool (by unfold inR; rw [decide_eq_false (by omega : ¬ a ≤ c)]; rfl), rfl⟩

theorem l6In_is (c a b : Int) (r : Bool) (w : World) (h : inR a b c = r) :
    Calls Try.prog 91 #[.int .i64 c, .int .i64 a, .int .i64 b] w fun e w' => e = .returned (.bool r) ∧ Below w.heap.size w w' :=
  (l6In_any c a b w).mono fun _ _ ⟨h1, h2⟩ => ⟨by rw [h1, h], by rw [← h2]; exact Below.refl _ _⟩
end Go.Proofs.Ytbbkpaledlbcmaa

/- The order of terms: the contracts of cmp.Compare, strings.Compare, cmp.Or and the program's 'compareTerms'. -/

namespace Go.Proofs.Ytbbkpaledlbcmaa
open Go.RowKit Go.Sort

theorem ret_i64 {a b : Int} (h : a = b) : Ending.returned (.int .i64 a) = .returned (.int .i64 b) := by rw [h]
def orInt (x y : Int) : Int := if x = 0 then y else x
/-- The order of texts. -/
def cmpW (a b : ByteArray) : Int := orInt (Lib.compareInt a.size b.size) (Lib.compareBytes a.data.toList b.data.toList)

theorem grow_alloc (w : World) (os : Array Obj) (o : Obj) : (grow w os).alloc o = grow w (os.push o) := by
  unfold grow World.alloc
  simp
theorem alloc_grow (w : World) (o : Obj) : w.alloc o = grow w #[o] := by
  unfold grow World.alloc
  simp

/-- Behind w: some draws, some blocks. -/
def Grew (w w' : World) : Prop := ∃ q os, w' = grow (w.drewN q) os
theorem Grew.refl (w : World) : Grew w w := ⟨0, #[], by unfold grow World.drewN; simp⟩
theorem Grew.alloc {w w' : World} (h : Grew w w') (o : Obj) : Grew w (w'.alloc o) := by
  obtain ⟨q, os, rfl⟩ := h
  exact ⟨q, os.push o, grow_alloc _ _ _⟩
theorem Grew.drew {w w' : World} (h : Grew w w') : Grew w w'.drew := by
  obtain ⟨q, os, rfl⟩ := h
  exact ⟨q + 1, os, rfl⟩
theorem Grew.below {w w' : World} (h : Grew w w') : Below w.heap.size w w' := by
  obtain ⟨q, os, rfl⟩ := h
  refine ⟨rfl, rfl, rfl, by simp [grow], fun k hk => ?_⟩
  simp only [grow, World.heap_drewN]
  rw [Array.getElem?_append_left hk]

end Go.Proofs.Ytbbkpaledlbcmaa

/- The contracts of the program's 'termWords', 'isZero', 'inRange'. -/

namespace Go.Proofs.Ytbbkpaledlbcmaa
open Go.RowKit Go.Shelf

/-- Is a term as SumOf wants it? -/
def termB (t : Tm) : Bool := wordB t.s.data.toList && inR (-1000000) 1000000 t.c
def twB (ts : List Tm) : Bool := decide (ts.length ≤ 300) && ts.all termB
theorem twB_len {ts : List Tm} (h : ¬ ts.length ≤ 300) : twB ts = false := by unfold twB; rw [decide_eq_false h, Bool.false_and]
theorem twB_at {ts : List Tm} {k : Nat} (hk : k < ts.length) (h : termB ts[k] = false) : twB ts = false := by
  unfold twB
  rw [Bool.and_eq_false_iff]
  exact .inr (List.all_eq_false.2 ⟨_, List.getElem_mem hk, by simp [h]⟩)
theorem twB_of {ts : List Tm} (h : ts.length ≤ 300) (ha : ∀ j (hj : j < ts.length), termB ts[j] = true) : twB ts = true := by
  unfold twB
  rw [decide_eq_true h, Bool.true_and]
  exact List.all_eq_true.2 fun t ht => by
    obtain ⟨j, hj, rfl⟩ := List.getElem_of_mem ht
    exact ha j hj

end Go.Proofs.Ytbbkpaledlbcmaa

/- The contracts of slices.IndexFunc and slices.ContainsFunc at 'isZero'. -/

namespace Go.Proofs.Ytbbkpaledlbcmaa
open Go.RowKit Go.Shelf

/-- r is the first place of a coefficient 0, or -1. -/
def FirstZero (ts : List Tm) (r : Int) : Prop :=
  (r = -1 ∧ ∀ j (h : j < ts.length), ts[j].c ≠ 0) ∨ ∃ (i : Nat) (h : i < ts.length), r = i ∧ ts[i].c = 0 ∧ ∀ j (h : j < i), ts[j].c ≠ 0

def hasZero (ts : List Tm) : Bool := ts.any fun t => t.c == 0
theorem hasZero_first {ts : List Tm} {r : Int} (h : FirstZero ts r) : hasZero ts = decide (0 ≤ r) := by
  unfold hasZero
  rcases h with ⟨rfl, h⟩ | ⟨i, hi, rfl, h, _⟩
  · rw [List.any_eq_false.2]
    · rfl
    · intro t ht
      obtain ⟨j, hj, rfl⟩ := List.getElem_of_mem ht
      simpa using h j hj
  · rw [decide_eq_true (by omega : (0 : Int) ≤ i)]
    exact List.any_eq_true.2 ⟨_, List.getElem_mem hi, by simpa using h⟩

/-- A list that is in order. -/
def ascB (ts : List Tm) : Bool := (List.range ts.length).all fun j => decide (j = 0) || lessW (ts.getD (j - 1) default).s (ts.getD j default).s

end Go.Proofs.Ytbbkpaledlbcmaa

/- The contract of the program's 'ascends'. -/

namespace Go.Proofs.Ytbbkpaledlbcmaa
open Go.RowKit Go.Shelf

theorem bytes_cmp : ∀ a b : List UInt8, Op.bytesLess a b = decide (Lib.compareBytes a b < 0)
  | [], [] => rfl
  | [], _ :: _ => rfl
  | _ :: _, [] => rfl
  | a :: x, b :: y => by
    unfold Op.bytesLess Lib.compareBytes
    by_cases h : a < b
    · rw [if_pos h]; simp [h]
    · rw [if_neg h]
      by_cases h2 : b < a
      · rw [if_pos h2]
        have : (a == b) = false := by
          apply beq_eq_false_iff_ne.2
          rintro rfl
          exact h h2
        simp [h, this]
      · rw [if_neg h2]
        have : a = b := by
          apply UInt8.toNat_inj.1
          rw [UInt8.lt_iff_toNat_lt] at h h2
          omega
        subst this
        simp [h, bytes_cmp x y]
theorem lessW_cmp (a b : ByteArray) : lessW a b = decide (cmpW a b < 0) := by
  unfold lessW cmpW orInt Lib.compareInt
  by_cases h : a.size = b.size
  · have e1 : ¬ ((a.size : Int) < (b.size : Int)) := by omega
    have e2 : ¬ ((a.size : Int) > (b.size : Int)) := by omega
    rw [if_pos h]
    simp only [if_neg e1, if_neg e2, if_true]
    rw [← bytes_cmp, ByteArray.toList_eq, ByteArray.toList_eq]
  · rw [if_neg h]
    by_cases h2 : a.size < b.size
    · have e1 : ((a.size : Int) < (b.size : Int)) := by omega
      simp only [if_pos e1]; simp [h2]
    · have e1 : ¬ ((a.size : Int) < (b.size : Int)) := by omega
      have e2 : ((a.size : Int) > (b.size : Int)) := by omega
      simp only [if_neg e1, if_pos e2]; simp [h2]

theorem ascB_false {ts : List Tm} {k : Nat} (hk : k < ts.length) (hk0 : 0 < k) (h : lessW (ts.getD (k - 1) default).s (ts.getD k default).s = false) : ascB ts = false := by
  unfold ascB
  refine List.all_eq_false.2 ⟨k, List.mem_range.2 hk, ?_⟩
  have h0 : decide (k = 0) = false := decide_eq_false (by omega)
  rw [h, h0]; decide
theorem ascB_true {ts : List Tm} (h : ∀ k, k < ts.length → 0 < k → lessW (ts.getD (k - 1) default).s (ts.getD k default).s = true) : ascB ts = true := by
  unfold ascB
  refine List.all_eq_true.2 fun k hk => ?_
  by_cases h0 : k = 0
  · rw [decide_eq_true h0, Bool.true_or]
  · rw [h k (List.mem_range.1 hk) (by omega), Bool.or_true]

end Go.Proofs.Ytbbkpaledlbcmaa

/- Lists of terms in order, without equal words and without coefficients 0: there is just one such list to given sums of coefficients. -/

namespace Go.Proofs.Ytbbkpaledlbcmaa
open Go.RowKit

theorem bl_irrefl : ∀ a : List UInt8, Op.bytesLess a a = false
  | [] => rfl
  | c :: r => by unfold Op.bytesLess; simp [bl_irrefl r, UInt8.lt_irrefl]
theorem bl_trans : ∀ a b c : List UInt8, Op.bytesLess a b = true → Op.bytesLess b c = true → Op.bytesLess a c = true
  | _, [], _, h, _ => by unfold Op.bytesLess at h; cases h
  | _, _ :: _, [], _, h => by unfold Op.bytesLess at h; cases h
  | [], _ :: _, _ :: _, _, _ => rfl
  | x :: a, y :: b, z :: c, h1, h2 => by
    unfold Op.bytesLess at *
    simp only [Bool.or_eq_true, Bool.and_eq_true, decide_eq_true_eq, beq_iff_eq, UInt8.lt_iff_toNat_lt, ← UInt8.toNat_inj] at *
    rcases h1 with h1 | ⟨h1, h1'⟩
    · rcases h2 with h2 | ⟨h2, _⟩
      · exact .inl (by omega)
      · exact .inl (by omega)
    · rcases h2 with h2 | ⟨h2, h2'⟩
      · exact .inl (by omega)
      · exact .inr ⟨by omega, bl_trans a b c h1' h2'⟩
theorem bl_tri : ∀ a b : List UInt8, Op.bytesLess a b = false → Op.bytesLess b a = false → a = b
  | [], [], _, _ => rfl
  | [], _ :: _, h, _ => by unfold Op.bytesLess at h; cases h
  | _ :: _, [], _, h => by unfold Op.bytesLess at h; cases h
  | x :: a, y :: b, h1, h2 => by
    unfold Op.bytesLess at h1 h2
    simp only [Bool.or_eq_false_iff, Bool.and_eq_false_iff, decide_eq_false_iff_not, beq_eq_false_iff_ne, UInt8.lt_iff_toNat_lt, ne_eq, ← UInt8.toNat_inj] at h1 h2
    have e : x = y := UInt8.toNat_inj.1 (by omega)
    subst e
    have q1 : Op.bytesLess a b = false := by rcases h1.2 with h | h; exact absurd rfl h; exact h
    have q2 : Op.bytesLess b a = false := by rcases h2.2 with h | h; exact absurd rfl h; exact h
    rw [bl_tri a b q1 q2]

theorem lessW_irrefl (a : ByteArray) : lessW a a = false := by unfold lessW; rw [if_pos rfl]; exact bl_irrefl _
theorem lessW_trans {a b c : ByteArray} (h1 : lessW a b = true) (h2 : lessW b c = true) : lessW a c = true := by
  unfold lessW at *
  by_cases e1 : a.size = b.size <;> by_cases e2 : b.size = c.size
  · rw [if_pos e1] at h1; rw [if_pos e2] at h2; rw [if_pos (by omega)]; exact bl_trans _ _ _ h1 h2
  · rw [if_neg e2] at h2; simp only [decide_eq_true_eq] at h2; rw [if_neg (by omega)]; exact decide_eq_true (by omega)
  · rw [if_neg e1] at h1; simp only [decide_eq_true_eq] at h1; rw [if_neg (by omega)]; exact decide_eq_true (by omega)
  · rw [if_neg e1] at h1; rw [if_neg e2] at h2; simp only [decide_eq_true_eq] at h1 h2; rw [if_neg (by omega)]; exact decide_eq_true (by omega)
theorem bytes_ext2 {a b : ByteArray} (h : a.toList = b.toList) : a = b := by
  rw [ByteArray.toList_eq, ByteArray.toList_eq] at h
  have : a.data = b.data := Array.toList_inj.1 h
  cases a; cases b; simpa using this
theorem lessW_tri {a b : ByteArray} (h1 : lessW a b = false) (h2 : lessW b a = false) : a = b := by
  unfold lessW at *
  by_cases e : a.size = b.size
  · rw [if_pos e] at h1; rw [if_pos e.symm] at h2; exact bytes_ext2 (bl_tri _ _ h1 h2)
  · rw [if_neg e] at h1; rw [if_neg (fun h => e h.symm)] at h2; simp only [decide_eq_false_iff_not] at h1 h2; omega
theorem lessW_asymm {a b : ByteArray} (h : lessW a b = true) : lessW b a = false := by
  cases h2 : lessW b a with
  | false => rfl
  | true => have := lessW_trans h h2; rw [lessW_irrefl] at this; cases this
theorem lessW_ne {a b : ByteArray} (h : lessW a b = true) : a ≠ b := by rintro rfl; rw [lessW_irrefl] at h; cases h

/-- The sum of the coefficients of a word. -/
def coefAt (s : ByteArray) : List Tm → Int
  | [] => 0
  | t :: r => (if t.s = s then t.c else 0) + coefAt s r
theorem coefAt_append (s : ByteArray) (a b : List Tm) : coefAt s (a ++ b) = coefAt s a + coefAt s b := by
  induction a with
  | nil => simp [coefAt]
  | cons t r ih => rw [List.cons_append, coefAt, coefAt, ih]; omega
theorem coefAt_perm (s : ByteArray) {a b : List Tm} (h : a.Perm b) : coefAt s a = coefAt s b := by
  induction h with
  | nil => rfl
  | cons t _ ih => rw [coefAt, coefAt, ih]
  | swap t u l => simp only [coefAt]; omega
  | trans _ _ i1 i2 => rw [i1, i2]

/-- In order, no word twice, no coefficient 0. -/
def Canon (ts : List Tm) : Prop := ts.Pairwise (fun a b => lessW a.s b.s = true) ∧ ∀ t ∈ ts, t.c ≠ 0
theorem coefAt_none {s : ByteArray} {ts : List Tm} (h : ∀ t ∈ ts, t.s ≠ s) : coefAt s ts = 0 := by
  induction ts with
  | nil => rfl
  | cons t r ih => rw [coefAt, if_neg (h t (by simp)), ih fun u hu => h u (by simp [hu])]; rfl
theorem canon_unique : ∀ {a b : List Tm}, Canon a → Canon b → (∀ s, coefAt s a = coefAt s b) → a = b
  | [], [], _, _, _ => rfl
  | [], y :: b, _, hb, h => by
    have h1 := h y.s
    rw [coefAt, coefAt, if_pos rfl, coefAt_none fun t ht => (lessW_ne ((List.pairwise_cons.1 hb.1).1 t ht)).symm] at h1
    exact absurd (by omega) (hb.2 y (by simp))
  | x :: a, [], ha, _, h => by
    have h1 := h x.s
    rw [coefAt, coefAt, if_pos rfl, coefAt_none fun t ht => (lessW_ne ((List.pairwise_cons.1 ha.1).1 t ht)).symm] at h1
    exact absurd (by omega) (ha.2 x (by simp))
  | x :: a, y :: b, ha, hb, h => by
    obtain ⟨a1, a2⟩ := List.pairwise_cons.1 ha.1
    obtain ⟨b1, b2⟩ := List.pairwise_cons.1 hb.1
    have na : coefAt x.s a = 0 := coefAt_none fun t ht => (lessW_ne (a1 t ht)).symm
    have nb : coefAt y.s b = 0 := coefAt_none fun t ht => (lessW_ne (b1 t ht)).symm
    have e : x.s = y.s := by
      cases h1 : lessW x.s y.s with
      | true =>
        have h2 := h x.s
        rw [coefAt, coefAt, if_pos rfl, if_neg (fun e => lessW_ne h1 e.symm), na, coefAt_none fun t ht => (lessW_ne (lessW_trans h1 (b1 t ht))).symm] at h2
        exact absurd (by omega) (ha.2 x (by simp))
      | false =>
        cases h3 : lessW y.s x.s with
        | true =>
          have h2 := h y.s
          rw [coefAt, coefAt, if_pos rfl, if_neg (fun e => lessW_ne h3 e.symm), nb, coefAt_none fun t ht => (lessW_ne (lessW_trans h3 (a1 t ht))).symm] at h2
          exact absurd (by omega) (hb.2 y (by simp))
        | false => exact lessW_tri h1 h3
    have ec : x.c = y.c := by
      have h2 := h x.s
      rw [coefAt, coefAt, if_pos rfl, if_pos e.symm, na, e, nb] at h2
      omega
    have et : x = y := by cases x; cases y; simp at e ec; rw [e, ec]
    subst et
    have := canon_unique ⟨a2, fun t ht => ha.2 t (by simp [ht])⟩ ⟨b2, fun t ht => hb.2 t (by simp [ht])⟩ (fun s => by
      have h2 := h s
      rw [coefAt, coefAt] at h2
      omega)
    rw [this]

/-- A term is left out if its coefficient is 0. -/
def nz (t : Tm) : List Tm := if t.c = 0 then [] else [t]
/-- A term is added to a list in order. -/
def addT : List Tm → Tm → List Tm
  | [], t => nz t
  | x :: r, t => if lessW x.s t.s then x :: addT r t else if x.s = t.s then nz ⟨t.c + x.c, t.s⟩ ++ r else nz t ++ x :: r
theorem coefAt_nz (s : ByteArray) (t : Tm) : coefAt s (nz t) = if t.s = s then t.c else 0 := by
  unfold nz
  by_cases h : t.c = 0
  · rw [if_pos h, h]; simp [coefAt]
  · rw [if_neg h]; simp [coefAt]
theorem coefAt_add (s : ByteArray) (t : Tm) : ∀ ts, coefAt s (addT ts t) = coefAt s ts + if t.s = s then t.c else 0
  | [] => by rw [addT, coefAt_nz, coefAt]; omega
  | x :: r => by
    rw [addT]
    by_cases h : lessW x.s t.s = true
    · rw [if_pos h, coefAt, coefAt, coefAt_add s t r]; omega
    · rw [if_neg h]
      by_cases h2 : x.s = t.s
      · rw [if_pos h2, coefAt_append, coefAt_nz, coefAt, h2]
        by_cases h3 : t.s = s
        · simp only [h3, if_true]; omega
        · simp only [h3, if_false]; omega
      · rw [if_neg h2, coefAt_append, coefAt_nz]; omega
theorem nz_mem {t u : Tm} (h : u ∈ nz t) : u = t ∧ t.c ≠ 0 := by
  unfold nz at h
  split at h
  · cases h
  · exact ⟨List.mem_singleton.1 h, by assumption⟩
theorem add_words {t : Tm} : ∀ {ts : List Tm} {u : Tm}, u ∈ addT ts t → u.s = t.s ∨ ∃ v ∈ ts, v.s = u.s
  | [], u, h => by rw [addT] at h; exact .inl (by rw [(nz_mem h).1])
  | x :: r, u, h => by
    rw [addT] at h
    split at h
    · rcases List.mem_cons.1 h with rfl | h
      · exact .inr ⟨_, by simp, rfl⟩
      · rcases add_words h with h | ⟨v, hv, e⟩
        · exact .inl h
        · exact .inr ⟨v, by simp [hv], e⟩
    · split at h
      · rcases List.mem_append.1 h with h | h
        · exact .inl (by rw [(nz_mem h).1])
        · exact .inr ⟨u, by simp [h], rfl⟩
      · rcases List.mem_append.1 h with h | h
        · exact .inl (by rw [(nz_mem h).1])
        · exact .inr ⟨u, h, rfl⟩
theorem canon_add {t : Tm} : ∀ {ts : List Tm}, Canon ts → Canon (addT ts t)
  | [], _ => by
    rw [addT]
    unfold nz
    split
    · exact ⟨List.Pairwise.nil, fun t h => by cases h⟩
    · exact ⟨by simp, fun u h => by rw [List.mem_singleton.1 h]; assumption⟩
  | x :: r, h => by
    obtain ⟨h1, h2⟩ := List.pairwise_cons.1 h.1
    have hr : Canon r := ⟨h2, fun u hu => h.2 u (by simp [hu])⟩
    rw [addT]
    by_cases hl : lessW x.s t.s = true
    · rw [if_pos hl]
      have ih := canon_add (t := t) hr
      refine ⟨List.pairwise_cons.2 ⟨fun u hu => ?_, ih.1⟩, fun u hu => ?_⟩
      · rcases add_words hu with e | ⟨v, hv, e⟩
        · rw [e]; exact hl
        · rw [← e]; exact h1 v hv
      · rcases List.mem_cons.1 hu with rfl | hu
        · exact h.2 _ (by simp)
        · exact ih.2 u hu
    · rw [if_neg hl]
      by_cases h3 : x.s = t.s
      · rw [if_pos h3]
        refine ⟨List.pairwise_append.2 ⟨?_, h2, fun u hu v hv => ?_⟩, fun u hu => ?_⟩
        · unfold nz; split <;> simp
        · rw [(nz_mem hu).1]; show lessW t.s v.s = true; rw [← h3]; exact h1 v hv
        · rcases List.mem_append.1 hu with hu | hu
          · obtain ⟨e, h4⟩ := nz_mem hu; rw [e]; exact h4
          · exact hr.2 u hu
      · rw [if_neg h3]
        have hlt : lessW t.s x.s = true := by
          cases h4 : lessW t.s x.s with
          | true => rfl
          | false => exact absurd (lessW_tri (by simpa using hl) h4) h3
        refine ⟨List.pairwise_append.2 ⟨?_, h.1, fun u hu v hv => ?_⟩, fun u hu => ?_⟩
        · unfold nz; split <;> simp
        · rw [(nz_mem hu).1]
          rcases List.mem_cons.1 hv with rfl | hv
          · exact hlt
          · exact lessW_trans hlt (h1 v hv)
        · rcases List.mem_append.1 hu with hu | hu
          · obtain ⟨e, h4⟩ := nz_mem hu; rw [e]; exact h4
          · exact h.2 u hu

/-- The sum of terms in any order. -/
def canonT (ts : List Tm) : List Tm := ts.foldl addT []
theorem canon_foldl : ∀ (ts acc : List Tm), Canon acc → Canon (ts.foldl addT acc) ∧ ∀ s, coefAt s (ts.foldl addT acc) = coefAt s acc + coefAt s ts
  | [], acc, h => ⟨h, fun s => by simp [coefAt]⟩
  | t :: r, acc, h => by
    obtain ⟨h1, h2⟩ := canon_foldl r (addT acc t) (canon_add h)
    refine ⟨h1, fun s => ?_⟩
    rw [List.foldl_cons, h2, coefAt_add, coefAt]
    omega
theorem canonT_spec (ts : List Tm) : Canon (canonT ts) ∧ ∀ s, coefAt s (canonT ts) = coefAt s ts := by
  obtain ⟨h1, h2⟩ := canon_foldl ts [] ⟨List.Pairwise.nil, fun t h => by cases h⟩
  exact ⟨h1, fun s => by rw [canonT, h2, coefAt]; omega⟩
theorem canonT_unique {ts us : List Tm} (h : Canon us) (he : ∀ s, coefAt s us = coefAt s ts) : us = canonT ts :=
  canon_unique h (canonT_spec ts).1 fun s => by rw [he, (canonT_spec ts).2]

/-- Equal neighbours joined: what stands at the end takes the next one in. -/
def pushT (acc : List Tm) (t : Tm) : List Tm :=
  match acc.getLast? with
  | some l => if l.s = t.s then acc.dropLast ++ [⟨l.c + t.c, l.s⟩] else acc ++ [t]
  | none => acc ++ [t]
def mergeT (ts : List Tm) : List Tm := ts.foldl pushT []

theorem push_nil (t : Tm) : pushT [] t = [t] := rfl
theorem push_last (a : List Tm) (l t : Tm) : pushT (a ++ [l]) t = if l.s = t.s then a ++ [⟨l.c + t.c, l.s⟩] else a ++ [l] ++ [t] := by
  unfold pushT; simp
theorem coefAt_push (s : ByteArray) (a : List Tm) (t : Tm) : coefAt s (pushT a t) = coefAt s a + if t.s = s then t.c else 0 := by
  rcases List.eq_nil_or_concat a with rfl | ⟨b, l, rfl⟩
  · rw [push_nil]; simp [coefAt]
  · rw [List.concat_eq_append, push_last]
    by_cases h : l.s = t.s
    · rw [if_pos h, coefAt_append, coefAt_append]
      simp only [coefAt]
      rw [h]
      by_cases h2 : t.s = s
      · simp only [h2, if_true]; omega
      · simp only [h2, if_false]; omega
    · rw [if_neg h, coefAt_append]
      simp only [coefAt]; omega

/-- What was gathered is in order, and its last word is not greater than what comes. -/
theorem merge_foldl : ∀ (ts acc : List Tm), acc.Pairwise (fun a b => lessW a.s b.s = true) → ts.Pairwise (fun a b => lessW b.s a.s = false) → (∀ l, acc.getLast? = some l → ∀ t ∈ ts, lessW t.s l.s = false) →
    (ts.foldl pushT acc).Pairwise (fun a b => lessW a.s b.s = true) ∧ ∀ s, coefAt s (ts.foldl pushT acc) = coefAt s acc + coefAt s ts
  | [], acc, h, _, _ => ⟨h, fun s => by simp [coefAt]⟩
  | t :: r, acc, h, hts, hl => by
    obtain ⟨t1, t2⟩ := List.pairwise_cons.1 hts
    have hp : (pushT acc t).Pairwise (fun a b => lessW a.s b.s = true) ∧ ∃ l, (pushT acc t).getLast? = some l ∧ l.s = t.s := by
      rcases List.eq_nil_or_concat acc with rfl | ⟨b, l, rfl⟩
      · rw [push_nil]; exact ⟨by simp, t, rfl, rfl⟩
      · rw [List.concat_eq_append] at *
        rw [push_last]
        obtain ⟨p1, _, p3⟩ := List.pairwise_append.1 h
        by_cases e : l.s = t.s
        · rw [if_pos e]
          exact ⟨List.pairwise_append.2 ⟨p1, by simp, fun u hu v hv => by rw [List.mem_singleton.1 hv]; show lessW u.s l.s = true; exact p3 u hu l (List.mem_singleton.2 rfl)⟩, ⟨l.c + t.c, l.s⟩, by simp, e⟩
        · rw [if_neg e]
          have hlt : lessW l.s t.s = true := by
            cases h4 : lessW l.s t.s with
            | true => rfl
            | false => exact absurd (lessW_tri h4 (hl l (by simp) t (by simp))) e
          refine ⟨List.pairwise_append.2 ⟨h, by simp, fun u hu v hv => ?_⟩, t, by simp, rfl⟩
          rw [List.mem_singleton.1 hv]
          rcases List.mem_append.1 hu with hu | hu
          · exact lessW_trans (p3 u hu l (by simp)) hlt
          · rw [List.mem_singleton.1 hu]; exact hlt
    obtain ⟨l, hll, hls⟩ := hp.2
    obtain ⟨q1, q2⟩ := merge_foldl r (pushT acc t) hp.1 t2 (fun l' hl' u hu => by
      rw [hll] at hl'; cases hl'
      rw [hls]; exact t1 u hu)
    refine ⟨q1, fun s => ?_⟩
    rw [List.foldl_cons, q2, coefAt_push, coefAt]
    omega
theorem coefAt_filter (s : ByteArray) : ∀ ts : List Tm, coefAt s (ts.filter fun t => !(t.c == 0)) = coefAt s ts
  | [] => rfl
  | t :: r => by
    rw [List.filter_cons]
    by_cases h : t.c = 0
    · simp only [h, beq_self_eq_true, Bool.not_true, Bool.false_eq_true, if_false]
      rw [coefAt_filter s r, coefAt, h]; simp
    · have : (!(t.c == 0)) = true := by simpa using h
      rw [if_pos this, coefAt, coefAt, coefAt_filter s r]
/-- **What the program gathers is the model's sum.** -/
theorem gathered_eq {ts ss : List Tm} (hp : ss.Perm ts) (hs : ss.Pairwise (fun a b => lessW b.s a.s = false)) : (mergeT ss).filter (fun t => !(t.c == 0)) = canonT ts := by
  obtain ⟨h1, h2⟩ := merge_foldl ss [] List.Pairwise.nil hs (fun l h => by cases h)
  refine canonT_unique ⟨h1.sublist List.filter_sublist, fun t ht => ?_⟩ fun s => ?_
  · have := (List.mem_filter.1 ht).2
    simpa using this
  · rw [coefAt_filter]
    unfold mergeT
    rw [h2, coefAt, coefAt_perm s hp]
    omega

end Go.Proofs.Ytbbkpaledlbcmaa

/- The contract of the model's 'l2Add'. -/

namespace Go.Proofs.Ytbbkpaledlbcmaa
open Go.RowKit Go.Shelf

theorem termsV_cells {w : World} {x : Addr} {ts : List Tm} (h : TermsAt w x ts) : ∀ j u, (termsV ts)[j]? = some u → w.cell? (x.add j) = some u := fun j u hu => by
  have hj : j < ts.length * 2 := by rw [← termsV_len]; exact (List.getElem?_eq_some_iff.1 hu).1
  have hg := termsV_get ts (j / 2) (by omega)
  have hc := h.2 (j / 2) (by omega)
  rcases Nat.mod_two_eq_zero_or_one j with e | e
  · have e2 : j / 2 * 2 = j := by omega
    rw [e2] at hg hc
    rw [hg.1] at hu; cases hu; exact hc.1
  · have e2 : j / 2 * 2 + 1 = j := by omega
    rw [e2] at hg hc
    rw [hg.2] at hu; cases hu; exact hc.2
theorem TermsAt.cells {w : World} {x : Addr} {ts : List Tm} (h : TermsAt w x ts) : ∀ j u, (termsV ts)[j]? = some u → w.cell? (x.add j) = some u := termsV_cells h
theorem TermsAt.takeAt {w : World} {x : Addr} {ts : List Tm} (h : TermsAt w x ts) (k : Nat) : TermsAt w x (ts.take k) :=
  ⟨h.1, fun i hi => by
    simp only [List.length_take] at hi
    rw [List.getElem_take]
    exact h.2 i (by omega)⟩
theorem TermsAt.dropAt {w : World} {g : Nat} {ts : List Tm} (h : TermsAt w ⟨g, 0, none⟩ ts) (k : Nat) : TermsAt w ⟨g, k * 2, none⟩ (ts.drop k) := by
  refine ⟨h.1, fun i hi => ?_⟩
  simp only [List.length_drop] at hi
  have ha : ∀ o j, (⟨g, o, none⟩ : Addr).add j = ⟨g, o + j, none⟩ := fun o j => by unfold Addr.add; split <;> simp_all
  have := h.2 (k + i) (by omega)
  rw [ha, ha] at this
  rw [ha, ha, List.getElem_drop, show k * 2 + i * 2 = 0 + (k + i) * 2 by omega, show k * 2 + (i * 2 + 1) = 0 + ((k + i) * 2 + 1) by omega]
  exact this
theorem oneCell_terms (ts : List Tm) : ∀ u ∈ termsV ts, u.oneCell' = true := by
  induction ts with
  | nil => intro u h; cases h
  | cons t r ih =>
    intro u h
    rw [termsV_cons] at h
    rcases List.mem_cons.1 h with rfl | h
    · rfl
    · rcases List.mem_cons.1 h with rfl | h
      · rfl
      · exact ih u h
theorem notNil {w : World} {base n : Nat} {e : TypeId} {size : Nat} {v : Value} {xs : List Value} (h : w.ownsRow base e size v n xs) (hn : v ≠ .slice none 0 0) : ∃ g cap, base ≤ g ∧ v = .slice (some ⟨g, 0, none⟩) n cap := by
  rcases h.2 with ⟨e, _⟩ | ⟨g, cap, cur, e, hb, _⟩
  · exact absurd e hn
  · exact ⟨g, cap, hb, e⟩
theorem cell_pair_new (w : World) (a b : Value) (t : TypeId) : ∀ j u, [a, b][j]? = some u → (w.alloc (.cells #[a, b] t)).cell? ((⟨w.heap.size, 0, none⟩ : Addr).add j) = some u := fun j u hu => by
  have ha : (⟨w.heap.size, 0, none⟩ : Addr).add j = ⟨w.heap.size, j, none⟩ := by unfold Addr.add; split <;> simp_all
  rw [ha, World.cell?_alloc_at _ _ _ _ rfl]
  match j, hu with
  | 0, hu => cases hu; rfl
  | 1, hu => cases hu; rfl
  | j + 2, hu => simp at hu

theorem addT_less : ∀ {ts : List Tm} {t : Tm} {k : Nat}, (∀ j (h : j < ts.length), j < k → lessW ts[j].s t.s = true) → k ≤ ts.length → addT ts t = ts.take k ++ addT (ts.drop k) t
  | _, _, 0, _, _ => by simp
  | [], _, k + 1, _, hk => by simp at hk
  | x :: r, t, k + 1, h, hk => by
    have h0 := h 0 (by simp) (by omega)
    have ih := addT_less (ts := r) (t := t) (k := k) (fun j hj hjk => by have := h (j + 1) (by simpa using hj) (by omega); simpa using this) (by simpa using hk)
    rw [List.take_succ_cons, List.drop_succ_cons, addT, if_pos (by simpa using h0), ih]
    rfl
theorem addT_end {ts : List Tm} {t : Tm} (h : ∀ j (h : j < ts.length), lessW ts[j].s t.s = true) : addT ts t = ts ++ nz t := by
  rw [addT_less (k := ts.length) (fun j hj _ => h j hj) (Nat.le_refl _), List.drop_length, List.take_length]
  rfl
theorem addT_at {ts : List Tm} {t u : Tm} {k : Nat} (hk : k < ts.length) (h : ∀ j (h : j < ts.length), j < k → lessW ts[j].s t.s = true) (hu : ts[k] = u) (hl : lessW u.s t.s = false) :
    addT ts t = ts.take k ++ (if u.s = t.s then nz ⟨t.c + u.c, t.s⟩ ++ ts.drop (k + 1) else nz t ++ ts.drop k) := by
  rw [addT_less h (Nat.le_of_lt hk), List.drop_eq_getElem_cons hk, hu, addT, if_neg (by rw [hl]; simp)]
theorem cat0 (a b : List Tm) : [] ++ termsV a ++ termsV b = termsV (a ++ ([] ++ b)) := by rw [List.nil_append, List.nil_append, termsV_append]
theorem cat1 (a b : List Tm) (c : Int) (s : ByteArray) : [] ++ termsV a ++ [.int .i64 c, .string s] ++ termsV b = termsV (a ++ ([⟨c, s⟩] ++ b)) := by rw [List.nil_append, termsV_append, termsV_append, List.append_assoc]; rfl
theorem cat2 (a b : List Tm) : termsV a ++ termsV b = termsV (a ++ ([] ++ b)) := cat0 a b
theorem cat3 (a b : List Tm) (c : Int) (s : ByteArray) : termsV a ++ .int .i64 c :: .string s :: termsV b = termsV (a ++ ([⟨c, s⟩] ++ b)) := by rw [termsV_append, termsV_append]; rfl
theorem lenCat0 (ts : List Tm) (k j : Nat) (hk : k ≤ ts.length) : (ts.take k ++ ([] ++ ts.drop j)).length = k + (ts.length - j) := by
  rw [List.length_append, List.nil_append, List.length_take, List.length_drop, Nat.min_eq_left hk]
theorem lenCat1 (ts : List Tm) (k j : Nat) (x : Tm) (hk : k ≤ ts.length) : (ts.take k ++ ([x] ++ ts.drop j)).length = k + (1 + (ts.length - j)) := by
  rw [List.length_append, List.length_append, List.length_take, List.length_drop, Nat.min_eq_left hk]; rfl
theorem len_nz0 {t : Tm} (h : t.c = 0) : nz t = [] := if_pos h
theorem len_nz1 {t : Tm} (h : t.c ≠ 0) : nz t = [t] := if_neg h

end Go.Proofs.Ytbbkpaledlbcmaa

/- The contracts of the model's 'l2Done' and 'SumOf'. -/

namespace Go.Proofs.Ytbbkpaledlbcmaa
open Go.RowKit Go.Shelf

/-- What fits into an integer of 64 bits and into a text. -/
def SmallT (ts : List Tm) : Prop := ts.length ≤ maxLen ∧ ∀ t ∈ ts, t.s.size ≤ maxLen ∧ -9223372036854775808 ≤ t.c ∧ t.c ≤ 9223372036854775807
theorem add_bound {t : Tm} {B C : Int} (hC : 0 ≤ C) (ht : -C ≤ t.c ∧ t.c ≤ C) : ∀ {ts : List Tm}, (∀ u ∈ ts, -B ≤ u.c ∧ u.c ≤ B) → 0 ≤ B → ∀ u ∈ addT ts t, -(B + C) ≤ u.c ∧ u.c ≤ B + C
  | [], _, hB, u, hu => by rw [addT] at hu; rw [(nz_mem hu).1]; omega
  | x :: r, h, hB, u, hu => by
    rw [addT] at hu
    have hx := h x (by simp)
    split at hu
    · rcases List.mem_cons.1 hu with rfl | hu
      · omega
      · exact add_bound hC ht (fun v hv => h v (by simp [hv])) hB u hu
    · split at hu
      · rcases List.mem_append.1 hu with hu | hu
        · rw [(nz_mem hu).1]; show -(B + C) ≤ t.c + x.c ∧ t.c + x.c ≤ B + C; omega
        · have := h u (by simp [hu]); omega
      · rcases List.mem_append.1 hu with hu | hu
        · rw [(nz_mem hu).1]; omega
        · have := h u hu; omega
theorem add_len (t : Tm) : ∀ ts : List Tm, (addT ts t).length ≤ ts.length + 1
  | [] => by rw [addT]; unfold nz; split <;> simp
  | x :: r => by
    have h0 : ∀ y : Tm, (nz y).length ≤ 1 := fun y => by unfold nz; split <;> simp
    rw [addT]
    split
    · have := add_len t r; simp only [List.length_cons]; omega
    · split
      · have := h0 ⟨t.c + x.c, t.s⟩; simp only [List.length_append, List.length_cons]; omega
      · have := h0 t; simp only [List.length_append, List.length_cons]; omega
theorem add_small {t : Tm} {ts : List Tm} {M : Nat} (ht : t.s.size ≤ M) (h : ∀ u ∈ ts, u.s.size ≤ M) : ∀ u ∈ addT ts t, u.s.size ≤ M := fun u hu => by
  rcases add_words hu with e | ⟨v, hv, e⟩
  · rw [e]; exact ht
  · rw [← e]; exact h v hv

end Go.Proofs.Ytbbkpaledlbcmaa

/- The contract of the model's 'SumOf'. -/

namespace Go.Proofs.Ytbbkpaledlbcmaa
open Go.RowKit Go.Shelf

theorem termB_iff {t : Tm} (h : termB t = true) : t.s.size ≤ 60 ∧ -1000000 ≤ t.c ∧ t.c ≤ 1000000 := by
  unfold termB inR at h
  simp only [Bool.and_eq_true, decide_eq_true_eq] at h
  exact ⟨by have := ((wordB_iff _).1 h.1).1; simpa using this, h.2⟩
theorem fold_succ (ts : List Tm) (k : Nat) (h : k < ts.length) : (ts.take (k + 1)).foldl addT [] = addT ((ts.take k).foldl addT []) ts[k] := by
  rw [List.take_succ_eq_append_getElem h, List.foldl_append]; rfl

/-- What SumOf answers. -/
def ofB (ts : List Tm) : Bool := twB ts && sumB (canonT ts)

end Go.Proofs.Ytbbkpaledlbcmaa

/- The contracts of the program's 'sumWords' and 'SumIn'. -/

namespace Go.Proofs.Ytbbkpaledlbcmaa
open Go.RowKit Go.Shelf

theorem sumB_eq (ts : List Tm) : sumB ts = (twB ts && !hasZero ts && ascB ts) := by
  have hg : ∀ j (h : j < ts.length), ts.getD j default = ts[j] := fun j h => by rw [List.getD_eq_getElem?_getD, List.getElem?_eq_getElem h]; rfl
  rw [Bool.eq_iff_iff]
  unfold sumB twB hasZero ascB allGood
  simp only [Bool.and_eq_true, List.all_eq_true, List.mem_range, decide_eq_true_eq, Bool.not_eq_true', List.any_eq_false]
  constructor
  · rintro ⟨h1, h2⟩
    refine ⟨⟨⟨h2, fun t ht => ?_⟩, fun t ht => ?_⟩, fun j hj => ?_⟩
    · obtain ⟨j, hj, rfl⟩ := List.getElem_of_mem ht
      have := h1 j hj
      unfold goodAt at this
      simp only [hg j hj, Bool.and_eq_true] at this
      unfold termB
      rw [this.1.2, this.1.1.2]; rfl
    · obtain ⟨j, hj, rfl⟩ := List.getElem_of_mem ht
      have := h1 j hj
      unfold goodAt at this
      simp only [hg j hj, Bool.and_eq_true] at this
      simpa using this.1.1.1
    · have := h1 j hj
      unfold goodAt at this
      simp only [Bool.and_eq_true] at this
      exact this.2
  · rintro ⟨⟨⟨h1, h2⟩, h3⟩, h4⟩
    refine ⟨fun j hj => ?_, h1⟩
    have a2 := h2 _ (List.getElem_mem hj)
    have a3 := h3 _ (List.getElem_mem hj)
    unfold termB at a2
    simp only [Bool.and_eq_true] at a2
    unfold goodAt
    simp only [hg j hj, Bool.and_eq_true]
    exact ⟨⟨⟨by simpa using a3, a2.2⟩, a2.1⟩, by have := h4 j hj; rw [hg j hj] at this; exact this⟩

end Go.Proofs.Ytbbkpaledlbcmaa

/- Canonical lists of terms are sums where their terms are as told. -/

namespace Go.Proofs.Ytbbkpaledlbcmaa
open Go.RowKit Go.Shelf

theorem canon_of (ts : List Tm) : Canon (canonT ts) := (canon_foldl ts [] ⟨List.Pairwise.nil, fun t h => by cases h⟩).1
theorem hasZero_canon {ts : List Tm} (h : Canon ts) : hasZero ts = false := by
  unfold hasZero
  refine List.any_eq_false.2 fun t ht => ?_
  simpa using h.2 t ht
theorem ascB_canon {ts : List Tm} (h : Canon ts) : ascB ts = true := by
  refine ascB_true fun k hk hk0 => ?_
  rw [List.getD_eq_getElem?_getD, List.getD_eq_getElem?_getD, List.getElem?_eq_getElem hk, List.getElem?_eq_getElem (by omega : k - 1 < ts.length)]
  exact List.pairwise_iff_getElem.1 h.1 (k - 1) k (by omega) hk (by omega)
theorem sumB_canon {ts : List Tm} (h : Canon ts) : sumB ts = twB ts := by
  rw [sumB_eq, hasZero_canon h, ascB_canon h]
  simp

theorem canon_len_words {ts : List Tm} (h : twB ts = true) : ts.length ≤ 300 ∧ ∀ t ∈ ts, termB t = true := by
  unfold twB at h
  simp only [Bool.and_eq_true, decide_eq_true_eq, List.all_eq_true] at h
  exact h

end Go.Proofs.Ytbbkpaledlbcmaa

/- The contract of the model's 'SumAdd'; sums as canonical lists. -/

namespace Go.Proofs.Ytbbkpaledlbcmaa
open Go.RowKit Go.Shelf

theorem pairwise_lessW {ts : List Tm} (h : ∀ k, k < ts.length → 0 < k → lessW (ts.getD (k - 1) default).s (ts.getD k default).s = true) : ts.Pairwise (fun a b => lessW a.s b.s = true) := by
  rw [List.pairwise_iff_getElem]
  have key : ∀ d i (hi : i < ts.length) (hj : i + (d + 1) < ts.length), lessW ts[i].s ts[i + (d + 1)].s = true := by
    intro d
    induction d with
    | zero =>
      intro i hi hj
      have := h (i + 1) hj (by omega)
      rw [show i + 1 - 1 = i by omega, List.getD_eq_getElem?_getD, List.getD_eq_getElem?_getD, List.getElem?_eq_getElem hj, List.getElem?_eq_getElem hi] at this
      exact this
    | succ d ih =>
      intro i hi hj
      have h1 := ih i hi (by omega)
      have h2 := h (i + (d + 1) + 1) hj (by omega)
      rw [show i + (d + 1) + 1 - 1 = i + (d + 1) by omega, List.getD_eq_getElem?_getD, List.getD_eq_getElem?_getD, List.getElem?_eq_getElem (by omega : i + (d + 1) < ts.length), List.getElem?_eq_getElem (by omega : i + (d + 1) + 1 < ts.length)] at h2
      exact lessW_trans h1 h2
  intro i j hi hj hij
  obtain ⟨d, rfl⟩ : ∃ d, j = i + (d + 1) := ⟨j - i - 1, by omega⟩
  exact key d i hi hj
theorem sumB_parts {ts : List Tm} (h : sumB ts = true) : twB ts = true ∧ Canon ts := by
  rw [sumB_eq] at h
  simp only [Bool.and_eq_true, Bool.not_eq_true'] at h
  obtain ⟨⟨h1, h2⟩, h3⟩ := h
  refine ⟨h1, pairwise_lessW fun k hk hk0 => ?_, fun t ht => ?_⟩
  · unfold ascB at h3
    have := List.all_eq_true.1 h3 k (List.mem_range.2 hk)
    simp only [Bool.or_eq_true, decide_eq_true_eq] at this
    rcases this with h | h
    · omega
    · exact h
  · unfold hasZero at h2
    have := List.any_eq_false.1 h2 t ht
    simpa using this
theorem canonT_of_canon {ts : List Tm} (h : Canon ts) : canonT ts = ts := (canonT_unique h fun _ => rfl).symm
theorem canonT_append {x : List Tm} (y : List Tm) (h : Canon x) : canonT (x ++ y) = y.foldl addT x := by
  have h2 := canonT_of_canon h
  unfold canonT at h2 ⊢
  rw [List.foldl_append, h2]
theorem fold_succ2 (x ts : List Tm) (k : Nat) (h : k < ts.length) : (ts.take (k + 1)).foldl addT x = addT ((ts.take k).foldl addT x) ts[k] := by
  rw [List.take_succ_eq_append_getElem h, List.foldl_append]; rfl

/-- What SumAdd answers. -/
def addB (x y : List Tm) : Bool := sumB x && (sumB y && twB (canonT (x ++ y)))

theorem isTerms_cells {w : World} {ad : Addr} {n : Nat} {x : List Tm} (h : IsTerms w (some ad) n x) : ∀ j u, (termsV x)[j]? = some u → w.cell? (ad.add j) = some u := by
  intro j u hu
  rcases Nat.eq_zero_or_pos n with h0 | h0
  · have : x = [] := List.length_eq_zero_iff.1 (h.len.trans h0)
    subst this
    simp [termsV] at hu
  · obtain ⟨z, e, h2⟩ := h.at_ h0
    cases e
    exact h2.cells j u hu

end Go.Proofs.Ytbbkpaledlbcmaa

/- Derivatives of words as lists of terms in the order of letters; sums of such lists. -/

namespace Go.Proofs.Ytbbkpaledlbcmaa
open Go.RowKit

/-- The term of one letter behind p. -/
def foxT (g c : Int) (p : List UInt8) (x : UInt8) : List Tm := if (idxB x : Int) = g then [⟨c * sgnB x, bstr (if 97 ≤ x.toNat then p else p ++ [x])⟩] else []
/-- The terms of the first k letters. -/
def foxN (g c : Int) (l : List UInt8) : Nat → List Tm
  | 0 => []
  | k + 1 => foxN g c l k ++ foxT g c (l.take k) (l.getD k 0)
def foxL (g c : Int) (l : List UInt8) : List Tm := foxN g c l l.length
theorem foxN_succ (g c : Int) (l : List UInt8) (k : Nat) (hk : k < l.length) : foxN g c l (k + 1) = foxN g c l k ++ foxT g c (l.take k) l[k] := by
  rw [foxN, List.getD_eq_getElem?_getD, List.getElem?_eq_getElem hk]; rfl
theorem foxT_no {g c : Int} {p : List UInt8} {x : UInt8} (h : (idxB x : Int) ≠ g) : foxT g c p x = [] := if_neg h
theorem foxT_hi {g c : Int} {p : List UInt8} {x : UInt8} (h : (idxB x : Int) = g) (hx : 97 ≤ x.toNat) : foxT g c p x = [⟨c * sgnB x, bstr p⟩] := by
  unfold foxT; rw [if_pos h, if_pos hx]
theorem foxT_lo {g c : Int} {p : List UInt8} {x : UInt8} (h : (idxB x : Int) = g) (hx : ¬ 97 ≤ x.toNat) : foxT g c p x = [⟨c * sgnB x, bstr (p ++ [x])⟩] := by
  unfold foxT; rw [if_pos h, if_neg hx]
theorem sgnB_bnd (x : UInt8) : -1 ≤ sgnB x ∧ sgnB x ≤ 1 := by unfold sgnB; split <;> omega
theorem mul_sgn {c C : Int} (hc : -C ≤ c ∧ c ≤ C) (x : UInt8) : -C ≤ c * sgnB x ∧ c * sgnB x ≤ C := by
  unfold sgnB; split <;> omega
theorem foxN_len (g c : Int) (l : List UInt8) : ∀ k, (foxN g c l k).length ≤ k
  | 0 => Nat.le_refl _
  | k + 1 => by
    have := foxN_len g c l k
    rw [foxN, List.length_append]
    have h2 : (foxT g c (l.take k) (l.getD k 0)).length ≤ 1 := by unfold foxT; split <;> simp
    omega
theorem foxN_mem {g c C : Int} (hc : -C ≤ c ∧ c ≤ C) {l : List UInt8} {t : Tm} : ∀ {k}, k ≤ l.length → t ∈ foxN g c l k → (-C ≤ t.c ∧ t.c ≤ C) ∧ ∃ j, j ≤ k ∧ t.s = bstr (l.take j)
  | 0, _, h => by cases h
  | k + 1, hk, h => by
    rw [foxN_succ g c l k (by omega)] at h
    rcases List.mem_append.1 h with h | h
    · obtain ⟨h1, j, hj, h2⟩ := foxN_mem hc (by omega) h
      exact ⟨h1, j, by omega, h2⟩
    · by_cases hi : (idxB l[k] : Int) = g
      · by_cases hx : 97 ≤ l[k].toNat
        · rw [foxT_hi hi hx] at h
          obtain rfl := List.mem_singleton.1 h
          exact ⟨mul_sgn hc _, k, by omega, rfl⟩
        · rw [foxT_lo hi hx] at h
          obtain rfl := List.mem_singleton.1 h
          refine ⟨mul_sgn hc _, k + 1, by omega, ?_⟩
          show bstr (l.take k ++ [l[k]]) = _
          rw [← take_snoc l k (by omega)]
      · rw [foxT_no hi] at h; cases h
theorem word_take {l : List UInt8} (h : wordB l = true) (j : Nat) : wordB (l.take j) = true := by
  obtain ⟨h1, h2, h3⟩ := (wordB_iff _).1 h
  refine (wordB_iff _).2 ⟨by rw [List.length_take]; omega, letL_of_mem _ _ h2 fun _ hc => List.mem_of_mem_take hc, (red_iff _).2 ?_⟩
  have := (red_iff _).1 h3
  rw [← List.take_append_drop j l] at this
  exact noC_left this

/-! ### Coefficients -/
def scaleT (c : Int) (ts : List Tm) : List Tm := ts.map fun t => ⟨c * t.c, t.s⟩
theorem coefAt_scale (s : ByteArray) (c : Int) : ∀ ts, coefAt s (scaleT c ts) = c * coefAt s ts
  | [] => by simp [scaleT, coefAt]
  | t :: r => by
    have ih := coefAt_scale s c r
    unfold scaleT at *
    rw [List.map_cons, coefAt, coefAt, ih, Int.mul_add]
    show (if t.s = s then c * t.c else 0) + _ = _
    split
    · rfl
    · simp
theorem foxT_scale (g c : Int) (p : List UInt8) (x : UInt8) : foxT g c p x = scaleT c (foxT g 1 p x) := by
  unfold foxT scaleT
  split
  · simp
  · rfl
theorem foxN_scale (g c : Int) (l : List UInt8) : ∀ k, foxN g c l k = scaleT c (foxN g 1 l k)
  | 0 => rfl
  | k + 1 => by
    rw [foxN, foxN, foxN_scale g c l k, foxT_scale]
    unfold scaleT; rw [List.map_append]
theorem foxL_scale (g c : Int) (l : List UInt8) : foxL g c l = scaleT c (foxL g 1 l) := foxN_scale g c l _
theorem coefAt_flat (s : ByteArray) {f h : Tm → List Tm} (hfh : ∀ t, coefAt s (f t) = coefAt s (h t)) : ∀ a : List Tm, coefAt s (a.flatMap f) = coefAt s (a.flatMap h)
  | [] => rfl
  | t :: r => by rw [List.flatMap_cons, List.flatMap_cons, coefAt_append, coefAt_append, hfh, coefAt_flat s hfh r]
theorem canonT_congr {a b : List Tm} (h : ∀ s, coefAt s a = coefAt s b) : canonT a = canonT b :=
  canonT_unique (canonT_spec a).1 fun s => by rw [(canonT_spec a).2, h]

/-- The terms of the derivative of a sum: as the program gathers them, and as the model does. -/
def foxI (g : Int) (a : List Tm) : List Tm := a.flatMap fun t => foxL g t.c t.s.data.toList
def foxM (g : Int) (a : List Tm) : List Tm := a.flatMap fun t => scaleT t.c (canonT (foxL g 1 t.s.data.toList))
theorem foxIM (g : Int) (a : List Tm) : canonT (foxM g a) = canonT (foxI g a) :=
  canonT_congr fun s => coefAt_flat s (fun t => by rw [coefAt_scale, (canonT_spec _).2, foxL_scale g t.c, coefAt_scale]) a

/-! ### Sizes -/
theorem fold_bound {C : Int} (hC : 0 ≤ C) : ∀ (ts acc : List Tm) (B : Int), 0 ≤ B → (∀ t ∈ ts, -C ≤ t.c ∧ t.c ≤ C) → (∀ u ∈ acc, -B ≤ u.c ∧ u.c ≤ B) → ∀ u ∈ ts.foldl addT acc, -(B + C * ts.length) ≤ u.c ∧ u.c ≤ B + C * ts.length
  | [], acc, B, _, _, h, u, hu => by have := h u hu; simpa using this
  | t :: r, acc, B, hB, ht, h, u, hu => by
    have h1 := fold_bound hC r (addT acc t) (B + C) (by omega) (fun v hv => ht v (by simp [hv])) (add_bound hC (ht t (by simp)) h hB) u hu
    rw [List.length_cons, show ((r.length + 1 : Nat) : Int) = (r.length : Int) + 1 by omega, Int.mul_add, Int.mul_one]
    omega
theorem fold_words : ∀ (ts acc : List Tm), ∀ u ∈ ts.foldl addT acc, (∃ v ∈ acc, v.s = u.s) ∨ ∃ v ∈ ts, v.s = u.s
  | [], acc, u, hu => .inl ⟨u, hu, rfl⟩
  | t :: r, acc, u, hu => by
    rcases fold_words r (addT acc t) u hu with ⟨v, hv, e⟩ | ⟨v, hv, e⟩
    · rcases add_words hv with h | ⟨x, hx, h⟩
      · exact .inr ⟨t, by simp, by rw [← h, e]⟩
      · exact .inl ⟨x, hx, by rw [h, e]⟩
    · exact .inr ⟨v, by simp [hv], e⟩
theorem canon_words {ts : List Tm} {u : Tm} (h : u ∈ canonT ts) : ∃ v ∈ ts, v.s = u.s := by
  rcases fold_words ts [] u h with ⟨v, hv, _⟩ | h
  · cases hv
  · exact h
theorem fold_len : ∀ (ts acc : List Tm), (ts.foldl addT acc).length ≤ acc.length + ts.length
  | [], acc => Nat.le_refl _
  | t :: r, acc => by
    have := fold_len r (addT acc t)
    have h2 := add_len t acc
    rw [List.length_cons]
    show (r.foldl addT (addT acc t)).length ≤ _
    omega
/-- A derivative of a word is a sum. -/
theorem fox_tw {g : Int} {l : List UInt8} (h : wordB l = true) : twB (canonT (foxL g 1 l)) = true := by
  have hl := ((wordB_iff _).1 h).1
  have hn := foxN_len g 1 l l.length
  have hlen : (canonT (foxL g 1 l)).length ≤ 60 := by
    have := fold_len (foxL g 1 l) []
    unfold foxL canonT at *
    simp only [List.length_nil] at this
    omega
  refine twB_of (by omega) fun j hj => ?_
  have hm := List.getElem_mem hj
  have hb := fold_bound (C := 1) (by omega) (foxL g 1 l) [] 0 (by omega) (fun t ht => (foxN_mem (C := 1) (by omega) (Nat.le_refl _) ht).1) (fun u hu => by cases hu) _ hm
  have hb2 : (foxL g 1 l).length ≤ 60 := by unfold foxL; omega
  obtain ⟨v, hv, e⟩ := canon_words hm
  obtain ⟨_, k, _, e2⟩ := foxN_mem (C := 1) (by omega) (Nat.le_refl _) hv
  unfold termB
  rw [← e, e2, bstr_toList, word_take h, Bool.true_and]
  unfold inR
  simp only [Bool.and_eq_true, decide_eq_true_eq]
  omega
theorem foxI_succ (g : Int) (a : List Tm) (k : Nat) (h : k < a.length) : foxI g (a.take (k + 1)) = foxI g (a.take k) ++ foxL g a[k].c a[k].s.data.toList := by
  unfold foxI; rw [List.take_succ_eq_append_getElem h, List.flatMap_append]; simp
theorem foxM_succ (g : Int) (a : List Tm) (k : Nat) (h : k < a.length) : foxM g (a.take (k + 1)) = foxM g (a.take k) ++ scaleT a[k].c (canonT (foxL g 1 a[k].s.data.toList)) := by
  unfold foxM; rw [List.take_succ_eq_append_getElem h, List.flatMap_append]; simp
theorem foxI_len (g : Int) : ∀ (a : List Tm), (∀ t ∈ a, t.s.size ≤ 60) → (foxI g a).length ≤ 60 * a.length
  | [], _ => by simp [foxI]
  | t :: r, h => by
    have ih := foxI_len g r fun u hu => h u (by simp [hu])
    have h1 := foxN_len g t.c t.s.data.toList t.s.data.toList.length
    have h2 := h t (by simp)
    unfold foxI foxL at *
    rw [List.flatMap_cons, List.length_append, List.length_cons]
    have h3 : t.s.data.toList.length = t.s.size := by simp
    omega
theorem foxI_mem {g : Int} {a : List Tm} (h : ∀ t ∈ a, t.s.size ≤ 60 ∧ -1000000 ≤ t.c ∧ t.c ≤ 1000000) {u : Tm} (hu : u ∈ foxI g a) : u.s.size ≤ 60 ∧ -1000000 ≤ u.c ∧ u.c ≤ 1000000 := by
  obtain ⟨t, ht, hu⟩ := List.mem_flatMap.1 hu
  obtain ⟨h1, h2⟩ := h t ht
  obtain ⟨h3, j, _, e⟩ := foxN_mem (C := 1000000) h2 (Nat.le_refl _) hu
  refine ⟨?_, h3⟩
  rw [e, bstr_size, List.length_take]
  have : t.s.data.toList.length = t.s.size := by simp
  omega

end Go.Proofs.Ytbbkpaledlbcmaa

/- Monomials and series: what they are; the contracts of the model's 'l4Mono' and 'SeriesIn'. -/

namespace Go.Proofs.Ytbbkpaledlbcmaa
open Go.RowKit

def genB (c : UInt8) : Bool := decide (97 ≤ c.toNat) && decide (c.toNat ≤ 100)
/-- Is this a monomial? -/
def monoB (s : ByteArray) : Bool := s.data.toList.all genB && decide (s.size ≤ 4)
theorem genB_false (s : ByteArray) (k : Nat) (hk : k < s.data.toList.length) (h : genB s.data.toList[k] = false) : monoB s = false := by
  unfold monoB; rw [List.all_eq_false.2 ⟨_, List.getElem_mem hk, by rw [h]; exact Bool.false_ne_true⟩]; rfl

/-- Is the term at j as a series wants it, beside the one ahead of it? -/
def serAt (ts : List Tm) (j : Nat) : Bool :=
  (ts.getD j default).c != 0 && inR (-1000000) 1000000 (ts.getD j default).c && monoB (ts.getD j default).s && (decide (j = 0) || lessW (ts.getD (j - 1) default).s (ts.getD j default).s)
def allSer (ts : List Tm) (n : Nat) : Bool := (List.range n).all (serAt ts)
theorem allSer_succ (ts : List Tm) (n : Nat) : allSer ts (n + 1) = (allSer ts n && serAt ts n) := by simp [allSer, List.range_succ]
theorem allSer_false (ts : List Tm) (n k : Nat) (hk : k < n) (h : serAt ts k = false) : allSer ts n = false :=
  List.all_eq_false.2 ⟨k, List.mem_range.2 hk, by simp [h]⟩
/-- Is this a series? -/
def serB (ts : List Tm) : Bool := allSer ts ts.length && decide (ts.length ≤ 400)

theorem serB_false (ts : List Tm) (k : Nat) (hk : k < ts.length) (h : serAt ts k = false) : serB ts = false := by
  unfold serB; rw [allSer_false ts _ k hk h, Bool.false_and]
theorem serAt_c (ts : List Tm) (k : Nat) (t : Tm) (ht : ts.getD k default = t) (h : t.c = 0) : serAt ts k = false := by
  unfold serAt; rw [ht, h]; rfl
theorem serAt_r (ts : List Tm) (k : Nat) (t : Tm) (ht : ts.getD k default = t) (h : inR (-1000000) 1000000 t.c = false) : serAt ts k = false := by
  unfold serAt; rw [ht, h]; simp
theorem serAt_w (ts : List Tm) (k : Nat) (t : Tm) (ht : ts.getD k default = t) (h : monoB t.s = false) : serAt ts k = false := by
  unfold serAt; rw [ht, h]; simp
theorem serAt_zero (ts : List Tm) (k : Nat) (t : Tm) (hk : k = 0) (ht : ts.getD k default = t) (h0 : ¬ t.c = 0) (h1 : inR (-1000000) 1000000 t.c = true) (h2 : monoB t.s = true) : serAt ts k = true := by
  unfold serAt; rw [ht, h1, h2]; simp [h0, hk]
theorem serAt_succ (ts : List Tm) (k : Nat) (t p : Tm) (hk : 0 < k) (ht : ts.getD k default = t) (hp : ts.getD (k - 1) default = p) (h0 : ¬ t.c = 0) (h1 : inR (-1000000) 1000000 t.c = true) (h2 : monoB t.s = true) : serAt ts k = lessW p.s t.s := by
  have h3 : ¬ k = 0 := by omega
  unfold serAt; rw [ht, hp, h1, h2]; simp [h0, h3]

end Go.Proofs.Ytbbkpaledlbcmaa

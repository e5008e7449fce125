/- Letters of braids, over lists of bytes: which are letters, their places and their sums. -/
import Derived.Test.YtaaeiogdhmiaaaaMathb
namespace Go.Proofs.Ytaaeiogdhmiaaaa
open Go.RowKit

/-- Letters of braids: 'x' to 'z' and their inverses. -/
def brB (c : UInt8) : Bool := decide ((120 ≤ c.toNat ∧ c.toNat ≤ 122) ∨ (88 ≤ c.toNat ∧ c.toNat ≤ 90))
/-- The first of both places that a letter exchanges. -/
def plN (c : UInt8) : Nat := if 97 ≤ c.toNat then c.toNat - 120 else c.toNat - 88
/-- The same as the program counts it, for all bytes. -/
def plI (c : UInt8) : Int := bits BinOp.or IntKind.u8 (c.toNat : Int) 32 - 120
def brL (n : Int) (c : UInt8) : Bool := brB c && decide ((plN c : Int) < n - 1)
def braidB (n : Int) (s : ByteArray) : Bool := decide (2 ≤ n ∧ n ≤ 4) && decide (s.size ≤ 30) && s.data.toList.all (brL n)

theorem brB_iff (c : UInt8) : brB c = true ↔ (120 ≤ c.toNat ∧ c.toNat ≤ 122) ∨ (88 ≤ c.toNat ∧ c.toNat ≤ 90) := by unfold brB; rw [decide_eq_true_eq]
theorem brB_no (c : UInt8) (h : brB c = false) : ¬ ((120 ≤ c.toNat ∧ c.toNat ≤ 122) ∨ (88 ≤ c.toNat ∧ c.toNat ≤ 90)) := of_decide_eq_false h
theorem plN_lt (c : UInt8) (h : brB c = true) : plN c < 3 := by
  have := (brB_iff c).1 h
  unfold plN; split <;> omega

theorem pl_tab : ((List.range 256).all fun n => !(decide ((120 ≤ n ∧ n ≤ 122) ∨ (88 ≤ n ∧ n ≤ 90))) ||
      (decide (bits BinOp.or IntKind.u8 (n : Int) 32 = ((if 97 ≤ n then n - 120 else n - 88 : Nat) : Int) + 120) && decide (bits BinOp.and IntKind.u8 (n : Int) 32 = if 97 ≤ n then 32 else 0) && decide (bits BinOp.xor IntKind.u8 (n : Int) 32 = if 97 ≤ n then (n : Int) - 32 else (n : Int) + 32))) = true := by kernel_rfl
theorem pl_tab2 : ((List.range 256).all fun n => decide ((120 ≤ n ∧ n ≤ 122) ∨ (88 ≤ n ∧ n ≤ 90)) || (decide (bits BinOp.or IntKind.u8 (n : Int) 32 < 120) || decide (123 ≤ bits BinOp.or IntKind.u8 (n : Int) 32))) = true := by kernel_rfl
theorem pl_yes (c : UInt8) (h : brB c = true) : plI c = (plN c : Int) ∧ bits BinOp.and IntKind.u8 (c.toNat : Int) 32 = (if 97 ≤ c.toNat then 32 else 0) ∧ bits BinOp.xor IntKind.u8 (c.toNat : Int) 32 = if 97 ≤ c.toNat then (c.toNat : Int) - 32 else (c.toNat : Int) + 32 := by
  have := List.all_eq_true.1 pl_tab c.toNat (List.mem_range.2 c.toNat_lt)
  simp only [Bool.or_eq_true, Bool.and_eq_true, Bool.not_eq_true', decide_eq_false_iff_not, decide_eq_true_eq] at this
  have := this.resolve_left (fun h2 => h2 ((brB_iff c).1 h))
  refine ⟨?_, this.1.2, this.2⟩
  unfold plI plN
  rw [this.1.1]; omega
theorem pl_no (c : UInt8) (h : brB c = false) : plI c < 0 ∨ 3 ≤ plI c := by
  have := List.all_eq_true.1 pl_tab2 c.toNat (List.mem_range.2 c.toNat_lt)
  simp only [Bool.or_eq_true, decide_eq_true_eq] at this
  have := this.resolve_left (brB_no c h)
  unfold plI
  omega
theorem or_range : ((List.range 256).all fun n => decide (0 ≤ bits BinOp.or IntKind.u8 (n : Int) 32) && decide (bits BinOp.or IntKind.u8 (n : Int) 32 ≤ 255)) = true := by kernel_rfl
theorem or_bnd (c : UInt8) : 0 ≤ bits BinOp.or IntKind.u8 (c.toNat : Int) 32 ∧ bits BinOp.or IntKind.u8 (c.toNat : Int) 32 ≤ 255 := by
  have := List.all_eq_true.1 or_range c.toNat (List.mem_range.2 c.toNat_lt)
  simpa using this

/-- A letter that the program takes is one, and the other way round. -/
theorem brL_place (n : Int) (hn : n ≤ 4) (c : UInt8) : brL n c = (decide (0 ≤ plI c) && decide (plI c < n - 1)) := by
  unfold brL
  cases h : brB c with
  | true =>
    obtain ⟨h1, _⟩ := pl_yes c h
    rw [h1]
    have : decide (0 ≤ (plN c : Int)) = true := decide_eq_true (by omega)
    rw [this]
  | false =>
    rcases pl_no c h with h2 | h2
    · rw [decide_eq_false (show ¬ 0 ≤ plI c by omega)]; rfl
    · rw [decide_eq_false (show ¬ plI c < n - 1 by omega), Bool.and_false]; rfl

theorem braid_all {n : Int} {s : ByteArray} (h : braidB n s = true) : (2 ≤ n ∧ n ≤ 4) ∧ s.size ≤ 30 ∧ ∀ c ∈ s.data.toList, brB c = true ∧ (plN c : Int) < n - 1 := by
  unfold braidB at h
  simp only [Bool.and_eq_true, decide_eq_true_eq, List.all_eq_true] at h
  refine ⟨h.1.1, h.1.2, fun c hc => ?_⟩
  have := h.2 c hc
  unfold brL at this
  simpa using this
theorem braid_of_all {n : Int} {s : ByteArray} (h1 : 2 ≤ n ∧ n ≤ 4) (h2 : s.size ≤ 30) (h3 : ∀ c ∈ s.data.toList, brB c = true ∧ (plN c : Int) < n - 1) : braidB n s = true := by
  unfold braidB
  simp only [Bool.and_eq_true, decide_eq_true_eq, List.all_eq_true]
  refine ⟨⟨h1, h2⟩, fun c hc => ?_⟩
  unfold brL
  simpa using h3 c hc

/-! ### Sums -/
def sgSum (l : List UInt8) : Int := (l.map sgnB).sum
theorem sgSum_append (a b : List UInt8) : sgSum (a ++ b) = sgSum a + sgSum b := by simp [sgSum]
theorem sgSum_one (c : UInt8) : sgSum [c] = sgnB c := by simp [sgSum]
theorem sgSum_bnd : ∀ l : List UInt8, -(l.length : Int) ≤ sgSum l ∧ sgSum l ≤ l.length
  | [] => by simp [sgSum]
  | c :: r => by
    have := sgSum_bnd r
    have h : -1 ≤ sgnB c ∧ sgnB c ≤ 1 := by unfold sgnB; split <;> omega
    have e : sgSum (c :: r) = sgnB c + sgSum r := by simp [sgSum]
    rw [e]
    simp only [List.length_cons]
    omega

/-! ### Inverses -/
theorem brB_turn {c : UInt8} (h : brB c = true) : turnB c = invB c ∧ brB (turnB c) = true ∧ plN (turnB c) = plN c ∧ sgnB (turnB c) = - sgnB c ∧ turnB (turnB c) = c := by
  have ht : ∀ n : Fin 256, brB (UInt8.ofNat n.val) = true → turnB (UInt8.ofNat n.val) = invB (UInt8.ofNat n.val) ∧ brB (turnB (UInt8.ofNat n.val)) = true ∧ plN (turnB (UInt8.ofNat n.val)) = plN (UInt8.ofNat n.val) ∧ sgnB (turnB (UInt8.ofNat n.val)) = - sgnB (UInt8.ofNat n.val) ∧ turnB (turnB (UInt8.ofNat n.val)) = UInt8.ofNat n.val := by decide +kernel
  have := ht ⟨c.toNat, c.toNat_lt⟩
  simp only [UInt8.ofNat_toNat] at this
  exact this h
theorem inv_backR (l : List UInt8) (h : ∀ c ∈ l, brB c = true) : l.reverse.map invB = backL l := by
  unfold backL
  exact List.map_congr_left fun c hc => (brB_turn (h c (by simpa using hc))).1.symm

end Go.Proofs.Ytaaeiogdhmiaaaa

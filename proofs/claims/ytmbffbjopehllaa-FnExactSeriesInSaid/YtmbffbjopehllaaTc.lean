/- The contracts of the model's 'l6In', 'l2Less', 'SumIn'. -/
import Derived.Test.YtmbffbjopehllaaTb
import Derived.Test.YtmbffbjopehllaaSc
import Derived.IntWalk
namespace Go.Proofs.Ytmbffbjopehllaa
open Go.RowKit

def inR (a b c : Int) : Bool := decide (a ≤ c) && decide (c ≤ b)
/-- Shorter words first, of one length byte by byte. -/
def lessW (a b : ByteArray) : Bool := if a.size = b.size then Op.bytesLess a.toList b.toList else decide (a.size < b.size)
/-- Is the term at j as a sum wants it, beside the one ahead of it? -/
def goodAt (ts : List Tm) (j : Nat) : Bool :=
  (ts.getD j default).c != 0 && inR (-1000000) 1000000 (ts.getD j default).c && wordB (ts.getD j default).s.data.toList && (decide (j = 0) || lessW (ts.getD (j - 1) default).s (ts.getD j default).s)
def allGood (ts : List Tm) (n : Nat) : Bool := (List.range n).all (goodAt ts)
theorem allGood_succ (ts : List Tm) (n : Nat) : allGood ts (n + 1) = (allGood ts n && goodAt ts n) := by simp [allGood, List.range_succ]
theorem allGood_false (ts : List Tm) (n k : Nat) (hk : k < n) (h : goodAt ts k = false) : allGood ts n = false :=
  List.all_eq_false.2 ⟨k, List.mem_range.2 hk, by simp [h]⟩
/-- Is this a sum? -/
def sumB (ts : List Tm) : Bool := allGood ts ts.length && decide (ts.length ≤ 300)

theorem sumB_false (ts : List Tm) (k : Nat) (hk : k < ts.length) (h : goodAt ts k = false) : sumB ts = false := by
  unfold sumB; rw [allGood_false ts _ k hk h, Bool.false_and]
theorem goodAt_c (ts : List Tm) (k : Nat) (t : Tm) (ht : ts.getD k default = t) (h : t.c = 0) : goodAt ts k = false := by
  unfold goodAt; rw [ht, h]; rfl
theorem goodAt_r (ts : List Tm) (k : Nat) (t : Tm) (ht : ts.getD k default = t) (h : inR (-1000000) 1000000 t.c = false) : goodAt ts k = false := by
  unfold goodAt; rw [ht, h]; simp
theorem goodAt_w (ts : List Tm) (k : Nat) (t : Tm) (ht : ts.getD k default = t) (h : wordB t.s.data.toList = false) : goodAt ts k = false := by
  unfold goodAt; rw [ht, h]; simp
theorem goodAt_zero (ts : List Tm) (k : Nat) (t : Tm) (hk : k = 0) (ht : ts.getD k default = t) (h0 : ¬ t.c = 0) (h1 : inR (-1000000) 1000000 t.c = true) (h2 : wordB t.s.data.toList = true) : goodAt ts k = true := by
  unfold goodAt; rw [ht, h1, h2]; simp [h0, hk]
theorem goodAt_succ (ts : List Tm) (k : Nat) (t p : Tm) (hk : 0 < k) (ht : ts.getD k default = t) (hp : ts.getD (k - 1) default = p) (h0 : ¬ t.c = 0) (h1 : inR (-1000000) 1000000 t.c = true) (h2 : wordB t.s.data.toList = true) : goodAt ts k = lessW p.s t.s := by
  have h3 : ¬ k = 0 := by omega
  unfold goodAt; rw [ht, hp, h1, h2]; simp [h0, h3]

theorem l6In_any (c a b : Int) (w : World) :
    Calls Try.prog 34 #[.int .i64 c, .int .i64 a, .int .i64 b] w fun e w' => e = .returned (.bool (inR a b c)) ∧ w = w' := by
  by_cases h : a ≤ c
  · go_enter Try.func34, Try.ntmps34
    go_wp2
    go_ret
    exact ⟨ret_bool (by simp [inR, h]), rfl⟩
  · go_enter Try.func34, Try.ntmps34
    go_wp2
    go_ret
    exact ⟨ret_bool (by unfold inR; rw [decide_eq_false (by omega : ¬ a ≤ c)]; rfl), rfl⟩

theorem l2Less_any (a b : ByteArray) (w : World) :
    Calls Try.prog 36 #[.string a, .string b] w fun e w' => e = .returned (.bool (lessW a b)) ∧ w = w' := by
  by_cases h : a.size = b.size
  · go_enter Try.func36, Try.ntmps36
    go_wp2
    go_ret
    exact ⟨ret_bool (by unfold lessW; rw [if_pos h]), rfl⟩
  · have hne : (((a.size : Int) != (b.size : Int)) : Bool) = true := by simp; omega
    go_enter Try.func36, Try.ntmps36
    go_wp2
    go_ret
    exact ⟨ret_bool (by unfold lessW; rw [if_neg h]), rfl⟩

theorem l6In_is (c a b : Int) (r : Bool) (w : World) (h : inR a b c = r) :
    Calls Try.prog 34 #[.int .i64 c, .int .i64 a, .int .i64 b] w fun e w' => e = .returned (.bool r) ∧ Below w.heap.size w w' :=
  (l6In_any c a b w).mono fun _ _ ⟨h1, h2⟩ => ⟨by rw [h1, h], by rw [← h2]; exact Below.refl _ _⟩
theorem l2Less_is (a b : ByteArray) (r : Bool) (w : World) (h : lessW a b = r) :
    Calls Try.prog 36 #[.string a, .string b] w fun e w' => e = .returned (.bool r) ∧ Below w.heap.size w w' :=
  (l2Less_any a b w).mono fun _ _ ⟨h1, h2⟩ => ⟨by rw [h1, h], by rw [← h2]; exact Below.refl _ _⟩


end Go.Proofs.Ytmbffbjopehllaa

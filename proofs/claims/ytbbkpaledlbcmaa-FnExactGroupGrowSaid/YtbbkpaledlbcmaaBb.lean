/- What the laws' proofs stand on, part 2 of 6. -/
import Derived.ChangeArms
import Derived.ChangeSame
import Derived.ProofKit
import Derived.WalkLawsBesides
import Derived.Laws.AppendOwn
import Derived.Lib.SmallJoins
import Derived.Deep.RegionHeld3
import Derived.Deep.AppendLies
import Derived.Deep.SlicePairs
import Derived.Deep.QuietTactic
import Derived.BigQuiet
import Derived.Deep.Slices
import Derived.Deep.WholeRow
import Derived.Lib.SliceRun
import Derived.Test.YtbbkpaledlbcmaaBa

/- Polynomials as lists of coefficients from a power on: trimmed ones, told by their coefficients. -/

namespace Go.Proofs.Ytbbkpaledlbcmaa
open Go.RowKit

structure Pl where
  low : Int
  cs : List Int
/-- The coefficient of a power. -/
def pat (p : Pl) (k : Int) : Int := if p.low ≤ k then p.cs.getD (k - p.low).toNat 0 else 0
theorem pat_at (p : Pl) (i : Nat) : pat p (p.low + i) = p.cs.getD i 0 := by
  unfold pat
  rw [if_pos (by omega), show (p.low + (i : Int) - p.low).toNat = i by omega]
theorem pat_low (p : Pl) {k : Int} (h : k < p.low) : pat p k = 0 := by unfold pat; rw [if_neg (by omega)]
theorem getD_far {l : List Int} {i : Nat} (h : l.length ≤ i) : l.getD i 0 = 0 := by rw [List.getD_eq_getElem?_getD, List.getElem?_eq_none h]; rfl
theorem pat_high (p : Pl) {k : Int} (h : p.low + p.cs.length ≤ k) : pat p k = 0 := by
  unfold pat
  rw [if_pos (by omega)]
  exact getD_far (by omega)
theorem pat_nil (l k : Int) : pat ⟨l, []⟩ k = 0 := by unfold pat; split <;> rfl

/-- Neither end is 0; without coefficients the power is 0. -/
def Trim (p : Pl) : Prop := (p.cs = [] ∧ p.low = 0) ∨ (p.cs ≠ [] ∧ p.cs.getD 0 0 ≠ 0 ∧ p.cs.getD (p.cs.length - 1) 0 ≠ 0)
theorem getD_lt {l : List Int} {i : Nat} (h : l.getD i 0 ≠ 0) : i < l.length := by
  by_cases hi : i < l.length
  · exact hi
  · exact absurd (getD_far (by omega)) h
theorem pat_in {p : Pl} {k : Int} (h : pat p k ≠ 0) : p.low ≤ k ∧ k < p.low + p.cs.length := by
  by_cases h1 : k < p.low
  · exact absurd (pat_low p h1) h
  · by_cases h2 : p.low + p.cs.length ≤ k
    · exact absurd (pat_high p h2) h
    · omega
/-- There is just one trimmed polynomial with given coefficients. -/
theorem trim_unique {p q : Pl} (hp : Trim p) (hq : Trim q) (h : ∀ k, pat p k = pat q k) : p = q := by
  obtain ⟨lp, cp⟩ := p
  obtain ⟨lq, cq⟩ := q
  rcases hp with ⟨rfl, rfl⟩ | ⟨hp0, hp1, hp2⟩
  · rcases hq with ⟨rfl, rfl⟩ | ⟨hq0, hq1, hq2⟩
    · rfl
    · have h1 := h lq
      rw [pat_nil] at h1
      have h2 := pat_at ⟨lq, cq⟩ 0
      simp only [Int.natCast_zero, Int.add_zero] at h2
      exact absurd (h2.symm.trans h1.symm) hq1
  · rcases hq with ⟨rfl, rfl⟩ | ⟨hq0, hq1, hq2⟩
    · have h1 := h lp
      rw [pat_nil] at h1
      have h2 := pat_at ⟨lp, cp⟩ 0
      simp only [Int.natCast_zero, Int.add_zero] at h2
      exact absurd (h2.symm.trans h1) hp1
    · have a1 := pat_at ⟨lp, cp⟩ 0
      have a2 := pat_at ⟨lp, cp⟩ (cp.length - 1)
      have b1 := pat_at ⟨lq, cq⟩ 0
      have b2 := pat_at ⟨lq, cq⟩ (cq.length - 1)
      simp only [Int.natCast_zero, Int.add_zero] at a1 b1
      have lp0 := List.length_pos_iff.2 hp0
      have lq0 := List.length_pos_iff.2 hq0
      have c1 := pat_in (p := ⟨lq, cq⟩) (k := lp) (by rw [← h, a1]; exact hp1)
      have c2 := pat_in (p := ⟨lp, cp⟩) (k := lq) (by rw [h, b1]; exact hq1)
      have c3 := pat_in (p := ⟨lq, cq⟩) (k := lp + ((cp.length - 1 : Nat) : Int)) (by rw [← h, a2]; exact hp2)
      have c4 := pat_in (p := ⟨lp, cp⟩) (k := lq + ((cq.length - 1 : Nat) : Int)) (by rw [h, b2]; exact hq2)
      have c1 : lq ≤ lp := c1.1
      have c2 : lp ≤ lq := c2.1
      obtain rfl : lp = lq := by omega
      have c3 : lp + ((cp.length - 1 : Nat) : Int) < lp + cq.length := c3.2
      have c4 : lp + ((cq.length - 1 : Nat) : Int) < lp + cp.length := c4.2
      have hl : cp.length = cq.length := by omega
      congr 1
      refine List.ext_getElem hl fun i h1 h2 => ?_
      have e := h (lp + i)
      rw [pat_at ⟨lp, cp⟩ i, pat_at ⟨lp, cq⟩ i] at e
      simpa [List.getD_eq_getElem?_getD, List.getElem?_eq_getElem h1, List.getElem?_eq_getElem h2] using e

/-! ### Zeros at the ends -/
def zfrom : List Int → Nat
  | [] => 0
  | x :: r => if x = 0 then zfrom r + 1 else 0
theorem zfrom_le : ∀ l : List Int, zfrom l ≤ l.length
  | [] => Nat.le_refl _
  | x :: r => by rw [zfrom]; split <;> simp [zfrom_le r]
theorem zfrom_zero : ∀ (l : List Int) (i : Nat), i < zfrom l → l.getD i 0 = 0
  | [], _, h => absurd h (Nat.not_lt_zero _)
  | x :: r, i, h => by
    rw [zfrom] at h
    split at h
    · rename_i hx
      cases i with
      | zero => simpa using hx
      | succ i => simpa using zfrom_zero r i (by omega)
    · omega
theorem zfrom_head : ∀ l : List Int, zfrom l < l.length → l.getD (zfrom l) 0 ≠ 0
  | [], h => absurd h (Nat.not_lt_zero _)
  | x :: r, h => by
    rw [zfrom] at h ⊢
    split
    · rename_i hx
      rw [if_pos hx] at h
      simpa using zfrom_head r (by simpa using h)
    · rename_i hx
      simpa using hx
theorem zfrom_at {l : List Int} {k : Nat} (hk : k ≤ l.length) (hz : ∀ i, i < k → l.getD i 0 = 0) (hn : k < l.length → l.getD k 0 ≠ 0) : zfrom l = k := by
  have h1 := zfrom_le l
  by_cases h : zfrom l < k
  · exact absurd (hz _ h) (zfrom_head l (by omega))
  · by_cases h2 : k < zfrom l
    · exact absurd (zfrom_zero l k h2) (hn (by omega))
    · omega
def ztrim : List Int → List Int
  | [] => []
  | x :: r => match ztrim r with
    | [] => if x = 0 then [] else [x]
    | y :: s => x :: y :: s
theorem ztrim_get : ∀ (l : List Int) (i : Nat), (ztrim l).getD i 0 = l.getD i 0
  | [], _ => rfl
  | x :: r, i => by
    have ih := ztrim_get r
    rw [ztrim]
    cases h : ztrim r with
    | nil =>
      rw [h] at ih
      show (if x = 0 then ([] : List Int) else [x]).getD i 0 = _
      by_cases hx : x = 0
      · rw [if_pos hx]
        cases i with
        | zero => simp [hx]
        | succ i => have := ih i; simpa using this
      · rw [if_neg hx]
        cases i with
        | zero => simp
        | succ i => have := ih i; simpa using this
    | cons y s =>
      rw [h] at ih
      show (x :: y :: s).getD i 0 = _
      cases i with
      | zero => simp
      | succ i => have := ih i; simpa using this
theorem ztrim_last : ∀ l : List Int, ztrim l = [] ∨ (ztrim l).getD ((ztrim l).length - 1) 0 ≠ 0
  | [] => .inl rfl
  | x :: r => by
    rw [ztrim]
    rcases ztrim_last r with h | h
    · rw [h]
      show (if x = 0 then ([] : List Int) else [x]) = [] ∨ (if x = 0 then ([] : List Int) else [x]).getD ((if x = 0 then ([] : List Int) else [x]).length - 1) 0 ≠ 0
      by_cases hx : x = 0
      · rw [if_pos hx]; exact .inl rfl
      · rw [if_neg hx]; exact .inr (by simpa using hx)
    · cases hr : ztrim r with
      | nil => rw [hr] at h; exact absurd rfl h
      | cons y s =>
        rw [hr] at h
        right
        show (x :: y :: s).getD ((x :: y :: s).length - 1) 0 ≠ 0
        simpa using h
theorem ztrim_len : ∀ l : List Int, (ztrim l).length ≤ l.length
  | [] => Nat.le_refl _
  | x :: r => by
    have ih := ztrim_len r
    rw [ztrim]
    cases h : ztrim r with
    | nil =>
      show (if x = 0 then ([] : List Int) else [x]).length ≤ _
      split <;> simp
    | cons y s => rw [h] at ih; simpa using ih
theorem ztrim_snoc_zero : ∀ l : List Int, ztrim (l ++ [0]) = ztrim l
  | [] => rfl
  | x :: r => by rw [List.cons_append, ztrim, ztrim, ztrim_snoc_zero r]
theorem ztrim_snoc (x : Int) (hx : x ≠ 0) : ∀ l : List Int, ztrim (l ++ [x]) = l ++ [x]
  | [] => by show ztrim [x] = [x]; rw [ztrim]; show (if x = 0 then ([] : List Int) else [x]) = _; rw [if_neg hx]
  | y :: r => by
    rw [List.cons_append, ztrim, ztrim_snoc x hx r]
    cases r <;> rfl
/-- Without zeros at the ends. -/
def tidyP (low : Int) (l : List Int) : Pl := if ztrim (l.drop (zfrom l)) = [] then ⟨0, []⟩ else ⟨low + zfrom l, ztrim (l.drop (zfrom l))⟩
theorem tidy_trim (low : Int) (l : List Int) : Trim (tidyP low l) := by
  unfold tidyP
  split
  · exact .inl ⟨rfl, rfl⟩
  · rename_i h
    refine .inr ⟨h, ?_, ?_⟩
    · show (ztrim (l.drop (zfrom l))).getD 0 0 ≠ 0
      rw [ztrim_get]
      have hl : zfrom l < l.length := by
        by_cases hl : zfrom l < l.length
        · exact hl
        · rw [List.drop_of_length_le (by omega)] at h
          exact absurd rfl h
      have := zfrom_head l hl
      rw [List.getD_eq_getElem?_getD, List.getElem?_drop, Nat.add_zero, ← List.getD_eq_getElem?_getD]
      exact this
    · rcases ztrim_last (l.drop (zfrom l)) with h2 | h2
      · exact absurd h2 h
      · exact h2
theorem tidy_pat (low : Int) (l : List Int) (k : Int) : pat (tidyP low l) k = pat ⟨low, l⟩ k := by
  have hg : ∀ i, (ztrim (l.drop (zfrom l))).getD i 0 = l.getD (zfrom l + i) 0 := fun i => by
    rw [ztrim_get, List.getD_eq_getElem?_getD, List.getElem?_drop, ← List.getD_eq_getElem?_getD]
  have hlow : ∀ i, i < zfrom l → l.getD i 0 = 0 := zfrom_zero l
  unfold tidyP
  split
  · rename_i h
    rw [pat_nil]
    unfold pat
    split
    · show 0 = l.getD (k - low).toNat 0
      by_cases hi : (k - low).toNat < zfrom l
      · exact (hlow _ hi).symm
      · have e := hg ((k - low).toNat - zfrom l)
        rw [h, show zfrom l + ((k - low).toNat - zfrom l) = (k - low).toNat by omega] at e
        exact e
    · rfl
  · unfold pat
    show (if low + (zfrom l : Int) ≤ k then (ztrim (l.drop (zfrom l))).getD (k - (low + (zfrom l : Int))).toNat 0 else 0) = if low ≤ k then l.getD (k - low).toNat 0 else 0
    by_cases h1 : low + (zfrom l : Int) ≤ k
    · rw [if_pos h1, if_pos (by omega), hg, show zfrom l + (k - (low + (zfrom l : Int))).toNat = (k - low).toNat by omega]
    · rw [if_neg h1]
      by_cases h2 : low ≤ k
      · rw [if_pos h2, hlow _ (by omega)]
      · rw [if_neg h2]

/-! ### What is a polynomial -/
def coefIn (z : Int) : Bool := inR (-1000000000) 1000000000 z
def polyB (p : Pl) : Bool := p.cs.all coefIn && (if p.cs.length = 0 then decide (p.low = 0) else decide (p.cs.length ≤ 200) && (inR (-300) 300 p.low && (!(decide (p.cs.getD 0 0 = 0)) && !(decide (p.cs.getD (p.cs.length - 1) 0 = 0)))))
theorem polyB_trim {p : Pl} (h : polyB p = true) : Trim p ∧ p.cs.length ≤ 200 ∧ -300 ≤ p.low ∧ p.low ≤ 300 ∧ ∀ i, -1000000000 ≤ p.cs.getD i 0 ∧ p.cs.getD i 0 ≤ 1000000000 := by
  unfold polyB at h
  rw [Bool.and_eq_true] at h
  obtain ⟨h1, h2⟩ := h
  have hc : ∀ i, -1000000000 ≤ p.cs.getD i 0 ∧ p.cs.getD i 0 ≤ 1000000000 := fun i => by
    by_cases hi : i < p.cs.length
    · have := List.all_eq_true.1 h1 _ (List.getElem_mem hi)
      unfold coefIn inR at this
      simp only [Bool.and_eq_true, decide_eq_true_eq] at this
      rw [List.getD_eq_getElem?_getD, List.getElem?_eq_getElem hi]
      exact this
    · rw [getD_far (by omega)]; omega
  by_cases h0 : p.cs.length = 0
  · rw [if_pos h0, decide_eq_true_eq] at h2
    exact ⟨.inl ⟨List.length_eq_zero_iff.1 h0, h2⟩, by omega, by omega, by omega, hc⟩
  · rw [if_neg h0] at h2
    unfold inR at h2
    simp only [Bool.and_eq_true, decide_eq_true_eq, Bool.not_eq_true', decide_eq_false_iff_not] at h2
    exact ⟨.inr ⟨fun e => h0 (by rw [e]; rfl), h2.2.2.1, h2.2.2.2⟩, h2.1, h2.2.1.1, h2.2.1.2, hc⟩

end Go.Proofs.Ytbbkpaledlbcmaa

/- Sums, products, turned and plain polynomials, told by their coefficients. -/

namespace Go.Proofs.Ytbbkpaledlbcmaa
open Go.RowKit

/-- Coefficients from a power on, so many. -/
def listP (f : Int → Int) (low : Int) (n : Nat) : List Int := (List.range n).map fun i : Nat => f (low + (i : Int))
theorem listP_len (f : Int → Int) (low : Int) (n : Nat) : (listP f low n).length = n := by simp [listP]
theorem listP_get (f : Int → Int) (low : Int) (n i : Nat) (h : i < n) : (listP f low n).getD i 0 = f (low + i) := by
  rw [List.getD_eq_getElem?_getD, List.getElem?_eq_getElem (by rw [listP_len]; exact h)]
  simp [listP]
theorem listP_pat {f : Int → Int} {low : Int} {n : Nat} (h1 : ∀ k, k < low → f k = 0) (h2 : ∀ k, low + n ≤ k → f k = 0) (k : Int) : pat ⟨low, listP f low n⟩ k = f k := by
  unfold pat
  show (if low ≤ k then (listP f low n).getD (k - low).toNat 0 else 0) = f k
  by_cases h : low ≤ k
  · rw [if_pos h]
    by_cases hk : (k - low).toNat < n
    · rw [listP_get f low n _ hk, show low + (((k - low).toNat : Nat) : Int) = k by omega]
    · rw [getD_far (by rw [listP_len]; omega), h2 k (by omega)]
  · rw [if_neg h, h1 k (by omega)]

/-! ### Sums -/
def sumLow (a b : Pl) : Int := if a.cs.length = 0 then b.low else (if b.low ≤ a.low then b.low else a.low)
def sumHigh (a b : Pl) : Int := if a.cs.length = 0 then b.low + b.cs.length else (if a.low + a.cs.length ≤ b.low + b.cs.length then b.low + b.cs.length else a.low + a.cs.length)
def sumF (a : Pl) (n : Int) (b : Pl) (k : Int) : Int := pat a k + n * pat b k
/-- The first one and so many times the second one. -/
def sumP (a : Pl) (n : Int) (b : Pl) : Pl := if b.cs.length = 0 then a else tidyP (sumLow a b) (listP (sumF a n b) (sumLow a b) (sumHigh a b - sumLow a b).toNat)
theorem pat_none {p : Pl} (h : p.cs.length = 0) (k : Int) : pat p k = 0 := by
  unfold pat
  rw [List.length_eq_zero_iff.1 h]
  split <;> rfl
theorem sum_pat (a : Pl) (n : Int) (b : Pl) (k : Int) : pat (sumP a n b) k = pat a k + n * pat b k := by
  unfold sumP
  by_cases hb : b.cs.length = 0
  · rw [if_pos hb, pat_none hb, Int.mul_zero, Int.add_zero]
  · rw [if_neg hb, tidy_pat]
    have hlow : sumLow a b ≤ b.low ∧ (a.cs.length = 0 ∨ sumLow a b ≤ a.low) := by
      unfold sumLow
      split
      · exact ⟨Int.le_refl _, .inl (by assumption)⟩
      · split
        · exact ⟨Int.le_refl _, .inr (by assumption)⟩
        · exact ⟨by omega, .inr (Int.le_refl _)⟩
    have hhigh : b.low + b.cs.length ≤ sumHigh a b ∧ (a.cs.length = 0 ∨ a.low + a.cs.length ≤ sumHigh a b) := by
      unfold sumHigh
      split
      · exact ⟨Int.le_refl _, .inl (by assumption)⟩
      · split
        · exact ⟨Int.le_refl _, .inr (by assumption)⟩
        · exact ⟨by omega, .inr (Int.le_refl _)⟩
    refine listP_pat (f := sumF a n b) (fun k hk => ?_) (fun k hk => ?_) k
    · unfold sumF
      rw [pat_low b (by omega), Int.mul_zero, Int.add_zero]
      rcases hlow.2 with h | h
      · exact pat_none h k
      · exact pat_low a (by omega)
    · unfold sumF
      rw [pat_high b (by omega), Int.mul_zero, Int.add_zero]
      rcases hhigh.2 with h | h
      · exact pat_none h k
      · exact pat_high a (by omega)
theorem sum_trim {a : Pl} (n : Int) (b : Pl) (ha : Trim a) : Trim (sumP a n b) := by
  unfold sumP
  split
  · exact ha
  · exact tidy_trim _ _

/-! ### Products -/
/-- The sum of the products whose places add up to i, the first one's place below m. -/
def convN (x y : List Int) (i : Nat) : Nat → Int
  | 0 => 0
  | m + 1 => convN x y i m + (if m ≤ i then x.getD m 0 * y.getD (i - m) 0 else 0)
def convL (x y : List Int) : List Int := (List.range (x.length + y.length - 1)).map fun i => convN x y i x.length
theorem convL_len (x y : List Int) : (convL x y).length = x.length + y.length - 1 := by simp [convL]
theorem convL_get (x y : List Int) (i : Nat) (h : i < x.length + y.length - 1) : (convL x y).getD i 0 = convN x y i x.length := by
  rw [List.getD_eq_getElem?_getD, List.getElem?_eq_getElem (by rw [convL_len]; exact h)]
  simp [convL]
/-- Only places from one on count. -/
theorem convN_from (x y : List Int) (i : Nat) : ∀ m, m + y.length ≤ i + 1 → convN x y i m = 0
  | 0, _ => rfl
  | m + 1, h => by
    rw [convN, convN_from x y i m (by omega)]
    by_cases h2 : m ≤ i
    · rw [if_pos h2, getD_far (l := y) (by omega), Int.mul_zero]; rfl
    · rw [if_neg h2]; rfl
theorem convN_stop (x y : List Int) (i : Nat) : ∀ m, convN x y i (i + 1 + m) = convN x y i (i + 1)
  | 0 => rfl
  | m + 1 => by rw [show i + 1 + (m + 1) = i + 1 + m + 1 by omega, convN, if_neg (by omega), convN_stop x y i m, Int.add_zero]
theorem convN_far (x y : List Int) (i : Nat) : ∀ m, convN x y i (x.length + m) = convN x y i x.length
  | 0 => rfl
  | m + 1 => by
    rw [show x.length + (m + 1) = x.length + m + 1 by omega, convN, convN_far x y i m, getD_far (l := x) (by omega), Int.zero_mul]
    split <;> exact Int.add_zero _
/-- The product, its coefficients of whatever size. -/
def prodP (a b : Pl) : Pl := if a.cs.length = 0 ∨ b.cs.length = 0 then ⟨0, []⟩ else tidyP (a.low + b.low) (convL a.cs b.cs)
theorem prod_trim (a b : Pl) : Trim (prodP a b) := by
  unfold prodP
  split
  · exact .inl ⟨rfl, rfl⟩
  · exact tidy_trim _ _

/-! ### Turned and plain ones -/
def turnP (a : Pl) : Pl := tidyP (1 - a.low - a.cs.length) a.cs.reverse
theorem turn_pat (a : Pl) (k : Int) : pat (turnP a) k = pat a (-k) := by
  unfold turnP
  rw [tidy_pat]
  by_cases h1 : -k < a.low
  · rw [pat_low a h1]
    exact pat_high _ (by show 1 - a.low - a.cs.length + ((a.cs.reverse.length : Nat) : Int) ≤ k; rw [List.length_reverse]; omega)
  · by_cases h2 : a.low + a.cs.length ≤ -k
    · rw [pat_high a h2]
      exact pat_low _ (by show k < 1 - a.low - a.cs.length; omega)
    · have e1 := pat_at a (-k - a.low).toNat
      have e2 := pat_at ⟨1 - a.low - a.cs.length, a.cs.reverse⟩ (k - (1 - a.low - a.cs.length)).toNat
      rw [show a.low + ((-k - a.low).toNat : Int) = -k by omega] at e1
      rw [show (1 - a.low - (a.cs.length : Int)) + ((k - (1 - a.low - (a.cs.length : Int))).toNat : Int) = k by omega] at e2
      rw [e1, e2]
      show a.cs.reverse.getD _ 0 = a.cs.getD _ 0
      rw [List.getD_eq_getElem?_getD, List.getD_eq_getElem?_getD, List.getElem?_reverse (by omega), show a.cs.length - 1 - (k - (1 - a.low - (a.cs.length : Int))).toNat = (-k - a.low).toNat by omega]
def plainP (a : Pl) : Pl := if a.cs.length = 0 then a else ⟨0, a.cs.map fun z => (if a.cs.getD 0 0 < 0 then -1 else 1) * z⟩
/-- The value at 1. -/
def oneP (l : List Int) : Nat → Int
  | 0 => 0
  | k + 1 => oneP l k + l.getD k 0

end Go.Proofs.Ytbbkpaledlbcmaa

/- Slices of ints that came in; polynomials in memory; a polynomial that came in, opened. -/

namespace Go.Proofs.Ytbbkpaledlbcmaa
open Go.RowKit Go.ChangeShapes Go.WideShapes

/-- The first n ints of a slice at a, anywhere. -/
structure Ints (w : World) (a : Option Addr) (n : Nat) (zs : List Int) : Prop where
  len : zs.length = n
  max : n ≤ maxLen
  at_ : 0 < n → ∃ x, a = some x ∧ x.block < w.heap.size ∧ ∀ j (h : j < zs.length), w.cell? (x.add j) = some (.int .i64 zs[j])
  wf : ∀ z ∈ zs, -9223372036854775808 ≤ z ∧ z ≤ 9223372036854775807
theorem Ints.below {w w' : World} {a : Option Addr} {n : Nat} {zs : List Int} (h : Ints w a n zs) (hb : Below w.heap.size w w') : Ints w' a n zs :=
  ⟨h.len, h.max, fun h0 => by
    obtain ⟨x, e, hg, hc⟩ := h.at_ h0
    exact ⟨x, e, Nat.lt_of_lt_of_le hg hb.size, fun j hj => (hb.cell (p := x.add j) (by rw [addr_add_block]; exact hg)).trans (hc j hj)⟩, h.wf⟩
theorem IntRow.read {base : Nat} {w : World} {v : Value} {zs : List Int} (h : IntRow base w v zs) (hw : ∀ z ∈ zs, -9223372036854775808 ≤ z ∧ z ≤ 9223372036854775807) : ∃ a cap, v = .slice a zs.length cap ∧ Ints w a zs.length zs := by
  obtain ⟨a, g, cap, rfl, h1, h2, h3⟩ := h.shape
  refine ⟨a, cap, rfl, rfl, h2, fun h0 => ⟨⟨g, 0, none⟩, (h1 h0).1, (h1 h0).2.2, fun j hj => ?_⟩, hw⟩
  have e : (⟨g, 0, none⟩ : Addr).add j = ⟨g, j, none⟩ := by unfold Addr.add; split <;> simp_all
  rw [e]
  exact (h3 j hj).1
theorem ints_of {H : Type} {enc : TypeId × Value → H} {W : World} {base : Nat} {spare : Nat → Bool} {held : Bool} {fuel : Nat} {a : Option Addr} {len cap : Nat} {x : DataW H × List MemPlace}
    (h : DataW.trod enc Try.prog W base spare held fuel 33 [.slice a len cap] = some x) : ∃ zs, Ints W a len zs := by
  rcases Go.ChangeShapes.open_ints Try.underlying33 Try.underlying3 (by kernel_rfl) h with ⟨hcs, _⟩ | ⟨y, l, c, zs, hcs, hb, hl, hm, hz, _, hx, hwf⟩
  · simp at hcs
    obtain ⟨rfl, rfl, rfl⟩ := hcs
    exact ⟨[], rfl, Nat.zero_le _, fun h => absurd h (Nat.lt_irrefl _), fun z h => by cases h⟩
  · simp at hcs
    obtain ⟨rfl, rfl, rfl⟩ := hcs
    have hlz : len ≤ zs.length := by rw [hz]; split <;> omega
    refine ⟨zs.take len, by rw [List.length_take]; omega, by omega, fun h0 => ⟨y, rfl, ?_, fun j hj => ?_⟩, fun z hzm => ?_⟩
    · have := World.block_lt_of_cell? _ _ (hx 0 (by omega))
      rwa [addr_add_block] at this
    · rw [List.length_take] at hj
      rw [hx j (by omega), List.getD_eq_getElem?_getD, List.getElem?_eq_getElem (by omega), List.getElem_take]; rfl
    · have h2 := hwf z (List.mem_of_mem_take hzm)
      simp only [Lit.wf, Bool.and_eq_true, decide_eq_true_eq] at h2
      exact ⟨h2.1, h2.2⟩
/-- The value of a polynomial. -/
abbrev plV (low : Int) (v : Value) : Value := .agg #[.int .i64 low, v]
theorem poly_of {H : Type} {enc : TypeId × Value → H} {W : World} {base : Nat} {spare : Nat → Bool} {held : Bool} {fuel : Nat} {cs : Array Value} {x : DataW H × List MemPlace}
    (h : DataW.trod enc Try.prog W base spare held fuel 171 cs.toList = some x) : ∃ (low : Int) (a : Option Addr) (len cap : Nat) (zs : List Int), cs = #[.int .i64 low, .slice a len cap] ∧ (-9223372036854775808 ≤ low ∧ low ≤ 9223372036854775807) ∧ Ints W a len zs := by
  obtain ⟨y0, y1, n, rfl, hl, h0, h1⟩ := trod_struct2 Try.underlying171 h
  have hc : cs.toList.length = 2 := hl.trans (by kernel_rfl)
  match hcs : cs.toList, hc with
  | [u, v], _ =>
    rw [hcs] at h0 h1
    obtain ⟨k, hk, _, hwf⟩ := DataW.trod_int Try.underlying3 h0
    have hu : u = .int .i64 k := by simpa [show Try.prog.cellsOf 3 = 1 by kernel_rfl] using hk
    have h1' : DataW.trod enc Try.prog W base spare held n 33 [v] = some y1 := by simpa [show Try.prog.cellsOf 33 = 1 by kernel_rfl] using h1
    obtain ⟨a, len, cap, hv⟩ : ∃ a len cap, v = .slice a len cap := by
      rcases Go.ChangeShapes.open_ints Try.underlying33 Try.underlying3 (by kernel_rfl) h1' with ⟨hcs, _⟩ | ⟨y, l, c, zs, hcs, _⟩
      · exact ⟨none, 0, 0, by simpa using hcs⟩
      · exact ⟨some y, l, c, by simpa using hcs⟩
    subst hv
    obtain ⟨zs, hz⟩ := ints_of h1'
    simp only [Lit.wf, Bool.and_eq_true, decide_eq_true_eq] at hwf
    exact ⟨k, a, len, cap, zs, by rw [← hu]; exact Array.toList_inj.1 hcs, ⟨hwf.1, hwf.2⟩, hz⟩

end Go.Proofs.Ytbbkpaledlbcmaa

/- The laws' own helpers for ints and polynomials: szIntS, szPoly, toIntS, toPoly, eqPoly, markPoly, heldPoly. -/

namespace Go.Proofs.Ytbbkpaledlbcmaa
open Go.RowKit

set_option maxHeartbeats 1000000 in
theorem szIntS_any (a : Option Addr) (cap n left : Nat) (w : World) (hm : n ≤ maxLen) (hl : left ≤ 1048576) :
    Calls Try.prog 198 #[.slice a n cap, .int .i64 left] w fun e w' => (∃ k : Int, e = .returned (.int .i64 k) ∧ (k < 0 ∨ (n ≤ left ∧ k = ((left - n : Nat) : Int)))) ∧ w' = w := by
  unfold maxLen at hm
  have hwr : IntKind.i64.wrap ((left : Int) - (n : Int)) = (left : Int) - (n : Int) := IntWalk.i64_in _ (by omega)
  by_cases h : n ≤ left
  · obtain ⟨q, hq⟩ : ∃ q : Nat, left - n = q := ⟨_, rfl⟩
    have hqi : (left : Int) - (n : Int) = (q : Int) := by omega
    rw [hqi] at hwr
    have hd : decide ((q : Int) < 0) = false := decide_eq_false (by omega)
    go_enter Try.func198, Try.ntmps198
    go_wp2
    go_ret
    exact ⟨⟨_, rfl, .inr ⟨h, by rw [hq]⟩⟩, rfl⟩
  · have hlt : (left : Int) - (n : Int) < 0 := by omega
    have hd : decide ((left : Int) - (n : Int) < 0) = true := decide_eq_true hlt
    go_enter Try.func198, Try.ntmps198
    go_wp2
    go_ret
    exact ⟨⟨_, rfl, .inl (by omega)⟩, rfl⟩

set_option maxHeartbeats 1000000 in
theorem szPoly_any (low : Int) (a : Option Addr) (cap n left : Nat) (w : World) (hm : n ≤ maxLen) (hl : left ≤ 1048576) :
    Calls Try.prog 173 #[plV low (.slice a n cap), .int .i64 left] w fun e w' => (∃ k : Int, e = .returned (.int .i64 k) ∧ (k < 0 ∨ (n ≤ left ∧ k = ((left - n : Nat) : Int)))) ∧ Below w.heap.size w w' := by
  go_enter Try.func173, Try.ntmps173
  go_wp2_with fail
  refine (szIntS_any a cap n left _ hm hl).mono ?_
  rintro e w1 ⟨⟨k, rfl, hk⟩, rfl⟩
  by_cases h0 : k < 0
  · have hd : decide (k < 0) = true := decide_eq_true h0
    clear hk
    go_wp2
    go_ret
    exact ⟨⟨_, rfl, .inl (by omega)⟩, (Below.refl _ w).alloc (Nat.le_refl _) _⟩
  · have hd : decide (k < 0) = false := decide_eq_false h0
    have HK := Lib.hid hk
    clear hk
    go_wp2
    go_ret
    exact ⟨⟨_, rfl, HK.out⟩, (Below.refl _ w).alloc (Nat.le_refl _) _⟩

theorem fillI_set (zs : List Int) (n k : Nat) (hl : zs.length = n) (hk : k < n) :
    (intsV (zs.take k ++ List.replicate (n - k) 0)).set k (.int .i64 (zs[k]'(by omega))) = intsV (zs.take (k + 1) ++ List.replicate (n - (k + 1)) 0) := by
  unfold intsV
  rw [List.map_append, List.set_append_right _ _ (by simp; omega), List.length_map, List.length_take, Nat.min_eq_left (by omega), Nat.sub_self, List.take_succ_eq_append_getElem (by omega : k < zs.length), show n - k = (n - (k + 1)) + 1 by omega, List.replicate_succ, List.map_cons, List.set_cons_zero, List.map_append, List.map_append, List.append_assoc]
  rfl

set_option maxRecDepth 100000 in
set_option maxHeartbeats 1000000 in
theorem toIntS_any (a : Option Addr) (cap n : Nat) (zs : List Int) (w : World) (hm : n ≤ 1048576) (hs : Ints w a n zs) :
    Calls Try.prog 199 #[.slice a n cap] w fun e w' =>
      e = .returned (.slice (some ⟨w.heap.size, 0, none⟩) n n) ∧ IntRow w.heap.size w' (.slice (some ⟨w.heap.size, 0, none⟩) n n) zs ∧ Below w.heap.size w w' := by
  obtain ⟨i0, hi, hz0, hz1, hz2⟩ := info_parts infoInt
  have HN := Lib.hid hs.len
  have HS := Lib.hid hs
  unfold IntRow
  rw [hs.len]
  clear hs
  go_enter Try.func199, Try.ntmps199
  go_wp2_with (at_make; refine wpList_make_full _ rfl _ _ 33 rfl w.heap.size 3 i0 (.int .i64 0) 1 Try.underlying33 hi hz0 hz1 .i64 .i64 _ _ n rfl rfl rfl rfl (by rw [hz2]; omega) (by unfold maxLen; omega) (Nat.le_refl _) ?_; intro w1 hrow hgrow)
  rw [show (madeCells (Value.cells (.int .i64 0)) (n * 1)).toList = intsV (zs.take 0 ++ List.replicate (n - 0) 0) by
    rw [show Value.cells (.int .i64 0) = #[.int .i64 0] from rfl, toList_madeCells_one]; simp [intsV]] at hrow
  have hB1 : Below w.heap.size w w1 := (Below.refl _ _).grown hgrow (Nat.le_refl _) (fun k e => by cases e)
  go_loopw [4] (fun i wr => ∃ k : Nat, k ≤ n ∧ i = .int .i64 k ∧ wr.ownsRow w.heap.size 3 1 (.slice (some ⟨w.heap.size, 0, none⟩) n n) n (intsV (zs.take k ++ List.replicate (n - k) 0)) ∧ Below w.heap.size w wr)
    (fun i _ => n - (intOf i).toNat)
  case atStart => exact ⟨0, Nat.zero_le _, rfl, hrow, hB1⟩
  case round =>
    obtain ⟨k, hk, rfl, hr, hB⟩ := hrel
    by_cases hlt : k < n
    · have hkz : k < zs.length := by rw [HN.out]; exact hlt
      obtain ⟨x, rfl, hb, hc⟩ := HS.out.at_ (by omega)
      obtain ⟨s, hs⟩ : ∃ s, zs[k] = s := ⟨_, rfl⟩
      have hsrc : wr.cell? (x.add k) = some (.int .i64 s) := by rw [← hs]; exact (hB.cell (p := x.add k) (by rw [addr_add_block]; exact hb)).trans (hc k hkz)
      have hfil := fillI_set zs n k HN.out hlt
      rw [hs] at hfil
      have hdst : wr.cell? ⟨w.heap.size, k, none⟩ = some (.int .i64 0) := by
        rw [hr.cellAt k (by omega)]
        simp only [intsV, List.getElem?_map]
        rw [List.getElem?_append_right (by simp; omega), List.getElem?_replicate]
        simp
        omega
      have hfr := hr.frozenAt k
      have HR := Lib.hid hr
      have HF := Lib.hid hfil
      have HE := Lib.hid hs
      clear hr hfil hs hc
      go_wp2
      go_roundw
      case rel =>
        have hst := HR.out.stored k (.int .i64 s)
        refine ⟨k + 1, by omega, by go_num, ?_, hB.setCell (p := ⟨w.heap.size, k, none⟩) (Nat.le_refl _) _⟩
        rw [← HF.out]
        exact hst.1
      case measure => simp [intOf]; omega
    · obtain rfl : k = n := by omega
      rw [Nat.sub_self, List.replicate_zero, List.append_nil, List.take_of_length_le (by rw [HN.out]; exact Nat.le_refl _)] at hr
      have HR := Lib.hid hr
      clear hr hrow
      go_wp2
      go_ret
      exact ⟨rfl, HR.out, hB⟩

set_option maxRecDepth 100000 in
set_option maxHeartbeats 2000000 in
theorem toPoly_any (low : Int) (a : Option Addr) (cap n : Nat) (zs : List Int) (w : World) (hm : n ≤ 1048576) (hs : Ints w a n zs) :
    Calls Try.prog 174 #[plV low (.slice a n cap)] w fun e w' => (∃ g, e = .returned (plV low (.slice (some ⟨g, 0, none⟩) n n)) ∧ w.heap.size ≤ g ∧ IntRow w.heap.size w' (.slice (some ⟨g, 0, none⟩) n n) zs) ∧ Below w.heap.size w w' := by
  obtain ⟨W, hW⟩ : ∃ W, ((w.alloc (.cells #[.int .i64 low, .slice a n cap] 171)).alloc (.cells #[.int .i64 0, .slice none 0 0] 35)).alloc (.cells #[.int .i64 low, .slice none 0 0] 35) = W := ⟨_, rfl⟩
  have hsz : W.heap.size = w.heap.size + 3 := by rw [← hW]; simp
  have hbW : Below w.heap.size w W := by rw [← hW]; exact (((Below.refl _ w).alloc (Nat.le_refl _) _).alloc (by simp) _).alloc (by simp; omega) _
  have hk2 : W.heap[w.heap.size + 1 + 1]? = some (.cells #[.int .i64 low, .slice none 0 0] 35 (0, 0)) := by
    have h := World.alloc_heap_new ((w.alloc (.cells #[.int .i64 low, .slice a n cap] 171)).alloc (.cells #[.int .i64 0, .slice none 0 0] 35)) (.cells #[.int .i64 low, .slice none 0 0] 35)
    rw [hW, World.size_alloc, World.size_alloc] at h
    exact h
  have hk1 : W.heap[w.heap.size + 1]? = some (.cells #[.int .i64 0, .slice none 0 0] 35 (0, 0)) := by
    have h := World.alloc_heap_new (w.alloc (.cells #[.int .i64 low, .slice a n cap] 171)) (.cells #[.int .i64 0, .slice none 0 0] 35)
    have g := World.grownBy_alloc ((w.alloc (.cells #[.int .i64 low, .slice a n cap] 171)).alloc (.cells #[.int .i64 0, .slice none 0 0] 35)) (.cells #[.int .i64 low, .slice none 0 0] 35) none
    rw [hW] at g
    rw [World.size_alloc] at h
    exact (g.block (w.heap.size + 1) (by simp) (by simp)).trans h
  have HT := Lib.hid (toIntS_any a cap n zs W hm (hs.below hbW))
  have HBW := Lib.hid hbW
  have HK1 := Lib.hid hk1
  have HK2 := Lib.hid hk2
  have HW := Lib.hid hW
  clear hs hbW hk1 hk2 hW
  go_enter Try.func174, Try.ntmps174
  go_wp2_with fail
  rw [HW.out]
  refine HT.out.mono ?_
  rintro e w1 ⟨rfl, hr1, hb1⟩
  have h1 := (hb1.block (w.heap.size + 1) (by omega)).trans HK1.out
  have h2 := (hb1.block (w.heap.size + 1 + 1) (by omega)).trans HK2.out
  have d0 : w1.cell? ⟨w.heap.size + 1 + 1, 0, none⟩ = some (.int .i64 low) := by simp [World.cell?, h2]
  have d1 : w1.cell? ⟨w.heap.size + 1 + 1, 1, none⟩ = some (.slice none 0 0) := by simp [World.cell?, h2]
  have f0 : w1.frozen? ⟨w.heap.size + 1 + 1, 0, none⟩ = false := by simp [World.frozen?, h2]
  have f1 : w1.frozen? ⟨w.heap.size + 1 + 1, 1, none⟩ = false := by simp [World.frozen?, h2]
  have e0 : w1.cell? ⟨w.heap.size + 1, 0, none⟩ = some (.int .i64 0) := by simp [World.cell?, h1]
  have e1 : w1.cell? ⟨w.heap.size + 1, 1, none⟩ = some (.slice none 0 0) := by simp [World.cell?, h1]
  have g0 : w1.frozen? ⟨w.heap.size + 1, 0, none⟩ = false := by simp [World.frozen?, h1]
  have g1 : w1.frozen? ⟨w.heap.size + 1, 1, none⟩ = false := by simp [World.frozen?, h1]
  have HR := Lib.hid hr1
  have HB1 := Lib.hid (HBW.out.trans (hb1.mono HBW.out.size))
  clear hr1 hb1 h1 h2
  go_wp2
  have q1 : w.heap.size + 1 < W.heap.size := by omega
  have q2 : w.heap.size + 1 + 1 < W.heap.size := by omega
  have r1 : w.heap.size ≤ w.heap.size + 1 := by omega
  have r2 : w.heap.size ≤ w.heap.size + 1 + 1 := by omega
  have hR3 := ownsRow_setCell_below (ownsRow_setCell_below (ownsRow_setCell_below HR.out (a := ⟨w.heap.size + 1 + 1, 1, none⟩) q2 (.slice (some ⟨w.heap.size + 3, 0, none⟩) n n)) (a := ⟨w.heap.size + 1, 0, none⟩) q1 (.int .i64 low)) (a := ⟨w.heap.size + 1, 1, none⟩) q1 (.slice (some ⟨w.heap.size + 3, 0, none⟩) n n)
  have hB3 := ((HB1.out.setCell (p := ⟨w.heap.size + 1 + 1, 1, none⟩) r2 (.slice (some ⟨w.heap.size + 3, 0, none⟩) n n)).setCell (p := ⟨w.heap.size + 1, 0, none⟩) r1 (.int .i64 low)).setCell (p := ⟨w.heap.size + 1, 1, none⟩) r1 (.slice (some ⟨w.heap.size + 3, 0, none⟩) n n)
  rw [hsz] at hR3
  refine bodyPost_ret (v := plV low (.slice (some ⟨w.heap.size + 3, 0, none⟩) n n)) ?_ rfl ⟨⟨w.heap.size + 3, rfl, by omega, IntRow.mono hR3 (by omega)⟩, hB3⟩
  simp [results, Try.results174, go_sem, e0, e1, plV]

set_option maxHeartbeats 2000000 in
theorem eqPoly_yes (b1 b2 : Nat) (low : Int) (v1 v2 : Value) (zs : List Int) (w : World) (h1 : IntRow b1 w v1 zs) (h2 : IntRow b2 w v2 zs) :
    Calls Try.prog 62 #[plV low v1, plV low v2] w fun e w' => e = .returned (.bool true) ∧ Below w.heap.size w w' := by
  have hb : Below w.heap.size w ((w.alloc (.cells #[.int .i64 low, v1] 35)).alloc (.cells #[.int .i64 low, v2] 35)) := ((Below.refl _ w).alloc (Nat.le_refl _) _).alloc (by simp) _
  have H1 := Lib.hid (h1.below hb)
  have H2 := Lib.hid (h2.below hb)
  have HB := Lib.hid hb
  clear h1 h2 hb
  go_enter Try.func62, Try.ntmps62
  go_wp2_with fail
  refine (eqIntS_yes b1 b2 v1 v2 zs _ H1.out H2.out).mono ?_
  rintro e w1 ⟨rfl, hb1⟩
  have HB1 := Lib.hid (HB.out.trans (hb1.mono HB.out.size))
  clear hb1
  go_wp2
  go_ret
  exact ⟨rfl, HB1.out⟩

end Go.Proofs.Ytbbkpaledlbcmaa

/- The laws' own marks in polynomials: markPoly, heldPoly. -/

namespace Go.Proofs.Ytbbkpaledlbcmaa
open Go.RowKit

set_option maxRecDepth 100000 in
set_option maxHeartbeats 2000000 in
theorem markPoly_any (base : Nat) (low : Int) (v : Value) (zs : List Int) (k : Nat) (w : World) (h : IntRow base w v zs) (hb : base ≤ w.heap.size) (hk : k ≤ 1000000000000) (hn2 : zs.length ≤ 1000000000000) :
    Calls Try.prog 63 #[plV low v, .int .i64 k] w fun e w' => e = .returned (.int .i64 ((k + zs.length : Nat) : Int)) ∧ IntRow base w' v (marks k zs.length) ∧ Below base w w' := by
  have hbW : Below w.heap.size w (w.alloc (.cells #[.int .i64 low, v] 35)) := (Below.refl _ w).alloc (Nat.le_refl _) _
  have HM := Lib.hid (markIntS_any base v zs k _ (h.below hbW) hk hn2)
  have HO : Hid (∀ j, v.ownBlock = some j → base ≤ j) := Lib.hid fun j e => by
    rcases h.2 with ⟨rfl, _⟩ | ⟨g, cap, cur, rfl, hg, _⟩
    · cases e
    · simp [Value.ownBlock] at e
      omega
  have HB := Lib.hid (hbW.mono hb)
  clear h hbW
  go_enter Try.func63, Try.ntmps63
  go_wp2_with fail
  refine HM.out.mono ?_
  rintro e w1 ⟨rfl, hr, hg⟩
  have HR := Lib.hid hr
  have HG := Lib.hid (HB.out.grown hg (by simp; omega) HO.out)
  clear hr hg
  go_wp2
  go_ret
  exact ⟨rfl, HR.out, HG.out⟩

set_option maxRecDepth 100000 in
set_option maxHeartbeats 2000000 in
theorem heldPoly_any (base : Nat) (low : Int) (v : Value) (n k : Nat) (w : World) (h : IntRow base w v (marks k n)) (hk : k ≤ 1000000000000) (hn2 : n ≤ 1000000000000) :
    Calls Try.prog 64 #[plV low v, .int .i64 k] w fun e w' => e = .returned (.int .i64 ((k + n : Nat) : Int)) ∧ Below w.heap.size w w' := by
  have hbW : Below w.heap.size w (w.alloc (.cells #[.int .i64 low, v] 35)) := (Below.refl _ w).alloc (Nat.le_refl _) _
  have HM := Lib.hid (heldIntS_any base v n k _ (h.below hbW) hk hn2)
  have HB := Lib.hid hbW
  have hlt : decide (((k + n : Nat) : Int) < 0) = false := decide_eq_false (by omega)
  obtain ⟨q, hq⟩ : ∃ q, k + n = q := ⟨_, rfl⟩
  rw [hq] at hlt HM ⊢
  clear h hbW
  go_enter Try.func64, Try.ntmps64
  go_wp2_with fail
  refine HM.out.mono ?_
  rintro e w1 ⟨rfl, rfl⟩
  go_wp2
  go_ret
  exact ⟨rfl, HB.out⟩

end Go.Proofs.Ytbbkpaledlbcmaa

/- The contracts of the model's 'l5Text', 'l5Lyndon' and 'LyndonIn'. -/

namespace Go.Proofs.Ytbbkpaledlbcmaa
open Go.RowKit

/-- At most twelve generators. -/
def text12 (s : ByteArray) : Bool := s.data.toList.all genB && decide (s.size ≤ 12)
/-- Less than each of its ends. -/
def lynL (l : List UInt8) : Bool := decide (0 < l.length) && (List.range (l.length - 1)).all fun i => Op.bytesLess l (l.drop (i + 1))
def lynB (s : ByteArray) : Bool := text12 s && lynL s.data.toList
theorem text12_false (s : ByteArray) (k : Nat) (hk : k < s.data.toList.length) (h : genB s.data.toList[k] = false) : text12 s = false := by
  unfold text12; rw [List.all_eq_false.2 ⟨_, List.getElem_mem hk, by rw [h]; exact Bool.false_ne_true⟩]; rfl

theorem extract_drop (s : ByteArray) (i : Nat) : (s.extract i s.size).toList = s.data.toList.drop i := by
  rw [ByteArray.toList_eq, Lib.extract_data]
  apply List.take_of_length_le
  rw [List.length_drop]
  have : s.data.toList.length = s.size := by simp
  omega

/-- How the end from i on compares. -/
theorem end_cmp {s : ByteArray} {i : Nat} (hi : 0 < i) (hs : 0 < s.size) {r : Bool} (h : Op.bytesLess s.data.toList (s.data.toList.drop i) = r) :
    Op.bytesLess (s.extract i s.size).toList s.toList = !r ∧ ((s.extract i s.size).toList == s.toList) = false := by
  rw [extract_drop, ByteArray.toList_eq]
  have hne : s.data.toList.drop i ≠ s.data.toList := fun e => by
    have h1 := congrArg List.length e
    have h2 : s.data.toList.length = s.size := by simp
    rw [List.length_drop] at h1
    omega
  refine ⟨?_, by simpa using hne⟩
  cases r with
  | true =>
    cases h2 : Op.bytesLess (s.data.toList.drop i) s.data.toList with
    | false => rfl
    | true => have := bl_trans _ _ _ h h2; rw [bl_irrefl] at this; cases this
  | false =>
    cases h2 : Op.bytesLess (s.data.toList.drop i) s.data.toList with
    | true => rfl
    | false => exact absurd (bl_tri _ _ h2 h) hne

end Go.Proofs.Ytbbkpaledlbcmaa

/- The contract of the model's 'LyndonCount'. -/

namespace Go.Proofs.Ytbbkpaledlbcmaa
open Go.RowKit

/-- The function mu, with fuel: d is left, p is tried. -/
def muR : Nat → Nat → Nat → Int → Int
  | 0, _, _, o => o
  | f + 1, d, p, o => if d < p then o else if d % p = 0 then (if d / p % p = 0 then 0 else muR f (d / p) (p + 1) (0 - o)) else muR f d (p + 1) o
def muI (d : Nat) : Int := muR 13 d 2 1

/-- One factor's share, summed up to m; and what LyndonCount answers. -/
def sumMuC (k n : Nat) : Nat → Int
  | 0 => 0
  | m + 1 => if n % (m + 1) = 0 then sumMuC k n m + muI (m + 1) * ((k ^ (n / (m + 1)) : Nat) : Int) else sumMuC k n m
def countI (k n : Nat) : Int := (sumMuC k n n).tdiv n

theorem muR_le : ∀ (f d p : Nat) (o : Int), -1 ≤ o → o ≤ 1 → -1 ≤ muR f d p o ∧ muR f d p o ≤ 1
  | 0, _, _, o, h1, h2 => ⟨h1, h2⟩
  | f + 1, d, p, o, h1, h2 => by
    rw [muR]
    split
    · exact ⟨h1, h2⟩
    · split
      · split
        · exact ⟨by omega, by omega⟩
        · exact muR_le f _ _ _ (by omega) (by omega)
      · exact muR_le f _ _ _ h1 h2
theorem muI_le (d : Nat) : -1 ≤ muI d ∧ muI d ≤ 1 := muR_le _ _ _ _ (by omega) (by omega)
theorem pow_le (k e : Nat) (hk : k ≤ 4) (he : e ≤ 12) : k ^ e ≤ 16777216 :=
  Nat.le_trans (Nat.pow_le_pow_left hk e) (Nat.le_trans (Nat.pow_le_pow_right (by omega) he) (by decide))
theorem share_le (m x : Int) (h1 : -1 ≤ m) (h2 : m ≤ 1) (h3 : 0 ≤ x) (h4 : x ≤ 16777216) : -16777216 ≤ m * x ∧ m * x ≤ 16777216 := by
  rcases (by omega : m = -1 ∨ m = 0 ∨ m = 1) with rfl | rfl | rfl <;> omega
theorem sumC_le (k n : Nat) (hk : k ≤ 4) (hn : n ≤ 12) : ∀ m : Nat, -16777216 * (m : Int) ≤ sumMuC k n m ∧ sumMuC k n m ≤ 16777216 * (m : Int)
  | 0 => ⟨by simp [sumMuC], by simp [sumMuC]⟩
  | m + 1 => by
    have ih := sumC_le k n hk hn m
    rw [sumMuC]
    split
    · have h1 := muI_le (m + 1)
      have h2 := pow_le k (n / (m + 1)) hk (Nat.le_trans (Nat.div_le_self _ _) hn)
      have h3 := share_le _ ((k ^ (n / (m + 1)) : Nat) : Int) h1.1 h1.2 (by omega) (by omega)
      push_cast at h3 ⊢
      exact ⟨by omega, by omega⟩
    · exact ⟨by push_cast; omega, by push_cast; omega⟩
theorem l6In_eq (c a b : Int) (r : Bool) (w : World) (h : inR a b c = r) :
    Calls Try.prog 91 #[.int .i64 c, .int .i64 a, .int .i64 b] w fun e w' => e = .returned (.bool r) ∧ w = w' :=
  (l6In_any c a b w).mono fun _ _ ⟨h1, h2⟩ => ⟨by rw [h1, h], h2⟩

theorem countI_nat {k n : Int} (hb : (inR 1 4 k && inR 1 12 n) = true) : ∃ a b : Nat, k = a ∧ n = b ∧ 1 ≤ a ∧ a ≤ 4 ∧ 1 ≤ b ∧ b ≤ 12 := by
  unfold inR at hb
  simp only [Bool.and_eq_true, decide_eq_true_eq] at hb
  exact ⟨k.toNat, n.toNat, by omega, by omega, by omega, by omega, by omega, by omega⟩
end Go.Proofs.Ytbbkpaledlbcmaa

/- The contract of the model's 'PolyIn'. -/

namespace Go.Proofs.Ytbbkpaledlbcmaa
open Go.RowKit

theorem coef_take {zs : List Int} {k : Nat} (hk : k < zs.length) (h : (zs.take k).all coefIn = true) (hf : coefIn zs[k] = true) : (zs.take (k + 1)).all coefIn = true := by
  rw [List.take_succ_eq_append_getElem hk, List.all_append, h]
  simp [hf]
theorem polyB_bad {p : Pl} {k : Nat} (hk : k < p.cs.length) (h : coefIn p.cs[k] = false) : polyB p = false := by
  unfold polyB
  rw [List.all_eq_false.2 ⟨_, List.getElem_mem hk, by rw [h]; exact Bool.false_ne_true⟩]; rfl

set_option maxRecDepth 100000 in
set_option maxHeartbeats 4000000 in
theorem sPolyIn_any (low : Int) (zs : List Int) (a : Option Addr) (cap n : Nat) (b : Bool) (w : World) (hs : Ints w a n zs) (hb : polyB ⟨low, zs⟩ = b) :
    Calls Try.prog 92 #[plV low (.slice a n cap)] w fun e w' => e = .returned (.bool b) ∧ Below w.heap.size w w' := by
  have hm := hs.max
  unfold maxLen at hm
  have HN := Lib.hid hs.len
  have HB := Lib.hid hb
  obtain ⟨W, hW⟩ : ∃ W, w.alloc (.cells #[.int .i64 low, .slice a n cap] 35) = W := ⟨_, rfl⟩
  have hbW : Below w.heap.size w W := by rw [← hW]; exact (Below.refl _ w).alloc (Nat.le_refl _) _
  have hsz : w.heap.size < W.heap.size := by rw [← hW]; simp
  have hc0 : W.cell? ⟨w.heap.size, 0, none⟩ = some (.int .i64 low) := by rw [← hW]; exact (World.cell?_alloc_at _ _ _ _ (by simp)).trans rfl
  have hc1 : W.cell? ⟨w.heap.size, 1, none⟩ = some (.slice a n cap) := by rw [← hW]; exact (World.cell?_alloc_at _ _ _ _ (by simp)).trans rfl
  have HS := Lib.hid (hs.below hbW)
  have HBW := Lib.hid hbW
  have HC : Hid (∀ w1, Below W.heap.size W w1 → w1.cell? ⟨w.heap.size, 0, none⟩ = some (.int .i64 low) ∧ w1.cell? ⟨w.heap.size, 1, none⟩ = some (.slice a n cap)) := Lib.hid fun w1 h => ⟨(h.cell (p := ⟨w.heap.size, 0, none⟩) hsz).trans hc0, (h.cell (p := ⟨w.heap.size, 1, none⟩) hsz).trans hc1⟩
  have HW := Lib.hid hW
  clear hs hb hbW hW
  go_enter Try.func92, Try.ntmps92
  go_wp2
  rw [HW.out]
  clear HW hc0 hc1
  go_loopw [4] (fun i wr => ∃ k : Nat, k ≤ n ∧ i = .int .i64 (k : Int) ∧ Hid ((zs.take k).all coefIn = true) ∧ Below W.heap.size W wr) (fun i _ => n - (intOf i).toNat)
  case atStart => exact ⟨0, Nat.zero_le _, rfl, Lib.hid rfl, Below.refl _ _⟩
  case round =>
    obtain ⟨k, hk, rfl, HK, hB⟩ := hrel
    obtain ⟨c0, c1⟩ := HC.out _ hB
    have HBw := Lib.hid (HBW.out.trans (hB.mono HBW.out.size))
    by_cases hlt : k < n
    · have hkz : k < zs.length := by rw [HN.out]; exact hlt
      obtain ⟨x, rfl, hxb, hxc⟩ := HS.out.at_ (by omega)
      obtain ⟨z, hz⟩ : ∃ z, zs[k] = z := ⟨_, rfl⟩
      have hcz : wr.cell? (x.add k) = some (.int .i64 z) := by rw [← hz]; exact (hB.cell (p := x.add k) (by rw [addr_add_block]; exact hxb)).trans (hxc k hkz)
      cases hq : coefIn z with
      | true =>
        have HT := Lib.hid (coef_take hkz HK.out (by rw [hz]; exact hq))
        have HQ : Hid (inR (-1000000000) 1000000000 z = true) := Lib.hid hq
        clear hq hz hxc
        go_wp2_with fail
        refine (l6In_eq _ _ _ true _ HQ.out).mono ?_
        rintro e w1 ⟨rfl, rfl⟩
        go_wp2
        go_roundw
        case rel => exact ⟨k + 1, by omega, by go_num, HT, hB⟩
        case measure => simp [intOf]; omega
      | false =>
        have hbf : b = false := by rw [← HB.out]; exact polyB_bad (p := ⟨low, zs⟩) hkz (by show coefIn zs[k] = false; rw [hz]; exact hq)
        subst hbf
        have HQ : Hid (inR (-1000000000) 1000000000 z = false) := Lib.hid hq
        clear hq hz hxc
        go_wp2_with fail
        refine (l6In_eq _ _ _ false _ HQ.out).mono ?_
        rintro e w1 ⟨rfl, rfl⟩
        go_wp2
        go_ret
        exact ⟨rfl, HBw.out⟩
    · obtain rfl : k = n := by omega
      have hall : zs.all coefIn = true := by have := HK.out; rwa [List.take_of_length_le (by rw [HN.out]; exact Nat.le_refl _)] at this
      have hP : polyB ⟨low, zs⟩ = (if k = 0 then decide (low = 0) else decide (k ≤ 200) && (inR (-300) 300 low && (!(decide (zs.getD 0 0 = 0)) && !(decide (zs.getD (k - 1) 0 = 0))))) := by
        unfold polyB
        show (zs.all coefIn && _) = _
        rw [hall, Bool.true_and]
        show (if zs.length = 0 then _ else decide (zs.length ≤ 200) && (_ && (_ && !(decide (zs.getD (zs.length - 1) 0 = 0))))) = _
        rw [HN.out]
      rw [HB.out] at hP
      by_cases h0 : k = 0
      · subst h0
        rw [if_pos rfl] at hP
        have HP := Lib.hid hP
        clear hP hall
        by_cases hl0 : low = 0
        · subst hl0
          go_wp2
          go_ret
          exact ⟨ret_bool (by rw [HP.out]; rfl), HBw.out⟩
        · have hlb : (low == 0) = false := by simpa using hl0
          go_wp2
          go_ret
          exact ⟨ret_bool (by rw [HP.out, decide_eq_false hl0]), HBw.out⟩
      · rw [if_neg h0] at hP
        have hn0 : ¬ (k : Int) = 0 := by omega
        have hnb : ((k : Int) == 0) = false := by simpa using h0
        have h0z : 0 < zs.length := by rw [HN.out]; omega
        have hlz : k - 1 < zs.length := by rw [HN.out]; omega
        obtain ⟨x, rfl, hxb, hxc⟩ := HS.out.at_ (by omega)
        obtain ⟨z0, hz0⟩ : ∃ z, zs[0] = z := ⟨_, rfl⟩
        obtain ⟨z1, hz1⟩ : ∃ z, zs[k - 1] = z := ⟨_, rfl⟩
        have d0 : wr.cell? x = some (.int .i64 z0) := by
          rw [← hz0]
          have := (hB.cell (p := x.add 0) (by rw [addr_add_block]; exact hxb)).trans (hxc 0 h0z)
          rwa [show x.add 0 = x by unfold Addr.add; simp] at this
        obtain ⟨m, hm1⟩ : ∃ m, k - 1 = m := ⟨_, rfl⟩
        have d1 : wr.cell? (x.add m) = some (.int .i64 z1) := by
          subst hm1
          rw [← hz1]
          exact (hB.cell (p := x.add (k - 1)) (by rw [addr_add_block]; exact hxb)).trans (hxc (k - 1) hlz)
        have hwr : IntKind.i64.wrap ((k : Int) - 1) = (m : Int) := by rw [IntWalk.i64_in _ (by omega)]; omega
        have hmk : m < k := by omega
        have hkp : 0 < k := by omega
        have hg0 : zs.getD 0 0 = z0 := by rw [List.getD_eq_getElem?_getD, List.getElem?_eq_getElem h0z, hz0]; rfl
        have hg1 : zs.getD (k - 1) 0 = z1 := by rw [List.getD_eq_getElem?_getD, List.getElem?_eq_getElem hlz, hz1]; rfl
        rw [hg0, hg1] at hP
        have HP := Lib.hid hP
        clear hP hall hz0 hz1 hxc hg0 hg1 hm1
        by_cases h200 : k ≤ 200
        · have h2i : (k : Int) ≤ 200 := by omega
          cases hl : inR (-300) 300 low with
          | false =>
            have HL := Lib.hid hl
            clear hl
            go_wp2_with fail
            refine (l6In_eq _ _ _ false _ HL.out).mono ?_
            rintro e w1 ⟨rfl, rfl⟩
            go_wp2
            go_ret
            exact ⟨ret_bool (by rw [HP.out, HL.out, decide_eq_true h200]; rfl), HBw.out⟩
          | true =>
            have HL := Lib.hid hl
            clear hl
            obtain ⟨t0, ht0⟩ : ∃ t, (!(decide (z0 = 0))) = t := ⟨_, rfl⟩
            obtain ⟨t1, ht1⟩ : ∃ t, (!(decide (z1 = 0))) = t := ⟨_, rfl⟩
            have hn1 : (z0 != 0) = t0 := by rw [← ht0]; by_cases h : z0 = 0 <;> simp [h]
            have hn2 : (z1 != 0) = t1 := by rw [← ht1]; by_cases h : z1 = 0 <;> simp [h]
            have HTT : Hid (b = (t0 && t1)) := Lib.hid (by rw [HP.out, HL.out, decide_eq_true h200, ht0, ht1]; rfl)
            clear ht0 ht1
            cases t0 with
            | false =>
              have hz : z0 = 0 := by simpa using hn1
              subst hz
              go_wp2_with fail
              refine (l6In_eq _ _ _ true _ HL.out).mono ?_
              rintro e w1 ⟨rfl, rfl⟩
              go_wp2
              go_ret
              exact ⟨ret_bool HTT.out.symm, HBw.out⟩
            | true =>
              have hz : ¬ z0 = 0 := by simpa using hn1
              cases t1 with
              | false =>
                have hz2 : z1 = 0 := by simpa using hn2
                subst hz2
                go_wp2_with fail
                refine (l6In_eq _ _ _ true _ HL.out).mono ?_
                rintro e w1 ⟨rfl, rfl⟩
                go_wp2
                go_ret
                exact ⟨ret_bool HTT.out.symm, HBw.out⟩
              | true =>
                have hz2 : ¬ z1 = 0 := by simpa using hn2
                go_wp2_with fail
                refine (l6In_eq _ _ _ true _ HL.out).mono ?_
                rintro e w1 ⟨rfl, rfl⟩
                go_wp2
                go_ret
                exact ⟨ret_bool HTT.out.symm, HBw.out⟩
        · have h2i : ¬ (k : Int) ≤ 200 := by omega
          go_wp2
          go_ret
          exact ⟨ret_bool (by rw [HP.out, decide_eq_false h200]; rfl), HBw.out⟩

end Go.Proofs.Ytbbkpaledlbcmaa

/- The model's l6pTidy. -/

namespace Go.Proofs.Ytbbkpaledlbcmaa
open Go.RowKit

theorem ztail_unique {x y : List Int} (hx : x = [] ∨ x.getD (x.length - 1) 0 ≠ 0) (hy : y = [] ∨ y.getD (y.length - 1) 0 ≠ 0) (h : ∀ i, x.getD i 0 = y.getD i 0) : x = y := by
  have key : ∀ {x y : List Int}, (y = [] ∨ y.getD (y.length - 1) 0 ≠ 0) → (∀ i, x.getD i 0 = y.getD i 0) → y.length ≤ x.length := fun {x y} hy h => by
    rcases hy with rfl | hy
    · exact Nat.zero_le _
    · by_cases hl : y.length ≤ x.length
      · exact hl
      · exact absurd (by rw [← h]; exact getD_far (by omega)) hy
  have hl : x.length = y.length := Nat.le_antisymm (key hx fun i => (h i).symm) (key hy h)
  refine List.ext_getElem hl fun i h1 h2 => ?_
  have e := h i
  simpa [List.getD_eq_getElem?_getD, List.getElem?_eq_getElem h1, List.getElem?_eq_getElem h2] using e
/-- Where the zeros end on both sides. -/
theorem tidy_cut (low : Int) {l : List Int} {f t : Nat} (hf : zfrom l = f) (hft : f < t) (ht : t ≤ l.length) (hz : ∀ i, t ≤ i → l.getD i 0 = 0) (hn : l.getD (t - 1) 0 ≠ 0) : tidyP low l = ⟨low + f, (l.drop f).take (t - f)⟩ := by
  have hg : ∀ i, ((l.drop f).take (t - f)).getD i 0 = l.getD (f + i) 0 := fun i => by
    by_cases hi : i < t - f
    · rw [List.getD_eq_getElem?_getD, List.getElem?_take, if_pos hi, List.getElem?_drop, ← List.getD_eq_getElem?_getD]
    · rw [getD_far (by rw [List.length_take]; omega), hz _ (by omega)]
  have hl : ((l.drop f).take (t - f)).length = t - f := by rw [List.length_take, List.length_drop]; omega
  have e : ztrim (l.drop (zfrom l)) = (l.drop f).take (t - f) := by
    rw [hf]
    refine ztail_unique (ztrim_last _) (.inr ?_) fun i => ?_
    · rw [hg, hl, show f + (t - f - 1) = t - 1 by omega]; exact hn
    · rw [ztrim_get, hg, List.getD_eq_getElem?_getD, List.getElem?_drop, ← List.getD_eq_getElem?_getD]
  unfold tidyP
  rw [e, if_neg (fun h => by rw [h] at hl; simp at hl; omega), hf]
theorem tidy_all (low : Int) {l : List Int} (hf : zfrom l = l.length) : tidyP low l = ⟨0, []⟩ := by
  unfold tidyP
  rw [hf, List.drop_length]; rfl

/-- The row that a literal []int{} makes. -/
theorem made_none (base : Nat) (w : World) (hb : base ≤ w.heap.size) : IntRow base (w.alloc (.cells #[] 3)) (.slice (some ⟨w.heap.size, 0, none⟩) 0 0) [] := World.ownsRow_made (base := base) (e := 3) (size := 1) w #[] 0 hb (Nat.zero_le _) rfl

set_option maxRecDepth 100000 in
set_option maxHeartbeats 4000000 in
theorem l6pTidy_none (low : Int) (zs : List Int) (a : Option Addr) (cap n : Nat) (w : World) (hs : Ints w a n zs) (hz : zfrom zs = n) :
    Calls Try.prog 165 #[.int .i64 low, .slice a n cap] w fun e w' => (∃ v, e = .returned (plV 0 v) ∧ IntRow w.heap.size w' v []) ∧ Below w.heap.size w w' := by
  have hm := hs.max
  unfold maxLen at hm
  have HN := Lib.hid hs.len
  have HS := Lib.hid hs
  have HZ := Lib.hid hz
  clear hs hz
  go_enter Try.func165, Try.ntmps165
  go_wp2
  go_loop [5] (fun i => ∃ k : Nat, k ≤ n ∧ i = .int .i64 (k : Int)) (fun i => n - (intOf i).toNat)
  case atStart => exact ⟨0, Nat.zero_le _, rfl⟩
  case round =>
    obtain ⟨k, hk, rfl⟩ := hrel
    by_cases hlt : k < n
    · have hkz : k < zs.length := by rw [HN.out]; exact hlt
      obtain ⟨x, rfl, hxb, hxc⟩ := HS.out.at_ (by omega)
      have hz0 : zs[k] = 0 := by
        have := zfrom_zero zs k (by rw [HZ.out]; exact hlt)
        rwa [List.getD_eq_getElem?_getD, List.getElem?_eq_getElem hkz] at this
      have hb1 := (Below.refl w.heap.size w).alloc (Nat.le_refl _) (.cells #[.int .i64 0, .slice none 0 0] 35)
      have hcz := (hb1.cell (p := x.add k) (by rw [addr_add_block]; exact hxb)).trans (hxc k hkz)
      rw [hz0] at hcz
      clear hxc hz0 hb1
      go_wp2
      go_round
      case rel => exact ⟨k + 1, by omega, by go_num⟩
      case measure => simp [intOf]; omega
    · obtain rfl : k = n := by omega
      go_wp2
      go_loop [6] (fun i => i = .int .i64 (k : Int)) (fun _ => 0)
      case atStart => rfl
      case round =>
        obtain rfl := hrel
        go_wp2
        have hr := made_none w.heap.size (w.alloc (.cells #[.int .i64 0, .slice (some ⟨w.heap.size + 1, 0, none⟩) 0 0] 35)) (by simp)
        rw [World.size_alloc] at hr
        refine bodyPost_ret (v := plV 0 (.slice (some ⟨w.heap.size + 1, 0, none⟩) 0 0)) ?_ rfl ⟨⟨_, rfl, hr⟩, ((Below.refl _ w).alloc (Nat.le_refl _) _).alloc (by simp) _⟩
        simp [results, Try.results165, go_sem, plV]

set_option maxRecDepth 100000 in
set_option maxHeartbeats 4000000 in
theorem l6pTidy_some (low : Int) (zs : List Int) (a : Option Addr) (cap n f : Nat) (w : World) (hs : Ints w a n zs) (hcap : n ≤ cap) (hn : n ≤ 1048576) (hz : zfrom zs = f) (hf : f < n) (h1 : -1000000000 ≤ low) (h2 : low ≤ 1000000000) :
    Calls Try.prog 165 #[.int .i64 low, .slice a n cap] w fun e w' => (∃ v, e = .returned (plV (tidyP low zs).low v) ∧ IntRow w.heap.size w' v (tidyP low zs).cs) ∧ Below w.heap.size w w' := by
  obtain ⟨i0, hi, hz0, hz1, hz2⟩ := info_parts infoInt
  have hlen := hs.len
  obtain ⟨x, rfl, hxb, hxc⟩ := hs.at_ (by omega)
  have hb1 := (Below.refl w.heap.size w).alloc (Nat.le_refl _) (.cells #[.int .i64 0, .slice none 0 0] 35)
  have HC : Hid (∀ k (h : k < n) z, zs.getD k 0 = z → (w.alloc (.cells #[.int .i64 0, .slice none 0 0] 35)).cell? (x.add k) = some (.int .i64 z)) := Lib.hid fun k h z e => by
    rw [← e, List.getD_eq_getElem?_getD, List.getElem?_eq_getElem (by omega)]
    exact (hb1.cell (p := x.add k) (by rw [addr_add_block]; exact hxb)).trans (hxc k (by omega))
  have HZ := Lib.hid hz
  have HN := Lib.hid hlen
  clear hs hxc hb1 hz hlen
  go_enter Try.func165, Try.ntmps165
  go_wp2
  go_loop [5] (fun i => ∃ k : Nat, k ≤ f ∧ i = .int .i64 (k : Int)) (fun i => f - (intOf i).toNat)
  case atStart => exact ⟨0, Nat.zero_le _, rfl⟩
  case round =>
    obtain ⟨k, hk, rfl⟩ := hrel
    have hkn : k < n := by omega
    by_cases hlt : k < f
    · have hcz := HC.out k hkn 0 (zfrom_zero zs k (by rw [HZ.out]; exact hlt))
      go_wp2
      go_round
      case rel => exact ⟨k + 1, by omega, by go_num⟩
      case measure => simp [intOf]; omega
    · obtain rfl : k = f := by omega
      obtain ⟨z, hz⟩ : ∃ z, zs.getD k 0 = z := ⟨_, rfl⟩
      have hcz := HC.out k hkn z hz
      have hzn : ¬ z = 0 := by rw [← hz, ← HZ.out]; exact zfrom_head zs (by rw [HZ.out, HN.out]; exact hkn)
      have hzb : (z == 0) = false := by simpa using hzn
      have HHZ := Lib.hid hz
      clear hz
      go_wp2
      go_loop [6] (fun i => ∃ t : Nat, k < t ∧ t ≤ n ∧ i = .int .i64 (t : Int) ∧ Hid (∀ i, t ≤ i → zs.getD i 0 = 0)) (fun i => (intOf i).toNat)
      case atStart => exact ⟨n, by omega, Nat.le_refl _, rfl, Lib.hid fun i h => getD_far (by rw [HN.out]; exact h)⟩
      case round =>
        obtain ⟨t, ht1, ht2, rfl, HT⟩ := hrel
        obtain ⟨m, hm⟩ : ∃ m, t = m + 1 := ⟨t - 1, by omega⟩
        subst hm
        have hwr : IntKind.i64.wrap (((m + 1 : Nat) : Int) - 1) = (m : Int) := by rw [IntWalk.i64_in _ (by omega)]; omega
        obtain ⟨y, hy⟩ : ∃ y, zs.getD m 0 = y := ⟨_, rfl⟩
        have hcy := HC.out m (by omega) y hy
        have hgt : (k : Int) < ((m + 1 : Nat) : Int) := by omega
        have hmn : m < n := by omega
        by_cases hy0 : y = 0
        · subst hy0
          have hmk : k ≠ m := fun e => hzn (by rw [← HHZ.out, e, hy])
          have HY := Lib.hid hy
          clear hy
          go_wp2
          go_round
          case rel => exact ⟨m, by omega, by omega, by go_num, Lib.hid fun i h => by
            by_cases e : i = m
            · rw [e]; exact HY.out
            · exact HT.out i (by omega)⟩
          case measure => simp [intOf]
        · have hyb : (y == 0) = false := by simpa using hy0
          have HCUT := Lib.hid (tidy_cut low HZ.out ht1 (by rw [HN.out]; exact ht2) HT.out (by show zs.getD m 0 ≠ 0; rw [hy]; exact hy0))
          obtain ⟨W, hW⟩ : ∃ W, (w.alloc (.cells #[.int .i64 0, .slice none 0 0] 35)).alloc (.cells #[] 3) = W := ⟨_, rfl⟩
          have hsz : W.heap.size = w.heap.size + 2 := by rw [← hW]; simp
          have hbW : Below w.heap.size w W := by rw [← hW]; exact ((Below.refl _ w).alloc (Nat.le_refl _) _).alloc (by simp) _
          have HM : Hid (W.ownsRow (w.heap.size + 1) 3 1 (.slice (some ⟨w.heap.size + 1, 0, none⟩) 0 0) 0 []) := Lib.hid (by
            have h := World.ownsRow_made (base := w.heap.size + 1) (e := 3) (size := 1) (w.alloc (.cells #[.int .i64 0, .slice none 0 0] 35)) #[] 0 (by simp) (Nat.zero_le _) rfl
            rw [hW, World.size_alloc] at h
            exact h)
          have HK : Hid (W.heap[w.heap.size]? = some (.cells #[.int .i64 0, .slice none 0 0] 35 (0, 0))) := Lib.hid (by
            have h := World.alloc_heap_new w (.cells #[.int .i64 0, .slice none 0 0] 35)
            have g := World.grownBy_alloc (w.alloc (.cells #[.int .i64 0, .slice none 0 0] 35)) (.cells #[] 3) none
            rw [hW] at g
            exact (g.block w.heap.size (by simp) (by simp)).trans h)
          have HX : Hid (∀ j u, (intsV ((zs.drop k).take (m + 1 - k)))[j]? = some u → W.cell? ((x.add k).add j) = some u) := Lib.hid fun j u hu => by
            simp only [intsV, List.getElem?_map, List.getElem?_take, List.getElem?_drop] at hu
            by_cases hj : j < m + 1 - k
            · rw [if_pos hj, List.getElem?_eq_getElem (by rw [HN.out]; omega)] at hu
              have hu : Value.int .i64 (zs[k + j]'(by rw [HN.out]; omega)) = u := by simpa using hu
              have hc := HC.out (k + j) (by omega) (zs[k + j]'(by rw [HN.out]; omega)) (by rw [List.getD_eq_getElem?_getD, List.getElem?_eq_getElem (by rw [HN.out]; omega)]; rfl)
              rw [Addr.add_add, ← hW, ← hu]
              exact (World.cell?_alloc_lt _ _ _ (World.block_lt_of_cell? _ _ hc)).trans hc
            · rw [if_neg hj] at hu
              simp at hu
          have hml : m + 1 - k ≤ 1048576 := by omega
          have HL : Hid ((intsV ((zs.drop k).take (m + 1 - k))).length = (m + 1 - k) * 1) := Lib.hid (by rw [intsV_len, List.length_take, List.length_drop, HN.out]; omega)
          have HW := Lib.hid hW
          have HBW := Lib.hid hbW
          clear hy HT hW hbW
          go_wp2_with (at_builtin; go_loud (rw [HW.out]; refine wpList_append_own _ rfl _ _ 33 rfl (w.heap.size + 1) 3 i0 (.int .i64 0) 1 8 Try.underlying33 hi hz0 hz1 hz2 rfl (by decide) _ _ _ rfl HM.out (x.add k) (m + 1 - k) (cap - k) (intsV ((zs.drop k).take (m + 1 - k))) rfl HL.out HX.out (fun u hu => by unfold intsV at hu; obtain ⟨z, _, rfl⟩ := List.mem_map.1 hu; rfl) (by unfold maxLen; omega) (by omega) (by omega) ?_; intro v1 w1 hrow hgrow hnil; obtain ⟨g1, cap1, hv1⟩ : ∃ (g : Nat) (c : Nat), v1 = Value.slice (some ⟨g, 0, none⟩) (0 + (m + 1 - k)) c := Go.Joins.ownsRow_form hrow (by omega); subst hv1; have HR := Lib.hid hrow; have HG : Hid (W.grownBy w1 (some (w.heap.size + 1))) := Lib.hid hgrow; clear hrow hgrow hnil; have hk1 := (HG.out.block w.heap.size (by omega) (by simp)).trans HK.out; have d0 : w1.cell? ⟨w.heap.size, 0, none⟩ = some (.int .i64 0) := (by simp [World.cell?, hk1]); have d1 : w1.cell? ⟨w.heap.size, 1, none⟩ = some (.slice none 0 0) := (by simp [World.cell?, hk1]); have f0 : w1.frozen? ⟨w.heap.size, 0, none⟩ = false := (by simp [World.frozen?, hk1]); have f1 : w1.frozen? ⟨w.heap.size, 1, none⟩ = false := (by simp [World.frozen?, hk1]); clear hk1))
          rw [Nat.zero_add, List.nil_append] at HR
          have hR3 := ownsRow_setCell_below (ownsRow_setCell_below HR.out (a := ⟨w.heap.size, 0, none⟩) (Nat.lt_succ_self _) (.int .i64 (low + (k : Int)))) (a := ⟨w.heap.size, 1, none⟩) (Nat.lt_succ_self _) (.slice (some ⟨g1, 0, none⟩) (m + 1 - k) cap1)
          have hB3 := ((HBW.out.grown HG.out (by omega) (fun j e => by simp at e; omega)).setCell (p := ⟨w.heap.size, 0, none⟩) (Nat.le_refl _) (.int .i64 (low + (k : Int)))).setCell (p := ⟨w.heap.size, 1, none⟩) (Nat.le_refl _) (.slice (some ⟨g1, 0, none⟩) (m + 1 - k) cap1)
          rw [HCUT.out]
          refine bodyPost_ret (v := plV (low + (k : Int)) (.slice (some ⟨g1, 0, none⟩) (m + 1 - k) cap1)) ?_ rfl ⟨⟨_, rfl, ?_⟩, hB3⟩
          · simp [results, Try.results165, go_sem, d0, d1, plV]
          · have hl : ((zs.drop k).take (m + 1 - k)).length = m + 1 - k := by have := HL.out; rwa [intsV_len, Nat.mul_one] at this
            unfold IntRow
            show World.ownsRow _ _ _ _ _ ((zs.drop k).take (m + 1 - k)).length (intsV ((zs.drop k).take (m + 1 - k)))
            rw [hl]
            exact ownsRow_base hR3 (Nat.le_succ _)

theorem l6pTidy_any (low : Int) (zs : List Int) (a : Option Addr) (cap n : Nat) (w : World) (hs : Ints w a n zs) (hcap : n ≤ cap) (hn : n ≤ 1048576) (h1 : -1000000000 ≤ low) (h2 : low ≤ 1000000000) :
    Calls Try.prog 165 #[.int .i64 low, .slice a n cap] w fun e w' => (∃ v, e = .returned (plV (tidyP low zs).low v) ∧ IntRow w.heap.size w' v (tidyP low zs).cs) ∧ Below w.heap.size w w' := by
  by_cases hz : zfrom zs = n
  · have e := tidy_all low (l := zs) (by rw [hz, hs.len])
    rw [e]
    exact l6pTidy_none low zs a cap n w hs hz
  · exact l6pTidy_some low zs a cap n _ w hs hcap hn rfl (by have := zfrom_le zs; rw [hs.len] at this; omega) h1 h2

end Go.Proofs.Ytbbkpaledlbcmaa

/- The model's l6pCopy, l6pNone, l6pDone. -/

namespace Go.Proofs.Ytbbkpaledlbcmaa
open Go.RowKit

theorem intsV_one (zs : List Int) : ∀ u ∈ intsV zs, u.oneCell' = true := fun u hu => by
  unfold intsV at hu
  obtain ⟨z, _, rfl⟩ := List.mem_map.1 hu
  rfl
theorem Ints.news {w : World} {x : Addr} {n : Nat} {zs : List Int} (h : Ints w (some x) n zs) (h0 : 0 < n) : ∀ j u, (intsV zs)[j]? = some u → w.cell? (x.add j) = some u := fun j u hu => by
  obtain ⟨y, hy, _, hc⟩ := h.at_ h0
  obtain rfl : x = y := by simpa using hy
  simp only [intsV, List.getElem?_map] at hu
  by_cases hj : j < zs.length
  · rw [List.getElem?_eq_getElem hj] at hu
    rw [hc j hj]
    simpa using hu
  · rw [List.getElem?_eq_none (by omega)] at hu
    simp at hu

theorem made_at (W : World) (g : Nat) (h : W.heap.size = g) (base : Nat) (hb : base ≤ g) : (W.alloc (.cells #[] 3)).ownsRow base 3 1 (.slice (some ⟨g, 0, none⟩) 0 0) 0 [] := by
  subst h
  exact made_none base W hb

set_option maxRecDepth 100000 in
set_option maxHeartbeats 4000000 in
theorem l6pCopy_some (low : Int) (zs : List Int) (a : Option Addr) (cap n : Nat) (w : World) (hs : Ints w a n zs) (hn : n ≤ 1048576) (h0 : 0 < n) :
    Calls Try.prog 118 #[plV low (.slice a n cap)] w fun e w' => (∃ v, e = .returned (plV low v) ∧ IntRow w.heap.size w' v zs) ∧ Below w.heap.size w w' := by
  obtain ⟨i0, hi, hz0, hz1, hz2⟩ := info_parts infoInt
  obtain ⟨x, rfl, _, _⟩ := hs.at_ h0
  have HL : Hid ((intsV zs).length = n * 1) := Lib.hid (by rw [intsV_len, hs.len, Nat.mul_one])
  have hb1 := (((Below.refl w.heap.size w).alloc (Nat.le_refl _) (.cells #[.int .i64 low, .slice (some x) n cap] 35)).alloc (by simp) (.cells #[.int .i64 0, .slice none 0 0] 35)).alloc (by simp; omega) (.cells #[] 3)
  have HB := Lib.hid hb1.drew
  have HX := Lib.hid (Ints.news (hs.below hb1.drew) h0)
  have HM := Lib.hid (made_at ((w.alloc (.cells #[.int .i64 low, .slice (some x) n cap] 35)).alloc (.cells #[.int .i64 0, .slice none 0 0] 35)) (w.heap.size + 2) (by simp) (w.heap.size + 2) (Nat.le_refl _)).drew
  obtain ⟨W, hW⟩ : ∃ W, (((w.alloc (.cells #[.int .i64 low, .slice (some x) n cap] 35)).alloc (.cells #[.int .i64 0, .slice none 0 0] 35)).alloc (.cells #[] 3)).drew = W := ⟨_, rfl⟩
  have HC : Hid (∀ w1 row, W.grownBy w1 row → row = some (w.heap.size + 2) → w1.cell? ⟨w.heap.size, 0, none⟩ = some (.int .i64 low) ∧ w1.cell? ⟨w.heap.size, 1, none⟩ = some (.slice (some x) n cap) ∧ w1.cell? ⟨w.heap.size + 1, 0, none⟩ = some (.int .i64 0) ∧ w1.cell? ⟨w.heap.size + 1, 1, none⟩ = some (.slice none 0 0) ∧ w1.frozen? ⟨w.heap.size + 1, 0, none⟩ = false ∧ w1.frozen? ⟨w.heap.size + 1, 1, none⟩ = false) := Lib.hid fun w1 row hg hr => by
    subst hr
    have hsz : W.heap.size = w.heap.size + 3 := by rw [← hW]; simp
    have e0 := hg.block w.heap.size (by omega) (by simp)
    have e1 := hg.block (w.heap.size + 1) (by omega) (by simp)
    have c0 : W.heap[w.heap.size]? = some (.cells #[.int .i64 low, .slice (some x) n cap] 35 (0, 0)) := by
      rw [← hW]
      show (((w.alloc _).alloc _).alloc _).heap[w.heap.size]? = _
      rw [Below.heap_alloc _ _ _ (by simp; omega), Below.heap_alloc _ _ _ (by simp)]
      exact World.alloc_heap_new w _
    have c1 : W.heap[w.heap.size + 1]? = some (.cells #[.int .i64 0, .slice none 0 0] 35 (0, 0)) := by
      rw [← hW]
      show (((w.alloc _).alloc _).alloc _).heap[w.heap.size + 1]? = _
      rw [Below.heap_alloc _ _ _ (by simp)]
      have h := World.alloc_heap_new (w.alloc (.cells #[.int .i64 low, .slice (some x) n cap] 35)) (.cells #[.int .i64 0, .slice none 0 0] 35)
      rwa [World.size_alloc] at h
    rw [c0] at e0
    rw [c1] at e1
    refine ⟨?_, ?_, ?_, ?_, ?_, ?_⟩ <;> simp [World.cell?, World.frozen?, e0, e1]
  subst hW
  clear hb1
  go_enter Try.func118, Try.ntmps118
  go_wp2
  go_region_held3 (fun w' : World => w'.cell? ⟨w.heap.size, 0, none⟩ = some (.int .i64 low) ∧ w'.cell? ⟨w.heap.size, 1, none⟩ = some (.slice (some x) n cap)) (first | go_keep | exact ⟨k0, k1⟩)
    ((refine step_append_lies _ (by rfl) _ _ _ (by rfl) (w.heap.size + 2) 3 i0 _ 1 8 Try.underlying33 hi hz0 hz1 hz2 rfl (by omega) (.slice (some ⟨w.heap.size + 2, 0, none⟩) 0 0) 0 [] (by rfl) HM.out
        x n cap (intsV zs) (by rfl) HL.out HX.out (intsV_one zs) h0 (by unfold maxLen; omega) (by omega) (by simp) (w.heap.size + 3) (by simp) ?_
      intro g1 cap1 w1 hown1 hgrow _ _
      have HR := Lib.hid hown1
      have HG := Lib.hid (HB.out.grown hgrow (by simp; omega) (fun j e => by simp [Value.ownBlock] at e; omega))
      obtain ⟨k0, k1, d0, d1, f0, f1⟩ := HC.out _ _ hgrow rfl
      clear hown1 hgrow))
  go_wp2
  rw [Nat.zero_add, List.nil_append] at HR
  have hR3 := ownsRow_setCell_below (ownsRow_setCell_below HR.out (a := ⟨w.heap.size + 1, 0, none⟩) (Nat.lt_succ_self _) (.int .i64 low)) (a := ⟨w.heap.size + 1, 1, none⟩) (Nat.lt_succ_self _) (.slice (some ⟨g1, 0, none⟩) n cap1)
  have hB3 := (HG.out.setCell (p := ⟨w.heap.size + 1, 0, none⟩) (Nat.le_succ _) (.int .i64 low)).setCell (p := ⟨w.heap.size + 1, 1, none⟩) (Nat.le_succ _) (.slice (some ⟨g1, 0, none⟩) n cap1)
  refine bodyPost_ret (v := plV low (.slice (some ⟨g1, 0, none⟩) n cap1)) ?_ rfl ⟨⟨_, rfl, ?_⟩, hB3⟩
  · simp [results, Try.results118, go_sem, d0, d1, plV]
  · unfold IntRow
    rw [hs.len]
    exact ownsRow_base hR3 (by omega)

set_option maxRecDepth 100000 in
set_option maxHeartbeats 4000000 in
theorem l6pCopy_none (low : Int) (a : Option Addr) (cap : Nat) (w : World) :
    Calls Try.prog 118 #[plV low (.slice a 0 cap)] w fun e w' => (∃ v, e = .returned (plV low v) ∧ IntRow w.heap.size w' v []) ∧ Below w.heap.size w w' := by
  go_enter Try.func118, Try.ntmps118
  go_wp2
  cases a with
  | none =>
    go_region_held3 (fun w' : World => w'.cell? ⟨w.heap.size, 0, none⟩ = some (.int .i64 low) ∧ w'.cell? ⟨w.heap.size, 1, none⟩ = some (.slice none 0 cap)) (first | go_keep) (fail)
    go_wp2
    refine bodyPost_ret (v := plV low (.slice (some ⟨w.heap.size + 1 + 1, 0, none⟩) 0 0)) ?_ rfl ⟨⟨_, rfl, (made_at _ (w.heap.size + 1 + 1) (by simp) w.heap.size (by omega)).drew⟩, ((((Below.refl _ w).alloc (Nat.le_refl _) _).alloc (by simp) _).alloc (by simp; omega) _).drew⟩
    simp [results, Try.results118, go_sem, plV]
  | some x =>
    go_region_held3 (fun w' : World => w'.cell? ⟨w.heap.size, 0, none⟩ = some (.int .i64 low) ∧ w'.cell? ⟨w.heap.size, 1, none⟩ = some (.slice (some x) 0 cap)) (first | go_keep) (fail)
    go_wp2
    refine bodyPost_ret (v := plV low (.slice (some ⟨w.heap.size + 1 + 1, 0, none⟩) 0 0)) ?_ rfl ⟨⟨_, rfl, (made_at _ (w.heap.size + 1 + 1) (by simp) w.heap.size (by omega)).drew⟩, ((((Below.refl _ w).alloc (Nat.le_refl _) _).alloc (by simp) _).alloc (by simp; omega) _).drew⟩
    simp [results, Try.results118, go_sem, plV]

theorem l6pCopy_any (low : Int) (zs : List Int) (a : Option Addr) (cap n : Nat) (w : World) (hs : Ints w a n zs) (hn : n ≤ 1048576) :
    Calls Try.prog 118 #[plV low (.slice a n cap)] w fun e w' => (∃ v, e = .returned (plV low v) ∧ IntRow w.heap.size w' v zs) ∧ Below w.heap.size w w' := by
  by_cases h0 : 0 < n
  · exact l6pCopy_some low zs a cap n w hs hn h0
  · obtain rfl : n = 0 := by omega
    obtain rfl : zs = [] := List.length_eq_zero_iff.1 hs.len
    exact l6pCopy_none low a cap w

set_option maxRecDepth 100000 in
set_option maxHeartbeats 4000000 in
theorem l6pNone_any (w : World) :
    Calls Try.prog 121 #[] w fun e w' => (∃ v, e = .returned (.tuple #[plV 0 v, .bool false]) ∧ IntRow w.heap.size w' v []) ∧ Below w.heap.size w w' := by
  go_enter Try.func121, Try.ntmps121
  go_wp2
  refine bodyPost_ret (v := .tuple #[plV 0 (.slice (some ⟨w.heap.size + 1, 0, none⟩) 0 0), .bool false]) ?_ rfl ⟨⟨_, rfl, made_at _ (w.heap.size + 1) (by simp) w.heap.size (by omega)⟩, ((Below.refl _ w).alloc (Nat.le_refl _) _).alloc (by simp) _⟩
  simp [results, Try.results121, go_sem, plV]

end Go.Proofs.Ytbbkpaledlbcmaa

/- The model's l6pDone and PolyOf. -/

namespace Go.Proofs.Ytbbkpaledlbcmaa
open Go.RowKit

/-- What is no polynomial comes out as 0. -/
def doneP (b : Bool) (p : Pl) : Pl := if b then p else ⟨0, []⟩

set_option maxRecDepth 100000 in
set_option maxHeartbeats 4000000 in
theorem l6pDone_any (low : Int) (zs : List Int) (a : Option Addr) (cap n : Nat) (b : Bool) (w : World) (hs : Ints w a n zs) (hn : n ≤ 1048576) (hb : polyB ⟨low, zs⟩ = b) :
    Calls Try.prog 114 #[plV low (.slice a n cap)] w fun e w' => (∃ v, e = .returned (.tuple #[plV (doneP b ⟨low, zs⟩).low v, .bool b]) ∧ IntRow w.heap.size w' v (doneP b ⟨low, zs⟩).cs) ∧ Below w.heap.size w w' := by
  obtain ⟨W, hW⟩ : ∃ W, (w.alloc (.cells #[.int .i64 low, .slice a n cap] 35)).alloc (.cells #[.int .i64 0, .slice none 0 0] 35) = W := ⟨_, rfl⟩
  have hsz : W.heap.size = w.heap.size + 2 := by rw [← hW]; simp
  have hbW : Below w.heap.size w W := by rw [← hW]; exact ((Below.refl _ w).alloc (Nat.le_refl _) _).alloc (by simp) _
  have HC : Hid (∀ w1, Below W.heap.size W w1 → w1.cell? ⟨w.heap.size, 0, none⟩ = some (.int .i64 low) ∧ w1.cell? ⟨w.heap.size, 1, none⟩ = some (.slice a n cap) ∧ w1.cell? ⟨w.heap.size + 1, 0, none⟩ = some (.int .i64 0) ∧ w1.cell? ⟨w.heap.size + 1, 1, none⟩ = some (.slice none 0 0) ∧ w1.frozen? ⟨w.heap.size + 1, 0, none⟩ = false ∧ w1.frozen? ⟨w.heap.size + 1, 1, none⟩ = false) := Lib.hid fun w1 hg => by
    have e0 := hg.block w.heap.size (by omega)
    have e1 := hg.block (w.heap.size + 1) (by omega)
    have c0 : W.heap[w.heap.size]? = some (.cells #[.int .i64 low, .slice a n cap] 35 (0, 0)) := by
      rw [← hW, Below.heap_alloc _ _ _ (by simp)]
      exact World.alloc_heap_new w _
    have c1 : W.heap[w.heap.size + 1]? = some (.cells #[.int .i64 0, .slice none 0 0] 35 (0, 0)) := by
      rw [← hW]
      have h := World.alloc_heap_new (w.alloc (.cells #[.int .i64 low, .slice a n cap] 35)) (.cells #[.int .i64 0, .slice none 0 0] 35)
      rwa [World.size_alloc] at h
    rw [c0] at e0
    rw [c1] at e1
    refine ⟨?_, ?_, ?_, ?_, ?_, ?_⟩ <;> simp [World.cell?, World.frozen?, e0, e1]
  have HP := Lib.hid (sPolyIn_any low zs a cap n b W (hs.below hbW) hb)
  have HCP : Hid (∀ w1, Below W.heap.size W w1 → _) := Lib.hid fun w1 hg => l6pCopy_any low zs a cap n w1 ((hs.below hbW).below hg) hn
  have HW := Lib.hid hW
  have HBW := Lib.hid hbW
  clear hW hbW hs
  go_enter Try.func114, Try.ntmps114
  go_wp2_with fail
  rw [HW.out]
  refine HP.out.mono ?_
  rintro e w1 ⟨rfl, hb1⟩
  obtain ⟨q0, q1, d0, d1, f0, f1⟩ := HC.out w1 hb1
  have hs1 := hb1.size
  have HB1 := Lib.hid hb1
  clear hb1
  cases b with
  | false =>
    obtain ⟨_, _, d0, d1, f0, f1⟩ := HC.out (w1.alloc (.cells #[] 3)) (HB1.out.alloc hs1 _)
    have hr := made_at w1 w1.heap.size rfl w1.heap.size (Nat.le_refl _)
    have HR := Lib.hid hr
    clear hr
    go_wp2
    have hlt : w.heap.size + 1 < w1.heap.size := by omega
    have hR3 := ownsRow_setCell_below (ownsRow_setCell_below HR.out (a := ⟨w.heap.size + 1, 0, none⟩) hlt (.int .i64 0)) (a := ⟨w.heap.size + 1, 1, none⟩) hlt (.slice (some ⟨w1.heap.size, 0, none⟩) 0 0)
    have hB3 := (((HBW.out.trans (HB1.out.mono HBW.out.size)).alloc (by omega) (.cells #[] 3)).setCell (p := ⟨w.heap.size + 1, 0, none⟩) (Nat.le_succ _) (.int .i64 0)).setCell (p := ⟨w.heap.size + 1, 1, none⟩) (Nat.le_succ _) (.slice (some ⟨w1.heap.size, 0, none⟩) 0 0)
    refine bodyPost_ret (v := .tuple #[plV 0 (.slice (some ⟨w1.heap.size, 0, none⟩) 0 0), .bool false]) ?_ rfl ⟨⟨_, rfl, ownsRow_base hR3 (by omega)⟩, hB3⟩
    simp [results, Try.results114, go_sem, d0, d1, plV]
  | true =>
    go_wp2_with fail
    refine (HCP.out w1 HB1.out).mono ?_
    rintro e w2 ⟨⟨v, rfl, hr⟩, hb2⟩
    obtain ⟨_, _, d0, d1, f0, f1⟩ := HC.out w2 (HB1.out.trans (hb2.mono hs1))
    have HR := Lib.hid hr
    have HB2 := Lib.hid (HBW.out.trans ((HB1.out.trans (hb2.mono hs1)).mono HBW.out.size))
    obtain ⟨g1, gg, cap1, rfl, _⟩ := hr.shape
    clear hr hb2
    go_wp2
    have hlt : w.heap.size + 1 < w1.heap.size := by omega
    have hR3 := ownsRow_setCell_below (ownsRow_setCell_below HR.out (a := ⟨w.heap.size + 1, 0, none⟩) hlt (.int .i64 low)) (a := ⟨w.heap.size + 1, 1, none⟩) hlt (.slice g1 zs.length cap1)
    have hB3 := (HB2.out.setCell (p := ⟨w.heap.size + 1, 0, none⟩) (Nat.le_succ _) (.int .i64 low)).setCell (p := ⟨w.heap.size + 1, 1, none⟩) (Nat.le_succ _) (.slice g1 zs.length cap1)
    refine bodyPost_ret (v := .tuple #[plV low (.slice g1 zs.length cap1), .bool true]) ?_ rfl ⟨⟨_, rfl, ownsRow_base hR3 (by omega)⟩, hB3⟩
    simp [results, Try.results114, go_sem, d0, d1, plV]

end Go.Proofs.Ytbbkpaledlbcmaa

/- The model's PolyOf. -/

namespace Go.Proofs.Ytbbkpaledlbcmaa
open Go.RowKit

/-- The cells of an answer that was laid first. -/
theorem resCells {w w1 : World} {r : Nat} (hr : w.heap.size = r) (h : Below (r + 1) (w.alloc (.cells #[.int .i64 0, .slice none 0 0] 35)) w1) :
    w1.cell? ⟨r, 0, none⟩ = some (.int .i64 0) ∧ w1.cell? ⟨r, 1, none⟩ = some (.slice none 0 0) ∧ w1.frozen? ⟨r, 0, none⟩ = false ∧ w1.frozen? ⟨r, 1, none⟩ = false := by
  subst hr
  have e0 := h.block w.heap.size (by omega)
  rw [World.alloc_heap_new] at e0
  refine ⟨?_, ?_, ?_, ?_⟩ <;> simp [World.cell?, World.frozen?, e0]
theorem resRow {w2 : World} {r base : Nat} {v : Value} {zs : List Int} (x y : Value) (h : IntRow base w2 v zs) (hb : r < base) : IntRow r ((w2.setCell ⟨r, 0, none⟩ x).setCell ⟨r, 1, none⟩ y) v zs :=
  ownsRow_base (ownsRow_setCell_below (ownsRow_setCell_below h (a := ⟨r, 0, none⟩) hb x) (a := ⟨r, 1, none⟩) hb y) (Nat.le_of_lt hb)
theorem resBelow {w w2 : World} {r : Nat} (x y : Value) (h : Below r w w2) : Below r w ((w2.setCell ⟨r, 0, none⟩ x).setCell ⟨r, 1, none⟩ y) :=
  (h.setCell (p := ⟨r, 0, none⟩) (Nat.le_refl _) x).setCell (p := ⟨r, 1, none⟩) (Nat.le_refl _) y
theorem tidy_mem {low : Int} {l : List Int} {z : Int} (h : z ∈ (tidyP low l).cs) : z = 0 ∨ z ∈ l := by
  obtain ⟨i, hi, rfl⟩ := List.mem_iff_getElem.1 h
  have hp := tidy_pat low l ((tidyP low l).low + (i : Int))
  rw [pat_at, List.getD_eq_getElem?_getD, List.getElem?_eq_getElem hi] at hp
  have hp : (tidyP low l).cs[i] = pat ⟨low, l⟩ ((tidyP low l).low + (i : Int)) := hp
  rw [hp]
  unfold pat
  split
  · show l.getD (((tidyP low l).low + (i : Int)) - low).toNat 0 = 0 ∨ l.getD (((tidyP low l).low + (i : Int)) - low).toNat 0 ∈ l
    generalize (((tidyP low l).low + (i : Int)) - low).toNat = q
    by_cases hj : q < l.length
    · right
      rw [List.getD_eq_getElem?_getD, List.getElem?_eq_getElem hj]
      exact List.getElem_mem hj
    · exact .inl (getD_far (by omega))
  · exact .inl rfl
theorem tidy_len (low : Int) (l : List Int) : (tidyP low l).cs.length ≤ l.length := by
  unfold tidyP
  split
  · exact Nat.zero_le _
  · exact Nat.le_trans (ztrim_len _) (by rw [List.length_drop]; omega)

def polyOfB (low : Int) (zs : List Int) : Bool := inR (-300) 300 low && (decide (zs.length ≤ 200) && polyB (tidyP low zs))
def polyOfP (low : Int) (zs : List Int) : Pl := doneP (polyOfB low zs) (tidyP low zs)

end Go.Proofs.Ytbbkpaledlbcmaa

/- The model's PolyOne. -/

namespace Go.Proofs.Ytbbkpaledlbcmaa
open Go.RowKit

/-- The cells of a polynomial that was laid first. -/
theorem boxCells {w w1 : World} {r : Nat} {x y : Value} (hr : w.heap.size = r) (h : Below (r + 1) (w.alloc (.cells #[x, y] 35)) w1) :
    w1.cell? ⟨r, 0, none⟩ = some x ∧ w1.cell? ⟨r, 1, none⟩ = some y := by
  subst hr
  have e0 := h.block w.heap.size (by omega)
  rw [World.alloc_heap_new] at e0
  refine ⟨?_, ?_⟩ <;> simp [World.cell?, e0]
theorem oneP_bound {l : List Int} (h : ∀ i, -1000000000 ≤ l.getD i 0 ∧ l.getD i 0 ≤ 1000000000) : ∀ k : Nat, -1000000000 * (k : Int) ≤ oneP l k ∧ oneP l k ≤ 1000000000 * (k : Int)
  | 0 => by rw [oneP]; omega
  | k + 1 => by
    have := oneP_bound h k
    have := h k
    rw [oneP]
    omega

end Go.Proofs.Ytbbkpaledlbcmaa

/- The model's l6pPlain and PolyPlain. -/

namespace Go.Proofs.Ytbbkpaledlbcmaa
open Go.RowKit

/-- The first k ints, each so many times. -/
def timesL (c : Int) (zs : List Int) (k : Nat) : List Value := intsV ((zs.take k).map fun z => c * z)
theorem timesL_step (c : Int) (zs : List Int) {k : Nat} {z q : Int} (hk : k < zs.length) (hz : zs[k] = z) (hq : c * z = q) : timesL c zs k ++ [.int .i64 q] = timesL c zs (k + 1) := by
  unfold timesL
  rw [List.take_succ_eq_append_getElem hk, List.map_append]
  unfold intsV
  rw [List.map_append, hz]
  simp [hq]
theorem own_ge {w : World} {base size : Nat} {e : TypeId} {v : Value} {n : Nat} {xs : List Value} (h : w.ownsRow base e size v n xs) : ∀ j, v.ownBlock = some j → base ≤ j := fun j e => by
  rcases h.2 with ⟨rfl, _⟩ | ⟨g, cap, cur, rfl, hb, _⟩
  · cases e
  · simp [Value.ownBlock] at e
    omega

end Go.Proofs.Ytbbkpaledlbcmaa

/- The model's PolyPlain. -/

namespace Go.Proofs.Ytbbkpaledlbcmaa
open Go.RowKit

theorem boxResCells {w w1 W : World} {x y : Value} (hW : (w.alloc (.cells #[x, y] 35)).alloc (.cells #[.int .i64 0, .slice none 0 0] 35) = W) (hg : Below W.heap.size W w1) :
    w1.cell? ⟨w.heap.size, 0, none⟩ = some x ∧ w1.cell? ⟨w.heap.size, 1, none⟩ = some y ∧ w1.cell? ⟨w.heap.size + 1, 0, none⟩ = some (.int .i64 0) ∧ w1.cell? ⟨w.heap.size + 1, 1, none⟩ = some (.slice none 0 0) ∧ w1.frozen? ⟨w.heap.size + 1, 0, none⟩ = false ∧ w1.frozen? ⟨w.heap.size + 1, 1, none⟩ = false := by
  have hsz : W.heap.size = w.heap.size + 2 := by rw [← hW]; simp
  obtain ⟨c0, c1⟩ := boxCells (w := w) (w1 := w1) (r := w.heap.size) (x := x) (y := y) rfl (Below.trans ((Below.refl _ _).alloc (by simp) (.cells #[.int .i64 0, .slice none 0 0] 35)) (by rw [hW]; exact hg.mono (by omega)))
  obtain ⟨d0, d1, f0, f1⟩ := resCells (w := w.alloc (.cells #[x, y] 35)) (w1 := w1) (r := w.heap.size + 1) (by simp) (by rw [hW, show w.heap.size + 1 + 1 = W.heap.size by omega]; exact hg)
  exact ⟨c0, c1, d0, d1, f0, f1⟩
theorem boxResBelow {w W : World} {x y : Value} (hW : (w.alloc (.cells #[x, y] 35)).alloc (.cells #[.int .i64 0, .slice none 0 0] 35) = W) : Below w.heap.size w W ∧ W.heap.size = w.heap.size + 2 := by
  subst hW
  exact ⟨((Below.refl _ w).alloc (Nat.le_refl _) _).alloc (by simp) _, by simp⟩
/-- The answer of a function whose answer lies behind a box. -/
theorem resRow1 {w2 : World} {r base : Nat} {v : Value} {zs : List Int} (x y : Value) (h : IntRow base w2 v zs) (hb : r + 1 < base) : IntRow r ((w2.setCell ⟨r + 1, 0, none⟩ x).setCell ⟨r + 1, 1, none⟩ y) v zs :=
  IntRow.mono (resRow (r := r + 1) x y h hb) (Nat.le_succ _)
theorem resBelow1 {w w2 : World} {r : Nat} (x y : Value) (h : Below r w w2) : Below r w ((w2.setCell ⟨r + 1, 0, none⟩ x).setCell ⟨r + 1, 1, none⟩ y) :=
  (h.setCell (p := ⟨r + 1, 0, none⟩) (Nat.le_succ _) x).setCell (p := ⟨r + 1, 1, none⟩) (Nat.le_succ _) y

end Go.Proofs.Ytbbkpaledlbcmaa

/- The model's PolyTurned. -/

namespace Go.Proofs.Ytbbkpaledlbcmaa
open Go.RowKit

theorem IntRow.readc {base : Nat} {w : World} {v : Value} {zs : List Int} (h : IntRow base w v zs) (hw : ∀ z ∈ zs, -9223372036854775808 ≤ z ∧ z ≤ 9223372036854775807) : ∃ a cap, v = .slice a zs.length cap ∧ zs.length ≤ cap ∧ Ints w a zs.length zs := by
  obtain ⟨a, cap, hv, hi⟩ := h.read hw
  refine ⟨a, cap, hv, ?_, hi⟩
  rcases h.2 with ⟨rfl, h0⟩ | ⟨g, c, cur, rfl, _, _, hn, _⟩
  · simp at hv
    omega
  · simp at hv
    omega
theorem rowI {w : World} {base n : Nat} {v : Value} {zs : List Int} (h : w.ownsRow base 3 1 v n (intsV zs)) (hn : zs.length = n) : IntRow base w v zs := by
  subst hn
  exact h
def firstL (zs : List Int) (k : Nat) : List Value := intsV (zs.take k)
theorem firstL_step (zs : List Int) {k : Nat} {z : Int} (hk : k < zs.length) (hz : zs[k] = z) : firstL zs k ++ [.int .i64 z] = firstL zs (k + 1) := by
  unfold firstL
  rw [List.take_succ_eq_append_getElem hk]
  unfold intsV
  rw [List.map_append, hz]
  rfl

end Go.Proofs.Ytbbkpaledlbcmaa

/- How the laws' own toPoly answers, for the laws. -/

namespace Go.Proofs.Ytbbkpaledlbcmaa
open Go.RowKit

theorem toPoly_t (low : Int) (a : Option Addr) (cap n : Nat) (zs : List Int) (w : World) (hm : n ≤ 1048576) (hs : Ints w a n zs) :
    Calls Try.prog 174 #[plV low (.slice a n cap)] w fun e w' => (∃ g, e = .returned (plV low (.slice (some ⟨g, 0, none⟩) n n)) ∧ w.heap.size ≤ g ∧ IntRow w.heap.size w' (.slice (some ⟨g, 0, none⟩) n n) zs ∧ Ints w' (some ⟨g, 0, none⟩) n zs) ∧ Below w.heap.size w w' := by
  refine (toPoly_any low a cap n zs w hm hs).mono ?_
  rintro e w1 ⟨⟨g, rfl, hg, hr⟩, hb⟩
  obtain ⟨a1, cap1, hv, hi⟩ := hr.read hs.wf
  have hl := hs.len
  subst hl
  simp at hv
  obtain ⟨rfl, _⟩ := hv
  exact ⟨⟨g, rfl, hg, hr, hi⟩, hb⟩

end Go.Proofs.Ytbbkpaledlbcmaa

/- Boxes of polynomials in a law's walk; marks of polynomials that change one block alone. -/

namespace Go.Proofs.Ytbbkpaledlbcmaa
open Go.RowKit

/-- Block j holds a struct of two cells. -/
def BoxAt (w : World) (j : Nat) (x y : Value) : Prop := j < w.heap.size ∧ w.cell? ⟨j, 0, none⟩ = some x ∧ w.cell? ⟨j, 1, none⟩ = some y
theorem BoxAt.below {w w' : World} {j : Nat} {x y : Value} (h : BoxAt w j x y) (hb : Below w.heap.size w w') : BoxAt w' j x y :=
  ⟨Nat.lt_of_lt_of_le h.1 hb.size, (hb.cell (p := ⟨j, 0, none⟩) h.1).trans h.2.1, (hb.cell (p := ⟨j, 1, none⟩) h.1).trans h.2.2⟩
theorem BoxAt.grown {w w' : World} {j : Nat} {x y : Value} {row : Option Nat} (h : BoxAt w j x y) (hg : w.grownBy w' row) (hne : row ≠ some j) : BoxAt w' j x y := by
  have e := hg.block j h.1 (Ne.symm hne)
  refine ⟨Nat.lt_of_lt_of_le h.1 hg.size, ?_, ?_⟩
  · rw [← h.2.1]; simp [World.cell?, e]
  · rw [← h.2.2]; simp [World.cell?, e]
theorem boxNew {w W : World} {t : TypeId} {x y : Value} (hW : w.alloc (.cells #[x, y] t) = W) : BoxAt W w.heap.size x y := by
  subst hW
  have e := World.alloc_heap_new w (.cells #[x, y] t)
  refine ⟨by simp, ?_, ?_⟩
  · unfold World.cell?; rw [show (⟨w.heap.size, 0, none⟩ : Addr).block = w.heap.size from rfl, e]; rfl
  · unfold World.cell?; rw [show (⟨w.heap.size, 1, none⟩ : Addr).block = w.heap.size from rfl, e]; rfl
theorem own_lt {w : World} {base size : Nat} {e : TypeId} {v : Value} {n : Nat} {xs : List Value} (h : w.ownsRow base e size v n xs) : ∀ j, v.ownBlock = some j → j < w.heap.size := fun j e => by
  rcases h.2 with ⟨rfl, _⟩ | ⟨g, cap, cur, rfl, hb, hg, _⟩
  · cases e
  · simp [Value.ownBlock] at e
    subst e
    exact (Array.getElem?_eq_some_iff.1 hg).1
theorem IntRow.grown {base : Nat} {w w' : World} {v : Value} {zs : List Int} {row : Option Nat} (h : IntRow base w v zs) (hg : w.grownBy w' row) (hne : ∀ j, v.ownBlock = some j → row ≠ some j) : IntRow base w' v zs :=
  h.kept hg (by
    rcases h.2 with ⟨rfl, _⟩ | ⟨g, cap, cur, rfl, _⟩
    · exact .inl rfl
    · exact .inr fun e => hne g rfl e.symm)

set_option maxRecDepth 100000 in
set_option maxHeartbeats 2000000 in
theorem markPoly_g (base : Nat) (low : Int) (v : Value) (zs : List Int) (k : Nat) (w : World) (h : IntRow base w v zs) (hk : k ≤ 1000000000000) (hn2 : zs.length ≤ 1000000000000) :
    Calls Try.prog 63 #[plV low v, .int .i64 k] w fun e w' => e = .returned (.int .i64 ((k + zs.length : Nat) : Int)) ∧ IntRow base w' v (marks k zs.length) ∧ w.grownBy w' v.ownBlock := by
  have hbW : Below w.heap.size w (w.alloc (.cells #[.int .i64 low, v] 35)) := (Below.refl _ w).alloc (Nat.le_refl _) _
  have HM := Lib.hid (markIntS_any base v zs k _ (h.below hbW) hk hn2)
  have HG0 := Lib.hid (World.grownBy_alloc w (.cells #[.int .i64 low, v] 35) v.ownBlock)
  clear h hbW
  go_enter Try.func63, Try.ntmps63
  go_wp2_with fail
  refine HM.out.mono ?_
  rintro e w1 ⟨rfl, hr, hg⟩
  have HR := Lib.hid hr
  have HG := Lib.hid (HG0.out.trans hg)
  clear hr hg
  go_wp2
  go_ret
  exact ⟨rfl, HR.out, HG.out⟩

end Go.Proofs.Ytbbkpaledlbcmaa

/- Lists of polynomials and lists of these in memory: what came in, and what is a call's own. -/

namespace Go.Proofs.Ytbbkpaledlbcmaa
open Go.RowKit

abbrev PO : TypeId := 35
abbrev PR : TypeId := 28
theorem infoPoly : (Try.prog.info? PO).map (fun i => (i.zero, i.size, i.bytes)) = some (some (.agg #[.int .i64 0, .slice none 0 0]), 2, 32) := by kernel_rfl
theorem infoPolyS : (Try.prog.info? PR).map (fun i => (i.zero, i.size, i.bytes)) = some (some (.slice none 0 0), 1, 24) := by kernel_rfl

theorem addr_next2 (x : Addr) (i : Nat) : x.add (i * 2 + 1) = ⟨(x.add (i * 2)).block, (x.add (i * 2)).off + 1, none⟩ := by
  rw [← Go.Deep.add_add]
  unfold Addr.add
  simp

/-- A polynomial and the slice of its coefficients. -/
structure Pv where
  p : Pl
  v : Value
def cellsP (xs : List Pv) : List Value := (xs.map fun x => [Value.int .i64 x.p.low, x.v]).flatten
theorem cellsP_cons (x : Pv) (r : List Pv) : cellsP (x :: r) = .int .i64 x.p.low :: x.v :: cellsP r := rfl
theorem cellsP_append (a b : List Pv) : cellsP (a ++ b) = cellsP a ++ cellsP b := by simp [cellsP]
theorem cellsP_len (xs : List Pv) : (cellsP xs).length = xs.length * 2 := by
  induction xs with
  | nil => rfl
  | cons t r ih => rw [cellsP_cons, List.length_cons, List.length_cons, ih, List.length_cons]; omega
theorem cellsP_get (xs : List Pv) : ∀ (i : Nat) (h : i < xs.length), (cellsP xs)[i * 2]? = some (.int .i64 xs[i].p.low) ∧ (cellsP xs)[i * 2 + 1]? = some xs[i].v := by
  induction xs with
  | nil => intro i h; simp at h
  | cons t r ih =>
    intro i h
    cases i with
    | zero => exact ⟨rfl, rfl⟩
    | succ i =>
      obtain ⟨h1, h2⟩ := ih i (by simpa using h)
      rw [cellsP_cons, show (i + 1) * 2 = i * 2 + 1 + 1 by omega, show i * 2 + 1 + 1 + 1 = (i * 2 + 1) + 1 + 1 by omega]
      exact ⟨h1, h2⟩
theorem cellsP_set (xs : List Pv) (i : Nat) (t : Pv) (hi : i < xs.length) : ((cellsP xs).set (i * 2) (.int .i64 t.p.low)).set (i * 2 + 1) t.v = cellsP (xs.set i t) := by
  have e : xs = xs.take i ++ xs[i] :: xs.drop (i + 1) := by rw [List.getElem_cons_drop]; exact (List.take_append_drop i xs).symm
  have hl : (cellsP (xs.take i)).length = i * 2 := by rw [cellsP_len, List.length_take, Nat.min_eq_left (by omega)]
  have hset : xs.set i t = xs.take i ++ t :: xs.drop (i + 1) := by rw [List.set_eq_take_append_cons_drop, if_pos hi]
  rw [hset]
  have e2 : cellsP xs = cellsP (xs.take i) ++ .int .i64 xs[i].p.low :: xs[i].v :: cellsP (xs.drop (i + 1)) := by
    rw [← cellsP_cons, ← cellsP_append, ← e]
  rw [e2, cellsP_append, cellsP_cons, List.set_append_right _ _ (by omega), List.set_append_right _ _ (by omega), hl, Nat.sub_self, show i * 2 + 1 - i * 2 = 1 by omega]
  rfl

/-- A list of polynomials, anywhere. -/
structure IsPS (w : World) (a : Option Addr) (n : Nat) (ps : List Pl) : Prop where
  len : ps.length = n
  max : n ≤ maxLen
  at_ : 0 < n → ∃ x, a = some x ∧ x.block < w.heap.size ∧ ∀ i (h : i < ps.length), ∃ ai ci, w.cell? (x.add (i * 2)) = some (.int .i64 ps[i].low) ∧ w.cell? (x.add (i * 2 + 1)) = some (.slice ai ps[i].cs.length ci) ∧ Ints w ai ps[i].cs.length ps[i].cs ∧ ps[i].cs.length ≤ ci
  wf : ∀ p ∈ ps, -9223372036854775808 ≤ p.low ∧ p.low ≤ 9223372036854775807
theorem IsPS.below {w w' : World} {a : Option Addr} {n : Nat} {ps : List Pl} (h : IsPS w a n ps) (hb : Below w.heap.size w w') : IsPS w' a n ps :=
  ⟨h.len, h.max, fun h0 => by
    obtain ⟨x, e, hx, hc⟩ := h.at_ h0
    refine ⟨x, e, Nat.lt_of_lt_of_le hx hb.size, fun i hi => ?_⟩
    obtain ⟨ai, ci, h1, h2, h3, h4⟩ := hc i hi
    exact ⟨ai, ci, (hb.cell (p := x.add (i * 2)) (by rw [addr_add_block]; exact hx)).trans h1, (hb.cell (p := x.add (i * 2 + 1)) (by rw [addr_add_block]; exact hx)).trans h2, h3.below hb, h4⟩, h.wf⟩
theorem IsPS.none (w : World) (a : Option Addr) : IsPS w a 0 [] := ⟨rfl, Nat.zero_le _, fun h => absurd h (Nat.lt_irrefl _), fun _ h => by cases h⟩

/-- A list of lists of polynomials, anywhere. -/
structure IsPSS (w : World) (a : Option Addr) (n : Nat) (rows : List (List Pl)) : Prop where
  len : rows.length = n
  max : n ≤ maxLen
  at_ : 0 < n → ∃ x, a = some x ∧ x.block < w.heap.size ∧ ∀ i (h : i < rows.length), ∃ ai ci, w.cell? (x.add i) = some (.slice ai rows[i].length ci) ∧ IsPS w ai rows[i].length rows[i]
theorem IsPSS.below {w w' : World} {a : Option Addr} {n : Nat} {rows : List (List Pl)} (h : IsPSS w a n rows) (hb : Below w.heap.size w w') : IsPSS w' a n rows :=
  ⟨h.len, h.max, fun h0 => by
    obtain ⟨x, e, hx, hc⟩ := h.at_ h0
    refine ⟨x, e, Nat.lt_of_lt_of_le hx hb.size, fun i hi => ?_⟩
    obtain ⟨ai, ci, h1, h2⟩ := hc i hi
    exact ⟨ai, ci, (hb.cell (p := x.add i) (by rw [addr_add_block]; exact hx)).trans h1, h2.below hb⟩⟩
theorem IsPSS.none (w : World) (a : Option Addr) : IsPSS w a 0 [] := ⟨rfl, Nat.zero_le _, fun h => absurd h (Nat.lt_irrefl _)⟩

/-! ### What is a call's own -/
structure OwnR (lo : Nat) (w : World) (u : Value) (xs : List Pv) : Prop where
  row : w.ownsRow lo PO 2 u xs.length (cellsP xs)
  poly : ∀ i (h : i < xs.length), IntRow lo w xs[i].v xs[i].p.cs
  head : ∀ i (h : i < xs.length) (b : Nat), u.ownBlock = some b → xs[i].v.ownBlock = some b → False
  apart : ∀ i j (hi : i < xs.length) (hj : j < xs.length) (b : Nat), i ≠ j → xs[i].v.ownBlock = some b → xs[j].v.ownBlock = some b → False
/-- The blocks of a row. -/
def FootR (u : Value) (xs : List Pv) (b : Nat) : Prop := u.ownBlock = some b ∨ ∃ i, ∃ (h : i < xs.length), xs[i].v.ownBlock = some b
theorem OwnR.low {lo : Nat} {w : World} {u : Value} {xs : List Pv} (h : OwnR lo w u xs) {b : Nat} (hb : FootR u xs b) : lo ≤ b ∧ b < w.heap.size := by
  rcases hb with hb | ⟨i, hi, hb⟩
  · exact ownsRow_lt h.row b hb
  · exact ownsRow_lt (h.poly i hi) b hb
theorem OwnR.touched {lo : Nat} {w w' : World} {u : Value} {xs : List Pv} {S : Nat → Prop} (h : OwnR lo w u xs) (ht : Touched S w w') (hs : ∀ b, FootR u xs b → ¬ S b) : OwnR lo w' u xs :=
  ⟨ownsRow_touched h.row fun b hb hl => ht.block b hl (hs b (.inl hb)), fun i hi => ownsRow_touched (h.poly i hi) fun b hb hl => ht.block b hl (hs b (.inr ⟨i, hi, hb⟩)), h.head, h.apart⟩
theorem OwnR.below {lo : Nat} {w w' : World} {u : Value} {xs : List Pv} (h : OwnR lo w u xs) (hb : Below w.heap.size w w') : OwnR lo w' u xs :=
  h.touched (S := fun _ => False) (.of_below hb) (fun _ _ => id)
theorem OwnR.mono {lo lo2 : Nat} {w : World} {u : Value} {xs : List Pv} (h : OwnR lo w u xs) (hl : lo2 ≤ lo) : OwnR lo2 w u xs :=
  ⟨ownsRow_base h.row hl, fun i hi => ownsRow_base (h.poly i hi) hl, h.head, h.apart⟩
theorem heap_off (w : World) (p : Addr) (v : Value) {b : Nat} (h : b ≠ p.block) : (w.setCell p v).heap[b]? = w.heap[b]? := Below.heap_setCell w p v b h
theorem IntRow.off {lo : Nat} {w : World} {v : Value} {zs : List Int} (h : IntRow lo w v zs) (p : Addr) (x : Value) (hp : ∀ b, v.ownBlock = some b → b ≠ p.block) : IntRow lo (w.setCell p x) v zs :=
  ownsRow_touched h fun b hb _ => heap_off w p x (hp b hb)
/-- The i-th polynomial is stored: its coefficients lie behind all of before. -/
theorem OwnR.put {lo B n c : Nat} {w w2 : World} {xs : List Pv} {p : Pl} {v : Value} {k : Nat} (h : OwnR lo w (.slice (some ⟨B, 0, none⟩) n c) xs) (hk : k < xs.length) (hb : Below w.heap.size w w2) (hp : IntRow w.heap.size w2 v p.cs) (hlo : lo ≤ w.heap.size) :
    OwnR lo ((w2.setCell ⟨B, k * 2, none⟩ (.int .i64 p.low)).setCell ⟨B, k * 2 + 1, none⟩ v) (.slice (some ⟨B, 0, none⟩) n c) (xs.set k ⟨p, v⟩) := by
  have hBl : B < w.heap.size := (ownsRow_lt h.row B rfl).2
  have hv : ∀ b, v.ownBlock = some b → w.heap.size ≤ b := fun b e => (ownsRow_lt hp b e).1
  have hold : ∀ i (hi : i < xs.length) b, xs[i].v.ownBlock = some b → b < w.heap.size := fun i hi b e => (ownsRow_lt (h.poly i hi) b e).2
  have hn : xs.length = n := by
    have := h.row
    rcases this.2 with ⟨e, _⟩ | ⟨g, cap, cur, e, _⟩
    · cases e
    · simp only [Value.slice.injEq] at e; exact e.2.1.symm
  subst hn
  refine ⟨?_, fun i hi => ?_, fun i hi b hb1 hb2 => ?_, fun i j hi hj b hne h1 h2 => ?_⟩
  · rw [List.length_set, ← cellsP_set xs k ⟨p, v⟩ hk]
    exact ((((h.below hb).row.stored (k * 2) _).1).stored (k * 2 + 1) _).1
  · rw [List.length_set] at hi
    rw [List.getElem_set]
    split
    · exact ((hp.mono hlo).off ⟨B, k * 2, none⟩ _ fun b e => by have := hv b e; show b ≠ B; omega).off ⟨B, k * 2 + 1, none⟩ _ fun b e => by have := hv b e; show b ≠ B; omega
    · exact (((h.poly i hi).below hb).off ⟨B, k * 2, none⟩ _ fun b e => fun e2 => h.head i hi b (by rw [e2]; rfl) e).off ⟨B, k * 2 + 1, none⟩ _ fun b e => fun e2 => h.head i hi b (by rw [e2]; rfl) e
  · rw [List.length_set] at hi
    rw [List.getElem_set] at hb2
    split at hb2
    · have := hv b hb2
      simp only [Value.ownBlock, Option.some.injEq] at hb1
      omega
    · exact h.head i hi b hb1 hb2
  · rw [List.length_set] at hi hj
    rw [List.getElem_set] at h1 h2
    split at h1
    · split at h2
      · omega
      · have := hv b h1; have := hold j hj b h2; omega
    · split at h2
      · have := hv b h2; have := hold i hi b h1; omega
      · exact h.apart i j hi hj b hne h1 h2
theorem OwnR.isPS {lo : Nat} {w : World} {u : Value} {xs : List Pv} {ps : List Pl} (h : OwnR lo w u xs) (hp : xs.map (·.p) = ps) (hl : ∀ p ∈ ps, -9223372036854775808 ≤ p.low ∧ p.low ≤ 9223372036854775807) (hw : ∀ p ∈ ps, ∀ z ∈ p.cs, -9223372036854775808 ≤ z ∧ z ≤ 9223372036854775807) (hn : xs.length ≤ maxLen) : ∃ a cap, u = .slice a ps.length cap ∧ IsPS w a ps.length ps := by
  subst hp
  have hlen : (xs.map (·.p)).length = xs.length := List.length_map _
  rw [hlen]
  rcases h.row.2 with ⟨rfl, h0⟩ | ⟨g, cap, cur, rfl, hb, hg, h3⟩
  · exact ⟨none, 0, by rw [h0], hlen, hn, fun hp => absurd hp (by omega), hl⟩
  · refine ⟨_, cap, rfl, hlen, hn, fun _ => ⟨_, rfl, (Array.getElem?_eq_some_iff.1 hg).1, fun i hi => ?_⟩, hl⟩
    rw [hlen] at hi
    have hg2 := cellsP_get xs i hi
    rw [List.getElem_map]
    obtain ⟨ai, ci, e, h5, h6⟩ := (h.poly i hi).readc (hw xs[i].p (List.mem_map_of_mem (List.getElem_mem hi)))
    exact ⟨ai, ci, h.row.cells rfl _ _ hg2.1, by rw [← e]; exact h.row.cells rfl _ _ hg2.2, h6, h5⟩

structure Rv where
  u : Value
  xs : List Pv
structure OwnM (lo : Nat) (w : World) (v : Value) (rs : List Rv) : Prop where
  row : w.ownsRow lo PR 1 v rs.length (rs.map (·.u))
  each : ∀ i (h : i < rs.length), OwnR lo w rs[i].u rs[i].xs
  head : ∀ i (h : i < rs.length) (b : Nat), v.ownBlock = some b → FootR rs[i].u rs[i].xs b → False
  apart : ∀ i j (hi : i < rs.length) (hj : j < rs.length) (b : Nat), i ≠ j → FootR rs[i].u rs[i].xs b → FootR rs[j].u rs[j].xs b → False
def FootM (rs : List Rv) (b : Nat) : Prop := ∃ i, ∃ (h : i < rs.length), FootR rs[i].u rs[i].xs b
theorem OwnM.low {lo : Nat} {w : World} {v : Value} {rs : List Rv} (h : OwnM lo w v rs) {b : Nat} (hb : FootM rs b) : lo ≤ b ∧ b < w.heap.size := by
  obtain ⟨i, hi, hf⟩ := hb
  exact (h.each i hi).low hf
theorem OwnM.touched {lo : Nat} {w w' : World} {v : Value} {rs : List Rv} {S : Nat → Prop} (h : OwnM lo w v rs) (ht : Touched S w w') (hv : ∀ b, v.ownBlock = some b → ¬ S b) (hs : ∀ b, FootM rs b → ¬ S b) : OwnM lo w' v rs :=
  ⟨ownsRow_touched h.row fun b hb hl => ht.block b hl (hv b hb), fun i hi => (h.each i hi).touched ht fun b hb => hs b ⟨i, hi, hb⟩, h.head, h.apart⟩
theorem OwnM.below {lo : Nat} {w w' : World} {v : Value} {rs : List Rv} (h : OwnM lo w v rs) (hb : Below w.heap.size w w') : OwnM lo w' v rs :=
  h.touched (S := fun _ => False) (.of_below hb) (fun _ _ => id) (fun _ _ => id)
theorem OwnM.mono {lo lo2 : Nat} {w : World} {v : Value} {rs : List Rv} (h : OwnM lo w v rs) (hl : lo2 ≤ lo) : OwnM lo2 w v rs :=
  ⟨ownsRow_base h.row hl, fun i hi => (h.each i hi).mono hl, h.head, h.apart⟩
theorem OwnM.put {lo B n c : Nat} {w w2 : World} {rs : List Rv} {r : Rv} {k : Nat} (h : OwnM lo w (.slice (some ⟨B, 0, none⟩) n c) rs) (hb : Below w.heap.size w w2) (hr : OwnR w.heap.size w2 r.u r.xs) (hlo : lo ≤ w.heap.size) :
    OwnM lo (w2.setCell ⟨B, k, none⟩ r.u) (.slice (some ⟨B, 0, none⟩) n c) (rs.set k r) := by
  have hBl : B < w.heap.size := (ownsRow_lt h.row B rfl).2
  have hnew : ∀ b, FootR r.u r.xs b → w.heap.size ≤ b := fun b e => (hr.low e).1
  have hold : ∀ i (hi : i < rs.length) b, FootR rs[i].u rs[i].xs b → b < w.heap.size := fun i hi b e => ((h.each i hi).low e).2
  have hn : rs.length = n := by
    rcases h.row.2 with ⟨e, _⟩ | ⟨g, cap, cur, e, _⟩
    · cases e
    · simp only [Value.slice.injEq] at e; exact e.2.1.symm
  subst hn
  have hT : Touched (fun b => b = B) w2 (w2.setCell ⟨B, k, none⟩ r.u) := (Touched.refl _ w2).grown ((h.below hb).row.stored k r.u).2 (fun b e => by simpa [Value.ownBlock] using e.symm)
  refine ⟨?_, fun i hi => ?_, fun i hi b hb1 hb2 => ?_, fun i j hi hj b hne h1 h2 => ?_⟩
  · rw [List.length_set, List.map_set]
    exact ((h.below hb).row.stored k _).1
  · rw [List.length_set] at hi
    rw [List.getElem_set]
    split
    · exact (hr.mono hlo).touched hT fun b e => by have := hnew b e; show ¬ b = B; omega
    · exact ((h.each i hi).below hb).touched hT fun b e => fun e2 => h.head i hi b (by rw [e2]; rfl) e
  · rw [List.length_set] at hi
    rw [List.getElem_set] at hb2
    split at hb2
    · have := hnew b hb2
      simp only [Value.ownBlock, Option.some.injEq] at hb1
      omega
    · exact h.head i hi b hb1 hb2
  · rw [List.length_set] at hi hj
    rw [List.getElem_set] at h1 h2
    split at h1
    · split at h2
      · omega
      · have := hnew b h1; have := hold j hj b h2; omega
    · split at h2
      · have := hnew b h2; have := hold i hi b h1; omega
      · exact h.apart i j hi hj b hne h1 h2
/-- What a list of rows with their slices is. -/
def rowsOf (rs : List Rv) : List (List Pl) := rs.map fun r => r.xs.map (·.p)
theorem OwnM.isPSS {lo : Nat} {w : World} {v : Value} {rs : List Rv} {rows : List (List Pl)} (h : OwnM lo w v rs) (hp : rowsOf rs = rows) (hl : ∀ r ∈ rows, ∀ p ∈ r, -9223372036854775808 ≤ p.low ∧ p.low ≤ 9223372036854775807) (hw : ∀ r ∈ rows, ∀ p ∈ r, ∀ z ∈ p.cs, -9223372036854775808 ≤ z ∧ z ≤ 9223372036854775807) (hn : rows.length ≤ maxLen) (hm : ∀ r ∈ rows, r.length ≤ maxLen) : ∃ a cap, v = .slice a rows.length cap ∧ IsPSS w a rows.length rows := by
  subst hp
  have hlen : (rowsOf rs).length = rs.length := List.length_map _
  rw [hlen] at hn ⊢
  rcases h.row.2 with ⟨rfl, h0⟩ | ⟨g, cap, cur, rfl, hb, hg, h3⟩
  · exact ⟨none, 0, by rw [h0], hlen, hn, fun hp => absurd hp (by omega)⟩
  · refine ⟨_, cap, rfl, hlen, hn, fun _ => ⟨_, rfl, (Array.getElem?_eq_some_iff.1 hg).1, fun i hi => ?_⟩⟩
    rw [hlen] at hi
    have e : (rowsOf rs)[i]'(by rw [hlen]; exact hi) = rs[i].xs.map (·.p) := List.getElem_map _
    have hmem : (rowsOf rs)[i]'(by rw [hlen]; exact hi) ∈ rowsOf rs := List.getElem_mem _
    rw [e] at hmem ⊢
    have hm2 := hm _ hmem
    rw [List.length_map] at hm2
    obtain ⟨ai, ci, e2, h5⟩ := (h.each i hi).isPS rfl (hl _ hmem) (hw _ hmem) hm2
    refine ⟨ai, ci, ?_, h5⟩
    rw [← e2]
    exact h.row.cells rfl i _ (by rw [List.getElem?_map, List.getElem?_eq_getElem hi]; rfl)

end Go.Proofs.Ytbbkpaledlbcmaa

/- The laws' 'szPolyS' and 'szPolySS'. -/

namespace Go.Proofs.Ytbbkpaledlbcmaa
open Go.RowKit

/-- As many coefficients as a list of polynomials has. -/
def csum (ps : List Pl) : Nat := (ps.map fun p => p.cs.length).sum
theorem csum_succ (ps : List Pl) (k : Nat) (h : k < ps.length) : csum (ps.take (k + 1)) = csum (ps.take k) + ps[k].cs.length := by
  unfold csum; rw [List.take_succ_eq_append_getElem h, List.map_append, List.sum_append]; simp
theorem csum_take_le : ∀ (ps : List Pl) (k : Nat), csum (ps.take k) ≤ csum ps
  | [], k => by simp [csum]
  | r :: rs, 0 => by simp [csum]
  | r :: rs, k + 1 => by have := csum_take_le rs k; unfold csum at *; simp only [List.take_succ_cons, List.map_cons, List.sum_cons]; omega
theorem csum_get (ps : List Pl) (k : Nat) (h : k < ps.length) : csum (ps.take k) + ps[k].cs.length ≤ csum ps := by
  rw [← csum_succ ps k h]; exact csum_take_le ps (k + 1)
/-- Polynomials and coefficients. -/
def totR (ps : List Pl) : Nat := ps.length + csum ps
def totM (rows : List (List Pl)) : Nat := (rows.map totR).sum
theorem totM_succ (rows : List (List Pl)) (k : Nat) (h : k < rows.length) : totM (rows.take (k + 1)) = totM (rows.take k) + totR rows[k] := by
  unfold totM; rw [List.take_succ_eq_append_getElem h, List.map_append, List.sum_append]; simp
theorem totM_take_le : ∀ (rows : List (List Pl)) (k : Nat), totM (rows.take k) ≤ totM rows
  | [], k => by simp [totM]
  | r :: rs, 0 => by simp [totM]
  | r :: rs, k + 1 => by have := totM_take_le rs k; unfold totM at *; simp only [List.take_succ_cons, List.map_cons, List.sum_cons]; omega
theorem totM_get (rows : List (List Pl)) (k : Nat) (h : k < rows.length) : totM (rows.take k) + totR rows[k] ≤ totM rows := by
  rw [← totM_succ rows k h]; exact totM_take_le rows (k + 1)

set_option maxRecDepth 100000 in
set_option maxHeartbeats 1000000 in
theorem szPolyS_any (a : Option Addr) (cap n left : Nat) (ps : List Pl) (w : World) (hs : IsPS w a n ps) (hl : left ≤ 1048576) :
    Calls Try.prog 128 #[.slice a n cap, .int .i64 left] w fun e w' =>
      (∃ k : Int, e = .returned (.int .i64 k) ∧ (k < 0 ∨ (0 ≤ k ∧ k + totR ps ≤ left))) ∧ Below w.heap.size w w' := by
  have hm := hs.max
  have HN := Lib.hid hs.len
  have HS := Lib.hid hs
  clear hs
  unfold maxLen at hm
  by_cases h0 : left < n
  · go_enter Try.func128, Try.ntmps128
    go_wp2
    go_ret
    exact ⟨⟨-1, rfl, .inl (by omega)⟩, Below.refl _ _⟩
  · go_enter Try.func128, Try.ntmps128
    go_wp2
    go_loopw [1, 5] (fun q i wr => ∃ (k m : Nat), k ≤ n ∧ q = .int .i64 m ∧ i = .int .i64 k ∧ m + n + csum (ps.take k) ≤ left ∧ Below w.heap.size w wr) (fun _ i _ => n - (intOf i).toNat)
    case atStart => exact ⟨0, left - n, Nat.zero_le _, by go_num, rfl, by simp [csum]; omega, Below.refl _ _⟩
    case round =>
      obtain ⟨k, m, hk, rfl, rfl, hm1, hB⟩ := hrel
      by_cases hlt : k < n
      · have hkz : k < ps.length := by rw [HN.out]; exact hlt
        obtain ⟨x, rfl, hxb, hx⟩ := HS.out.at_ (by omega)
        obtain ⟨ai, ci, hc0, hc1, hI, _⟩ := hx k hkz
        have hd0 := (hB.cell (p := x.add (k * 2)) (by rw [addr_add_block]; exact hxb)).trans hc0
        have hd1 := (hB.cell (p := x.add (k * 2 + 1)) (by rw [addr_add_block]; exact hxb)).trans hc1
        rw [addr_next2] at hd1
        have hsucc := csum_succ ps k hkz
        have him := hI.max
        obtain ⟨p, hp⟩ : ∃ p, ps[k] = p := ⟨_, rfl⟩
        rw [hp] at hsucc hd0 hd1 him
        obtain ⟨r, hr⟩ : ∃ r, p.cs.length = r := ⟨_, rfl⟩
        rw [hr] at hsucc hd1 him
        obtain ⟨t0, ht0⟩ : ∃ t, csum (ps.take k) = t := ⟨_, rfl⟩
        rw [ht0] at hm1 hsucc
        have HT := Lib.hid hsucc
        clear hx hc0 hc1 hI hsucc hr ht0 hp
        go_wp2_with fail
        refine (szPoly_any p.low ai ci r m _ him (by omega)).mono ?_
        rintro e w2 ⟨⟨q, rfl, hq⟩, hb2⟩
        by_cases h2 : q < 0
        · clear hq
          go_wp2
          go_ret
          exact ⟨⟨_, rfl, .inl (by omega)⟩, hB.trans (hb2.mono hB.size)⟩
        · obtain ⟨y, rfl, hp⟩ : ∃ y : Nat, q = (y : Int) ∧ y + r ≤ m := by
            rcases hq with h | ⟨h3, h4⟩
            · omega
            · exact ⟨q.toNat, by omega, by omega⟩
          clear hq
          go_wp2
          go_roundw
          case rel => exact ⟨k + 1, y, by omega, rfl, by go_num, by rw [HT.out]; omega, hB.trans (hb2.mono hB.size)⟩
          case measure => simp [intOf]; omega
      · obtain rfl : k = n := by omega
        have ht : ps.take k = ps := List.take_of_length_le (by rw [HN.out]; exact Nat.le_refl _)
        rw [ht] at hm1
        go_wp2
        go_ret
        exact ⟨⟨_, rfl, .inr ⟨by omega, by unfold totR; rw [HN.out]; omega⟩⟩, hB⟩

set_option maxRecDepth 100000 in
set_option maxHeartbeats 1000000 in
theorem szPolySS_any (a : Option Addr) (cap n left : Nat) (rows : List (List Pl)) (w : World) (hs : IsPSS w a n rows) (hl : left ≤ 1048576) :
    Calls Try.prog 57 #[.slice a n cap, .int .i64 left] w fun e w' =>
      (∃ k : Int, e = .returned (.int .i64 k) ∧ (k < 0 ∨ (0 ≤ k ∧ k + n + totM rows ≤ left))) ∧ Below w.heap.size w w' := by
  have hm := hs.max
  have HN := Lib.hid hs.len
  have HS := Lib.hid hs
  clear hs
  unfold maxLen at hm
  by_cases h0 : left < n
  · go_enter Try.func57, Try.ntmps57
    go_wp2
    go_ret
    exact ⟨⟨-1, rfl, .inl (by omega)⟩, Below.refl _ _⟩
  · go_enter Try.func57, Try.ntmps57
    go_wp2
    go_loopw [1, 5] (fun q i wr => ∃ (k m : Nat), k ≤ n ∧ q = .int .i64 m ∧ i = .int .i64 k ∧ m + n + totM (rows.take k) ≤ left ∧ Below w.heap.size w wr) (fun _ i _ => n - (intOf i).toNat)
    case atStart => exact ⟨0, left - n, Nat.zero_le _, by go_num, rfl, by simp [totM]; omega, Below.refl _ _⟩
    case round =>
      obtain ⟨k, m, hk, rfl, rfl, hm1, hB⟩ := hrel
      by_cases hlt : k < n
      · have hkz : k < rows.length := by rw [HN.out]; exact hlt
        obtain ⟨x, rfl, hxb, hx⟩ := HS.out.at_ (by omega)
        obtain ⟨ai, ci, hc, hI⟩ := hx k hkz
        have hc0 := (hB.cell (p := x.add k) (by rw [addr_add_block]; exact hxb)).trans hc
        have HI := Lib.hid (hI.below hB)
        have hsucc := totM_succ rows k hkz
        obtain ⟨y, hy⟩ : ∃ y, totR rows[k] = y := ⟨_, rfl⟩
        obtain ⟨r, hr⟩ : ∃ r, rows[k].length = r := ⟨_, rfl⟩
        rw [hr] at hc0 HI
        rw [hy] at hsucc
        obtain ⟨t0, ht0⟩ : ∃ t, totM (rows.take k) = t := ⟨_, rfl⟩
        rw [ht0] at hm1 hsucc
        have HT := Lib.hid hsucc
        have HY := Lib.hid hy
        clear hx hc hI hsucc hr ht0 hy
        go_wp2_with fail
        refine (szPolyS_any ai ci r m _ _ HI.out (by omega)).mono ?_
        rintro e w2 ⟨⟨q, rfl, hq⟩, hb2⟩
        rw [HY.out] at hq
        by_cases h2 : q < 0
        · clear hq
          go_wp2
          go_ret
          exact ⟨⟨_, rfl, .inl (by omega)⟩, hB.trans (hb2.mono hB.size)⟩
        · obtain ⟨p, rfl, hp⟩ : ∃ p : Nat, q = (p : Int) ∧ p + y ≤ m := by
            rcases hq with h | ⟨h3, h4⟩
            · omega
            · exact ⟨q.toNat, by omega, by omega⟩
          clear hq
          go_wp2
          go_roundw
          case rel => exact ⟨k + 1, p, by omega, rfl, by go_num, by rw [HT.out]; omega, hB.trans (hb2.mono hB.size)⟩
          case measure => simp [intOf]; omega
      · obtain rfl : k = n := by omega
        have ht : rows.take k = rows := List.take_of_length_le (by rw [HN.out]; exact Nat.le_refl _)
        rw [ht] at hm1
        go_wp2
        go_ret
        exact ⟨⟨_, rfl, .inr ⟨by omega, by omega⟩⟩, hB⟩

end Go.Proofs.Ytbbkpaledlbcmaa

/- The laws' 'toPolyS' and 'toPolySS'. -/

namespace Go.Proofs.Ytbbkpaledlbcmaa
open Go.RowKit

def zeroPv : Pv := ⟨⟨0, []⟩, .slice none 0 0⟩
def zeroRv : Rv := ⟨.slice none 0 0, []⟩
theorem made_polys (n : Nat) : (madeCells (Value.cells (.agg #[.int .i64 0, .slice none 0 0])) (n * 2)).toList = cellsP (List.replicate n zeroPv) := by
  rw [show Value.cells (.agg #[.int .i64 0, .slice none 0 0]) = #[.int .i64 0, .slice none 0 0] from rfl]
  apply List.ext_getElem?
  intro j
  by_cases hj : j < n * 2
  · have hi : j / 2 < n := by omega
    have hg := cellsP_get (List.replicate n zeroPv) (j / 2) (by simpa using hi)
    rw [List.getElem_replicate] at hg
    have hm : (madeCells #[.int .i64 0, .slice none 0 0] (n * 2)).toList[j]? = some ((#[Value.int .i64 0, .slice none 0 0] : Array Value)[j % 2]?.getD default) := by
      simp [madeCells, hj]
    rcases Nat.mod_two_eq_zero_or_one j with h | h
    · rw [hm, h, show j = j / 2 * 2 by omega, hg.1]; rfl
    · rw [hm, h, show j = j / 2 * 2 + 1 by omega, hg.2]; rfl
  · rw [List.getElem?_eq_none (l := (madeCells #[.int .i64 0, .slice none 0 0] (n * 2)).toList) (by simp [madeCells]; omega), List.getElem?_eq_none (by rw [cellsP_len, List.length_replicate]; omega)]
theorem IntRow.nothing (lo : Nat) (w : World) : IntRow lo w (.slice none 0 0) [] := ⟨rfl, .inl ⟨rfl, rfl⟩⟩
theorem OwnR.zeros {lo : Nat} {w : World} {u : Value} {n : Nat} (h : w.ownsRow lo PO 2 u n (cellsP (List.replicate n zeroPv))) : OwnR lo w u (List.replicate n zeroPv) :=
  ⟨by rw [List.length_replicate]; exact h, fun i hi => by rw [List.getElem_replicate]; exact IntRow.nothing lo w, fun i hi b _ h2 => (by rw [List.getElem_replicate] at h2; cases h2), fun i j hi hj b _ h2 _ => by rw [List.getElem_replicate] at h2; cases h2⟩
theorem OwnR.nothing (lo : Nat) (w : World) : OwnR lo w (.slice none 0 0) [] := ⟨⟨rfl, .inl ⟨rfl, rfl⟩⟩, fun i hi => by simp at hi, fun i hi => by simp at hi, fun i j hi => by simp at hi⟩
theorem FootR.nothing {b : Nat} (h : FootR (.slice none 0 0) [] b) : False := by
  rcases h with h | ⟨i, hi, _⟩
  · cases h
  · simp at hi
theorem OwnM.zeros {lo : Nat} {w : World} {v : Value} {n : Nat} (h : w.ownsRow lo PR 1 v n (List.replicate n (.slice none 0 0))) : OwnM lo w v (List.replicate n zeroRv) :=
  ⟨by rw [List.length_replicate, List.map_replicate]; exact h, fun i hi => by rw [List.getElem_replicate]; exact OwnR.nothing lo w, fun i hi b _ h2 => (by rw [List.getElem_replicate] at h2; exact h2.nothing), fun i j hi hj b _ h2 _ => by rw [List.getElem_replicate] at h2; exact h2.nothing⟩
theorem map_take_set {α β : Type} (f : α → β) (xs : List α) (k : Nat) (x : α) (ps : List β) (h : (xs.map f).take k = ps.take k) (hk : k < ps.length) (hl : xs.length = ps.length) (hx : f x = ps[k]) : ((xs.set k x).map f).take (k + 1) = ps.take (k + 1) := by
  rw [List.map_set, List.take_succ_eq_append_getElem hk, List.take_succ_eq_append_getElem (by simp; omega), ← h, List.getElem_set_self, hx, List.take_set_of_le (Nat.le_refl _)]

set_option maxRecDepth 100000 in
set_option maxHeartbeats 2000000 in
theorem toPolyS_any (a : Option Addr) (cap n : Nat) (ps : List Pl) (w : World) (hs : IsPS w a n ps) (hm : totR ps ≤ 1048576) :
    Calls Try.prog 129 #[.slice a n cap] w fun e w' =>
      ∃ v xs, e = .returned v ∧ xs.map (·.p) = ps ∧ OwnR w.heap.size w' v xs ∧ Below w.heap.size w w' := by
  obtain ⟨i0, hi, hz0, hz1, hz2⟩ := info_parts infoPoly
  have HN := Lib.hid hs.len
  have HS := Lib.hid hs
  have hn : n ≤ 1048576 := by unfold totR at hm; rw [hs.len] at hm; omega
  have HM : Hid (csum ps ≤ 1048576) := Lib.hid (by unfold totR at hm; omega)
  clear hs hm
  go_enter Try.func129, Try.ntmps129
  go_wp2_with (at_make; refine wpList_make_full _ rfl _ _ PR rfl w.heap.size PO i0 (.agg #[.int .i64 0, .slice none 0 0]) 2 Try.underlying28 hi hz0 hz1 .i64 .i64 _ _ n rfl rfl rfl rfl (by rw [hz2]; omega) (by unfold maxLen; omega) (Nat.le_refl _) ?_; intro w1 hrow hgrow)
  rw [made_polys n] at hrow
  have hB1 : Below w.heap.size w w1 := (Below.refl _ _).grown hgrow (Nat.le_refl _) (fun k e => by cases e)
  have HR1 : Hid (OwnR w.heap.size w1 (.slice (some ⟨w.heap.size, 0, none⟩) n n) (List.replicate n zeroPv)) := Lib.hid (OwnR.zeros hrow)
  clear hrow hgrow
  go_loopw [4] (fun i wr => ∃ (k : Nat) (xs : List Pv), k ≤ n ∧ i = .int .i64 k ∧ Hid (xs.length = n) ∧ Hid ((xs.map (·.p)).take k = ps.take k) ∧ Hid (OwnR w.heap.size wr (.slice (some ⟨w.heap.size, 0, none⟩) n n) xs) ∧ Below w.heap.size w wr) (fun i _ => n - (intOf i).toNat)
  case atStart => exact ⟨0, _, Nat.zero_le _, rfl, Lib.hid List.length_replicate, Lib.hid rfl, HR1, hB1⟩
  case round =>
    obtain ⟨k, xs, hk, rfl, HL, HT, HR, hB⟩ := hrel
    by_cases hlt : k < n
    · have hkz : k < ps.length := by rw [HN.out]; exact hlt
      obtain ⟨x, rfl, hxb, hx⟩ := HS.out.at_ (by omega)
      obtain ⟨ai, ci, hc0, hc1, hI, _⟩ := hx k hkz
      have hd0 := (hB.cell (p := x.add (k * 2)) (by rw [addr_add_block]; exact hxb)).trans hc0
      have hd1 := (hB.cell (p := x.add (k * 2 + 1)) (by rw [addr_add_block]; exact hxb)).trans hc1
      rw [addr_next2] at hd1
      have hcs : ps[k].cs.length ≤ 1048576 := by have := csum_get ps k hkz; have := HM.out; omega
      have HI := Lib.hid (hI.below hB)
      obtain ⟨p, hp⟩ : ∃ p, ps[k] = p := ⟨_, rfl⟩
      rw [hp] at hd0 hd1 HI hcs
      obtain ⟨r, hr⟩ : ∃ r, p.cs.length = r := ⟨_, rfl⟩
      rw [hr] at hd1 HI hcs
      have HP := Lib.hid hp
      clear hx hc0 hc1 hI hr hp
      go_wp2_with fail
      refine (toPoly_any p.low ai ci r p.cs _ hcs HI.out).mono ?_
      rintro e w2 ⟨⟨g, rfl, hg, hrow⟩, hb2⟩
      have hr2 := (HR.out.below hb2).row
      rw [HL.out] at hr2
      have hl := hr2.1
      have hdd0 : ∃ u, w2.cell? ⟨w.heap.size, k * 2, none⟩ = some u := by rw [hr2.cellAt _ (by omega)]; exact ⟨_, List.getElem?_eq_getElem (by omega)⟩
      have hdd1 : ∃ u, w2.cell? ⟨w.heap.size, k * 2 + 1, none⟩ = some u := by rw [hr2.cellAt _ (by omega)]; exact ⟨_, List.getElem?_eq_getElem (by omega)⟩
      obtain ⟨u0, hu0⟩ := hdd0
      obtain ⟨u1, hu1⟩ := hdd1
      have hf0 := hr2.frozenAt (k * 2)
      have hf1 := hr2.frozenAt (k * 2 + 1)
      have HR2 := Lib.hid (HR.out.put (p := p) (by rw [HL.out]; exact hlt) hb2 hrow hB.size)
      have HB2 := Lib.hid (hB.trans (hb2.mono hB.size))
      clear hl hr2 hrow hg hb2
      go_wp2
      go_roundw
      case rel =>
        exact ⟨k + 1, _, by omega, by go_num, Lib.hid (by rw [List.length_set]; exact HL.out), Lib.hid (map_take_set _ xs k _ ps HT.out hkz (by rw [HL.out, HN.out]) (HP.out.symm)), HR2, (HB2.out.setCell (p := ⟨w.heap.size, k * 2, none⟩) (Nat.le_refl _) _).setCell (p := ⟨w.heap.size, k * 2 + 1, none⟩) (Nat.le_refl _) _⟩
      case measure => simp [intOf]; omega
    · obtain rfl : k = n := by omega
      go_wp2
      go_ret
      have ht := HT.out
      rw [List.take_of_length_le (by rw [List.length_map, HL.out]; exact Nat.le_refl _), List.take_of_length_le (by rw [HN.out]; exact Nat.le_refl _)] at ht
      exact ⟨_, xs, rfl, ht, HR.out, hB⟩

set_option maxRecDepth 100000 in
set_option maxHeartbeats 2000000 in
theorem toPolySS_any (a : Option Addr) (cap n : Nat) (rows : List (List Pl)) (w : World) (hs : IsPSS w a n rows) (hm : n + totM rows ≤ 1048576) :
    Calls Try.prog 58 #[.slice a n cap] w fun e w' =>
      ∃ v rs, e = .returned v ∧ rowsOf rs = rows ∧ OwnM w.heap.size w' v rs ∧ Below w.heap.size w w' := by
  obtain ⟨i0, hi, hz0, hz1, hz2⟩ := info_parts infoPolyS
  have HN := Lib.hid hs.len
  have HS := Lib.hid hs
  have hn : n ≤ 1048576 := by omega
  have HM : Hid (totM rows ≤ 1048576) := Lib.hid (by omega)
  clear hs hm
  go_enter Try.func58, Try.ntmps58
  go_wp2_with (at_make; refine wpList_make_full _ rfl _ _ 23 rfl w.heap.size PR i0 (.slice none 0 0) 1 Try.underlying23 hi hz0 hz1 .i64 .i64 _ _ n rfl rfl rfl rfl (by rw [hz2]; omega) (by unfold maxLen; omega) (Nat.le_refl _) ?_; intro w1 hrow hgrow)
  rw [show Value.cells (.slice none 0 0) = #[.slice none 0 0] from rfl, toList_madeCells_one, Nat.mul_one] at hrow
  have hB1 : Below w.heap.size w w1 := (Below.refl _ _).grown hgrow (Nat.le_refl _) (fun k e => by cases e)
  have HR1 : Hid (OwnM w.heap.size w1 (.slice (some ⟨w.heap.size, 0, none⟩) n n) (List.replicate n zeroRv)) := Lib.hid (OwnM.zeros hrow)
  clear hrow hgrow
  go_loopw [4] (fun i wr => ∃ (k : Nat) (rs : List Rv), k ≤ n ∧ i = .int .i64 k ∧ Hid (rs.length = n) ∧ Hid ((rowsOf rs).take k = rows.take k) ∧ Hid (OwnM w.heap.size wr (.slice (some ⟨w.heap.size, 0, none⟩) n n) rs) ∧ Below w.heap.size w wr) (fun i _ => n - (intOf i).toNat)
  case atStart => exact ⟨0, _, Nat.zero_le _, rfl, Lib.hid List.length_replicate, Lib.hid rfl, HR1, hB1⟩
  case round =>
    obtain ⟨k, rs, hk, rfl, HL, HT, HR, hB⟩ := hrel
    by_cases hlt : k < n
    · have hkz : k < rows.length := by rw [HN.out]; exact hlt
      obtain ⟨x, rfl, hxb, hx⟩ := HS.out.at_ (by omega)
      obtain ⟨ai, ci, hc, hI⟩ := hx k hkz
      have hd0 := (hB.cell (p := x.add k) (by rw [addr_add_block]; exact hxb)).trans hc
      have hcs : totR rows[k] ≤ 1048576 := by have := totM_get rows k hkz; have := HM.out; omega
      have HI := Lib.hid (hI.below hB)
      obtain ⟨ps, hp⟩ : ∃ ps, rows[k] = ps := ⟨_, rfl⟩
      rw [hp] at hd0 HI hcs
      obtain ⟨r, hr⟩ : ∃ r, ps.length = r := ⟨_, rfl⟩
      rw [hr] at hd0 HI
      have HP := Lib.hid hp
      clear hx hc hI hr hp
      go_wp2_with fail
      refine (toPolyS_any ai ci r ps _ HI.out hcs).mono ?_
      rintro e w2 ⟨u, ys, rfl, hys, hrow, hb2⟩
      obtain ⟨au, lu, cu, rfl⟩ : ∃ a n c, u = .slice a n c := by
        rcases hrow.row.2 with ⟨rfl, _⟩ | ⟨g, cap, cur, rfl, _⟩
        · exact ⟨_, _, _, rfl⟩
        · exact ⟨_, _, _, rfl⟩
      have hr2 := (HR.out.below hb2).row
      rw [HL.out] at hr2
      have hl := hr2.1
      have hdd0 : ∃ u, w2.cell? ⟨w.heap.size, k, none⟩ = some u := by rw [hr2.cellAt _ (by omega)]; exact ⟨_, List.getElem?_eq_getElem (by omega)⟩
      obtain ⟨u0, hu0⟩ := hdd0
      have hf0 := hr2.frozenAt k
      have HR2 := Lib.hid (HR.out.put (k := k) (r := ⟨.slice au lu cu, ys⟩) hb2 hrow hB.size)
      have HB2 := Lib.hid (hB.trans (hb2.mono hB.size))
      have HY := Lib.hid hys
      clear hl hr2 hrow hb2 hys
      go_wp2
      go_roundw
      case rel =>
        exact ⟨k + 1, _, by omega, by go_num, Lib.hid (by rw [List.length_set]; exact HL.out), Lib.hid (map_take_set _ rs k _ rows HT.out hkz (by rw [HL.out, HN.out]) (by rw [HP.out]; exact HY.out)), HR2, HB2.out.setCell (p := ⟨w.heap.size, k, none⟩) (Nat.le_refl _) _⟩
      case measure => simp [intOf]; omega
    · obtain rfl : k = n := by omega
      go_wp2
      go_ret
      have ht := HT.out
      rw [List.take_of_length_le (by unfold rowsOf; rw [List.length_map, HL.out]; exact Nat.le_refl _), List.take_of_length_le (by rw [HN.out]; exact Nat.le_refl _)] at ht
      exact ⟨_, rs, rfl, ht, HR.out, hB⟩

end Go.Proofs.Ytbbkpaledlbcmaa

/- The model's l6pSame. -/

namespace Go.Proofs.Ytbbkpaledlbcmaa
open Go.RowKit

theorem twoCells {w w1 W : World} {x y u v : Value} (hW : (w.alloc (.cells #[x, y] 35)).alloc (.cells #[u, v] 35) = W) (hg : Below W.heap.size W w1) :
    w1.cell? ⟨w.heap.size, 0, none⟩ = some x ∧ w1.cell? ⟨w.heap.size, 1, none⟩ = some y ∧ w1.cell? ⟨w.heap.size + 1, 0, none⟩ = some u ∧ w1.cell? ⟨w.heap.size + 1, 1, none⟩ = some v := by
  have hsz : W.heap.size = w.heap.size + 2 := by rw [← hW]; simp
  obtain ⟨c0, c1⟩ := boxCells (w := w) (w1 := w1) (r := w.heap.size) (x := x) (y := y) rfl (Below.trans ((Below.refl _ _).alloc (by simp) (.cells #[u, v] 35)) (by rw [hW]; exact hg.mono (by omega)))
  obtain ⟨d0, d1⟩ := boxCells (w := w.alloc (.cells #[x, y] 35)) (w1 := w1) (r := w.heap.size + 1) (x := u) (y := v) (by simp) (by rw [hW, show w.heap.size + 1 + 1 = W.heap.size by omega]; exact hg)
  exact ⟨c0, c1, d0, d1⟩
theorem eq_getD {x y : List Int} (hl : x.length = y.length) (h : ∀ i, i < x.length → x.getD i 0 = y.getD i 0) : x = y := by
  refine List.ext_getElem hl fun i h1 h2 => ?_
  have e := h i h1
  simpa [List.getD_eq_getElem?_getD, List.getElem?_eq_getElem h1, List.getElem?_eq_getElem h2] using e

end Go.Proofs.Ytbbkpaledlbcmaa

/- The laws' 'eqIntS' and 'eqPoly' at ints that lie anywhere; 'eqPolyS' and 'eqPolySS'. -/

namespace Go.Proofs.Ytbbkpaledlbcmaa
open Go.RowKit

set_option maxHeartbeats 1000000 in
theorem eqIntSI_yes (a1 a2 : Option Addr) (c1 c2 n : Nat) (zs : List Int) (w : World) (h1 : Ints w a1 n zs) (h2 : Ints w a2 n zs) :
    Calls Try.prog 54 #[.slice a1 n c1, .slice a2 n c2] w fun e w' => e = .returned (.bool true) ∧ Below w.heap.size w w' := by
  have hm := h1.max
  unfold maxLen at hm
  have H1 := Lib.hid h1
  have H2 := Lib.hid h2
  clear h1 h2
  go_enter Try.func54, Try.ntmps54
  go_wp2
  go_loopw [5] (fun i wr => ∃ k : Nat, k ≤ n ∧ i = .int .i64 k ∧ Below w.heap.size w wr) (fun i _ => n - (intOf i).toNat)
  case atStart => exact ⟨0, Nat.zero_le _, rfl, Below.refl _ _⟩
  case round =>
    obtain ⟨k, hk, rfl, hB⟩ := hrel
    by_cases hlt : k < n
    · obtain ⟨z1, rfl, hb1, hc1⟩ := (H1.out.below hB).at_ (by omega)
      obtain ⟨z2, rfl, hb2, hc2⟩ := (H2.out.below hB).at_ (by omega)
      have hkz : k < zs.length := by rw [H1.out.len]; exact hlt
      obtain ⟨z, hz⟩ : ∃ z, zs[k] = z := ⟨_, rfl⟩
      have d1 := hc1 k hkz
      have d2 := hc2 k hkz
      rw [hz] at d1 d2
      clear hz hkz hc1 hc2
      go_wp2
      go_quiet (fail)
      go_wp2
      go_roundw
      case rel => exact ⟨k + 1, by omega, by go_num, below_drewN hB _⟩
      case measure => simp [intOf]; omega
    · go_wp2
      go_ret
      exact ⟨rfl, hB⟩

set_option maxRecDepth 100000 in
set_option maxHeartbeats 1000000 in
theorem eqPolyI_yes {W : World} {a a2 : Option Addr} {n c c2 : Nat} {l : Int} {zs : List Int} (h : Ints W a n zs) (h2 : Ints W a2 n zs) :
    Calls Try.prog 62 #[plV l (.slice a n c), plV l (.slice a2 n c2)] W fun e w' => e = .returned (.bool true) ∧ Below W.heap.size W w' := by
  obtain ⟨V, hV⟩ : ∃ V, (W.alloc (.cells #[.int .i64 l, .slice a n c] 35)).alloc (.cells #[.int .i64 l, .slice a2 n c2] 35) = V := ⟨_, rfl⟩
  have hbV : Below W.heap.size W V := by rw [← hV]; exact ((Below.refl _ W).alloc (Nat.le_refl _) _).alloc (by simp) _
  have hC := twoCells hV (Below.refl _ _)
  rw [← hV] at hC
  obtain ⟨q0, q1, q2, q3⟩ := hC
  have HS := Lib.hid (eqIntSI_yes a a2 c c2 n zs V (h.below hbV) (h2.below hbV))
  have HB := Lib.hid hbV
  have HV := Lib.hid hV
  clear hV hbV h h2
  go_enter Try.func62, Try.ntmps62
  go_wp2_with fail
  rw [HV.out]
  refine HS.out.mono ?_
  rintro e w1 ⟨rfl, hb1⟩
  have HB1 := Lib.hid (HB.out.trans (hb1.mono HB.out.size))
  clear hb1 q0 q1 q2 q3
  go_wp2
  go_ret
  exact ⟨rfl, HB1.out⟩

set_option maxRecDepth 100000 in
set_option maxHeartbeats 2000000 in
theorem eqPolyS_yes (a b : Option Addr) (c d n : Nat) (ps : List Pl) (w : World) (h1 : IsPS w a n ps) (h2 : IsPS w b n ps) :
    Calls Try.prog 130 #[.slice a n c, .slice b n d] w fun e w' => e = .returned (.bool true) ∧ Below w.heap.size w w' := by
  have hm := h1.max
  have HN := Lib.hid h1.len
  have H1 := Lib.hid h1
  have H2 := Lib.hid h2
  have hmx : Try.prog.follows .mixedOrders = true := by kernel_rfl
  clear h1 h2
  unfold maxLen at hm
  go_enter Try.func130, Try.ntmps130
  go_wp2
  go_loopw [5] (fun i wr => ∃ k : Nat, k ≤ n ∧ i = .int .i64 k ∧ Below w.heap.size w wr) (fun i _ => n - (intOf i).toNat)
  case atStart => exact ⟨0, Nat.zero_le _, rfl, Below.refl _ _⟩
  case round =>
    obtain ⟨k, hk, rfl, hB⟩ := hrel
    by_cases hlt : k < n
    · have hkz : k < ps.length := by rw [HN.out]; exact hlt
      obtain ⟨x, rfl, hxb, hx⟩ := H1.out.at_ (by omega)
      obtain ⟨y, rfl, hyb, hy⟩ := H2.out.at_ (by omega)
      obtain ⟨ai, ci, hc0, hc1, hI, _⟩ := hx k hkz
      obtain ⟨bi, di, he0, he1, hJ, _⟩ := hy k hkz
      have hxB := Nat.lt_of_lt_of_le hxb hB.size
      have hyB := Nat.lt_of_lt_of_le hyb hB.size
      have hc2 := (hB.cell (p := x.add (k * 2)) (by rw [addr_add_block]; exact hxb)).trans hc0
      have hc3 := (hB.cell (p := x.add (k * 2 + 1)) (by rw [addr_add_block]; exact hxb)).trans hc1
      have he2 := (hB.cell (p := y.add (k * 2)) (by rw [addr_add_block]; exact hyb)).trans he0
      have he3 := (hB.cell (p := y.add (k * 2 + 1)) (by rw [addr_add_block]; exact hyb)).trans he1
      rw [addr_next2] at hc3 he3
      have v0 := BelowBy.cell (w := wr) (by rw [addr_add_block]; exact hxB) hc2
      have v1 := BelowBy.cell (w := wr) (by show (x.add (k * 2)).block < _; rw [addr_add_block]; exact hxB) hc3
      have v2 := BelowBy.cell (w := wr) (by rw [addr_add_block]; exact hyB) he2
      have v3 := BelowBy.cell (w := wr) (by show (y.add (k * 2)).block < _; rw [addr_add_block]; exact hyB) he3
      obtain ⟨p, hp⟩ : ∃ p, ps[k] = p := ⟨_, rfl⟩
      rw [hp] at hI hJ v0 v1 v2 v3
      obtain ⟨r, hr⟩ : ∃ r, p.cs.length = r := ⟨_, rfl⟩
      rw [hr] at hI hJ v1 v3
      have HT : Hid (∀ q : BelowBy wr, Calls Try.prog 62 #[plV p.low (.slice ai r ci), plV p.low (.slice bi r di)] q.world fun e w' => e = .returned (.bool true) ∧ Below q.world.heap.size q.world w') :=
        Lib.hid fun q => eqPolyI_yes ((hI.below hB).below q.below) ((hJ.below hB).below q.below)
      clear hx hy hc0 hc1 he0 he1 hc2 hc3 he2 he3 hI hJ hr hp
      go_wp2
      refine wp_region_below hmx (by kernel_rfl) ?_
      repeat (((with_reducible refine wpQuiet_step (fun K hK => ?_)); go_simp; first | ((with_reducible refine hK _ ?_); clear hK K) | (refine (if_neg (by decide)).mpr ?_; (with_reducible refine hK _ ?_); clear hK K) | (apply Exists.intro; (with_reducible refine ⟨fun _ => ?_, hK _ ?_⟩); (go_at_call 62; exact Calls.bel (HT.out _)); clear hK K)))
      with_reducible refine wpQuiet_nil ?_
      rintro _ ⟨⟨W, hW⟩, rfl⟩
      clear v0 v1 v2 v3
      go_wp2
      go_roundw
      case rel => exact ⟨k + 1, by omega, by go_num, hB.trans (hW.mono hB.size)⟩
      case measure => simp [intOf]; omega
    · go_wp2
      go_ret
      exact ⟨rfl, hB⟩

set_option maxRecDepth 100000 in
set_option maxHeartbeats 2000000 in
theorem eqPolySS_yes (a b : Option Addr) (c d n : Nat) (rows : List (List Pl)) (w : World) (h1 : IsPSS w a n rows) (h2 : IsPSS w b n rows) :
    Calls Try.prog 59 #[.slice a n c, .slice b n d] w fun e w' => e = .returned (.bool true) ∧ Below w.heap.size w w' := by
  have hm := h1.max
  have HN := Lib.hid h1.len
  have H1 := Lib.hid h1
  have H2 := Lib.hid h2
  have hmx : Try.prog.follows .mixedOrders = true := by kernel_rfl
  clear h1 h2
  unfold maxLen at hm
  go_enter Try.func59, Try.ntmps59
  go_wp2
  go_loopw [5] (fun i wr => ∃ k : Nat, k ≤ n ∧ i = .int .i64 k ∧ Below w.heap.size w wr) (fun i _ => n - (intOf i).toNat)
  case atStart => exact ⟨0, Nat.zero_le _, rfl, Below.refl _ _⟩
  case round =>
    obtain ⟨k, hk, rfl, hB⟩ := hrel
    by_cases hlt : k < n
    · have hkz : k < rows.length := by rw [HN.out]; exact hlt
      obtain ⟨x, rfl, hxb, hx⟩ := H1.out.at_ (by omega)
      obtain ⟨y, rfl, hyb, hy⟩ := H2.out.at_ (by omega)
      obtain ⟨ai, ci, hc, hI⟩ := hx k hkz
      obtain ⟨bi, di, he, hJ⟩ := hy k hkz
      have hc0 := (hB.cell (p := x.add k) (by rw [addr_add_block]; exact hxb)).trans hc
      have he0 := (hB.cell (p := y.add k) (by rw [addr_add_block]; exact hyb)).trans he
      have v0 := BelowBy.cell (w := wr) (by rw [addr_add_block]; exact Nat.lt_of_lt_of_le hxb hB.size) hc0
      have v1 := BelowBy.cell (w := wr) (by rw [addr_add_block]; exact Nat.lt_of_lt_of_le hyb hB.size) he0
      obtain ⟨r, hr⟩ : ∃ r, rows[k].length = r := ⟨_, rfl⟩
      rw [hr] at hI hJ v0 v1
      have HT : Hid (∀ p : BelowBy wr, Calls Try.prog 130 #[.slice ai r ci, .slice bi r di] p.world fun e w' => e = .returned (.bool true) ∧ Below p.world.heap.size p.world w') :=
        Lib.hid fun p => eqPolyS_yes _ _ _ _ _ _ _ ((hI.below hB).below p.below) ((hJ.below hB).below p.below)
      clear hx hy hc he hc0 he0 hI hJ hr
      go_wp2
      refine wp_region_below hmx (by kernel_rfl) ?_
      repeat (((with_reducible refine wpQuiet_step (fun K hK => ?_)); go_simp; first | ((with_reducible refine hK _ ?_); clear hK K) | (refine (if_neg (by decide)).mpr ?_; (with_reducible refine hK _ ?_); clear hK K) | (apply Exists.intro; (with_reducible refine ⟨fun _ => ?_, hK _ ?_⟩); (go_at_call 130; exact Calls.bel (HT.out _)); clear hK K)))
      with_reducible refine wpQuiet_nil ?_
      rintro _ ⟨⟨W, hW⟩, rfl⟩
      clear v0 v1
      go_wp2
      go_roundw
      case rel => exact ⟨k + 1, by omega, by go_num, hB.trans (hW.mono hB.size)⟩
      case measure => simp [intOf]; omega
    · go_wp2
      go_ret
      exact ⟨rfl, hB⟩

end Go.Proofs.Ytbbkpaledlbcmaa

/- Marks in lists of polynomials and lists of these: the laws' 'markPolyS', 'markPolySS', 'heldPolyS' and 'heldPolySS'. -/

namespace Go.Proofs.Ytbbkpaledlbcmaa
open Go.RowKit

def offX (xs : List Pv) (i : Nat) : Nat := i + csum ((xs.map (·.p)).take i)
def totX (xs : List Pv) : Nat := totR (xs.map (·.p))
theorem offX_succ (xs : List Pv) (i : Nat) (h : i < xs.length) : offX xs (i + 1) = offX xs i + 1 + xs[i].p.cs.length := by
  unfold offX; rw [csum_succ _ i (by rw [List.length_map]; exact h), List.getElem_map]; omega
theorem offX_le (xs : List Pv) (i : Nat) (h : i ≤ xs.length) : offX xs i ≤ totX xs := by
  unfold offX totX totR; have := csum_take_le (xs.map (·.p)) i; rw [List.length_map]; omega
theorem offX_all (xs : List Pv) : offX xs xs.length = totX xs := by
  unfold offX totX totR; rw [List.take_of_length_le (by rw [List.length_map]; exact Nat.le_refl _), List.length_map]
def markX (k : Nat) (x : Pv) : Pv := ⟨⟨(k : Int), marks (k + 1) x.p.cs.length⟩, x.v⟩
/-- The first j polynomials are marked. -/
def halfX (k j : Nat) (xs : List Pv) : List Pv := xs.mapIdx fun i x => if i < j then markX (k + offX xs i) x else x
theorem halfX_len (k j : Nat) (xs : List Pv) : (halfX k j xs).length = xs.length := by simp [halfX]
theorem halfX_get (k j : Nat) (xs : List Pv) (i : Nat) (h : i < xs.length) : (halfX k j xs)[i]'(by rw [halfX_len]; exact h) = if i < j then markX (k + offX xs i) xs[i] else xs[i] := by
  simp [halfX]
theorem halfX_v (k j : Nat) (xs : List Pv) (i : Nat) (h : i < xs.length) : ((halfX k j xs)[i]'(by rw [halfX_len]; exact h)).v = xs[i].v := by
  rw [halfX_get k j xs i h]; split <;> rfl
theorem halfX_zero (k : Nat) (xs : List Pv) : halfX k 0 xs = xs := by
  apply List.ext_getElem (by rw [halfX_len])
  intro i h1 h2
  rw [halfX_get k 0 xs i h2, if_neg (Nat.not_lt_zero _)]
theorem halfX_succ (k j : Nat) (xs : List Pv) (hj : j < xs.length) : halfX k (j + 1) xs = (halfX k j xs).set j (markX (k + offX xs j) xs[j]) := by
  apply List.ext_getElem (by rw [List.length_set, halfX_len, halfX_len])
  intro i h1 h2
  rw [halfX_len] at h1
  rw [halfX_get k (j + 1) xs i h1, List.getElem_set]
  by_cases e : j = i
  · subst e; rw [if_pos (by omega), if_pos rfl]
  · rw [if_neg e, halfX_get k j xs i h1]
    by_cases hij : i < j
    · rw [if_pos hij, if_pos (by omega)]
    · rw [if_neg hij, if_neg (by omega)]
theorem FootR.half {k j : Nat} {u : Value} {xs : List Pv} {b : Nat} : FootR u (halfX k j xs) b ↔ FootR u xs b := by
  unfold FootR
  refine or_congr Iff.rfl ⟨?_, ?_⟩
  · rintro ⟨i, hi, h⟩
    have hi2 : i < xs.length := by rw [halfX_len] at hi; exact hi
    exact ⟨i, hi2, by rw [halfX_v k j xs i hi2] at h; exact h⟩
  · rintro ⟨i, hi, h⟩
    exact ⟨i, by rw [halfX_len]; exact hi, by rw [halfX_v k j xs i hi]; exact h⟩
theorem list_set_self {α : Type} (l : List α) (i : Nat) (x : α) (h : l[i]? = some x) : l.set i x = l := by
  obtain ⟨hi, rfl⟩ := List.getElem?_eq_some_iff.1 h
  exact List.set_getElem_self hi
/-- A polynomial whose Low and coefficients are turned in place. -/
theorem OwnR.turn {lo g n c : Nat} {w w2 : World} {xs : List Pv} {p : Pl} {k : Nat} (h : OwnR lo w (.slice (some ⟨g, 0, none⟩) n c) xs) (hk : k < xs.length) (hg : (w.setCell ⟨g, k * 2, none⟩ (.int .i64 p.low)).grownBy w2 xs[k].v.ownBlock) (hp : IntRow lo w2 xs[k].v p.cs) :
    OwnR lo w2 (.slice (some ⟨g, 0, none⟩) n c) (xs.set k ⟨p, xs[k].v⟩) := by
  have hn : xs.length = n := by
    rcases h.row.2 with ⟨e, _⟩ | ⟨g, cap, cur, e, _⟩
    · cases e
    · simp only [Value.slice.injEq] at e; exact e.2.1.symm
  subst hn
  have hst := (h.row.stored (k * 2) (.int .i64 p.low)).1
  have hc : (cellsP xs).set (k * 2) (.int .i64 p.low) = cellsP (xs.set k ⟨p, xs[k].v⟩) := by
    rw [← cellsP_set xs k ⟨p, xs[k].v⟩ hk]
    refine (list_set_self _ _ _ ?_).symm
    rw [List.getElem?_set_ne (by omega)]
    exact (cellsP_get xs k hk).2
  rw [hc] at hst
  refine ⟨?_, fun i hi => ?_, fun i hi b hb1 hb2 => ?_, fun i j hi hj b hne h1 h2 => ?_⟩
  · rw [List.length_set]
    exact ownsRow_touched hst fun b hb hl => hg.block b hl fun e => h.head k hk b hb e.symm
  · rw [List.length_set] at hi
    rw [List.getElem_set]
    split
    · exact hp
    · rename_i hne
      have h1 : IntRow lo (w.setCell ⟨g, k * 2, none⟩ (.int .i64 p.low)) xs[i].v xs[i].p.cs := (h.poly i hi).off ⟨g, k * 2, none⟩ _ fun b e => fun e2 => h.head i hi b (by rw [e2]; rfl) e
      exact ownsRow_touched h1 fun b hb hl => hg.block b hl fun e => h.apart k i hk hi b hne e.symm hb
  · rw [List.length_set] at hi
    rw [List.getElem_set] at hb2
    split at hb2
    · exact h.head k hk b hb1 hb2
    · exact h.head i hi b hb1 hb2
  · rw [List.length_set] at hi hj
    rw [List.getElem_set] at h1 h2
    split at h1
    · split at h2
      · omega
      · exact h.apart k j hk hj b (by omega) h1 h2
    · split at h2
      · exact h.apart i k hi hk b (by omega) h1 h2
      · exact h.apart i j hi hj b hne h1 h2

set_option maxRecDepth 100000 in
set_option maxHeartbeats 2000000 in
theorem markPolyS_any (lo k : Nat) (u : Value) (xs : List Pv) (w : World) (h : OwnR lo w u xs) (hn : totX xs ≤ 1048576) (hk : k ≤ 100000000) :
    Calls Try.prog 131 #[u, .int .i64 k] w fun e w' => e = .returned (.int .i64 ((k + totX xs : Nat) : Int)) ∧ OwnR lo w' u (halfX k xs.length xs) ∧ Touched (FootR u xs) w w' := by
  obtain ⟨n, hl⟩ : ∃ n, xs.length = n := ⟨_, rfl⟩
  obtain ⟨a, cap, rfl⟩ : ∃ a cap, u = .slice a n cap := by
    rcases h.row.2 with ⟨rfl, h0⟩ | ⟨g, cap, cur, rfl, _⟩
    · exact ⟨none, 0, by rw [← hl, h0]⟩
    · exact ⟨_, _, by rw [hl]⟩
  rw [hl]
  have HA := Lib.hid (offX_all xs)
  have HH := Lib.hid h
  have HL := Lib.hid hl
  have hnb : n ≤ 1048576 := by rw [← hl]; unfold totX totR at hn; rw [List.length_map] at hn; omega
  clear h hl
  go_enter Try.func131, Try.ntmps131
  go_wp2
  go_loopw [1, 5] (fun q i wr => ∃ j m : Nat, j ≤ n ∧ q = .int .i64 m ∧ i = .int .i64 j ∧ Hid (m = k + offX xs j) ∧ Hid (OwnR lo wr (.slice a n cap) (halfX k j xs)) ∧ Hid (Touched (FootR (.slice a n cap) xs) w wr)) (fun _ i _ => n - (intOf i).toNat)
  case atStart => exact ⟨0, k, Nat.zero_le _, rfl, rfl, Lib.hid (by simp [offX, csum]), Lib.hid (by rw [halfX_zero]; exact HH.out), Lib.hid (Touched.refl _ _)⟩
  case round =>
    obtain ⟨j, m, hj, rfl, rfl, HM, HR, HB⟩ := hrel
    have hmb : m ≤ 102000000 := by have := HM.out; have := offX_le xs j (by rw [HL.out]; exact hj); omega
    by_cases hlt : j < n
    · have hjr : j < xs.length := by rw [HL.out]; exact hlt
      obtain ⟨g, rfl, hg⟩ : ∃ g, a = some ⟨g, 0, none⟩ ∧ lo ≤ g := by
        rcases HR.out.row.2 with ⟨_, e1⟩ | ⟨g, cap1, cur, e0, hg, _⟩
        · rw [halfX_len, HL.out] at e1; omega
        · simp only [Value.slice.injEq] at e0; exact ⟨g, e0.1, hg⟩
      have hrow := HR.out.row
      have hxl := hrow.1
      rw [halfX_len, HL.out] at hrow hxl
      have hget := cellsP_get (halfX k j xs) j (by rw [halfX_len]; exact hjr)
      rw [halfX_get k j xs j hjr, if_neg (Nat.lt_irrefl _)] at hget
      have hd0 : wr.cell? ⟨g, j * 2, none⟩ = some (.int .i64 xs[j].p.low) := by rw [hrow.cellAt _ (by omega)]; exact hget.1
      have hd1 : wr.cell? ⟨g, j * 2 + 1, none⟩ = some xs[j].v := by rw [hrow.cellAt _ (by omega)]; exact hget.2
      have hf0 := hrow.frozenAt (j * 2)
      have hst := hrow.stored (j * 2) (.int .i64 (m : Int))
      have hpo := HR.out.poly j (by rw [halfX_len]; exact hjr)
      rw [halfX_get k j xs j hjr, if_neg (Nat.lt_irrefl _)] at hpo
      have hpo2 : IntRow lo (wr.setCell ⟨g, j * 2, none⟩ (.int .i64 (m : Int))) xs[j].v xs[j].p.cs := hpo.off ⟨g, j * 2, none⟩ _ fun b e => fun e2 => HR.out.head j (by rw [halfX_len]; exact hjr) b (by rw [e2]; rfl) (by rw [halfX_v k j xs j hjr]; exact e)
      have he1 : (wr.setCell ⟨g, j * 2, none⟩ (.int .i64 (m : Int))).cell? ⟨g, j * 2 + 1, none⟩ = some xs[j].v := by
        rw [hst.1.cellAt _ (by omega), List.getElem?_set_ne (by omega)]; exact hget.2
      have HTU := Lib.hid (fun w2 => HR.out.turn (w2 := w2) (p := ⟨(m : Int), marks (m + 1) xs[j].p.cs.length⟩) (k := j) (by rw [halfX_len]; exact hjr))
      have hsucc := offX_succ xs j hjr
      have hle := offX_le xs (j + 1) (by omega)
      obtain ⟨x, hx⟩ : ∃ x, xs[j] = x := ⟨_, rfl⟩
      have hvx : ((halfX k j xs)[j]'(by rw [halfX_len]; exact hjr)).v = x.v := by rw [halfX_v k j xs j hjr, hx]
      have HHS := halfX_succ k j xs hjr
      rw [hx] at hpo2 he1 hd0 hd1 hsucc HTU HHS
      rw [← HM.out] at HHS
      have hr3 : x.p.cs.length ≤ 1048576 := by omega
      have HC := Lib.hid (markIntS_any lo x.v x.p.cs (m + 1) _ hpo2 (by omega) (by omega))
      have HX := Lib.hid hx
      have HS := Lib.hid hsucc
      have HV := Lib.hid hvx
      have HHS2 := Lib.hid HHS
      have HFX : Hid (FootR (.slice (some ⟨g, 0, none⟩) n cap) xs g) := Lib.hid (.inl rfl)
      have HFY : Hid (∀ b, x.v.ownBlock = some b → FootR (.slice (some ⟨g, 0, none⟩) n cap) xs b) := Lib.hid fun b e => .inr ⟨j, hjr, by rw [hx]; exact e⟩
      have HG1 := Lib.hid hst.2
      clear hrow hxl hget hst hpo hpo2 hsucc hle hx hvx HHS
      go_wp2_with fail
      refine (show Calls Try.prog 55 #[x.v, .int .i64 ((m : Int) + 1)] _ _ from HC.out).mono ?_
      rintro e w4 ⟨rfl, hi4, hg4⟩
      obtain ⟨m2, hm2⟩ : ∃ m2, m + 1 + x.p.cs.length = m2 := ⟨_, rfl⟩
      rw [hm2]
      have HM2 := Lib.hid hm2
      have HR4 := Lib.hid (HTU.out w4 (by rw [HV.out]; exact hg4) (by rw [HV.out]; exact hi4))
      have HB4 := Lib.hid ((HB.out.grown HG1.out fun b e => by simp only [Option.some.injEq] at e; rw [← e]; exact HFX.out).grown hg4 fun b e => HFY.out b e)
      clear hi4 hg4 hm2 he1 hd0 hd1 hf0
      go_wp2
      go_roundw
      case rel =>
        refine ⟨j + 1, m2, by omega, rfl, by go_num, Lib.hid (by rw [HS.out, ← HM2.out, HM.out]; omega), Lib.hid ?_, HB4⟩
        have h5 := HR4.out
        rw [HV.out] at h5
        rw [HHS2.out]
        exact h5
      case measure => simp [intOf]; omega
    · obtain rfl : j = n := by omega
      have hm := HM.out
      have hx := HA.out
      rw [HL.out] at hx
      rw [hx] at hm
      have HM2 := Lib.hid hm
      clear hm hx
      go_wp2
      go_ret
      exact ⟨ret_int (by rw [HM2.out]), HR.out, HB.out⟩

set_option maxRecDepth 100000 in
set_option maxHeartbeats 2000000 in
theorem heldPolyS_any (lo k : Nat) (u : Value) (xs : List Pv) (w : World) (h : OwnR lo w u (halfX k xs.length xs)) (hn : totX xs ≤ 1048576) (hk : k ≤ 100000000) :
    Calls Try.prog 132 #[u, .int .i64 k] w fun e w' => e = .returned (.int .i64 ((k + totX xs : Nat) : Int)) ∧ Below w.heap.size w w' := by
  obtain ⟨n, hl⟩ : ∃ n, xs.length = n := ⟨_, rfl⟩
  obtain ⟨a, cap, rfl⟩ : ∃ a cap, u = .slice a n cap := by
    rcases h.row.2 with ⟨rfl, h0⟩ | ⟨g, cap, cur, rfl, _⟩
    · rw [halfX_len] at h0; exact ⟨none, 0, by rw [← hl, h0]⟩
    · exact ⟨_, _, by rw [halfX_len, hl]⟩
  rw [hl] at h
  have HA := Lib.hid (offX_all xs)
  have HH := Lib.hid h
  have HL := Lib.hid hl
  have hnb : n ≤ 1048576 := by rw [← hl]; unfold totX totR at hn; rw [List.length_map] at hn; omega
  clear h hl
  go_enter Try.func132, Try.ntmps132
  go_wp2
  go_loopw [1, 5] (fun q i wr => ∃ j m : Nat, j ≤ n ∧ q = .int .i64 m ∧ i = .int .i64 j ∧ Hid (m = k + offX xs j) ∧ Below w.heap.size w wr) (fun _ i _ => n - (intOf i).toNat)
  case atStart => exact ⟨0, k, Nat.zero_le _, rfl, rfl, Lib.hid (by simp [offX, csum]), Below.refl _ _⟩
  case round =>
    obtain ⟨j, m, hj, rfl, rfl, HM, hB⟩ := hrel
    have hmb : m ≤ 102000000 := by have := HM.out; have := offX_le xs j (by rw [HL.out]; exact hj); omega
    by_cases hlt : j < n
    · have hjr : j < xs.length := by rw [HL.out]; exact hlt
      obtain ⟨g, rfl, hg⟩ : ∃ g, a = some ⟨g, 0, none⟩ ∧ lo ≤ g := by
        rcases HH.out.row.2 with ⟨_, e1⟩ | ⟨g, cap1, cur, e0, hg, _⟩
        · rw [halfX_len, HL.out] at e1; omega
        · simp only [Value.slice.injEq] at e0; exact ⟨g, e0.1, hg⟩
      have hR := HH.out.below hB
      have hrow := hR.row
      rw [halfX_len, HL.out] at hrow
      have hget := cellsP_get (halfX k n xs) j (by rw [halfX_len]; exact hjr)
      rw [halfX_get k n xs j hjr, if_pos hlt, ← HM.out] at hget
      have hd0 : wr.cell? ⟨g, j * 2, none⟩ = some (.int .i64 (m : Int)) := by rw [hrow.cellAt _ (by omega)]; exact hget.1
      have hd1 : wr.cell? ⟨g, j * 2 + 1, none⟩ = some xs[j].v := by rw [hrow.cellAt _ (by omega)]; exact hget.2
      have hpo := hR.poly j (by rw [halfX_len]; exact hjr)
      rw [halfX_get k n xs j hjr, if_pos hlt, ← HM.out] at hpo
      have hsucc := offX_succ xs j hjr
      have hle := offX_le xs (j + 1) (by omega)
      have hpo2 : IntRow lo wr xs[j].v (marks (m + 1) xs[j].p.cs.length) := hpo
      obtain ⟨x, hx⟩ : ∃ x, xs[j] = x := ⟨_, rfl⟩
      rw [hx] at hpo2 hd1 hsucc
      have hr3 : x.p.cs.length ≤ 1048576 := by omega
      have HC := Lib.hid (heldIntS_any lo x.v x.p.cs.length (m + 1) _ hpo2 (by omega) (by omega))
      have HS := Lib.hid hsucc
      clear hrow hget hpo hpo2 hsucc hle hx hR
      go_wp2_with fail
      refine (show Calls Try.prog 56 #[x.v, .int .i64 ((m : Int) + 1)] _ _ from (HC.out)).mono ?_
      rintro e w4 ⟨rfl, rfl⟩
      have hnn : ¬ ((m + 1 + x.p.cs.length : Nat) : Int) < 0 := by omega
      obtain ⟨m2, hm2⟩ : ∃ m2, m + 1 + x.p.cs.length = m2 := ⟨_, rfl⟩
      rw [hm2] at hnn ⊢
      have hdn : decide ((m2 : Int) < 0) = false := decide_eq_false hnn
      have HM2 := Lib.hid hm2
      clear hm2 hd0 hd1
      go_wp2
      go_roundw
      case rel => exact ⟨j + 1, m2, by omega, rfl, by go_num, Lib.hid (by rw [HS.out, ← HM2.out, HM.out]; omega), hB⟩
      case measure => simp [intOf]; omega
    · obtain rfl : j = n := by omega
      have hm := HM.out
      have hx := HA.out
      rw [HL.out] at hx
      rw [hx] at hm
      have HM2 := Lib.hid hm
      clear hm hx
      go_wp2
      go_ret
      exact ⟨ret_int (by rw [HM2.out]), hB⟩

end Go.Proofs.Ytbbkpaledlbcmaa

/- Marks in lists of lists of polynomials: the laws' 'markPolySS' and 'heldPolySS'. -/

namespace Go.Proofs.Ytbbkpaledlbcmaa
open Go.RowKit

def offR (rs : List Rv) (i : Nat) : Nat := totM ((rowsOf rs).take i)
theorem rowsOf_len (rs : List Rv) : (rowsOf rs).length = rs.length := by simp [rowsOf]
theorem rowsOf_get (rs : List Rv) (i : Nat) (h : i < rs.length) : (rowsOf rs)[i]'(by rw [rowsOf_len]; exact h) = rs[i].xs.map (·.p) := by simp [rowsOf]
theorem offR_succ (rs : List Rv) (i : Nat) (h : i < rs.length) : offR rs (i + 1) = offR rs i + totX rs[i].xs := by
  unfold offR totX; rw [totM_succ _ i (by rw [rowsOf_len]; exact h), rowsOf_get rs i h]
theorem offR_le (rs : List Rv) (i : Nat) : offR rs i ≤ totM (rowsOf rs) := totM_take_le _ i
theorem offR_all (rs : List Rv) : offR rs rs.length = totM (rowsOf rs) := by
  unfold offR; rw [List.take_of_length_le (by rw [rowsOf_len]; exact Nat.le_refl _)]
def markRv (k : Nat) (r : Rv) : Rv := ⟨r.u, halfX k r.xs.length r.xs⟩
def halfM (k j : Nat) (rs : List Rv) : List Rv := rs.mapIdx fun i r => if i < j then markRv (k + offR rs i) r else r
theorem halfM_len (k j : Nat) (rs : List Rv) : (halfM k j rs).length = rs.length := by simp [halfM]
theorem halfM_get (k j : Nat) (rs : List Rv) (i : Nat) (h : i < rs.length) : (halfM k j rs)[i]'(by rw [halfM_len]; exact h) = if i < j then markRv (k + offR rs i) rs[i] else rs[i] := by
  simp [halfM]
theorem halfM_u (k j : Nat) (rs : List Rv) (i : Nat) (h : i < rs.length) : ((halfM k j rs)[i]'(by rw [halfM_len]; exact h)).u = rs[i].u := by
  rw [halfM_get k j rs i h]; split <;> rfl
theorem halfM_foot (k j : Nat) (rs : List Rv) (i : Nat) (h : i < rs.length) (b : Nat) : FootR ((halfM k j rs)[i]'(by rw [halfM_len]; exact h)).u ((halfM k j rs)[i]'(by rw [halfM_len]; exact h)).xs b ↔ FootR rs[i].u rs[i].xs b := by
  rw [halfM_get k j rs i h]
  split
  · exact FootR.half
  · exact Iff.rfl
theorem halfM_zero (k : Nat) (rs : List Rv) : halfM k 0 rs = rs := by
  apply List.ext_getElem (by rw [halfM_len])
  intro i h1 h2
  rw [halfM_get k 0 rs i h2, if_neg (Nat.not_lt_zero _)]
theorem halfM_succ (k j : Nat) (rs : List Rv) (hj : j < rs.length) : halfM k (j + 1) rs = (halfM k j rs).set j (markRv (k + offR rs j) rs[j]) := by
  apply List.ext_getElem (by rw [List.length_set, halfM_len, halfM_len])
  intro i h1 h2
  rw [halfM_len] at h1
  rw [halfM_get k (j + 1) rs i h1, List.getElem_set]
  by_cases e : j = i
  · subst e; rw [if_pos (by omega), if_pos rfl]
  · rw [if_neg e, halfM_get k j rs i h1]
    by_cases hij : i < j
    · rw [if_pos hij, if_pos (by omega)]
    · rw [if_neg hij, if_neg (by omega)]
theorem OwnM.turn {lo : Nat} {w w2 : World} {v : Value} {rs : List Rv} {r : Rv} {k : Nat} (h : OwnM lo w v rs) (hk : k < rs.length) (ht : Touched (FootR rs[k].u rs[k].xs) w w2) (hr : OwnR lo w2 r.u r.xs) (hu : r.u = rs[k].u) (hf : ∀ b, FootR r.u r.xs b → FootR rs[k].u rs[k].xs b) :
    OwnM lo w2 v (rs.set k r) := by
  refine ⟨?_, fun i hi => ?_, fun i hi b hb1 hb2 => ?_, fun i j hi hj b hne h1 h2 => ?_⟩
  · have e : (rs.set k r).map (·.u) = rs.map (·.u) := by
      rw [List.map_set, hu]
      exact list_set_self _ _ _ (by rw [List.getElem?_map, List.getElem?_eq_getElem hk]; rfl)
    rw [List.length_set, e]
    exact ownsRow_touched h.row fun b hb hl => ht.block b hl fun e => h.head k hk b hb e
  · rw [List.length_set] at hi
    rw [List.getElem_set]
    split
    · exact hr
    · rename_i hne
      exact (h.each i hi).touched ht fun b hb e => h.apart i k hi hk b (fun e => hne e.symm) hb e
  · rw [List.length_set] at hi
    rw [List.getElem_set] at hb2
    split at hb2
    · exact h.head k hk b hb1 (hf b hb2)
    · exact h.head i hi b hb1 hb2
  · rw [List.length_set] at hi hj
    rw [List.getElem_set] at h1 h2
    split at h1
    · split at h2
      · omega
      · exact h.apart k j hk hj b (by omega) (hf b h1) h2
    · split at h2
      · exact h.apart i k hi hk b (by omega) h1 (hf b h2)
      · exact h.apart i j hi hj b hne h1 h2

set_option maxRecDepth 100000 in
set_option maxHeartbeats 2000000 in
theorem markPolySS_any (lo k : Nat) (v : Value) (rs : List Rv) (w : World) (h : OwnM lo w v rs) (hn : rs.length + totM (rowsOf rs) ≤ 1048576) (hk : k ≤ 10000000) :
    Calls Try.prog 60 #[v, .int .i64 k] w fun e w' => e = .returned (.int .i64 ((k + totM (rowsOf rs) : Nat) : Int)) ∧ OwnM lo w' v (halfM k rs.length rs) ∧ Touched (FootM rs) w w' := by
  obtain ⟨n, hl⟩ : ∃ n, rs.length = n := ⟨_, rfl⟩
  obtain ⟨a, cap, rfl⟩ : ∃ a cap, v = .slice a n cap := by
    rcases h.row.2 with ⟨rfl, h0⟩ | ⟨g, cap, cur, rfl, _⟩
    · exact ⟨none, 0, by rw [← hl, h0]⟩
    · exact ⟨_, _, by rw [hl]⟩
  rw [hl]
  have HA := Lib.hid (offR_all rs)
  have HH := Lib.hid h
  have HL := Lib.hid hl
  have hnb : n ≤ 1048576 := by omega
  clear h hl
  go_enter Try.func60, Try.ntmps60
  go_wp2
  go_loopw [1, 5] (fun q i wr => ∃ j m : Nat, j ≤ n ∧ q = .int .i64 m ∧ i = .int .i64 j ∧ Hid (m = k + offR rs j) ∧ Hid (OwnM lo wr (.slice a n cap) (halfM k j rs)) ∧ Hid (Touched (FootM rs) w wr)) (fun _ i _ => n - (intOf i).toNat)
  case atStart => exact ⟨0, k, Nat.zero_le _, rfl, rfl, Lib.hid (by simp [offR, totM]), Lib.hid (by rw [halfM_zero]; exact HH.out), Lib.hid (Touched.refl _ _)⟩
  case round =>
    obtain ⟨j, m, hj, rfl, rfl, HM, HR, HB⟩ := hrel
    have hmb : m ≤ 12000000 := by have := HM.out; have := offR_le rs j; omega
    by_cases hlt : j < n
    · have hjr : j < rs.length := by rw [HL.out]; exact hlt
      obtain ⟨g, rfl, hg⟩ : ∃ g, a = some ⟨g, 0, none⟩ ∧ lo ≤ g := by
        rcases HR.out.row.2 with ⟨_, e1⟩ | ⟨g, cap1, cur, e0, hg, _⟩
        · rw [halfM_len, HL.out] at e1; omega
        · simp only [Value.slice.injEq] at e0; exact ⟨g, e0.1, hg⟩
      have hrow := HR.out.row
      have hget : ((halfM k j rs).map (·.u))[j]? = some rs[j].u := by
        rw [List.getElem?_map, List.getElem?_eq_getElem (by rw [halfM_len]; exact hjr), Option.map_some, halfM_u k j rs j hjr]
      have hcell := hrow.cells rfl j _ hget
      rw [show (⟨g, 0, none⟩ : Addr).add j = ⟨g, j, none⟩ by unfold Addr.add; split <;> simp_all] at hcell
      have hown := HR.out.each j (by rw [halfM_len]; exact hjr)
      rw [halfM_get k j rs j hjr, if_neg (Nat.lt_irrefl _)] at hown
      have hsucc := offR_succ rs j hjr
      have hle := offR_le rs (j + 1)
      have HTU := Lib.hid (fun w2 => HR.out.turn (w2 := w2) (r := markRv m rs[j]) (k := j) (by rw [halfM_len]; exact hjr))
      have HHS := Lib.hid (halfM_succ k j rs hjr)
      have HFJ : Hid (∀ b, FootR ((halfM k j rs)[j]'(by rw [halfM_len]; exact hjr)).u ((halfM k j rs)[j]'(by rw [halfM_len]; exact hjr)).xs b ↔ FootR rs[j].u rs[j].xs b) := Lib.hid (halfM_foot k j rs j hjr)
      have HUJ := Lib.hid (halfM_u k j rs j hjr)
      have htx : totX rs[j].xs ≤ 1048576 := by omega
      have HC := Lib.hid (markPolyS_any lo m rs[j].u rs[j].xs wr hown htx (by omega))
      have HSu := Lib.hid hsucc
      have HFM : Hid (∀ b, FootR rs[j].u rs[j].xs b → FootM rs b) := Lib.hid fun b hb => ⟨j, hjr, hb⟩
      have hmx : m + totX rs[j].xs ≤ 12000000 := by have := HM.out; omega
      obtain ⟨y, hy⟩ : ∃ y, totX rs[j].xs = y := ⟨_, rfl⟩
      obtain ⟨u, hu⟩ : ∃ u, rs[j].u = u := ⟨_, rfl⟩
      rw [hu] at hcell
      rw [hy] at hmx
      have HU := Lib.hid hu
      have HY := Lib.hid hy
      clear hrow hget hown hsucc hle htx hu hy
      go_wp2_with fail
      rw [← HU.out]
      refine HC.out.mono ?_
      rintro e w2 ⟨rfl, ho2, ht2⟩
      rw [HY.out]
      obtain ⟨m2, hm2⟩ : ∃ m2, m + y = m2 := ⟨_, rfl⟩
      rw [hm2] at hmx ⊢
      have HM2 := Lib.hid hm2
      have HO2 : Hid (OwnR lo w2 (markRv m rs[j]).u (markRv m rs[j]).xs) := Lib.hid ho2
      have HT2 := Lib.hid ht2
      clear ho2 ht2 hcell hm2
      go_wp2
      go_roundw
      case rel =>
        refine ⟨j + 1, m2, by omega, rfl, by go_num, Lib.hid (by rw [HSu.out, ← HM2.out, HM.out, HY.out]; omega), Lib.hid ?_, Lib.hid (HB.out.trans (HT2.out.mono HFM.out))⟩
        rw [HHS.out, ← HM.out]
        exact HTU.out w2 (HT2.out.mono fun b hb => (HFJ.out b).2 hb) HO2.out HUJ.out.symm fun b hb => (HFJ.out b).2 (FootR.half.1 hb)
      case measure => simp [intOf]; omega
    · obtain rfl : j = n := by omega
      have hm := HM.out
      have hx := HA.out
      rw [HL.out] at hx
      rw [hx] at hm
      have HM2 := Lib.hid hm
      clear hm hx
      go_wp2
      go_ret
      exact ⟨ret_int (by rw [HM2.out]), HR.out, HB.out⟩

set_option maxRecDepth 100000 in
set_option maxHeartbeats 2000000 in
theorem heldPolySS_any (lo k : Nat) (v : Value) (rs : List Rv) (w : World) (h : OwnM lo w v (halfM k rs.length rs)) (hn : rs.length + totM (rowsOf rs) ≤ 1048576) (hk : k ≤ 10000000) :
    Calls Try.prog 61 #[v, .int .i64 k] w fun e w' => e = .returned (.int .i64 ((k + totM (rowsOf rs) : Nat) : Int)) ∧ Below w.heap.size w w' := by
  obtain ⟨n, hl⟩ : ∃ n, rs.length = n := ⟨_, rfl⟩
  obtain ⟨a, cap, rfl⟩ : ∃ a cap, v = .slice a n cap := by
    rcases h.row.2 with ⟨rfl, h0⟩ | ⟨g, cap, cur, rfl, _⟩
    · rw [halfM_len] at h0; exact ⟨none, 0, by rw [← hl, h0]⟩
    · exact ⟨_, _, by rw [halfM_len, hl]⟩
  rw [hl] at h
  have HA := Lib.hid (offR_all rs)
  have HH := Lib.hid h
  have HL := Lib.hid hl
  have hnb : n ≤ 1048576 := by omega
  clear h hl
  go_enter Try.func61, Try.ntmps61
  go_wp2
  go_loopw [1, 5] (fun q i wr => ∃ j m : Nat, j ≤ n ∧ q = .int .i64 m ∧ i = .int .i64 j ∧ Hid (m = k + offR rs j) ∧ Below w.heap.size w wr) (fun _ i _ => n - (intOf i).toNat)
  case atStart => exact ⟨0, k, Nat.zero_le _, rfl, rfl, Lib.hid (by simp [offR, totM]), Below.refl _ _⟩
  case round =>
    obtain ⟨j, m, hj, rfl, rfl, HM, hB⟩ := hrel
    have hmb : m ≤ 12000000 := by have := HM.out; have := offR_le rs j; omega
    by_cases hlt : j < n
    · have hjr : j < rs.length := by rw [HL.out]; exact hlt
      obtain ⟨g, rfl, hg⟩ : ∃ g, a = some ⟨g, 0, none⟩ ∧ lo ≤ g := by
        rcases HH.out.row.2 with ⟨_, e1⟩ | ⟨g, cap1, cur, e0, hg, _⟩
        · rw [halfM_len, HL.out] at e1; omega
        · simp only [Value.slice.injEq] at e0; exact ⟨g, e0.1, hg⟩
      have hR := HH.out.below hB
      have hrow := hR.row
      have hget : ((halfM k n rs).map (·.u))[j]? = some rs[j].u := by
        rw [List.getElem?_map, List.getElem?_eq_getElem (by rw [halfM_len]; exact hjr), Option.map_some, halfM_u k n rs j hjr]
      have hcell := hrow.cells rfl j _ hget
      rw [show (⟨g, 0, none⟩ : Addr).add j = ⟨g, j, none⟩ by unfold Addr.add; split <;> simp_all] at hcell
      have hown := hR.each j (by rw [halfM_len]; exact hjr)
      rw [halfM_get k n rs j hjr, if_pos hlt, ← HM.out] at hown
      have hsucc := offR_succ rs j hjr
      have hle := offR_le rs (j + 1)
      have htx : totX rs[j].xs ≤ 1048576 := by omega
      have HC := Lib.hid (heldPolyS_any lo m rs[j].u rs[j].xs wr hown htx (by omega))
      have HSu := Lib.hid hsucc
      have hmx : m + totX rs[j].xs ≤ 12000000 := by have := HM.out; omega
      obtain ⟨y, hy⟩ : ∃ y, totX rs[j].xs = y := ⟨_, rfl⟩
      obtain ⟨u, hu⟩ : ∃ u, rs[j].u = u := ⟨_, rfl⟩
      rw [hu] at hcell
      rw [hy] at hmx
      have HU := Lib.hid hu
      have HY := Lib.hid hy
      clear hrow hget hown hsucc hle htx hu hy hR
      go_wp2_with fail
      rw [← HU.out]
      refine HC.out.mono ?_
      rintro e w2 ⟨rfl, hb2⟩
      rw [HY.out]
      have hnn : ¬ ((m + y : Nat) : Int) < 0 := by omega
      obtain ⟨m2, hm2⟩ : ∃ m2, m + y = m2 := ⟨_, rfl⟩
      rw [hm2] at hmx hnn ⊢
      have hdn : decide ((m2 : Int) < 0) = false := decide_eq_false hnn
      have HM2 := Lib.hid hm2
      clear hm2 hcell
      go_wp2
      go_roundw
      case rel => exact ⟨j + 1, m2, by omega, rfl, by go_num, Lib.hid (by rw [HSu.out, ← HM2.out, HM.out, HY.out]; omega), hB.trans (hb2.mono hB.size)⟩
      case measure => simp [intOf]; omega
    · obtain rfl : j = n := by omega
      have hm := HM.out
      have hx := HA.out
      rw [HL.out] at hx
      rw [hx] at hm
      have HM2 := Lib.hid hm
      clear hm hx
      go_wp2
      go_ret
      exact ⟨ret_int (by rw [HM2.out]), hB⟩

end Go.Proofs.Ytbbkpaledlbcmaa

/- Lists of lists of polynomials that came in, opened. -/

namespace Go.Proofs.Ytbbkpaledlbcmaa
open Go.RowKit Go.ChangeShapes Go.WideShapes

instance : Inhabited Pl := ⟨⟨0, []⟩⟩
theorem intsle_of {H : Type} {enc : TypeId × Value → H} {W : World} {base : Nat} {spare : Nat → Bool} {held : Bool} {fuel : Nat} {a : Option Addr} {len cap : Nat} {x : DataW H × List MemPlace}
    (h : DataW.trod enc Try.prog W base spare held fuel 33 [.slice a len cap] = some x) : ∃ zs, Ints W a len zs ∧ len ≤ cap := by
  obtain ⟨zs, hz⟩ := ints_of h
  refine ⟨zs, hz, ?_⟩
  rcases Go.ChangeShapes.open_ints Try.underlying33 Try.underlying3 (by kernel_rfl) h with ⟨hcs, _⟩ | ⟨y, l, c, zs, hcs, hb, hl, hm, hz, _, hx, hwf⟩
  · simp at hcs
    omega
  · simp at hcs
    obtain ⟨rfl, rfl, rfl⟩ := hcs
    exact hl
theorem isPS_of {H : Type} {enc : TypeId × Value → H} {W : World} {base : Nat} {spare : Nat → Bool} {held : Bool} {fuel : Nat} {a : Option Addr} {len cap : Nat} {x : DataW H × List MemPlace}
    (h : DataW.trod enc Try.prog W base spare held fuel 127 [.slice a len cap] = some x) : ∃ ps, IsPS W a len ps := by
  rcases Go.Deep.open_slice_pairs Try.underlying127 Try.underlying171 (by kernel_rfl) rfl rfl (by kernel_rfl) (by kernel_rfl) h with ⟨hcs, _⟩ | ⟨y, l, c, m, n, V0, V1, D0, D1, P0, P1, hcs, hb, hl, hm, hmm, _, hx⟩
  · simp at hcs
    obtain ⟨rfl, rfl, rfl⟩ := hcs
    exact ⟨[], IsPS.none _ _⟩
  · simp at hcs
    obtain ⟨rfl, rfl, rfl⟩ := hcs
    have hlm : len ≤ m := by rw [hmm]; split <;> omega
    have each : ∀ i, i < len → ∃ t : Pl × (Option Addr × Nat), W.cell? (y.add (i * 2)) = some (.int .i64 t.1.low) ∧ W.cell? (y.add (i * 2 + 1)) = some (.slice t.2.1 t.1.cs.length t.2.2) ∧ Ints W t.2.1 t.1.cs.length t.1.cs ∧ t.1.cs.length ≤ t.2.2 ∧ (-9223372036854775808 ≤ t.1.low ∧ t.1.low ≤ 9223372036854775807) := fun i hi => by
      obtain ⟨h0, h1, h2, h3⟩ := hx i (by omega)
      obtain ⟨k, hk, _, hwf⟩ := DataW.trod_int Try.underlying3 h2
      obtain ⟨ar, lr, cr, hV⟩ : ∃ ar lr cr, V1 i = .slice ar lr cr := by
        rcases Go.ChangeShapes.open_ints Try.underlying33 Try.underlying3 (by kernel_rfl) h3 with ⟨hcs, _⟩ | ⟨y, l, c, zs, hcs, _⟩
        · exact ⟨none, 0, 0, by simpa using hcs⟩
        · exact ⟨some y, l, c, by simpa using hcs⟩
      rw [hV] at h1 h3
      obtain ⟨zs, hz, hle⟩ := intsle_of h3
      have hzl := hz.len
      subst hzl
      simp at hk
      simp only [Lit.wf, Bool.and_eq_true, decide_eq_true_eq] at hwf
      exact ⟨(⟨k, zs⟩, (ar, cr)), by rw [h0, hk], h1, hz, hle, hwf.1, hwf.2⟩
    obtain ⟨q, hq⟩ := Go.Deep.choose_lt each
    refine ⟨(List.range len).map fun i => (q i).1, by simp, by omega, fun h0 => ⟨y, rfl, ?_, fun i hi => ?_⟩, fun t ht => ?_⟩
    · have h := World.block_lt_of_cell? _ _ (hq 0 h0).1
      rw [addr_add_block] at h
      exact h
    · simp only [List.length_map, List.length_range] at hi
      simp only [List.getElem_map, List.getElem_range]
      exact ⟨_, _, (hq i hi).1, (hq i hi).2.1, (hq i hi).2.2.1, (hq i hi).2.2.2.1⟩
    · obtain ⟨i, hi, rfl⟩ := List.mem_map.1 ht
      exact (hq i (List.mem_range.1 hi)).2.2.2.2
theorem isPSS_of {H : Type} {enc : TypeId × Value → H} {W : World} {base : Nat} {spare : Nat → Bool} {held : Bool} {fuel : Nat} {a : Option Addr} {len cap : Nat} {x : DataW H × List MemPlace}
    (h : DataW.trod enc Try.prog W base spare held fuel 51 [.slice a len cap] = some x) : ∃ rows, IsPSS W a len rows := by
  rcases Go.Deep.open_slice1 Try.underlying51 (by kernel_rfl) h with ⟨hcs, _⟩ | ⟨y, l, c, m, n, V, D, P, hcs, hb, hl, hm, hmm, _, hx⟩
  · simp at hcs
    obtain ⟨rfl, rfl, rfl⟩ := hcs
    exact ⟨[], IsPSS.none _ _⟩
  · simp at hcs
    obtain ⟨rfl, rfl, rfl⟩ := hcs
    have hlm : len ≤ m := by rw [hmm]; split <;> omega
    have each : ∀ i, i < len → ∃ q : (Option Addr × Nat) × List Pl, W.cell? (y.add i) = some (.slice q.1.1 q.2.length q.1.2) ∧ IsPS W q.1.1 q.2.length q.2 := fun i hi => by
      obtain ⟨h0, h1⟩ := hx i (by omega)
      obtain ⟨ar, lr, cr, hV⟩ : ∃ ar lr cr, V i = .slice ar lr cr := by
        rcases Go.Deep.open_slice Try.underlying127 h1 with ⟨hcs, _⟩ | ⟨ar, lr, cr, _, _, _, _, hcs, _⟩
        · exact ⟨none, 0, 0, by simpa using hcs⟩
        · exact ⟨some ar, lr, cr, by simpa using hcs⟩
      rw [hV] at h0 h1
      obtain ⟨ts, hts⟩ := isPS_of h1
      have hl := hts.len
      subst hl
      exact ⟨((ar, cr), ts), h0, hts⟩
    obtain ⟨q, hq⟩ := Go.Deep.choose_lt each
    refine ⟨(List.range len).map fun i => (q i).2, by simp, by omega, fun h0 => ⟨y, rfl, ?_, fun i hi => ?_⟩⟩
    · have := World.block_lt_of_cell? _ _ (hq 0 h0).1
      rw [addr_add_block] at this
      exact this
    · simp only [List.length_map, List.length_range] at hi
      simp only [List.getElem_map, List.getElem_range]
      exact ⟨_, _, (hq i hi).1, (hq i hi).2⟩

end Go.Proofs.Ytbbkpaledlbcmaa

/- The program's matrices: arrays of pointers; as many rows, as many columns. -/

namespace Go.Proofs.Ytbbkpaledlbcmaa
open Go.RowKit

abbrev MA : TypeId := 90
abbrev RA : TypeId := 88
/-- The cells of a matrix: row by row. -/
def mC (g : Nat → Option Addr) : Array Value := #[.pointer (g 0), .pointer (g 1), .pointer (g 2), .pointer (g 3), .pointer (g 4), .pointer (g 5), .pointer (g 6), .pointer (g 7), .pointer (g 8), .pointer (g 9), .pointer (g 10), .pointer (g 11), .pointer (g 12), .pointer (g 13), .pointer (g 14), .pointer (g 15)]
/-- It has n rows and m columns. -/
structure ShapeM (g : Nat → Option Addr) (n m : Nat) : Prop where
  n4 : n ≤ 4
  m4 : m ≤ 4
  both : n = 0 ↔ m = 0
  yes : ∀ i k, i < n → k < m → ∃ p, g (i * 4 + k) = some p
  no : ∀ i k, i < 4 → k < 4 → (n ≤ i ∨ m ≤ k) → g (i * 4 + k) = none

/-! ### Arrays compared with the empty one -/
theorem arr_eq (d n : Nat) (w : World) {t e : TypeId} {P : Program} (hu : P.underlying t = some (.array n e)) {sz : Nat} (hs : ∀ w, (sizeOf e).run P w = .ok sz w) (xs ys : Array Value) (f : Nat → Value) (z : Nat → Value) (r : Nat → Bool)
    (hx : ∀ i w, i < n → (part e xs (i * sz)).run P w = .ok (f i) w) (hy : ∀ i w, i < n → (part e ys (i * sz)).run P w = .ok (z i) w) (hr : ∀ i w, i < n → (Op.equalIn d e (f i) (z i)).run P w = .ok (r i) w) :
    (Op.equalIn (d + 1) t (.agg xs) (.agg ys)).run P w = .ok ((List.range n).all r) w := by
  simp only [Op.equalIn, Sem.run_bind, run_underlying hu, Result.andThen_ok, hs]
  rw [Std.Legacy.Range.forIn_eq_forIn_range']
  simp only [Std.Legacy.Range.size, Nat.sub_zero, Nat.add_sub_cancel, Nat.div_one]
  have key : ∀ (l : List Nat) (w : World), (∀ i ∈ l, i < n) → Sem.run P (forIn l ((none : Option Bool), ()) fun i _ => do
            let a ← part e xs (i * sz)
            let b ← part e ys (i * sz)
            let c ← Op.equalIn d e a b
            if (!c) = true then pure (ForInStep.done (some false, ())) else pure (ForInStep.yield (none, ()))) w = .ok (if l.all r then (none, ()) else (some false, ())) w := by
    intro l
    induction l with
    | nil => intro w _; rfl
    | cons i l ih =>
      intro w h
      have hi := h i (List.mem_cons_self)
      simp only [List.forIn_cons, Sem.run_bind, hx i _ hi, hy i _ hi, hr i _ hi, Result.andThen_ok, List.all_cons]
      have hb : r i = false ∨ r i = true := by cases r i <;> simp
      rcases hb with e | e
      · simp [e]
      · simp only [e, Bool.not_true, Bool.false_eq_true, if_false, Sem.run_pure, Result.andThen_ok, Bool.true_and]
        exact ih w fun j hj => h j (List.mem_cons_of_mem _ hj)
  rw [key _ w (fun i hi => by rw [List.mem_range'_1] at hi; omega)]
  simp only [Result.andThen_ok, List.range_eq_range']
  cases (List.range' 0 n).all r <;> rfl

/-- A row of pointers against the empty one; a matrix against the empty one. -/
theorem row_eq (d : Nat) (w : World) (p0 p1 p2 p3 : Option Addr) :
    (Op.equalIn (d + 2) RA (.agg #[.pointer p0, .pointer p1, .pointer p2, .pointer p3]) (.agg #[.pointer none, .pointer none, .pointer none, .pointer none])).run Try.prog w = .ok (p0.isNone && (p1.isNone && (p2.isNone && p3.isNone))) w := by
  have hu : Try.prog.underlying RA = some (.array 4 86) := by kernel_rfl
  have hp : Try.prog.underlying 86 = some (.pointer (Try.prog.pointee 86)) := by kernel_rfl
  have hz : ∀ w, (sizeOf 86).run Try.prog w = .ok 1 w := fun w => by kernel_rfl
  have ha : ∀ w, (isAgg 86).run Try.prog w = .ok false w := fun w => by kernel_rfl
  have h4 : ∀ i, i < 4 → i = 0 ∨ i = 1 ∨ i = 2 ∨ i = 3 := fun i h => by omega
  rw [arr_eq (d + 1) 4 w hu hz _ _ (fun i => .pointer (if i = 0 then p0 else if i = 1 then p1 else if i = 2 then p2 else p3)) (fun _ => .pointer none) (fun i => (if i = 0 then p0 else if i = 1 then p1 else if i = 2 then p2 else p3).isNone)
    (fun i w h => by rcases h4 i h with rfl | rfl | rfl | rfl <;> simp [part, ha])
    (fun i w h => by rcases h4 i h with rfl | rfl | rfl | rfl <;> simp [part, ha])
    (fun i w _ => run_equalIn_pointer_nil w d _ _ hp)]
  simp [List.range_succ]
theorem mat_eq (d : Nat) (w : World) (g : Nat → Option Addr) :
    (Op.equalIn (d + 3) MA (.agg (mC g)) (.agg (mC fun _ => none))).run Try.prog w = .ok ((List.range 16).all fun i => (g i).isNone) w := by
  have hu : Try.prog.underlying MA = some (.array 4 RA) := by kernel_rfl
  have hz : ∀ w, (sizeOf RA).run Try.prog w = .ok 4 w := fun w => by kernel_rfl
  have ha : ∀ w, (isAgg RA).run Try.prog w = .ok true w := fun w => by kernel_rfl
  have h4 : ∀ i, i < 4 → i = 0 ∨ i = 1 ∨ i = 2 ∨ i = 3 := fun i h => by omega
  rw [arr_eq (d + 2) 4 w hu hz _ _ (fun i => .agg #[.pointer (g (i * 4)), .pointer (g (i * 4 + 1)), .pointer (g (i * 4 + 2)), .pointer (g (i * 4 + 3))]) (fun _ => .agg #[.pointer none, .pointer none, .pointer none, .pointer none]) (fun i => (g (i * 4)).isNone && ((g (i * 4 + 1)).isNone && ((g (i * 4 + 2)).isNone && (g (i * 4 + 3)).isNone)))
    (fun i w h => by rcases h4 i h with rfl | rfl | rfl | rfl <;> simp [part, ha, hz, mC])
    (fun i w h => by rcases h4 i h with rfl | rfl | rfl | rfl <;> simp [part, ha, hz, mC])
    (fun i w _ => row_eq d w _ _ _ _)]
  simp [List.range_succ, Bool.and_assoc]

set_option maxRecDepth 100000 in
set_option maxHeartbeats 2000000 in
theorem rows_any (g : Nat → Option Addr) (n m : Nat) (hs : ShapeM g n m) (w : World) :
    Calls Try.prog 97 #[.agg (mC g)] w fun e w' => e = .returned (.int .i64 n) ∧ Below w.heap.size w w' := by
  have HS := Lib.hid hs
  have hn4 := hs.n4
  have heq : ∀ (w : World) (p0 p1 p2 p3 : Option Addr), (Op.equalIn 10000 88 (.agg #[.pointer p0, .pointer p1, .pointer p2, .pointer p3]) (.agg #[.pointer none, .pointer none, .pointer none, .pointer none])).run Try.prog w = .ok (p0.isNone && (p1.isNone && (p2.isNone && p3.isNone))) w := fun w => row_eq 9998 w
  clear hs
  unfold mC
  go_enter Try.func97, Try.ntmps97
  go_wp2
  go_loop [3] (fun i => ∃ k : Nat, k ≤ n ∧ i = .int .i64 k) (fun i => n - (intOf i).toNat)
  case atStart => exact ⟨0, Nat.zero_le _, rfl⟩
  case round =>
    obtain ⟨k, hk, rfl⟩ := hrel
    by_cases hlt : k < n
    · have hm0 : 0 < m := by have := HS.out.both; omega
      have hk4 : k = 0 ∨ k = 1 ∨ k = 2 ∨ k = 3 := by omega
      rcases hk4 with rfl | rfl | rfl | rfl
      · obtain ⟨p, hp⟩ := HS.out.yes 0 0 hlt hm0
        go_wp2
        go_round
        case rel => exact ⟨1, by omega, by go_num⟩
        case measure => simp [intOf]; omega
      · obtain ⟨p, hp⟩ := HS.out.yes 1 0 hlt hm0
        go_wp2
        go_round
        case rel => exact ⟨2, by omega, by go_num⟩
        case measure => simp [intOf]; omega
      · obtain ⟨p, hp⟩ := HS.out.yes 2 0 hlt hm0
        go_wp2
        go_round
        case rel => exact ⟨3, by omega, by go_num⟩
        case measure => simp [intOf]; omega
      · obtain ⟨p, hp⟩ := HS.out.yes 3 0 hlt hm0
        go_wp2
        go_round
        case rel => exact ⟨4, by omega, by go_num⟩
        case measure => simp [intOf]; omega
    · obtain rfl : k = n := by omega
      have hk4 : k = 0 ∨ k = 1 ∨ k = 2 ∨ k = 3 ∨ k = 4 := by omega
      rcases hk4 with rfl | rfl | rfl | rfl | rfl
      · have q0 : g 0 = none := HS.out.no 0 0 (by omega) (by omega) (.inl (by omega))
        have q1 : g 1 = none := HS.out.no 0 1 (by omega) (by omega) (.inl (by omega))
        have q2 : g 2 = none := HS.out.no 0 2 (by omega) (by omega) (.inl (by omega))
        have q3 : g 3 = none := HS.out.no 0 3 (by omega) (by omega) (.inl (by omega))
        go_wp2
        go_ret
        exact ⟨rfl, (Below.refl _ w).alloc (Nat.le_refl _) _⟩
      · have q0 : g 4 = none := HS.out.no 1 0 (by omega) (by omega) (.inl (by omega))
        have q1 : g 5 = none := HS.out.no 1 1 (by omega) (by omega) (.inl (by omega))
        have q2 : g 6 = none := HS.out.no 1 2 (by omega) (by omega) (.inl (by omega))
        have q3 : g 7 = none := HS.out.no 1 3 (by omega) (by omega) (.inl (by omega))
        go_wp2
        go_ret
        exact ⟨rfl, (Below.refl _ w).alloc (Nat.le_refl _) _⟩
      · have q0 : g 8 = none := HS.out.no 2 0 (by omega) (by omega) (.inl (by omega))
        have q1 : g 9 = none := HS.out.no 2 1 (by omega) (by omega) (.inl (by omega))
        have q2 : g 10 = none := HS.out.no 2 2 (by omega) (by omega) (.inl (by omega))
        have q3 : g 11 = none := HS.out.no 2 3 (by omega) (by omega) (.inl (by omega))
        go_wp2
        go_ret
        exact ⟨rfl, (Below.refl _ w).alloc (Nat.le_refl _) _⟩
      · have q0 : g 12 = none := HS.out.no 3 0 (by omega) (by omega) (.inl (by omega))
        have q1 : g 13 = none := HS.out.no 3 1 (by omega) (by omega) (.inl (by omega))
        have q2 : g 14 = none := HS.out.no 3 2 (by omega) (by omega) (.inl (by omega))
        have q3 : g 15 = none := HS.out.no 3 3 (by omega) (by omega) (.inl (by omega))
        go_wp2
        go_ret
        exact ⟨rfl, (Below.refl _ w).alloc (Nat.le_refl _) _⟩
      · go_wp2
        go_ret
        exact ⟨rfl, (Below.refl _ w).alloc (Nat.le_refl _) _⟩

end Go.Proofs.Ytbbkpaledlbcmaa

/- The program's matrices: flipped. -/

namespace Go.Proofs.Ytbbkpaledlbcmaa
open Go.RowKit

/-- The cells of a block that holds a matrix. -/
theorem cells16 {w : World} {B : Nat} {g : Nat → Option Addr} (h : w.heap[B]? = some (.cells (mC g) MA (0, 0))) : w.cell? ⟨B, 0, none⟩ = some (.pointer (g 0)) ∧ w.cell? ⟨B, 1, none⟩ = some (.pointer (g 1)) ∧ w.cell? ⟨B, 2, none⟩ = some (.pointer (g 2)) ∧ w.cell? ⟨B, 3, none⟩ = some (.pointer (g 3)) ∧ w.cell? ⟨B, 4, none⟩ = some (.pointer (g 4)) ∧ w.cell? ⟨B, 5, none⟩ = some (.pointer (g 5)) ∧ w.cell? ⟨B, 6, none⟩ = some (.pointer (g 6)) ∧ w.cell? ⟨B, 7, none⟩ = some (.pointer (g 7)) ∧ w.cell? ⟨B, 8, none⟩ = some (.pointer (g 8)) ∧ w.cell? ⟨B, 9, none⟩ = some (.pointer (g 9)) ∧ w.cell? ⟨B, 10, none⟩ = some (.pointer (g 10)) ∧ w.cell? ⟨B, 11, none⟩ = some (.pointer (g 11)) ∧ w.cell? ⟨B, 12, none⟩ = some (.pointer (g 12)) ∧ w.cell? ⟨B, 13, none⟩ = some (.pointer (g 13)) ∧ w.cell? ⟨B, 14, none⟩ = some (.pointer (g 14)) ∧ w.cell? ⟨B, 15, none⟩ = some (.pointer (g 15)) ∧ ∀ j, w.frozen? ⟨B, j, none⟩ = false := by
  refine ⟨?_, ?_, ?_, ?_, ?_, ?_, ?_, ?_, ?_, ?_, ?_, ?_, ?_, ?_, ?_, ?_, fun j => ?_⟩ <;> simp [World.cell?, World.frozen?, h, mC]
def flipG (g : Nat → Option Addr) (j : Nat) : Option Addr := g (j % 4 * 4 + j / 4)
/-- The first i columns are filled in, and k places of the next one. -/
def partG (g : Nat → Option Addr) (i k j : Nat) : Option Addr := if j % 4 < i ∨ (j % 4 = i ∧ j / 4 < k) then g (j % 4 * 4 + j / 4) else none
structure FlipAt (w : World) (g : Nat → Option Addr) (i k : Nat) (wr : World) : Prop where
  below : Below w.heap.size w wr
  size : w.heap.size + 3 ≤ wr.heap.size
  res : wr.heap[w.heap.size + 1]? = some (.cells (mC fun _ => none) MA (0, 0))
  fill : wr.heap[w.heap.size + 1 + 1]? = some (.cells (mC (partG g i k)) MA (0, 0))
theorem FlipAt.alloc {w wr : World} {g : Nat → Option Addr} {i k : Nat} (h : FlipAt w g i k wr) (o : Obj) : FlipAt w g i k (wr.alloc o) := by
  have hs := h.size
  exact ⟨h.below.alloc (by omega) o, by simp; omega, (Below.heap_alloc _ _ _ (by omega)).trans h.res, (Below.heap_alloc _ _ _ (by omega)).trans h.fill⟩
theorem FlipAt.next {w wr : World} {g : Nat → Option Addr} {i k : Nat} (h : FlipAt w g i k wr) (hi : i < 4) (hk : k < 4) {p : Option Addr} (hp : g (i * 4 + k) = p) : FlipAt w g i (k + 1) (wr.setCell ⟨w.heap.size + 1 + 1, k * 4 + i, none⟩ (.pointer p)) := by
  have hs := h.size
  refine ⟨h.below.setCell (p := ⟨w.heap.size + 1 + 1, k * 4 + i, none⟩) (by show w.heap.size ≤ w.heap.size + 1 + 1; omega) _, by simp; omega, (heap_off wr _ _ (by show w.heap.size + 1 ≠ w.heap.size + 1 + 1; omega)).trans h.res, ?_⟩
  rw [heap_setCell_same wr (w.heap.size + 1 + 1) (k * 4 + i) _ _ _ h.fill]
  have e : (mC (partG g i k)).setIfInBounds (k * 4 + i) (.pointer p) = mC (partG g i (k + 1)) := by
    subst hp
    have h4 : i = 0 ∨ i = 1 ∨ i = 2 ∨ i = 3 := by omega
    have h5 : k = 0 ∨ k = 1 ∨ k = 2 ∨ k = 3 := by omega
    rcases h4 with rfl | rfl | rfl | rfl <;> rcases h5 with rfl | rfl | rfl | rfl <;> simp [mC, partG]
  rw [e]
theorem FlipAt.row {w wr : World} {g : Nat → Option Addr} {i : Nat} (h : FlipAt w g i 4 wr) (hi : i < 4) : FlipAt w g (i + 1) 0 wr := by
  refine ⟨h.below, h.size, h.res, ?_⟩
  have e : mC (partG g i 4) = mC (partG g (i + 1) 0) := by
    have h4 : i = 0 ∨ i = 1 ∨ i = 2 ∨ i = 3 := by omega
    rcases h4 with rfl | rfl | rfl | rfl <;> simp [mC, partG]
  rw [← e]
  exact h.fill
theorem FlipAt.start (w : World) (g : Nat → Option Addr) : FlipAt w g 0 0 (((w.alloc (.cells (mC g) MA)).alloc (.cells (mC fun _ => none) MA)).alloc (.cells (mC fun _ => none) MA)) := by
  refine ⟨(((Below.refl _ w).alloc (Nat.le_refl _) _).alloc (by simp) _).alloc (by simp; omega) _, by simp, ?_, ?_⟩
  · rw [Below.heap_alloc _ _ _ (by simp)]
    have h := World.alloc_heap_new (w.alloc (.cells (mC g) MA)) (.cells (mC fun _ => none) MA)
    rwa [World.size_alloc] at h
  · have h := World.alloc_heap_new ((w.alloc (.cells (mC g) MA)).alloc (.cells (mC fun _ => none) MA)) (.cells (mC fun _ => none) MA)
    rw [World.size_alloc, World.size_alloc] at h
    rw [h]
    have e : mC (partG g 0 0) = mC fun _ => none := by simp [mC, partG]
    rw [e]

/-- A matrix is stored whole. -/
def put16 (w : World) (B : Nat) (g : Nat → Option Addr) : World := ((((((((((((((((w.setCell ⟨B, 0, none⟩ (.pointer (g 0))).setCell ⟨B, 1, none⟩ (.pointer (g 1))).setCell ⟨B, 2, none⟩ (.pointer (g 2))).setCell ⟨B, 3, none⟩ (.pointer (g 3))).setCell ⟨B, 4, none⟩ (.pointer (g 4))).setCell ⟨B, 5, none⟩ (.pointer (g 5))).setCell ⟨B, 6, none⟩ (.pointer (g 6))).setCell ⟨B, 7, none⟩ (.pointer (g 7))).setCell ⟨B, 8, none⟩ (.pointer (g 8))).setCell ⟨B, 9, none⟩ (.pointer (g 9))).setCell ⟨B, 10, none⟩ (.pointer (g 10))).setCell ⟨B, 11, none⟩ (.pointer (g 11))).setCell ⟨B, 12, none⟩ (.pointer (g 12))).setCell ⟨B, 13, none⟩ (.pointer (g 13))).setCell ⟨B, 14, none⟩ (.pointer (g 14))).setCell ⟨B, 15, none⟩ (.pointer (g 15)))
theorem put16_heap {w : World} {B : Nat} {k : Nat → Option Addr} (h : w.heap[B]? = some (.cells (mC k) MA (0, 0))) (g : Nat → Option Addr) : (put16 w B g).heap[B]? = some (.cells (mC g) MA (0, 0)) := by
  unfold put16
  rw [heap_setCell_same _ B 15 _ _ _ (heap_setCell_same _ B 14 _ _ _ (heap_setCell_same _ B 13 _ _ _ (heap_setCell_same _ B 12 _ _ _ (heap_setCell_same _ B 11 _ _ _ (heap_setCell_same _ B 10 _ _ _ (heap_setCell_same _ B 9 _ _ _ (heap_setCell_same _ B 8 _ _ _ (heap_setCell_same _ B 7 _ _ _ (heap_setCell_same _ B 6 _ _ _ (heap_setCell_same _ B 5 _ _ _ (heap_setCell_same _ B 4 _ _ _ (heap_setCell_same _ B 3 _ _ _ (heap_setCell_same _ B 2 _ _ _ (heap_setCell_same _ B 1 _ _ _ (heap_setCell_same _ B 0 _ _ _ h)))))))))))))))]
  simp [mC]
theorem put16_off (w : World) {B b : Nat} (hb : b ≠ B) (g : Nat → Option Addr) : (put16 w B g).heap[b]? = w.heap[b]? := by
  unfold put16
  repeat rw [heap_off _ _ _ hb]
theorem put16_below {w w0 : World} {lo B : Nat} (h : Below lo w0 w) (hB : lo ≤ B) (g : Nat → Option Addr) : Below lo w0 (put16 w B g) :=
  ((((((((((((((((h.setCell (p := ⟨B, 0, none⟩) hB _).setCell (p := ⟨B, 1, none⟩) hB _).setCell (p := ⟨B, 2, none⟩) hB _).setCell (p := ⟨B, 3, none⟩) hB _).setCell (p := ⟨B, 4, none⟩) hB _).setCell (p := ⟨B, 5, none⟩) hB _).setCell (p := ⟨B, 6, none⟩) hB _).setCell (p := ⟨B, 7, none⟩) hB _).setCell (p := ⟨B, 8, none⟩) hB _).setCell (p := ⟨B, 9, none⟩) hB _).setCell (p := ⟨B, 10, none⟩) hB _).setCell (p := ⟨B, 11, none⟩) hB _).setCell (p := ⟨B, 12, none⟩) hB _).setCell (p := ⟨B, 13, none⟩) hB _).setCell (p := ⟨B, 14, none⟩) hB _).setCell (p := ⟨B, 15, none⟩) hB _)
theorem put16_size (w : World) (B : Nat) (g : Nat → Option Addr) : (put16 w B g).heap.size = w.heap.size := by simp [put16]
/-- A row of a matrix; a place of a row. -/
theorem idxM (g : Nat → Option Addr) :
    (∀ w, (Instr.index MA (.agg (mC g)) (.int .i64 0)).run Try.prog w = .ok (.agg #[.pointer (g 0), .pointer (g 1), .pointer (g 2), .pointer (g 3)]) w) ∧
    (∀ w, (Instr.index MA (.agg (mC g)) (.int .i64 1)).run Try.prog w = .ok (.agg #[.pointer (g 4), .pointer (g 5), .pointer (g 6), .pointer (g 7)]) w) ∧
    (∀ w, (Instr.index MA (.agg (mC g)) (.int .i64 2)).run Try.prog w = .ok (.agg #[.pointer (g 8), .pointer (g 9), .pointer (g 10), .pointer (g 11)]) w) ∧
    (∀ w, (Instr.index MA (.agg (mC g)) (.int .i64 3)).run Try.prog w = .ok (.agg #[.pointer (g 12), .pointer (g 13), .pointer (g 14), .pointer (g 15)]) w) := by
  have hu : Try.prog.underlying MA = some (.array 4 RA) := by kernel_rfl
  have hz : ∀ w, (sizeOf RA).run Try.prog w = .ok 4 w := fun w => by kernel_rfl
  have ha : ∀ w, (isAgg RA).run Try.prog w = .ok true w := fun w => by kernel_rfl
  refine ⟨fun w => ?_, fun w => ?_, fun w => ?_, fun w => ?_⟩ <;> simp [Instr.index, asIntOf, run_underlying hu, part, ha, hz, mC]
theorem idxR (p0 p1 p2 p3 : Option Addr) :
    (∀ w, (Instr.index RA (.agg #[.pointer p0, .pointer p1, .pointer p2, .pointer p3]) (.int .i64 0)).run Try.prog w = .ok (.pointer p0) w) ∧
    (∀ w, (Instr.index RA (.agg #[.pointer p0, .pointer p1, .pointer p2, .pointer p3]) (.int .i64 1)).run Try.prog w = .ok (.pointer p1) w) ∧
    (∀ w, (Instr.index RA (.agg #[.pointer p0, .pointer p1, .pointer p2, .pointer p3]) (.int .i64 2)).run Try.prog w = .ok (.pointer p2) w) ∧
    (∀ w, (Instr.index RA (.agg #[.pointer p0, .pointer p1, .pointer p2, .pointer p3]) (.int .i64 3)).run Try.prog w = .ok (.pointer p3) w) := by
  have hu : Try.prog.underlying RA = some (.array 4 86) := by kernel_rfl
  have hz : ∀ w, (sizeOf 86).run Try.prog w = .ok 1 w := fun w => by kernel_rfl
  have ha : ∀ w, (isAgg 86).run Try.prog w = .ok false w := fun w => by kernel_rfl
  refine ⟨fun w => ?_, fun w => ?_, fun w => ?_, fun w => ?_⟩ <;> simp [Instr.index, asIntOf, run_underlying hu, part, ha, hz]

set_option maxRecDepth 100000 in
set_option maxHeartbeats 4000000 in
theorem flipped_any (g : Nat → Option Addr) (w : World) :
    Calls Try.prog 107 #[.agg (mC g)] w fun e w' => e = .returned (.agg (mC (flipG g))) ∧ Below w.heap.size w w' := by
  have HST := Lib.hid (FlipAt.start w g)
  obtain ⟨i0, i1, i2, i3⟩ := idxM g
  obtain ⟨r0, r1, r2, r3⟩ := idxR (g 0) (g 1) (g 2) (g 3)
  obtain ⟨r4, r5, r6, r7⟩ := idxR (g 4) (g 5) (g 6) (g 7)
  obtain ⟨r8, r9, r10, r11⟩ := idxR (g 8) (g 9) (g 10) (g 11)
  obtain ⟨r12, r13, r14, r15⟩ := idxR (g 12) (g 13) (g 14) (g 15)
  unfold mC at i0 i1 i2 i3
  unfold mC at HST
  unfold mC
  go_enter Try.func107, Try.ntmps107
  go_wp2
  go_loopw [9] (fun i wr => ∃ k : Nat, k ≤ 4 ∧ i = .int .i64 k ∧ Hid (FlipAt w g k 0 wr)) (fun i _ => 4 - (intOf i).toNat)
  case atStart => exact ⟨0, by omega, rfl, HST⟩
  case round =>
    obtain ⟨i, hi, rfl, HF⟩ := hrel
    by_cases hlt : i < 4
    · have h4 : i = 0 ∨ i = 1 ∨ i = 2 ∨ i = 3 := by omega
      rcases h4 with rfl | rfl | rfl | rfl
      · go_wp2
        go_loopw [14] (fun x wr => ∃ k : Nat, k ≤ 4 ∧ x = .int .i64 k ∧ Hid (FlipAt w g 0 k wr)) (fun x _ => 4 - (intOf x).toNat)
        case atStart => exact ⟨0, by omega, rfl, Lib.hid (HF.out.alloc _)⟩
        case round =>
          obtain ⟨k, hk, rfl, HI⟩ := hrel
          by_cases hkt : k < 4
          · have h5 : k = 0 ∨ k = 1 ∨ k = 2 ∨ k = 3 := by omega
            rcases h5 with rfl | rfl | rfl | rfl
            · have hq : wr.cell? ⟨w.heap.size + 1 + 1, 0, none⟩ = some (.pointer (partG g 0 0 0)) := by obtain ⟨h, _⟩ := cells16 HI.out.fill; exact h
              have hf : wr.frozen? ⟨w.heap.size + 1 + 1, 0, none⟩ = false := (cells16 HI.out.fill).2.2.2.2.2.2.2.2.2.2.2.2.2.2.2.2 0
              go_wp2
              go_roundw
              case rel => exact ⟨1, by omega, by go_num, Lib.hid (HI.out.next (by omega) (by omega) rfl)⟩
              case measure => simp [intOf]
            · have hq : wr.cell? ⟨w.heap.size + 1 + 1, 4, none⟩ = some (.pointer (partG g 0 1 4)) := by obtain ⟨_, _, _, _, h, _⟩ := cells16 HI.out.fill; exact h
              have hf : wr.frozen? ⟨w.heap.size + 1 + 1, 4, none⟩ = false := (cells16 HI.out.fill).2.2.2.2.2.2.2.2.2.2.2.2.2.2.2.2 4
              go_wp2
              go_roundw
              case rel => exact ⟨2, by omega, by go_num, Lib.hid (HI.out.next (by omega) (by omega) rfl)⟩
              case measure => simp [intOf]
            · have hq : wr.cell? ⟨w.heap.size + 1 + 1, 8, none⟩ = some (.pointer (partG g 0 2 8)) := by obtain ⟨_, _, _, _, _, _, _, _, h, _⟩ := cells16 HI.out.fill; exact h
              have hf : wr.frozen? ⟨w.heap.size + 1 + 1, 8, none⟩ = false := (cells16 HI.out.fill).2.2.2.2.2.2.2.2.2.2.2.2.2.2.2.2 8
              go_wp2
              go_roundw
              case rel => exact ⟨3, by omega, by go_num, Lib.hid (HI.out.next (by omega) (by omega) rfl)⟩
              case measure => simp [intOf]
            · have hq : wr.cell? ⟨w.heap.size + 1 + 1, 12, none⟩ = some (.pointer (partG g 0 3 12)) := by obtain ⟨_, _, _, _, _, _, _, _, _, _, _, _, h, _⟩ := cells16 HI.out.fill; exact h
              have hf : wr.frozen? ⟨w.heap.size + 1 + 1, 12, none⟩ = false := (cells16 HI.out.fill).2.2.2.2.2.2.2.2.2.2.2.2.2.2.2.2 12
              go_wp2
              go_roundw
              case rel => exact ⟨4, by omega, by go_num, Lib.hid (HI.out.next (by omega) (by omega) rfl)⟩
              case measure => simp [intOf]
          · obtain rfl : k = 4 := by omega
            go_wp2
            go_roundw
            case rel => exact ⟨1, by omega, by go_num, Lib.hid (HI.out.row (by omega))⟩
            case measure => simp [intOf]
      · go_wp2
        go_loopw [14] (fun x wr => ∃ k : Nat, k ≤ 4 ∧ x = .int .i64 k ∧ Hid (FlipAt w g 1 k wr)) (fun x _ => 4 - (intOf x).toNat)
        case atStart => exact ⟨0, by omega, rfl, Lib.hid (HF.out.alloc _)⟩
        case round =>
          obtain ⟨k, hk, rfl, HI⟩ := hrel
          by_cases hkt : k < 4
          · have h5 : k = 0 ∨ k = 1 ∨ k = 2 ∨ k = 3 := by omega
            rcases h5 with rfl | rfl | rfl | rfl
            · have hq : wr.cell? ⟨w.heap.size + 1 + 1, 1, none⟩ = some (.pointer (partG g 1 0 1)) := by obtain ⟨_, h, _⟩ := cells16 HI.out.fill; exact h
              have hf : wr.frozen? ⟨w.heap.size + 1 + 1, 1, none⟩ = false := (cells16 HI.out.fill).2.2.2.2.2.2.2.2.2.2.2.2.2.2.2.2 1
              go_wp2
              go_roundw
              case rel => exact ⟨1, by omega, by go_num, Lib.hid (HI.out.next (by omega) (by omega) rfl)⟩
              case measure => simp [intOf]
            · have hq : wr.cell? ⟨w.heap.size + 1 + 1, 5, none⟩ = some (.pointer (partG g 1 1 5)) := by obtain ⟨_, _, _, _, _, h, _⟩ := cells16 HI.out.fill; exact h
              have hf : wr.frozen? ⟨w.heap.size + 1 + 1, 5, none⟩ = false := (cells16 HI.out.fill).2.2.2.2.2.2.2.2.2.2.2.2.2.2.2.2 5
              go_wp2
              go_roundw
              case rel => exact ⟨2, by omega, by go_num, Lib.hid (HI.out.next (by omega) (by omega) rfl)⟩
              case measure => simp [intOf]
            · have hq : wr.cell? ⟨w.heap.size + 1 + 1, 9, none⟩ = some (.pointer (partG g 1 2 9)) := by obtain ⟨_, _, _, _, _, _, _, _, _, h, _⟩ := cells16 HI.out.fill; exact h
              have hf : wr.frozen? ⟨w.heap.size + 1 + 1, 9, none⟩ = false := (cells16 HI.out.fill).2.2.2.2.2.2.2.2.2.2.2.2.2.2.2.2 9
              go_wp2
              go_roundw
              case rel => exact ⟨3, by omega, by go_num, Lib.hid (HI.out.next (by omega) (by omega) rfl)⟩
              case measure => simp [intOf]
            · have hq : wr.cell? ⟨w.heap.size + 1 + 1, 13, none⟩ = some (.pointer (partG g 1 3 13)) := by obtain ⟨_, _, _, _, _, _, _, _, _, _, _, _, _, h, _⟩ := cells16 HI.out.fill; exact h
              have hf : wr.frozen? ⟨w.heap.size + 1 + 1, 13, none⟩ = false := (cells16 HI.out.fill).2.2.2.2.2.2.2.2.2.2.2.2.2.2.2.2 13
              go_wp2
              go_roundw
              case rel => exact ⟨4, by omega, by go_num, Lib.hid (HI.out.next (by omega) (by omega) rfl)⟩
              case measure => simp [intOf]
          · obtain rfl : k = 4 := by omega
            go_wp2
            go_roundw
            case rel => exact ⟨2, by omega, by go_num, Lib.hid (HI.out.row (by omega))⟩
            case measure => simp [intOf]
      · go_wp2
        go_loopw [14] (fun x wr => ∃ k : Nat, k ≤ 4 ∧ x = .int .i64 k ∧ Hid (FlipAt w g 2 k wr)) (fun x _ => 4 - (intOf x).toNat)
        case atStart => exact ⟨0, by omega, rfl, Lib.hid (HF.out.alloc _)⟩
        case round =>
          obtain ⟨k, hk, rfl, HI⟩ := hrel
          by_cases hkt : k < 4
          · have h5 : k = 0 ∨ k = 1 ∨ k = 2 ∨ k = 3 := by omega
            rcases h5 with rfl | rfl | rfl | rfl
            · have hq : wr.cell? ⟨w.heap.size + 1 + 1, 2, none⟩ = some (.pointer (partG g 2 0 2)) := by obtain ⟨_, _, h, _⟩ := cells16 HI.out.fill; exact h
              have hf : wr.frozen? ⟨w.heap.size + 1 + 1, 2, none⟩ = false := (cells16 HI.out.fill).2.2.2.2.2.2.2.2.2.2.2.2.2.2.2.2 2
              go_wp2
              go_roundw
              case rel => exact ⟨1, by omega, by go_num, Lib.hid (HI.out.next (by omega) (by omega) rfl)⟩
              case measure => simp [intOf]
            · have hq : wr.cell? ⟨w.heap.size + 1 + 1, 6, none⟩ = some (.pointer (partG g 2 1 6)) := by obtain ⟨_, _, _, _, _, _, h, _⟩ := cells16 HI.out.fill; exact h
              have hf : wr.frozen? ⟨w.heap.size + 1 + 1, 6, none⟩ = false := (cells16 HI.out.fill).2.2.2.2.2.2.2.2.2.2.2.2.2.2.2.2 6
              go_wp2
              go_roundw
              case rel => exact ⟨2, by omega, by go_num, Lib.hid (HI.out.next (by omega) (by omega) rfl)⟩
              case measure => simp [intOf]
            · have hq : wr.cell? ⟨w.heap.size + 1 + 1, 10, none⟩ = some (.pointer (partG g 2 2 10)) := by obtain ⟨_, _, _, _, _, _, _, _, _, _, h, _⟩ := cells16 HI.out.fill; exact h
              have hf : wr.frozen? ⟨w.heap.size + 1 + 1, 10, none⟩ = false := (cells16 HI.out.fill).2.2.2.2.2.2.2.2.2.2.2.2.2.2.2.2 10
              go_wp2
              go_roundw
              case rel => exact ⟨3, by omega, by go_num, Lib.hid (HI.out.next (by omega) (by omega) rfl)⟩
              case measure => simp [intOf]
            · have hq : wr.cell? ⟨w.heap.size + 1 + 1, 14, none⟩ = some (.pointer (partG g 2 3 14)) := by obtain ⟨_, _, _, _, _, _, _, _, _, _, _, _, _, _, h, _⟩ := cells16 HI.out.fill; exact h
              have hf : wr.frozen? ⟨w.heap.size + 1 + 1, 14, none⟩ = false := (cells16 HI.out.fill).2.2.2.2.2.2.2.2.2.2.2.2.2.2.2.2 14
              go_wp2
              go_roundw
              case rel => exact ⟨4, by omega, by go_num, Lib.hid (HI.out.next (by omega) (by omega) rfl)⟩
              case measure => simp [intOf]
          · obtain rfl : k = 4 := by omega
            go_wp2
            go_roundw
            case rel => exact ⟨3, by omega, by go_num, Lib.hid (HI.out.row (by omega))⟩
            case measure => simp [intOf]
      · go_wp2
        go_loopw [14] (fun x wr => ∃ k : Nat, k ≤ 4 ∧ x = .int .i64 k ∧ Hid (FlipAt w g 3 k wr)) (fun x _ => 4 - (intOf x).toNat)
        case atStart => exact ⟨0, by omega, rfl, Lib.hid (HF.out.alloc _)⟩
        case round =>
          obtain ⟨k, hk, rfl, HI⟩ := hrel
          by_cases hkt : k < 4
          · have h5 : k = 0 ∨ k = 1 ∨ k = 2 ∨ k = 3 := by omega
            rcases h5 with rfl | rfl | rfl | rfl
            · have hq : wr.cell? ⟨w.heap.size + 1 + 1, 3, none⟩ = some (.pointer (partG g 3 0 3)) := by obtain ⟨_, _, _, h, _⟩ := cells16 HI.out.fill; exact h
              have hf : wr.frozen? ⟨w.heap.size + 1 + 1, 3, none⟩ = false := (cells16 HI.out.fill).2.2.2.2.2.2.2.2.2.2.2.2.2.2.2.2 3
              go_wp2
              go_roundw
              case rel => exact ⟨1, by omega, by go_num, Lib.hid (HI.out.next (by omega) (by omega) rfl)⟩
              case measure => simp [intOf]
            · have hq : wr.cell? ⟨w.heap.size + 1 + 1, 7, none⟩ = some (.pointer (partG g 3 1 7)) := by obtain ⟨_, _, _, _, _, _, _, h, _⟩ := cells16 HI.out.fill; exact h
              have hf : wr.frozen? ⟨w.heap.size + 1 + 1, 7, none⟩ = false := (cells16 HI.out.fill).2.2.2.2.2.2.2.2.2.2.2.2.2.2.2.2 7
              go_wp2
              go_roundw
              case rel => exact ⟨2, by omega, by go_num, Lib.hid (HI.out.next (by omega) (by omega) rfl)⟩
              case measure => simp [intOf]
            · have hq : wr.cell? ⟨w.heap.size + 1 + 1, 11, none⟩ = some (.pointer (partG g 3 2 11)) := by obtain ⟨_, _, _, _, _, _, _, _, _, _, _, h, _⟩ := cells16 HI.out.fill; exact h
              have hf : wr.frozen? ⟨w.heap.size + 1 + 1, 11, none⟩ = false := (cells16 HI.out.fill).2.2.2.2.2.2.2.2.2.2.2.2.2.2.2.2 11
              go_wp2
              go_roundw
              case rel => exact ⟨3, by omega, by go_num, Lib.hid (HI.out.next (by omega) (by omega) rfl)⟩
              case measure => simp [intOf]
            · have hq : wr.cell? ⟨w.heap.size + 1 + 1, 15, none⟩ = some (.pointer (partG g 3 3 15)) := by obtain ⟨_, _, _, _, _, _, _, _, _, _, _, _, _, _, _, h, _⟩ := cells16 HI.out.fill; exact h
              have hf : wr.frozen? ⟨w.heap.size + 1 + 1, 15, none⟩ = false := (cells16 HI.out.fill).2.2.2.2.2.2.2.2.2.2.2.2.2.2.2.2 15
              go_wp2
              go_roundw
              case rel => exact ⟨4, by omega, by go_num, Lib.hid (HI.out.next (by omega) (by omega) rfl)⟩
              case measure => simp [intOf]
          · obtain rfl : k = 4 := by omega
            go_wp2
            go_roundw
            case rel => exact ⟨4, by omega, by go_num, Lib.hid (HI.out.row (by omega))⟩
            case measure => simp [intOf]
    · obtain rfl : i = 4 := by omega
      have eP : mC (partG g 4 0) = mC (flipG g) := by simp [mC, partG, flipG]
      have hfill := HF.out.fill
      rw [eP] at hfill
      obtain ⟨c0, c1, c2, c3, c4, c5, c6, c7, c8, c9, c10, c11, c12, c13, c14, c15, c16⟩ := cells16 hfill
      obtain ⟨d0, d1, d2, d3, d4, d5, d6, d7, d8, d9, d10, d11, d12, d13, d14, d15, d16⟩ := cells16 HF.out.res
      have HFF := Lib.hid HF.out.res
      clear hfill eP
      go_wp2
      have hP := put16_heap HFF.out (flipG g)
      have hB := put16_below HF.out.below (B := w.heap.size + 1) (by omega) (flipG g)
      obtain ⟨e0, e1, e2, e3, e4, e5, e6, e7, e8, e9, e10, e11, e12, e13, e14, e15, e16⟩ := cells16 hP
      refine bodyPost_ret (w := put16 wr (w.heap.size + 1) (flipG g)) (v := .agg (mC (flipG g))) ?_ rfl ⟨rfl, hB⟩
      simp [results, Try.results107, go_sem, mC, e0, e1, e2, e3, e4, e5, e6, e7, e8, e9, e10, e11, e12, e13, e14, e15]

end Go.Proofs.Ytbbkpaledlbcmaa

/- Polynomials on the way: lists told by a function of the power, sums' and products' coefficients as they come. -/

namespace Go.Proofs.Ytbbkpaledlbcmaa
open Go.RowKit

/-- A slice that can be read. -/
def Reads (w : World) (v : Value) (zs : List Int) : Prop := ∃ a cap, v = .slice a zs.length cap ∧ zs.length ≤ cap ∧ Ints w a zs.length zs
theorem IntRow.reads {base : Nat} {w : World} {v : Value} {zs : List Int} (h : IntRow base w v zs) (hw : ∀ z ∈ zs, -9223372036854775808 ≤ z ∧ z ≤ 9223372036854775807) : Reads w v zs := h.readc hw
theorem Reads.below {w w' : World} {v : Value} {zs : List Int} (h : Reads w v zs) (hb : Below w.heap.size w w') : Reads w' v zs := by
  obtain ⟨a, cap, hv, hc, hi⟩ := h
  exact ⟨a, cap, hv, hc, hi.below hb⟩

/-- A cell of a list that a function tells is set: another function tells the list. -/
theorem listP_set {f g : Int → Int} {low x : Int} {n j : Nat} (hg : ∀ k, k ≠ low + (j : Int) → g k = f k) (hx : g (low + (j : Int)) = x) : (intsV (listP f low n)).set j (.int .i64 x) = intsV (listP g low n) := by
  unfold intsV listP
  refine List.ext_getElem (by simp) fun i h1 h2 => ?_
  by_cases e : j = i
  · subst e
    simp [hx]
  · simp [List.getElem_set_ne e, hg (low + (i : Int)) (by omega)]
theorem listP_congr {f g : Int → Int} {low : Int} {n : Nat} (h : ∀ k, low ≤ k → k < low + n → f k = g k) : listP f low n = listP g low n := by
  unfold listP
  refine List.map_congr_left fun i hi => h _ (by omega) ?_
  have := List.mem_range.1 hi
  omega
theorem listP_zero (low : Int) (n : Nat) : listP (fun _ => 0) low n = List.replicate n 0 := by
  unfold listP
  rw [List.map_const', List.length_range]
theorem listP_cell {f : Int → Int} {low : Int} {n j : Nat} (h : j < n) : (intsV (listP f low n))[j]? = some (.int .i64 (f (low + (j : Int)))) := by
  simp [intsV, listP, h]
/-- Only the first powers, below a bound. -/
def upto (f : Int → Int) (m : Int) (k : Int) : Int := if k < m then f k else 0
theorem upto_next {f : Int → Int} {m k : Int} (h : k ≠ m) : upto f (m + 1) k = upto f m k := by
  unfold upto
  by_cases h1 : k < m
  · rw [if_pos h1, if_pos (by omega)]
  · rw [if_neg h1, if_neg (by omega)]
theorem upto_at (f : Int → Int) (m : Int) : upto f (m + 1) m = f m := by unfold upto; rw [if_pos (by omega)]
theorem upto_here (f : Int → Int) (m : Int) : upto f m m = 0 := by unfold upto; rw [if_neg (by omega)]
theorem upto_low (p : Pl) (k : Int) : upto (pat p) p.low k = 0 := by
  unfold upto
  split
  · rw [pat_low p (by assumption)]
  · rfl
theorem upto_high (p : Pl) (k : Int) : upto (pat p) (p.low + p.cs.length) k = pat p k := by
  unfold upto
  split
  · rfl
  · rw [pat_high p (by omega)]

/-! ### Coefficients that are none -/
theorem polyB_mem {p : Pl} {z : Int} (hm : z ∈ p.cs) (h : coefIn z = false) : polyB p = false := by
  obtain ⟨i, hi, rfl⟩ := List.mem_iff_getElem.1 hm
  exact polyB_bad hi h
theorem tidy_has {low : Int} {l : List Int} {i : Nat} (h : l.getD i 0 ≠ 0) : l.getD i 0 ∈ (tidyP low l).cs := by
  have e := (tidy_pat low l (low + (i : Int))).trans (pat_at ⟨low, l⟩ i)
  have e : pat (tidyP low l) (low + (i : Int)) = l.getD i 0 := e
  have hp := pat_in (p := tidyP low l) (k := low + (i : Int)) (by rw [e]; exact h)
  obtain ⟨m, hm⟩ : ∃ m : Nat, low + (i : Int) = (tidyP low l).low + (m : Int) := ⟨(low + (i : Int) - (tidyP low l).low).toNat, by omega⟩
  have hml : m < (tidyP low l).cs.length := by omega
  rw [hm, pat_at, List.getD_eq_getElem?_getD, List.getElem?_eq_getElem hml] at e
  have e : (tidyP low l).cs[m] = l.getD i 0 := e
  rw [← e]
  exact List.getElem_mem hml
theorem tidy_bad {low : Int} {l : List Int} {i : Nat} (h : coefIn (l.getD i 0) = false) : polyB (tidyP low l) = false :=
  polyB_mem (tidy_has (low := low) (i := i) (fun e => by rw [e] at h; exact absurd h (by decide))) h
/-- A number and what it should be: the same, or both no coefficients. -/
def Heldc (o c : Int) : Prop := o = c ∨ (coefIn o = false ∧ coefIn c = false)
theorem held_lists {os cs : List Int} (low : Int) (hl : os.length = cs.length) (h : ∀ i, i < cs.length → Heldc (os.getD i 0) (cs.getD i 0)) : tidyP low os = tidyP low cs ∨ (polyB (tidyP low os) = false ∧ polyB (tidyP low cs) = false) := by
  by_cases hall : ∀ i, i < os.length → os.getD i 0 = cs.getD i 0
  · exact .inl (by rw [eq_getD hl hall])
  · right
    obtain ⟨i, hi⟩ := Classical.not_forall.1 hall
    obtain ⟨hi, hne⟩ := Classical.not_imp.1 hi
    rcases h i (by omega) with e | ⟨h1, h2⟩
    · exact absurd e hne
    · exact ⟨tidy_bad (i := i) h1, tidy_bad (i := i) h2⟩
theorem held_done {p q : Pl} (h : p = q ∨ (polyB p = false ∧ polyB q = false)) : polyB p = polyB q ∧ doneP (polyB p) p = doneP (polyB q) q := by
  rcases h with rfl | ⟨h1, h2⟩
  · exact ⟨rfl, rfl⟩
  · rw [h1, h2]; exact ⟨rfl, rfl⟩
theorem coefIn_yes {z : Int} (h : coefIn z = true) : -1000000000 ≤ z ∧ z ≤ 1000000000 := by
  unfold coefIn inR at h
  simpa using h
theorem coefIn_no {z : Int} (h : z < -1000000000 ∨ 1000000000 < z) : coefIn z = false := by
  unfold coefIn inR
  rcases h with h | h
  · simp; omega
  · simp; omega

end Go.Proofs.Ytbbkpaledlbcmaa

/- The program's within, isNotZero, and slices.IndexFunc and slices.ContainsFunc at them. -/

namespace Go.Proofs.Ytbbkpaledlbcmaa
open Go.RowKit

set_option maxHeartbeats 1000000 in
theorem within_any (n s : Int) (b : Bool) (w : World) (h0 : 0 ≤ s) (h1 : s ≤ 9223372036854775807) (hb : inR (-s) s n = b) :
    Calls Try.prog 162 #[.int .i64 n, .int .i64 s] w fun e w' => e = .returned (.bool b) ∧ w = w' := by
  have hwr : IntKind.i64.wrap (-s) = -s := IntWalk.i64_in _ (by omega)
  unfold inR at hb
  by_cases h2 : -s ≤ n
  · have hd : decide (-s ≤ n) = true := decide_eq_true h2
    rw [hd, Bool.true_and] at hb
    go_enter Try.func162, Try.ntmps162
    go_wp2
    go_ret
    first | exact ⟨rfl, rfl⟩ | exact ⟨ret_bool hb, rfl⟩
  · have hd : decide (-s ≤ n) = false := decide_eq_false h2
    rw [hd, Bool.false_and] at hb
    subst hb
    go_enter Try.func162, Try.ntmps162
    go_wp2
    go_ret
    exact ⟨rfl, rfl⟩
theorem isNotZero_any (z : Int) (b : Bool) (w : World) (hb : decide (z = 0) = b) :
    Calls Try.prog 164 #[.int .i64 z] w fun e w' => e = .returned (.bool !b) ∧ w = w' := by
  go_enter Try.func164, Try.ntmps164
  go_wp2
  go_ret
  refine ⟨ret_bool ?_, rfl⟩
  subst hb
  by_cases h : z = 0 <;> simp [h]
theorem beyond_any (z : Int) (b : Bool) (w : World) (hb : coefIn z = b) :
    Calls Try.prog 193 #[.int .i64 z] w fun e w' => e = .returned (.bool !b) ∧ w = w' := by
  go_enter Try.func193, Try.ntmps193
  go_wp2_with fail
  refine (within_any z 1000000000 b _ (by omega) (by omega) hb).mono ?_
  rintro e w1 ⟨rfl, rfl⟩
  go_wp2
  go_ret
  exact ⟨rfl, rfl⟩

/-- The first place at which a test holds, or -1. -/
def FirstI (p : Int → Bool) (zs : List Int) (r : Int) : Prop :=
  (r = -1 ∧ ∀ j (h : j < zs.length), p zs[j] = false) ∨ ∃ (i : Nat) (h : i < zs.length), r = i ∧ p zs[i] = true ∧ ∀ j (h : j < i), p zs[j] = false
/-- A function value that is a test of ints and leaves the world alone. -/
def TestOk (F : FuncId) (p : Int → Bool) : Prop :=
  (∀ (args : Array Value) (w : World), (callFunc F args).run Try.prog w = .ok (.enter F args) w) ∧ ∀ (z : Int) (w : World), Calls Try.prog F #[.int .i64 z] w fun e w' => e = .returned (.bool (p z)) ∧ w = w'

set_option maxRecDepth 100000 in
set_option maxHeartbeats 2000000 in
theorem indexI_any (F : FuncId) (p : Int → Bool) (hF : TestOk F p) (a : Option Addr) (cap n : Nat) (zs : List Int) (w : World) (hs : Ints w a n zs) :
    Calls Try.prog 163 #[.slice a n cap, .func (.func F) #[] #[]] w fun e w' => (∃ r, e = .returned (.int .i64 r) ∧ FirstI p zs r) ∧ w = w' := by
  obtain ⟨eg, hf⟩ := hF
  have hm := hs.max
  unfold maxLen at hm
  have HN := Lib.hid hs.len
  have HS := Lib.hid hs
  have HF := Lib.hid hf
  clear hs hf
  go_enter Try.func163, Try.ntmps163
  go_wp2
  go_loopw [8] (fun i wr => ∃ k : Nat, k ≤ n ∧ i = .int .i64 (k : Int) ∧ Hid (∀ j (h : j < zs.length), j < k → p zs[j] = false) ∧ w = wr) (fun i _ => n - (intOf i).toNat)
  case atStart => exact ⟨0, Nat.zero_le _, rfl, Lib.hid (fun j _ h => absurd h (Nat.not_lt_zero _)), rfl⟩
  case round =>
    obtain ⟨k, hk, rfl, HJ, rfl⟩ := hrel
    by_cases hlt : k < n
    · have hkz : k < zs.length := by rw [HN.out]; exact hlt
      obtain ⟨x, rfl, hxb, hxc⟩ := HS.out.at_ (by omega)
      obtain ⟨z, hz⟩ : ∃ z, zs[k] = z := ⟨_, rfl⟩
      have hc := hxc k hkz
      rw [hz] at hc
      have HZ := Lib.hid hz
      clear hz hxc
      go_wp2_with fail
      refine (HF.out z _).mono ?_
      rintro e w2 ⟨rfl, rfl⟩
      cases hp : p z with
      | true =>
        have HP := Lib.hid hp
        clear hp
        go_wp2
        go_ret
        exact ⟨⟨_, rfl, .inr ⟨k, hkz, rfl, by rw [HZ.out]; exact HP.out, fun j hj => HJ.out j (by omega) hj⟩⟩, rfl⟩
      | false =>
        have HP := Lib.hid hp
        clear hp
        go_wp2
        go_roundw
        case rel =>
          refine ⟨k + 1, by omega, by go_num, Lib.hid ?_, by first | trivial | rfl⟩
          intro j hj hjk
          by_cases e : j = k
          · subst e; rw [HZ.out]; exact HP.out
          · exact HJ.out j hj (by omega)
        case measure => simp [intOf]; omega
    · obtain rfl : k = n := by omega
      go_wp2
      go_ret
      exact ⟨⟨_, rfl, .inl ⟨rfl, fun j hj => HJ.out j hj (by rw [← HN.out]; exact hj)⟩⟩, rfl⟩

theorem firstI_any {p : Int → Bool} {zs : List Int} {r : Int} (h : FirstI p zs r) : zs.any p = decide (0 ≤ r) := by
  rcases h with ⟨rfl, h⟩ | ⟨i, hi, rfl, h, _⟩
  · rw [List.any_eq_false.2]
    · rfl
    · intro t ht
      obtain ⟨j, hj, rfl⟩ := List.getElem_of_mem ht
      simpa using h j hj
  · rw [decide_eq_true (by omega : (0 : Int) ≤ i)]
    exact List.any_eq_true.2 ⟨_, List.getElem_mem hi, h⟩
theorem containsI_any (F : FuncId) (p : Int → Bool) (hF : TestOk F p) (a : Option Addr) (cap n : Nat) (zs : List Int) (b : Bool) (w : World) (hs : Ints w a n zs) (hb : zs.any p = b) :
    Calls Try.prog 194 #[.slice a n cap, .func (.func F) #[] #[]] w fun e w' => e = .returned (.bool b) ∧ w = w' := by
  subst hb
  have HS := Lib.hid hs
  clear hs
  go_enter Try.func194, Try.ntmps194
  go_wp2_with fail
  refine (indexI_any F p hF a cap n zs _ HS.out).mono ?_
  rintro e w2 ⟨⟨r, rfl, hr⟩, rfl⟩
  have HR := Lib.hid (firstI_any hr)
  clear hr
  go_wp2
  go_ret
  exact ⟨ret_bool (by rw [HR.out]), rfl⟩

abbrev NZF : FuncId := 164
abbrev BYF : FuncId := 193
theorem nz_ok : TestOk NZF fun z => !decide (z = 0) := ⟨enters_of Try.func164 (by kernel_rfl) rfl, fun z w => isNotZero_any z _ w rfl⟩
theorem beyond_ok : TestOk BYF fun z => !coefIn z := ⟨enters_of Try.func193 (by kernel_rfl) rfl, fun z w => beyond_any z _ w rfl⟩

/-- The first place of what is not 0. -/
theorem firstI_zfrom {zs : List Int} {r : Int} (h : FirstI (fun z => !decide (z = 0)) zs r) : (r = -1 ∧ zfrom zs = zs.length) ∨ (r = (zfrom zs : Nat) ∧ zfrom zs < zs.length) := by
  have hg : ∀ j (hj : j < zs.length), zs.getD j 0 = zs[j] := fun j hj => by rw [List.getD_eq_getElem?_getD, List.getElem?_eq_getElem hj]; rfl
  rcases h with ⟨rfl, h⟩ | ⟨i, hi, rfl, h, h2⟩
  · exact .inl ⟨rfl, zfrom_at (Nat.le_refl _) (fun i hi => by rw [hg i hi]; simpa using h i hi) (fun h => absurd h (Nat.lt_irrefl _))⟩
  · have e : zfrom zs = i := zfrom_at (by omega) (fun j hj => by rw [hg j (by omega)]; simpa using h2 j hj) (fun _ => by rw [hg i hi]; simpa using h)
    rw [e]
    exact .inr ⟨rfl, hi⟩

end Go.Proofs.Ytbbkpaledlbcmaa

/- The program's fits, slices.Clone, apart and told. -/

namespace Go.Proofs.Ytbbkpaledlbcmaa
open Go.RowKit

def fitsB (low : Int) (zs : List Int) : Bool := inR (-300) 300 low && (decide (zs.length ≤ 200) && zs.all coefIn)
theorem all_not (zs : List Int) : (zs.any fun z => !coefIn z) = !(zs.all coefIn) := by
  induction zs with
  | nil => rfl
  | cons z r ih => rw [List.any_cons, List.all_cons, ih, Bool.not_and]

set_option maxRecDepth 100000 in
set_option maxHeartbeats 4000000 in
theorem fits_any (low : Int) (zs : List Int) (a : Option Addr) (cap n : Nat) (b : Bool) (w : World) (hs : Ints w a n zs) (hb : fitsB low zs = b) :
    Calls Try.prog 161 #[plV low (.slice a n cap)] w fun e w' => e = .returned (.bool b) ∧ Below w.heap.size w w' := by
  have hm := hs.max
  unfold maxLen at hm
  have hbW : Below w.heap.size w (w.alloc (.cells #[.int .i64 low, .slice a n cap] 35)) := (Below.refl _ w).alloc (Nat.le_refl _) _
  have HB := Lib.hid hbW
  have HC := Lib.hid (containsI_any BYF _ beyond_ok a cap n zs _ _ (hs.below hbW) rfl)
  have HL := Lib.hid hs.len
  have h2 : ((n : Int) ≤ 200) ↔ (n ≤ 200) := by omega
  unfold fitsB at hb
  rw [HL.out] at hb
  rw [all_not] at HC
  clear hs hbW
  cases hl : inR (-300) 300 low with
  | false =>
    rw [hl, Bool.false_and] at hb
    subst hb
    have HIN := Lib.hid hl
    clear hl
    go_enter Try.func161, Try.ntmps161
    go_wp2_with fail
    refine (within_any low 300 false _ (by omega) (by omega) HIN.out).mono ?_
    rintro e w1 ⟨rfl, rfl⟩
    go_wp2
    go_ret
    exact ⟨rfl, HB.out⟩
  | true =>
    rw [hl, Bool.true_and] at hb
    have HIN := Lib.hid hl
    clear hl
    by_cases h200 : n ≤ 200
    · rw [decide_eq_true h200, Bool.true_and] at hb
      have h200i : (n : Int) ≤ 200 := by omega
      rw [hb] at HC
      go_enter Try.func161, Try.ntmps161
      go_wp2_with fail
      refine (within_any low 300 true _ (by omega) (by omega) HIN.out).mono ?_
      rintro e w1 ⟨rfl, rfl⟩
      go_wp2_with fail
      refine HC.out.mono ?_
      rintro e w1 ⟨rfl, rfl⟩
      go_wp2
      go_ret
      exact ⟨ret_bool (by simp), HB.out⟩
    · rw [decide_eq_false h200, Bool.false_and] at hb
      subst hb
      have h200i : ¬ (n : Int) ≤ 200 := by omega
      have h200d : decide ((n : Int) ≤ 200) = false := decide_eq_false h200i
      go_enter Try.func161, Try.ntmps161
      go_wp2_with fail
      refine (within_any low 300 true _ (by omega) (by omega) HIN.out).mono ?_
      rintro e w1 ⟨rfl, rfl⟩
      go_wp2
      go_ret
      exact ⟨rfl, HB.out⟩

theorem intNil (base : Nat) (w : World) : IntRow base w (.slice none 0 0) [] := ⟨rfl, .inl ⟨rfl, rfl⟩⟩
theorem Ints.newsAny {w : World} {x : Addr} {n : Nat} {zs : List Int} (h : Ints w (some x) n zs) : ∀ j u, (intsV zs)[j]? = some u → w.cell? (x.add j) = some u := fun j u hu => by
  by_cases h0 : 0 < n
  · exact h.news h0 j u hu
  · have hz : zs = [] := List.length_eq_zero_iff.1 (by rw [h.len]; omega)
    subst hz
    simp [intsV] at hu

set_option maxRecDepth 100000 in
set_option maxHeartbeats 4000000 in
theorem cloneI_any (a : Option Addr) (cap n : Nat) (zs : List Int) (w : World) (hs : Ints w a n zs) (hn : n ≤ 1048576) :
    Calls Try.prog 158 #[.slice a n cap] w fun e w' => (∃ v, e = .returned v ∧ IntRow w.heap.size w' v zs) ∧ Below w.heap.size w w' := by
  obtain ⟨i0, hi, hi0, hi1, hi2⟩ := info_parts infoInt
  have qT : ∀ (w : World) (a : Option Addr) (n c n' c' : Nat), (binOp .eql 33 (.slice a n c) (.slice none n' c')).run Try.prog w = .ok (.bool a.isNone) w := fun w a n c n' c' => Lib.run_eql_slice_nil w _ _ a n c n' c' Try.underlying33
  cases a with
  | none =>
    obtain rfl : n = 0 := by
      by_cases h : n = 0
      · exact h
      · obtain ⟨x, e, _⟩ := hs.at_ (by omega)
        cases e
    obtain rfl : zs = [] := List.length_eq_zero_iff.1 hs.len
    clear hs
    go_enter Try.func158, Try.ntmps158
    go_wp2
    go_ret
    exact ⟨⟨_, rfl, intNil _ _⟩, Below.refl _ _⟩
  | some x =>
    have hb1 : Below w.heap.size w (w.alloc (.cells #[] 3)) := (Below.refl _ w).alloc (Nat.le_refl _) _
    have HB := Lib.hid hb1
    have HL : Hid ((intsV zs).length = n * 1) := Lib.hid (by rw [intsV_len, hs.len, Nat.mul_one])
    have HX := Lib.hid (hs.below hb1).newsAny
    have HM := Lib.hid (made_at w w.heap.size rfl w.heap.size (Nat.le_refl _))
    have HN := Lib.hid hs.len
    clear hs hb1
    go_enter Try.func158, Try.ntmps158
    go_wp2_with (at_builtin; go_loud (refine wpList_append_own _ rfl _ _ 33 rfl w.heap.size 3 i0 (.int .i64 0) 1 8 Try.underlying33 hi hi0 hi1 hi2 rfl (by decide) _ 0 _ rfl HM.out x n cap (intsV zs) rfl HL.out HX.out (intsV_one zs) (by unfold maxLen; omega) (by omega) (by simp) ?_; intro v1 w1 hrow hgrow hnil; have HR := Lib.hid hrow; have HG := Lib.hid (HB.out.grown hgrow (by rw [World.size_alloc]; omega) (fun j e => own_ge HM.out j e)); clear hrow hgrow hnil))
    go_ret
    refine ⟨⟨_, rfl, ?_⟩, HG.out⟩
    have hr := HR.out
    rw [Nat.zero_add, List.nil_append] at hr
    exact rowI hr HN.out

end Go.Proofs.Ytbbkpaledlbcmaa

/- The program's apart and told. -/

namespace Go.Proofs.Ytbbkpaledlbcmaa
open Go.RowKit

abbrev ZT : TypeId := 166
abbrev PT : TypeId := 161
/-- What a polynomial is told apart as. -/
def Apart (w : World) (v : Value) (lw : Int) (q : Pl) : Prop :=
  (q.cs.length = 0 ∧ v = .iface ZT (.agg #[])) ∨ (0 < q.cs.length ∧ ∃ a cap, v = .iface PT (plV lw (.slice a q.cs.length cap)) ∧ q.cs.length ≤ cap ∧ Ints w a q.cs.length q.cs)
theorem tidy_zero {low : Int} {zs : List Int} (h : zfrom zs = zs.length) : tidyP low zs = ⟨0, []⟩ := tidy_all low h

set_option maxRecDepth 100000 in
set_option maxHeartbeats 4000000 in
theorem apart_zero (low : Int) (zs : List Int) (a : Option Addr) (cap n : Nat) (w : World) (hs : Ints w a n zs) (hz : zfrom zs = zs.length) :
    Calls Try.prog 111 #[plV low (.slice a n cap)] w fun e w' => e = .returned (.iface ZT (.agg #[])) ∧ Below w.heap.size w w' := by
  have hbW : Below w.heap.size w (w.alloc (.cells #[.int .i64 low, .slice a n cap] 35)) := (Below.refl _ w).alloc (Nat.le_refl _) _
  have HB := Lib.hid hbW
  have HI := Lib.hid (indexI_any NZF _ nz_ok a cap n zs _ (hs.below hbW))
  have HZ := Lib.hid hz
  clear hs hbW hz
  go_enter Try.func111, Try.ntmps111
  go_wp2_with fail
  refine HI.out.mono ?_
  rintro e w1 ⟨⟨r, rfl, hr⟩, rfl⟩
  obtain rfl : r = -1 := by
    rcases firstI_zfrom hr with ⟨h, _⟩ | ⟨_, h⟩
    · exact h
    · rw [HZ.out] at h; omega
  clear hr
  go_wp2
  go_ret
  exact ⟨rfl, HB.out⟩

theorem Ints.part {w : World} {x : Addr} {n f m : Nat} {zs : List Int} (h : Ints w (some x) n zs) (h0 : 0 < n) (hf : f + m ≤ n) : Ints w (some (x.add f)) m ((zs.drop f).take m) := by
  have hl := h.len
  obtain ⟨y, hy, hb, hc⟩ := h.at_ h0
  obtain rfl : x = y := by simpa using hy
  refine ⟨by rw [List.length_take, List.length_drop]; omega, by have := h.max; omega, fun _ => ⟨_, rfl, by rw [addr_add_block]; exact hb, fun j hj => ?_⟩, fun z hz => h.wf z (List.mem_of_mem_drop (List.mem_of_mem_take hz))⟩
  rw [List.length_take, List.length_drop] at hj
  rw [Addr.add_add, hc (f + j) (by omega), List.getElem_take, List.getElem_drop]

set_option maxRecDepth 100000 in
set_option maxHeartbeats 4000000 in
theorem apart_some (low : Int) (zs : List Int) (a : Option Addr) (cap n f : Nat) (w : World) (hs : Ints w a n zs) (hcap : n ≤ cap) (hz : zfrom zs = f) (hf : f < n) :
    Calls Try.prog 111 #[plV low (.slice a n cap)] w fun e w' => (∃ v, e = .returned v ∧ Apart w' v (wrap64 (tidyP low zs).low) (tidyP low zs)) ∧ Below w.heap.size w w' := by
  have hm := hs.max
  unfold maxLen at hm
  obtain ⟨x, rfl, hxb, hxc⟩ := hs.at_ (by omega)
  obtain ⟨W, hW⟩ : ∃ W, w.alloc (.cells #[.int .i64 low, .slice (some x) n cap] 35) = W := ⟨_, rfl⟩
  have hsz : W.heap.size = w.heap.size + 1 := by rw [← hW]; simp
  have hbW : Below w.heap.size w W := by rw [← hW]; exact (Below.refl _ w).alloc (Nat.le_refl _) _
  obtain ⟨c0, c1⟩ := boxCells (w := w) (w1 := W) (x := .int .i64 low) (y := .slice (some x) n cap) rfl (by rw [hW, ← hsz]; exact Below.refl _ _)
  have HX : Hid (∀ k (h : k < n) z, zs.getD k 0 = z → W.cell? (x.add k) = some (.int .i64 z)) := Lib.hid fun k h z e => by
    have hl := hs.len
    rw [← e, List.getD_eq_getElem?_getD, List.getElem?_eq_getElem (by omega)]
    exact (hbW.cell (p := x.add k) (by rw [addr_add_block]; exact hxb)).trans (hxc k (by omega))
  have HB := Lib.hid hbW
  have HI := Lib.hid (indexI_any NZF _ nz_ok (some x) cap n zs _ (hs.below hbW))
  have HS := Lib.hid (hs.below hbW)
  have HZ := Lib.hid hz
  have HL := Lib.hid hs.len
  have HW := Lib.hid hW
  clear hs hbW hz hxc hW hsz
  go_enter Try.func111, Try.ntmps111
  go_wp2_with fail
  rw [HW.out]
  refine HI.out.mono ?_
  rintro e w1 ⟨⟨r, rfl, hr⟩, rfl⟩
  obtain rfl : r = (f : Int) := by
    rcases firstI_zfrom hr with ⟨_, h⟩ | ⟨h, _⟩
    · rw [HZ.out, HL.out] at h; omega
    · rw [HZ.out] at h; exact h
  clear hr
  have hfi : ¬ (f : Int) < 0 := by omega
  have hfd : decide ((f : Int) < 0) = false := decide_eq_false hfi
  obtain ⟨z, hzf⟩ : ∃ z, zs.getD f 0 = z := ⟨_, rfl⟩
  have hzn : ¬ z = 0 := by rw [← hzf, ← HZ.out]; exact zfrom_head zs (by rw [HZ.out, HL.out]; exact hf)
  have HHZ := Lib.hid hzf
  have HZN := Lib.hid hzn
  clear hzf hzn
  go_wp2
  go_loopw [4] (fun i wr => ∃ t : Nat, f < t ∧ t ≤ n ∧ i = .int .i64 (t : Int) ∧ Hid (∀ i, t ≤ i → zs.getD i 0 = 0) ∧ W = wr) (fun i _ => (intOf i).toNat)
  case atStart => exact ⟨n, by omega, Nat.le_refl _, rfl, Lib.hid fun i h => getD_far (by rw [HL.out]; exact h), rfl⟩
  case round =>
    obtain ⟨t, ht1, ht2, rfl, HT, rfl⟩ := hrel
    obtain ⟨m, hm⟩ : ∃ m, t = m + 1 := ⟨t - 1, by omega⟩
    subst hm
    have hwr : IntKind.i64.wrap (((m + 1 : Nat) : Int) - 1) = (m : Int) := by rw [IntWalk.i64_in _ (by omega)]; omega
    obtain ⟨y, hy⟩ : ∃ y, zs.getD m 0 = y := ⟨_, rfl⟩
    have hcy := HX.out m (by omega) y hy
    have hmn : m < n := by omega
    have hmi : (0 : Int) ≤ (m : Int) := by omega
    have hmni : (m : Int) < (n : Int) := by omega
    by_cases hy0 : y = 0
    · subst hy0
      have hmk : f ≠ m := fun e => HZN.out (by rw [← HHZ.out, e, hy])
      have HY := Lib.hid hy
      clear hy
      go_wp2
      go_roundw
      case rel => exact ⟨m, by omega, by omega, by go_num, Lib.hid fun i h => by
        by_cases e : i = m
        · rw [e]; exact HY.out
        · exact HT.out i (by omega), by first | trivial | rfl⟩
      case measure => simp [intOf]
    · have hyb : (y == 0) = false := by simpa using hy0
      have HCUT := Lib.hid (tidy_cut low HZ.out ht1 (by rw [HL.out]; exact ht2) HT.out (by show zs.getD m 0 ≠ 0; rw [hy]; exact hy0))
      have hlen : ((zs.drop f).take (m + 1 - f)).length = m + 1 - f := by rw [List.length_take, List.length_drop, HL.out]; omega
      have HPART := Lib.hid (HS.out.part (f := f) (m := m + 1 - f) (by omega) (by omega))
      have HLEN := Lib.hid hlen
      have hfm : (f : Int) ≤ ((m + 1 : Nat) : Int) := by omega
      have hmc : ((m + 1 : Nat) : Int) ≤ (cap : Int) := by omega
      have hmcn : m + 1 ≤ cap := by omega
      have hf0 : (0 : Int) ≤ (f : Int) := by omega
      clear hy HT hlen
      go_wp2
      go_quiet (fail)
      go_wp2
      go_ret
      refine ⟨⟨_, rfl, ?_⟩, below_drewN HB.out _⟩
      rw [HCUT.out]
      refine .inr ⟨by show 0 < ((zs.drop f).take (m + 1 - f)).length; rw [HLEN.out]; omega, some (x.add f), cap - f, ?_, ?_, ?_⟩
      · rw [HLEN.out]
        rfl
      · show ((zs.drop f).take (m + 1 - f)).length ≤ _
        rw [HLEN.out]; omega
      · show Ints _ _ ((zs.drop f).take (m + 1 - f)).length ((zs.drop f).take (m + 1 - f))
        rw [HLEN.out]
        exact HPART.out.below (below_drewN (Below.refl _ _) _)

theorem apart_any (low : Int) (zs : List Int) (a : Option Addr) (cap n : Nat) (w : World) (hs : Ints w a n zs) (hcap : n ≤ cap) :
    Calls Try.prog 111 #[plV low (.slice a n cap)] w fun e w' => (∃ v, e = .returned v ∧ Apart w' v (wrap64 (tidyP low zs).low) (tidyP low zs)) ∧ Below w.heap.size w w' := by
  have hl := hs.len
  by_cases hz : zfrom zs = zs.length
  · refine (apart_zero low zs a cap n w hs hz).mono ?_
    rintro e w1 ⟨rfl, hb⟩
    exact ⟨⟨_, rfl, .inl ⟨by rw [tidy_zero hz]; rfl, rfl⟩⟩, hb⟩
  · exact apart_some low zs a cap n _ w hs hcap rfl (by have := zfrom_le zs; omega)

theorem apart_in (low : Int) (zs : List Int) (a : Option Addr) (cap n : Nat) (w : World) (hs : Ints w a n zs) (hcap : n ≤ cap) (h1 : -1000000000 ≤ low) (h2 : low ≤ 1000000000) (hn : n ≤ 1048576) :
    Calls Try.prog 111 #[plV low (.slice a n cap)] w fun e w' => (∃ v, e = .returned v ∧ Apart w' v (tidyP low zs).low (tidyP low zs)) ∧ Below w.heap.size w w' := by
  have e : wrap64 (tidyP low zs).low = (tidyP low zs).low := by
    have hz := zfrom_le zs
    rw [hs.len] at hz
    refine IntWalk.wrap64_in _ ?_
    unfold tidyP
    split
    · show -9223372036854775808 ≤ (0 : Int) ∧ (0 : Int) ≤ 9223372036854775807; omega
    · show -9223372036854775808 ≤ low + (zfrom zs : Int) ∧ low + (zfrom zs : Int) ≤ 9223372036854775807; omega
  have h := apart_any low zs a cap n w hs hcap
  rwa [e] at h

end Go.Proofs.Ytbbkpaledlbcmaa

/- The program's told, PolyIn. -/

namespace Go.Proofs.Ytbbkpaledlbcmaa
open Go.RowKit

/-- A polynomial that was laid in a box, and the answer's cells behind it. -/
theorem boxT {w w1 W : World} {t : TypeId} {x y : Value} (hW : (w.alloc (.cells #[x, y] t)).alloc (.cells #[.int .i64 0, .slice none 0 0] 35) = W) (hg : Below W.heap.size W w1) :
    w1.cell? ⟨w.heap.size, 0, none⟩ = some x ∧ w1.cell? ⟨w.heap.size, 1, none⟩ = some y ∧ w1.cell? ⟨w.heap.size + 1, 0, none⟩ = some (.int .i64 0) ∧ w1.cell? ⟨w.heap.size + 1, 1, none⟩ = some (.slice none 0 0) ∧ w1.frozen? ⟨w.heap.size + 1, 0, none⟩ = false ∧ w1.frozen? ⟨w.heap.size + 1, 1, none⟩ = false := by
  have hsz : W.heap.size = w.heap.size + 2 := by rw [← hW]; simp
  have e0 := hg.block w.heap.size (by omega)
  have e1 : W.heap[w.heap.size]? = some (.cells #[x, y] t (0, 0)) := by
    rw [← hW, Below.heap_alloc _ _ _ (by simp)]
    exact World.alloc_heap_new w _
  rw [e1] at e0
  obtain ⟨d0, d1, f0, f1⟩ := resCells (w := w.alloc (.cells #[x, y] t)) (w1 := w1) (r := w.heap.size + 1) (by simp) (by rw [hW, show w.heap.size + 1 + 1 = W.heap.size by omega]; exact hg)
  exact ⟨by simp [World.cell?, e0], by simp [World.cell?, e0], d0, d1, f0, f1⟩
theorem boxTBelow {w W : World} {t : TypeId} {x y : Value} (hW : (w.alloc (.cells #[x, y] t)).alloc (.cells #[.int .i64 0, .slice none 0 0] 35) = W) : Below w.heap.size w W ∧ W.heap.size = w.heap.size + 2 := by
  subst hW
  exact ⟨((Below.refl _ w).alloc (Nat.le_refl _) _).alloc (by simp) _, by simp⟩
theorem oneBox {w w1 W : World} {t : TypeId} {x y : Value} (hW : w.alloc (.cells #[x, y] t) = W) (hg : Below W.heap.size W w1) :
    w1.cell? ⟨w.heap.size, 0, none⟩ = some x ∧ w1.cell? ⟨w.heap.size, 1, none⟩ = some y := by
  have hsz : W.heap.size = w.heap.size + 1 := by rw [← hW]; simp
  have e0 := hg.block w.heap.size (by omega)
  rw [← hW, World.alloc_heap_new] at e0
  exact ⟨by simp [World.cell?, e0], by simp [World.cell?, e0]⟩

set_option maxRecDepth 100000 in
set_option maxHeartbeats 4000000 in
theorem toldZ_any (w : World) :
    Calls Try.prog 258 #[.agg #[]] w fun e w' => (∃ v, e = .returned (.tuple #[plV 0 v, .bool true]) ∧ IntRow w.heap.size w' v []) ∧ Below w.heap.size w w' := by
  go_enter Try.func258, Try.ntmps258
  go_wp2
  refine bodyPost_ret (v := .tuple #[plV 0 (.slice none 0 0), .bool true]) ?_ rfl ⟨⟨_, rfl, intNil _ _⟩, ?_⟩
  · simp [results, Try.results258, go_sem, plV]
  · first
    | exact ((Below.refl _ w).alloc (Nat.le_refl _) _).alloc (by simp) _
    | exact ((((Below.refl _ w).alloc (Nat.le_refl _) _).alloc (by simp) _).setCell (by simp) _).setCell (by simp) _

set_option maxRecDepth 100000 in
set_option maxHeartbeats 4000000 in
theorem toldP_any (low : Int) (zs : List Int) (a : Option Addr) (cap n : Nat) (b : Bool) (w : World) (hs : Ints w a n zs) (hb : fitsB low zs = b) :
    Calls Try.prog 257 #[plV low (.slice a n cap)] w fun e w' => (∃ v, e = .returned (.tuple #[plV (doneP b ⟨low, zs⟩).low v, .bool b]) ∧ IntRow w.heap.size w' v (doneP b ⟨low, zs⟩).cs) ∧ Below w.heap.size w w' := by
  obtain ⟨W, hW⟩ : ∃ W, (w.alloc (.cells #[.int .i64 low, .slice a n cap] PT)).alloc (.cells #[.int .i64 0, .slice none 0 0] 35) = W := ⟨_, rfl⟩
  obtain ⟨hbW, hsz⟩ := boxTBelow hW
  have HC : Hid (∀ w1, Below W.heap.size W w1 → _) := Lib.hid fun w1 (hg : Below W.heap.size W w1) => boxT hW hg
  have HF := Lib.hid (fits_any low zs a cap n b W (hs.below hbW) hb)
  have HS := Lib.hid (hs.below hbW)
  have HB := Lib.hid hb
  have HBW := Lib.hid hbW
  have HW := Lib.hid hW
  clear hW hbW hs hb
  go_enter Try.func257, Try.ntmps257
  go_wp2_with fail
  rw [HW.out]
  refine HF.out.mono ?_
  rintro e w1 ⟨rfl, hb1⟩
  obtain ⟨q0, q1, d0, d1, f0, f1⟩ := HC.out w1 hb1
  have hs1 := hb1.size
  have HB1 := Lib.hid hb1
  clear hb1
  cases b with
  | false =>
    go_wp2
    refine bodyPost_ret (v := .tuple #[plV 0 (.slice none 0 0), .bool false]) ?_ rfl ⟨⟨_, rfl, intNil _ _⟩, resBelow1 (.int .i64 0) (.slice none 0 0) (HBW.out.trans (HB1.out.mono HBW.out.size))⟩
    simp [results, Try.results257, go_sem, d0, d1, plV]
  | true =>
    have hn : n ≤ 1048576 := by
      have h := HB.out
      unfold fitsB at h
      simp only [Bool.and_eq_true, decide_eq_true_eq] at h
      have := HS.out.len
      omega
    have HCL : Hid (∀ w2, Below W.heap.size W w2 → _) := Lib.hid fun w2 (hg : Below W.heap.size W w2) => cloneI_any a cap n zs w2 (HS.out.below hg) hn
    go_wp2
    go_region_held3 (fun w' : World => w'.cell? ⟨w.heap.size, 0, none⟩ = some (.int .i64 low) ∧ w'.cell? ⟨w.heap.size, 1, none⟩ = some (.slice a n cap)) (first | go_keep | exact ⟨k0, k1⟩)
      (first
        | (go_at_call 158
           refine (HCL.out _ HB1.out.drew).mono ?_
           rintro e w2 ⟨⟨v, rfl, hr⟩, hb2⟩
           have HR := Lib.hid hr
           have HB2 := Lib.hid (HB1.out.drew.trans (hb2.mono hs1))
           obtain ⟨k0, k1, d0, d1, f0, f1⟩ := HC.out w2 HB2.out
           obtain ⟨g1, gg, cap1, rfl, _⟩ := hr.shape
           clear hr hb2))
    go_wp2
    have hR : IntRow (w.heap.size + 2) w2 (.slice g1 zs.length cap1) zs := HR.out.mono (by show w.heap.size + 2 ≤ w1.heap.size; omega)
    refine bodyPost_ret (v := .tuple #[plV low (.slice g1 zs.length cap1), .bool true]) ?_ rfl ⟨⟨_, rfl, resRow1 (.int .i64 low) (.slice g1 zs.length cap1) hR (by omega)⟩, resBelow1 (.int .i64 low) (.slice g1 zs.length cap1) (HBW.out.trans (HB2.out.mono HBW.out.size))⟩
    simp [results, Try.results257, go_sem, d0, d1, plV]

end Go.Proofs.Ytbbkpaledlbcmaa

/- The program's PolyIn. -/

namespace Go.Proofs.Ytbbkpaledlbcmaa
open Go.RowKit

theorem tidy_self {p : Pl} (h : Trim p) : tidyP p.low p.cs = p := trim_unique (tidy_trim _ _) h fun k => tidy_pat p.low p.cs k
theorem fits_polyB {p : Pl} (h : Trim p) (h0 : 0 < p.cs.length) : fitsB p.low p.cs = polyB p := by
  rcases h with ⟨h, _⟩ | ⟨_, h1, h2⟩
  · rw [h] at h0; exact absurd h0 (Nat.lt_irrefl _)
  · unfold fitsB polyB
    rw [if_neg (by omega), decide_eq_false h1, decide_eq_false h2]
    cases p.cs.all coefIn <;> cases decide (p.cs.length ≤ 200) <;> cases inR (-300) 300 p.low <;> rfl
theorem polyB_nil : polyB ⟨0, []⟩ = true := rfl
/-- Whether a polynomial is one, by what it is told apart as. -/
theorem polyB_apart (low : Int) (zs : List Int) : polyB ⟨low, zs⟩ = if (tidyP low zs).cs.length = 0 then decide (low = 0) && decide (zs.length = 0) else fitsB low zs && decide ((tidyP low zs).cs.length = zs.length) := by
  by_cases hT : Trim ⟨low, zs⟩
  · have e := tidy_self hT
    have e : tidyP low zs = ⟨low, zs⟩ := e
    rw [e]
    show _ = if zs.length = 0 then _ else _
    by_cases h0 : zs.length = 0
    · rw [if_pos h0]
      obtain rfl : zs = [] := List.length_eq_zero_iff.1 h0
      show (true && (if ([] : List Int).length = 0 then decide (low = 0) else _)) = (decide (low = 0) && true)
      simp
    · rw [if_neg h0, ← fits_polyB hT (by show 0 < zs.length; omega)]
      simp
  · have hP : polyB ⟨low, zs⟩ = false := by
      cases h : polyB ⟨low, zs⟩ with
      | false => rfl
      | true => exact absurd (polyB_trim h).1 hT
    rw [hP]
    split
    · rename_i h
      by_cases h0 : zs.length = 0
      · obtain rfl : zs = [] := List.length_eq_zero_iff.1 h0
        by_cases hl : low = 0
        · exact absurd (.inl ⟨rfl, hl⟩) hT
        · rw [decide_eq_false hl]; rfl
      · rw [decide_eq_false h0, Bool.and_false]
    · rename_i h
      by_cases hl : (tidyP low zs).cs.length = zs.length
      · exfalso
        apply hT
        have hc : (tidyP low zs).cs = ztrim (zs.drop (zfrom zs)) := by
          unfold tidyP at h ⊢
          split
          · rename_i h2; rw [if_pos h2] at h; exact absurd rfl h
          · rfl
        have hz := ztrim_len (zs.drop (zfrom zs))
        rw [← hc, hl, List.length_drop] at hz
        have hzf := zfrom_le zs
        have h0 : zfrom zs = 0 := by
          rw [hl] at h
          omega
        rw [h0, List.drop_zero] at hc
        have he : zs = ztrim zs := eq_getD (by rw [← hc, hl]) fun i _ => (ztrim_get zs i).symm
        have h1 : zs ≠ [] := fun e => h (by rw [hl, e]; rfl)
        refine .inr ⟨h1, ?_, ?_⟩
        · have := zfrom_head zs (by rw [h0]; exact List.length_pos_iff.2 h1)
          rwa [h0] at this
        · rcases ztrim_last zs with h2 | h2
          · rw [← he] at h2; exact absurd h2 h1
          · rw [← he] at h2; exact h2
      · rw [decide_eq_false hl, Bool.and_false]

theorem assert_yes (v : Value) (w : World) : (Instr.typeAssert (.iface PT v) 112 PT true).run Try.prog w = .ok (.tuple #[v, .bool true]) w := by kernel_rfl
theorem assert_no (v : Value) (w : World) : (Instr.typeAssert (.iface ZT v) 112 PT true).run Try.prog w = .ok (.tuple #[plV 0 (.slice none 0 0), .bool false]) w := by kernel_rfl

set_option maxRecDepth 100000 in
set_option maxHeartbeats 4000000 in
theorem iPolyIn_any (low : Int) (zs : List Int) (a : Option Addr) (cap n : Nat) (b : Bool) (w : World) (hs : Ints w a n zs) (hcap : n ≤ cap) (hb : polyB ⟨low, zs⟩ = b) :
    Calls Try.prog 108 #[plV low (.slice a n cap)] w fun e w' => e = .returned (.bool b) ∧ Below w.heap.size w w' := by
  have hm := hs.max
  unfold maxLen at hm
  have hY := assert_yes
  have hN := assert_no
  obtain ⟨W, hW⟩ : ∃ W, w.alloc (.cells #[.int .i64 low, .slice a n cap] 35) = W := ⟨_, rfl⟩
  have hsz : W.heap.size = w.heap.size + 1 := by rw [← hW]; simp
  have hbW : Below w.heap.size w W := by rw [← hW]; exact (Below.refl _ w).alloc (Nat.le_refl _) _
  have HC : Hid (∀ w1, Below W.heap.size W w1 → _) := Lib.hid fun w1 (hg : Below W.heap.size W w1) => oneBox hW hg
  have HA := Lib.hid (apart_any low zs a cap n W (hs.below hbW) hcap)
  have HS := Lib.hid (hs.below hbW)
  have HL := Lib.hid hs.len
  have HBW := Lib.hid hbW
  have HW := Lib.hid hW
  rw [polyB_apart, hs.len] at hb
  clear hW hbW hs
  go_enter Try.func108, Try.ntmps108
  go_wp2_with fail
  rw [HW.out]
  refine HA.out.mono ?_
  rintro e w1 ⟨⟨v, rfl, hA⟩, hb1⟩
  have hs1 := hb1.size
  have HB1 := Lib.hid hb1
  obtain ⟨q0, q1⟩ := HC.out w1 hb1
  clear hb1
  rcases hA with ⟨hq, rfl⟩ | ⟨hq, a1, cap1, rfl, hc1, hi1⟩
  · rw [if_pos hq] at hb
    have hni : ((n : Int) = 0) ↔ n = 0 := by omega
    have HBE := Lib.hid hb
    clear hq hb
    by_cases hl0 : low = 0
    · subst hl0
      go_wp2
      go_ret
      refine ⟨ret_bool ?_, HBW.out.trans (HB1.out.mono HBW.out.size)⟩
      rw [← HBE.out]
      by_cases h0 : n = 0
      · simp [h0]
      · have : ¬ (n : Int) = 0 := by omega
        simp [h0]
    · have hlb : (low == 0) = false := by simpa using hl0
      go_wp2
      go_ret
      refine ⟨ret_bool ?_, HBW.out.trans (HB1.out.mono HBW.out.size)⟩
      rw [← HBE.out, decide_eq_false hl0]
      rfl
  · rw [if_neg (by omega)] at hb
    obtain ⟨m, hm⟩ : ∃ m, (tidyP low zs).cs.length = m := ⟨_, rfl⟩
    rw [hm] at hb hq ⊢
    obtain ⟨V, hV⟩ : ∃ V, w1.alloc (.cells #[.int .i64 (wrap64 (tidyP low zs).low), .slice a1 m cap1] PT) = V := ⟨_, rfl⟩
    have hbV : Below w1.heap.size w1 V := by rw [← hV]; exact (Below.refl _ _).alloc (Nat.le_refl _) _
    have HD : Hid (∀ w2, Below V.heap.size V w2 → _) := Lib.hid fun w2 (hg : Below V.heap.size V w2) => oneBox hV hg
    have HBV := Lib.hid (HB1.out.trans (hbV.mono hs1))
    obtain ⟨c, hc⟩ : ∃ c, fitsB low zs = c := ⟨_, rfl⟩
    rw [hc] at hb
    have HF := Lib.hid (fits_any low zs a cap n c V (HS.out.below HBV.out) hc)
    have HV := Lib.hid hV
    have hp := HC.out V HBV.out
    rw [← hV] at hp
    obtain ⟨p0, p1⟩ := hp
    have HBE := Lib.hid hb
    clear hV hbV hi1 hm hc hb
    go_wp2_with fail
    rw [HV.out]
    refine HF.out.mono ?_
    rintro e w2 ⟨rfl, hb2⟩
    obtain ⟨q0, q1⟩ := HC.out w2 (HBV.out.trans (hb2.mono HBV.out.size))
    obtain ⟨d0, d1⟩ := HD.out w2 hb2
    have HB2 := Lib.hid (HBW.out.trans ((HBV.out.trans (hb2.mono HBV.out.size)).mono HBW.out.size))
    clear hb2
    cases c with
    | false =>
      go_wp2
      go_ret
      exact ⟨ret_bool (by rw [← HBE.out]; rfl), HB2.out⟩
    | true =>
      have hmn : ((m : Int) = (n : Int)) ↔ m = n := by omega
      go_wp2
      go_ret
      refine ⟨ret_bool ?_, HB2.out⟩
      rw [← HBE.out]
      by_cases h : m = n
      · simp [h]
      · have h2 : ¬ (m : Int) = (n : Int) := by omega
        simp [h, h2]

end Go.Proofs.Ytbbkpaledlbcmaa

/- The program's PolyOf. -/

namespace Go.Proofs.Ytbbkpaledlbcmaa
open Go.RowKit

theorem told_zm (w : World) : (Go.method 350 166 (.agg #[]) "loop.example/foxcalculus/impl.told").run Try.prog w = .ok (258, .agg #[]) w := by kernel_rfl
theorem told_zn (w : World) : (Go.nilAhead 350 166 (.agg #[]) "loop.example/foxcalculus/impl.told").run Try.prog w = .ok (some false) w := by kernel_rfl
theorem told_pm (x y : Value) (w : World) : (Go.method 350 161 (.agg #[x, y]) "loop.example/foxcalculus/impl.told").run Try.prog w = .ok (257, .agg #[x, y]) w := by kernel_rfl
theorem told_pn (x y : Value) (w : World) : (Go.nilAhead 350 161 (.agg #[x, y]) "loop.example/foxcalculus/impl.told").run Try.prog w = .ok (some false) w := by kernel_rfl
/-- What the program tells of what was told apart. -/
theorem told_zero {q : Pl} {c : Bool} (hT : Trim q) (h0 : q.cs.length = 0) (hc : polyB q = c) : c = true ∧ q = ⟨0, []⟩ := by
  obtain ⟨l, cs⟩ := q
  obtain rfl : cs = [] := List.length_eq_zero_iff.1 h0
  rcases hT with ⟨_, h⟩ | ⟨h, _⟩
  · obtain rfl : l = 0 := h
    exact ⟨hc.symm, rfl⟩
  · exact absurd rfl h
theorem polyOfB_fits (low : Int) (zs : List Int) : polyOfB low zs = (fitsB low zs && polyB (tidyP low zs)) := by
  unfold polyOfB fitsB
  cases h : zs.all coefIn with
  | true => cases inR (-300) 300 low <;> cases decide (zs.length ≤ 200) <;> rfl
  | false =>
    obtain ⟨z, hz, hc⟩ := List.all_eq_false.1 h
    obtain ⟨i, hi, rfl⟩ := List.mem_iff_getElem.1 hz
    have hb : polyB (tidyP low zs) = false := tidy_bad (i := i) (by rw [List.getD_eq_getElem?_getD, List.getElem?_eq_getElem hi]; simpa using hc)
    rw [hb]
    cases inR (-300) 300 low <;> cases decide (zs.length ≤ 200) <;> rfl
/-- The answer's cells, laid first, and a polynomial in a box behind them. -/
theorem resBox {w w1 W : World} {t : TypeId} {x y : Value} (hW : (w.alloc (.cells #[.int .i64 0, .slice none 0 0] 35)).alloc (.cells #[x, y] t) = W) (hg : Below W.heap.size W w1) :
    w1.cell? ⟨w.heap.size + 1, 0, none⟩ = some x ∧ w1.cell? ⟨w.heap.size + 1, 1, none⟩ = some y ∧ w1.cell? ⟨w.heap.size, 0, none⟩ = some (.int .i64 0) ∧ w1.cell? ⟨w.heap.size, 1, none⟩ = some (.slice none 0 0) ∧ w1.frozen? ⟨w.heap.size, 0, none⟩ = false ∧ w1.frozen? ⟨w.heap.size, 1, none⟩ = false := by
  have hsz : W.heap.size = w.heap.size + 2 := by rw [← hW]; simp
  obtain ⟨c0, c1⟩ := oneBox hW hg
  obtain ⟨d0, d1, f0, f1⟩ := resCells (w := w) (w1 := w1) (r := w.heap.size) rfl (by
    have h : Below (w.heap.size + 1) (w.alloc (.cells #[.int .i64 0, .slice none 0 0] 35)) W := by rw [← hW]; exact (Below.refl _ _).alloc (by simp) _
    exact h.trans (hg.mono (by omega)))
  rw [World.size_alloc] at c0 c1
  exact ⟨c0, c1, d0, d1, f0, f1⟩
theorem resBoxBelow {w W : World} {t : TypeId} {x y : Value} (hW : (w.alloc (.cells #[.int .i64 0, .slice none 0 0] 35)).alloc (.cells #[x, y] t) = W) : Below w.heap.size w W ∧ W.heap.size = w.heap.size + 2 := by
  subst hW
  exact ⟨((Below.refl _ w).alloc (Nat.le_refl _) _).alloc (by simp) _, by simp⟩

end Go.Proofs.Ytbbkpaledlbcmaa

/- How PolyOf and the model's answer, for the law; the program's PolyTurned. -/

namespace Go.Proofs.Ytbbkpaledlbcmaa
open Go.RowKit

theorem toIntS_t (a : Option Addr) (cap n : Nat) (zs : List Int) (w : World) (hm : n ≤ 1048576) (hs : Ints w a n zs) :
    Calls Try.prog 199 #[.slice a n cap] w fun e w' => (∃ g, e = .returned (.slice (some ⟨g, 0, none⟩) n n) ∧ w.heap.size ≤ g ∧ IntRow w.heap.size w' (.slice (some ⟨g, 0, none⟩) n n) zs ∧ Ints w' (some ⟨g, 0, none⟩) n zs) ∧ Below w.heap.size w w' := by
  refine (toIntS_any a cap n zs w hm hs).mono ?_
  rintro e w1 ⟨rfl, hr, hb⟩
  obtain ⟨a1, cap1, hv, hi⟩ := hr.read hs.wf
  have hl := hs.len
  subst hl
  simp at hv
  obtain ⟨rfl, _⟩ := hv
  exact ⟨⟨_, rfl, Nat.le_refl _, hr, hi⟩, hb⟩

theorem polyB_len {p : Pl} (h : polyB p = true) : p.cs.length ≤ 200 := (polyB_trim h).2.1
theorem doneP_len {b : Bool} {p q : Pl} (hb : b = true → polyB p = true) (hq : doneP b p = q) : q.cs.length ≤ 200 := by
  subst hq
  cases b with
  | true => exact polyB_len (hb rfl)
  | false => exact Nat.zero_le _
theorem polyOf_fit {w : World} {low : Int} {zs : List Int} {a : Option Addr} {n : Nat} {b : Bool} {p : Pl} (_ : Ints w a n zs) (_ : polyOfB low zs = b) (hp : polyOfP low zs = p) : p.cs.length ≤ 200 := by
  unfold polyOfP at hp
  refine doneP_len (fun h => ?_) hp
  unfold polyOfB at h
  simp only [Bool.and_eq_true] at h
  exact h.2.2
end Go.Proofs.Ytbbkpaledlbcmaa

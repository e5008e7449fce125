/- What the laws' proofs stand on, part 4 of 5. -/
import Derived.IntWalk
import Derived.RangeFuncBox
import Derived.Laws.BitsAllLaws
import Derived.Deep.QuietTactic
import Derived.BigQuiet
import Derived.ChangeSlices
import Derived.Laws.AppendOwnNone
import Derived.Lib.AppendZerosOnto
import Derived.Lib.SliceRun
import Derived.Deep.AppendLies
import Derived.Deep.RegionHeld3
import Derived.Laws.AppendOwn
import Derived.Test.YtocklmiappppgaaBa
import Derived.Test.YtocklmiappppgaaBb
import Derived.Test.YtocklmiappppgaaBc

/- Finite sums; the coefficients of products: they go both ways, share sums, and go in any brackets. -/

namespace Go.Proofs.Ytocklmiappppgaa
open Go.RowKit

def sumN (f : Nat → Int) : Nat → Int
  | 0 => 0
  | n + 1 => sumN f n + f n
theorem sumN_congr {f g : Nat → Int} : ∀ {n : Nat}, (∀ i, i < n → f i = g i) → sumN f n = sumN g n
  | 0, _ => rfl
  | n + 1, h => by rw [sumN, sumN, sumN_congr (fun i hi => h i (by omega)), h n (by omega)]
theorem sumN_zero (n : Nat) : sumN (fun _ => 0) n = 0 := by
  induction n with
  | zero => rfl
  | succ n ih => rw [sumN, ih]; rfl
theorem sumN_none {f : Nat → Int} {n : Nat} (h : ∀ i, i < n → f i = 0) : sumN f n = 0 := by rw [sumN_congr h, sumN_zero]
theorem sumN_add (f g : Nat → Int) (n : Nat) : sumN (fun i => f i + g i) n = sumN f n + sumN g n := by
  induction n with
  | zero => rfl
  | succ n ih => rw [sumN, sumN, sumN, ih]; omega
theorem sumN_mul (c : Int) (f : Nat → Int) (n : Nat) : sumN (fun i => c * f i) n = c * sumN f n := by
  induction n with
  | zero => rw [sumN, sumN, Int.mul_zero]
  | succ n ih => rw [sumN, sumN, ih, Int.mul_add]
theorem sumN_swap (f : Nat → Nat → Int) (m : Nat) : ∀ n, sumN (fun i => sumN (fun j => f i j) m) n = sumN (fun j => sumN (fun i => f i j) n) m
  | 0 => by rw [sumN]; exact (sumN_zero m).symm
  | n + 1 => by
    rw [sumN, sumN_swap f m n, ← sumN_add]
    exact sumN_congr fun j _ => by rw [sumN]
theorem sumN_one {f : Nat → Int} {n k : Nat} (hk : k < n) (h : ∀ i, i < n → i ≠ k → f i = 0) : sumN f n = f k := by
  induction n with
  | zero => omega
  | succ n ih =>
    rw [sumN]
    by_cases e : k = n
    · subst e
      rw [sumN_none (fun i hi => h i (by omega) (by omega))]; omega
    · rw [ih (by omega) (fun i hi hne => h i (by omega) hne), h n (by omega) (Ne.symm e)]; omega
theorem sumN_cut {f : Nat → Int} {m : Nat} : ∀ {n : Nat}, m ≤ n → (∀ i, m ≤ i → i < n → f i = 0) → sumN f n = sumN f m
  | 0, h, _ => by rw [Nat.le_zero.1 h]
  | n + 1, h, hz => by
    by_cases e : m = n + 1
    · rw [e]
    · rw [sumN, hz n (by omega) (by omega), sumN_cut (n := n) (by omega) (fun i h1 h2 => hz i h1 (by omega))]; omega

/-- A polynomial's coefficient as a sum. -/
theorem pat_sum (p : Pl) (k : Int) : pat p k = sumN (fun l => if p.low + (l : Int) = k then p.cs.getD l 0 else 0) p.cs.length := by
  by_cases h : p.low ≤ k ∧ k < p.low + p.cs.length
  · obtain ⟨l, hl⟩ : ∃ l : Nat, k = p.low + (l : Int) := ⟨(k - p.low).toNat, by omega⟩
    subst hl
    rw [pat_at, sumN_one (k := l) (by omega) (fun i _ hne => if_neg (by omega)), if_pos rfl]
  · rw [sumN_none fun i hi => if_neg (by omega)]
    by_cases h1 : k < p.low
    · exact pat_low p h1
    · exact pat_high p (by omega)
/-- The sum of the products of coefficients whose powers add up to k. -/
def mulF (a b : Pl) (k : Int) : Int := sumN (fun m => a.cs.getD m 0 * pat b (k - (a.low + (m : Int)))) a.cs.length
theorem mulF_two (a b : Pl) (k : Int) : mulF a b k = sumN (fun m => sumN (fun l => if a.low + (m : Int) + (b.low + (l : Int)) = k then a.cs.getD m 0 * b.cs.getD l 0 else 0) b.cs.length) a.cs.length := by
  unfold mulF
  refine sumN_congr fun m _ => ?_
  rw [pat_sum, ← sumN_mul]
  refine sumN_congr fun l _ => ?_
  by_cases h : b.low + (l : Int) = k - (a.low + (m : Int))
  · rw [if_pos h, if_pos (by omega)]
  · rw [if_neg h, if_neg (by omega), Int.mul_zero]
theorem mulF_comm (a b : Pl) (k : Int) : mulF a b k = mulF b a k := by
  rw [mulF_two, mulF_two, sumN_swap]
  refine sumN_congr fun l _ => sumN_congr fun m _ => ?_
  by_cases h : a.low + (m : Int) + (b.low + (l : Int)) = k
  · rw [if_pos h, if_pos (by omega), Int.mul_comm]
  · rw [if_neg h, if_neg (by omega)]
theorem mulF_congr {a b c : Pl} (h : ∀ k, pat b k = pat c k) (k : Int) : mulF a b k = mulF a c k := by
  unfold mulF
  exact sumN_congr fun m _ => by rw [h]
theorem mulF_congr1 {a b c : Pl} (h : ∀ k, pat a k = pat b k) (k : Int) : mulF a c k = mulF b c k := by
  rw [mulF_comm, mulF_congr h, mulF_comm]
/-- Products share sums. -/
theorem mulF_sum {a b c d : Pl} {n : Int} (h : ∀ k, pat d k = pat b k + n * pat c k) (k : Int) : mulF a d k = mulF a b k + n * mulF a c k := by
  unfold mulF
  rw [← sumN_mul, ← sumN_add]
  refine sumN_congr fun m _ => ?_
  rw [h, Int.mul_add, Int.mul_left_comm]

theorem convN_sum (x y : List Int) (i : Nat) : ∀ m, convN x y i m = sumN (fun j => if j ≤ i then x.getD j 0 * y.getD (i - j) 0 else 0) m
  | 0 => rfl
  | m + 1 => by rw [convN, sumN, convN_sum x y i m]
theorem prod_pat (a b : Pl) (k : Int) : pat (prodP a b) k = mulF a b k := by
  unfold prodP
  by_cases h0 : a.cs.length = 0 ∨ b.cs.length = 0
  · rw [if_pos h0, pat_nil]
    rcases h0 with h | h
    · unfold mulF; rw [h]; rfl
    · rw [mulF_comm]; unfold mulF; rw [h]; rfl
  · rw [if_neg h0, tidy_pat]
    by_cases h1 : k < a.low + b.low
    · rw [pat_low ⟨_, _⟩ h1]
      refine (sumN_none fun m _ => ?_).symm
      rw [pat_low b (by omega), Int.mul_zero]
    · by_cases h2 : a.low + b.low + ((a.cs.length + b.cs.length - 1 : Nat) : Int) ≤ k
      · rw [pat_high ⟨_, _⟩ (by show a.low + b.low + ((convL a.cs b.cs).length : Int) ≤ k; rw [convL_len]; exact h2)]
        refine (sumN_none fun m hm => ?_).symm
        rw [pat_high b (by omega), Int.mul_zero]
      · obtain ⟨i, hi⟩ : ∃ i : Nat, k = a.low + b.low + (i : Int) := ⟨(k - (a.low + b.low)).toNat, by omega⟩
        subst hi
        have e := pat_at ⟨a.low + b.low, convL a.cs b.cs⟩ i
        rw [show pat ⟨a.low + b.low, convL a.cs b.cs⟩ (a.low + b.low + (i : Int)) = (convL a.cs b.cs).getD i 0 from e, convL_get _ _ _ (by omega), convN_sum]
        unfold mulF
        refine sumN_congr fun m _ => ?_
        by_cases hm : m ≤ i
        · have e2 := pat_at b (i - m)
          rw [if_pos hm, show a.low + b.low + (i : Int) - (a.low + (m : Int)) = b.low + ((i - m : Nat) : Int) by omega, e2]
        · rw [if_neg hm, pat_low b (by omega), Int.mul_zero]
theorem prod_comm (a b : Pl) : prodP a b = prodP b a := trim_unique (prod_trim _ _) (prod_trim _ _) fun k => by rw [prod_pat, prod_pat, mulF_comm]
/-- A polynomial times 1 is itself. -/
theorem prod_one {a : Pl} (ha : Trim a) : prodP a ⟨0, [1]⟩ = a := trim_unique (prod_trim _ _) ha fun k => by
  rw [prod_pat, mulF_comm]
  unfold mulF
  show sumN (fun m => ([1] : List Int).getD m 0 * pat a (k - (0 + (m : Int)))) 1 = _
  rw [sumN, sumN]
  simp

end Go.Proofs.Ytocklmiappppgaa

/- Division undoes products, and products undo division (mathematics). -/

namespace Go.Proofs.Ytocklmiappppgaa
open Go.RowKit

theorem convN_cons (x : Int) (r y : List Int) (i : Nat) : ∀ m, convN (x :: r) y i (m + 1) = x * y.getD i 0 + (if 0 < i then convN r y (i - 1) m else 0)
  | 0 => by
    rw [convN, convN, convN, if_pos (Nat.zero_le _), Nat.sub_zero, ite_self, Int.add_zero, Int.zero_add]
    rfl
  | m + 1 => by
    rw [convN, convN_cons x r y i m]
    by_cases hi : 0 < i
    · rw [if_pos hi, if_pos hi, convN]
      by_cases h : m + 1 ≤ i
      · rw [if_pos h, if_pos (by omega), show i - (m + 1) = i - 1 - m by omega, Int.add_assoc]
        rfl
      · rw [if_neg h, if_neg (by omega)]
        omega
    · rw [if_neg hi, if_neg hi, if_neg (by omega)]
      omega
theorem convL_nil (y : List Int) (i : Nat) : (convL [] y).getD i 0 = 0 := by
  by_cases h : i < ([] : List Int).length + y.length - 1
  · rw [convL_get _ _ _ h]; rfl
  · exact getD_far (by rw [convL_len]; omega)
theorem convL_head (x : Int) (r y : List Int) (hy : 0 < y.length) : (convL (x :: r) y).getD 0 0 = x * y.getD 0 0 := by
  rw [convL_get _ _ _ (by rw [List.length_cons]; omega), List.length_cons, convN_cons, if_neg (Nat.lt_irrefl _), Int.add_zero]
theorem convL_next (x : Int) (r y : List Int) (hy : 0 < y.length) (i : Nat) : (convL (x :: r) y).getD (i + 1) 0 = x * y.getD (i + 1) 0 + (convL r y).getD i 0 := by
  by_cases h : i + 1 < (x :: r).length + y.length - 1
  · have hc : r.length + y.length - 1 ≤ i ∨ i < r.length + y.length - 1 := by omega
    rw [List.length_cons] at h
    rw [convL_get _ _ _ (by rw [List.length_cons]; omega), List.length_cons, convN_cons, if_pos (by omega), Nat.add_sub_cancel, convL_get _ _ _ (by omega)]
  · rw [List.length_cons] at h
    rw [getD_far (l := convL (x :: r) y) (by rw [convL_len, List.length_cons]; omega), getD_far (l := y) (by omega), getD_far (l := convL r y) (by rw [convL_len]; omega), Int.mul_zero]
    rfl
theorem mul4 {a b : Int} (h1 : -4 ≤ a ∧ a ≤ 4) (h2 : -4 ≤ b ∧ b ≤ 4) : -16 ≤ a * b ∧ a * b ≤ 16 := by
  have : a = -4 ∨ a = -3 ∨ a = -2 ∨ a = -1 ∨ a = 0 ∨ a = 1 ∨ a = 2 ∨ a = 3 ∨ a = 4 := by omega
  rcases this with rfl | rfl | rfl | rfl | rfl | rfl | rfl | rfl | rfl <;> omega
theorem convN_small {x y : List Int} (hx : ∀ i, -4 ≤ x.getD i 0 ∧ x.getD i 0 ≤ 4) (hy : ∀ i, -4 ≤ y.getD i 0 ∧ y.getD i 0 ≤ 4) (i : Nat) : ∀ m : Nat, -16 * (m : Int) ≤ convN x y i m ∧ convN x y i m ≤ 16 * (m : Int)
  | 0 => by rw [convN]; omega
  | m + 1 => by
    have h1 := convN_small hx hy i m
    have h2 := mul4 (hx m) (hy (i - m))
    rw [convN]
    split <;> omega
theorem convL_small {x y : List Int} (hx : ∀ i, -4 ≤ x.getD i 0 ∧ x.getD i 0 ≤ 4) (hy : ∀ i, -4 ≤ y.getD i 0 ∧ y.getD i 0 ≤ 4) (hl : x.length ≤ 1000) (i : Nat) : -16000 ≤ (convL x y).getD i 0 ∧ (convL x y).getD i 0 ≤ 16000 := by
  by_cases h : i < x.length + y.length - 1
  · rw [convL_get _ _ _ h]
    have := convN_small hx hy i x.length
    omega
  · rw [getD_far (by rw [convL_len]; omega)]; omega
theorem leftIn_of {z : Int} (h1 : -4000000000000000000 ≤ z) (h2 : z ≤ 4000000000000000000) : leftIn z = true := by
  unfold leftIn inR
  simp [h1, h2]
theorem coefIn_of {z : Int} (h1 : -1000000000 ≤ z) (h2 : z ≤ 1000000000) : coefIn z = true := by
  unfold coefIn inR
  simp [h1, h2]

/-- A product is divided. -/
theorem div_prod {y : List Int} (hy : 0 < y.length) (hy0 : y.getD 0 0 ≠ 0) (hyb : ∀ i, -4 ≤ y.getD i 0 ∧ y.getD i 0 ≤ 4) : ∀ x : List Int, (∀ i, -4 ≤ x.getD i 0 ∧ x.getD i 0 ≤ 4) → x.length ≤ 1000 → divGo y x.length (convL x y) = some (x, convL [] y)
  | [], _, _ => rfl
  | x :: r, hx, hl => by
    have hr : ∀ i, -4 ≤ r.getD i 0 ∧ r.getD i 0 ≤ 4 := fun i => by
      have := hx (i + 1)
      simpa using this
    have hx0 : -4 ≤ x ∧ x ≤ 4 := by
      have := hx 0
      simpa using this
    rw [List.length_cons] at hl
    have e0 := convL_head x r y hy
    have hQ : stepQ y (convL (x :: r) y) = x := by
      unfold stepQ
      rw [e0]
      exact Int.mul_tdiv_cancel x hy0
    have hB : stepB y (convL (x :: r) y) = true := by
      refine step_yes ?_ ?_ fun i hi => ?_
      · rw [e0]; exact Int.mul_tmod_left x _
      · rw [hQ]; exact coefIn_of (by omega) (by omega)
      · rw [hQ]
        cases i with
        | zero => rw [e0, Int.sub_self]; rfl
        | succ i =>
          rw [convL_next x r y hy i]
          have := convL_small hr hyb (by omega) i
          exact leftIn_of (by omega) (by omega)
    have hT : (subQ x y (convL (x :: r) y)).tail = convL r y := by
      refine eq_getD ?_ fun i _ => ?_
      · rw [List.length_tail, subQ_len, convL_len, convL_len, List.length_cons]
        omega
      · rw [tail_get, subQ_get _ _ _ _ (by rw [convL_len, List.length_cons]; omega), convL_next x r y hy i]
        omega
    rw [List.length_cons, divGo, if_pos hB, hQ, hT, div_prod hy hy0 hyb r hr (by omega)]
    rfl
/-- What is divided is a product. -/
theorem div_back {y : List Int} (hy : 0 < y.length) : ∀ (n : Nat) (left qs rest : List Int), left.length = n + y.length - 1 → divGo y n left = some (qs, rest) → qs.length = n ∧ (zeroL rest = true → left = convL qs y)
  | 0, left, qs, rest, hl, h => by
    rw [divGo] at h
    simp only [Option.some.injEq, Prod.mk.injEq] at h
    obtain ⟨rfl, rfl⟩ := h
    refine ⟨rfl, fun hz => eq_getD (by rw [hl, convL_len]; rfl) fun i hi => ?_⟩
    rw [convL_nil]
    by_cases hne : left.getD i 0 = 0
    · exact hne
    · rw [zeroL_no hne] at hz; exact absurd hz (by decide)
  | n + 1, left, qs, rest, hl, h => by
    rw [divGo] at h
    cases hB : stepB y left with
    | false => rw [if_neg (by rw [hB]; exact Bool.false_ne_true)] at h; cases h
    | true =>
      rw [if_pos hB] at h
      cases hD : divGo y n (subQ (stepQ y left) y left).tail with
      | none => rw [hD] at h; cases h
      | some p =>
        rw [hD] at h
        obtain ⟨q1, r1⟩ := p
        have h : some (stepQ y left :: q1, r1) = some (qs, rest) := h
        simp only [Option.some.injEq, Prod.mk.injEq] at h
        obtain ⟨rfl, rfl⟩ := h
        obtain ⟨i1, i2⟩ := div_back hy n _ q1 r1 (by rw [List.length_tail, subQ_len, hl]; omega) hD
        refine ⟨by rw [List.length_cons, i1], fun hz => eq_getD (by rw [hl, convL_len, List.length_cons, i1]) fun i _ => ?_⟩
        have e := i2 hz
        have hle : y.length ≤ left.length := by omega
        cases i with
        | zero =>
          rw [convL_head _ _ _ hy]
          have h0 := step_head hle (step_parts hB).1
          rw [subQ_get _ _ _ _ hle] at h0
          omega
        | succ i =>
          rw [convL_next _ _ _ hy, ← e, tail_get, subQ_get _ _ _ _ hle]
          omega
/-- The product of two polynomials that are not 0. -/
theorem prod_trimmed {a b : Pl} (ha : Trim a) (hb : Trim b) (h1 : 0 < a.cs.length) (h2 : 0 < b.cs.length) : prodP a b = ⟨a.low + b.low, convL a.cs b.cs⟩ := by
  unfold prodP
  rw [if_neg (by omega)]
  obtain ⟨a0, a1⟩ := trim_nonzero ha h1
  obtain ⟨b0, b1⟩ := trim_nonzero hb h2
  have e : tidyP (⟨a.low + b.low, convL a.cs b.cs⟩ : Pl).low (⟨a.low + b.low, convL a.cs b.cs⟩ : Pl).cs = _ := tidy_self (p := ⟨a.low + b.low, convL a.cs b.cs⟩) (by
    refine .inr ⟨fun e => ?_, ?_, ?_⟩
    · have e : convL a.cs b.cs = [] := e
      have := convL_len a.cs b.cs
      rw [e] at this
      simp at this
      omega
    · show (convL a.cs b.cs).getD 0 0 ≠ 0
      cases hx : a.cs with
      | nil => rw [hx] at h1; exact absurd h1 (Nat.lt_irrefl _)
      | cons x r =>
        rw [convL_head x r _ h2]
        rw [hx] at a0
        exact Int.mul_ne_zero (by simpa using a0) b0
    · show (convL a.cs b.cs).getD ((convL a.cs b.cs).length - 1) 0 ≠ 0
      obtain ⟨m, hm⟩ : ∃ m, a.cs.length = m + 1 := ⟨a.cs.length - 1, by omega⟩
      rw [convL_len, convL_get _ _ _ (by omega), hm, convN, convN_from _ _ _ m (by omega), if_pos (by omega), Int.zero_add]
      rw [hm] at a1
      refine Int.mul_ne_zero (by simpa using a1) ?_
      rw [show m + 1 + b.cs.length - 1 - 1 - m = b.cs.length - 1 by omega]
      exact b1)
  exact e
theorem convL_zero (y : List Int) : zeroL (convL [] y) = true := zeroL_yes fun i _ => convL_nil y i
/-- Products are divided. -/
theorem over_prod {a b : Pl} (ha : Trim a) (hb : Trim b) (h2 : 0 < b.cs.length) (hxa : ∀ i, -4 ≤ a.cs.getD i 0 ∧ a.cs.getD i 0 ≤ 4) (hxb : ∀ i, -4 ≤ b.cs.getD i 0 ∧ b.cs.getD i 0 ≤ 4) (hl : a.cs.length ≤ 1000) : overQ (prodP a b) b = some a := by
  by_cases h1 : a.cs.length = 0
  · have ea : a = ⟨0, []⟩ := trim_unique ha (.inl ⟨rfl, rfl⟩) fun k => by rw [pat_none h1, pat_nil]
    have ep : prodP a b = ⟨0, []⟩ := by unfold prodP; rw [if_pos (.inl h1)]
    rw [ep, ea]
    rfl
  · rw [prod_trimmed ha hb (by omega) h2]
    rw [overQ_some (by show 0 < (convL a.cs b.cs).length; rw [convL_len]; omega)]
    show outQ (a.low + b.low - b.low) (divGo b.cs ((convL a.cs b.cs).length + 1 - b.cs.length) (convL a.cs b.cs)) = some a
    rw [convL_len, show a.cs.length + b.cs.length - 1 + 1 - b.cs.length = a.cs.length by omega, div_prod h2 (trim_nonzero hb h2).1 hxb a.cs hxa hl]
    show (if zeroL (convL [] b.cs) then some (tidyP (a.low + b.low - b.low) a.cs) else none) = some a
    rw [convL_zero, if_pos rfl, show a.low + b.low - b.low = a.low by omega, tidy_self ha]
/-- What is divided is multiplied again. -/
theorem over_back {a b p : Pl} (ha : Trim a) (h2 : 0 < b.cs.length) (h : overQ a b = some p) : prodP p b = a := by
  by_cases h1 : a.cs.length = 0
  · have ea : a = ⟨0, []⟩ := trim_unique ha (.inl ⟨rfl, rfl⟩) fun k => by rw [pat_none h1, pat_nil]
    have e : overQ a b = some a := by unfold overQ; rw [if_pos h1]
    rw [e] at h
    simp only [Option.some.injEq] at h
    subst h
    unfold prodP
    rw [if_pos (.inl h1), ea]
  · rw [overQ_some (by omega)] at h
    obtain ⟨a0, _⟩ := trim_nonzero ha (by omega)
    cases hD : divGo b.cs (a.cs.length + 1 - b.cs.length) a.cs with
    | none => rw [hD] at h; cases h
    | some q =>
      obtain ⟨qs, rest⟩ := q
      rw [hD] at h
      have h : (if zeroL rest then some (tidyP (a.low - b.low) qs) else none) = some p := h
      cases hz : zeroL rest with
      | false => rw [hz] at h; cases h
      | true =>
        rw [hz, if_pos rfl] at h
        simp only [Option.some.injEq] at h
        subst h
        have hn : 0 < a.cs.length + 1 - b.cs.length := by
          by_cases hn : 0 < a.cs.length + 1 - b.cs.length
          · exact hn
          · rw [show a.cs.length + 1 - b.cs.length = 0 by omega, divGo] at hD
            simp only [Option.some.injEq, Prod.mk.injEq] at hD
            obtain ⟨_, rfl⟩ := hD
            rw [zeroL_no a0] at hz
            exact absurd hz (by decide)
        obtain ⟨hq, hc⟩ := div_back h2 _ _ qs rest (by omega) hD
        have hc := hc hz
        refine trim_unique (prod_trim _ _) ha fun k => ?_
        rw [prod_pat, mulF_congr1 (b := ⟨a.low - b.low, qs⟩) (fun k => tidy_pat _ _ k), ← prod_pat]
        unfold prodP
        rw [if_neg (by show ¬ (qs.length = 0 ∨ b.cs.length = 0); omega)]
        show pat (tidyP (a.low - b.low + b.low) (convL qs b.cs)) k = pat a k
        rw [← hc, show a.low - b.low + b.low = a.low by omega, tidy_self ha]

end Go.Proofs.Ytocklmiappppgaa

/- The contracts of both sides' functions on polynomials, the answer under a name of its own. -/

namespace Go.Proofs.Ytocklmiappppgaa
open Go.RowKit

/-- Coefficients that came in or were answered. -/
structure PIn (w : World) (a : Option Addr) (n c : Nat) (zs : List Int) : Prop where
  is : Ints w a n zs
  le : n ≤ c
theorem PIn.below {w w' : World} {a : Option Addr} {n c : Nat} {zs : List Int} (h : PIn w a n c zs) (hb : Below w.heap.size w w') : PIn w' a n c zs := ⟨h.is.below hb, h.le⟩
theorem PIn.len {w : World} {a : Option Addr} {n c : Nat} {zs : List Int} (h : PIn w a n c zs) : zs.length = n := h.is.len
/-- What a function that tells a polynomial comes to. -/
def PolyT (W : World) (b : Bool) (l : Int) (n : Nat) (zs : List Int) (e : Ending) (w' : World) : Prop := (∃ a c, e = .returned (.tuple #[plV l (.slice a n c), .bool b]) ∧ PIn w' a n c zs) ∧ Below W.heap.size W w'
theorem PolyT.of {W w' : World} {b t : Bool} {q : Pl} {l : Int} {zs : List Int} {n : Nat} {e : Ending} (h : (∃ v, e = .returned (.tuple #[plV l v, .bool b]) ∧ IntRow W.heap.size w' v zs) ∧ Below W.heap.size W w') (hb : t = true → polyB q = true) (hp : doneP t q = ⟨l, zs⟩) (hn : zs.length = n) : PolyT W b l n zs e w' := by
  subst hn
  obtain ⟨⟨v, rfl, hr⟩, hB⟩ := h
  obtain ⟨a, c, rfl, hc, hi⟩ := hr.readc (doneP_mem hb hp)
  exact ⟨⟨a, c, rfl, hi, hc⟩, hB⟩

theorem divided_in {a b : Pl} (h : dividedB a b = true) : polyB (overP a b) = true := by
  unfold dividedB at h
  simp only [Bool.and_eq_true] at h
  have h := h.2.2.2
  cases e : overQ a b with
  | none => rw [(over_none e).1] at h; exact absurd h (by decide)
  | some q =>
    obtain ⟨h1, h2⟩ := over_some e
    rw [h1] at h
    rw [h2, h]
    exact h

section
variable {W : World} {a a2 : Option Addr} {n c m c2 k : Nat} {x y pc : List Int} {b : Bool} {l l2 pl : Int}
theorem sPolyIn_t (h : PIn W a n c x) (hb : polyB ⟨l, x⟩ = b) : Calls Try.prog 25 #[plV l (.slice a n c)] W fun e w' => e = .returned (.bool b) ∧ Below W.heap.size W w' := sPolyIn_any l x a c n b W h.is hb
theorem sPolyOne_t {v : Int} (h : PIn W a n c x) (hb : polyB ⟨l, x⟩ = b) (hv : (if b then oneP x n else 0) = v) : Calls Try.prog 46 #[plV l (.slice a n c)] W fun e w' => e = .returned (.tuple #[.int .i64 v, .bool b]) ∧ Below W.heap.size W w' := by
  subst hv
  exact sPolyOne_any l x a c n b W h.is hb
theorem sPolyOf_t (h : PIn W a n c x) (hb : polyOfB l x = b) (hp : polyOfP l x = ⟨pl, pc⟩) (hk : pc.length = k) : Calls Try.prog 30 #[.int .i64 l, .slice a n c] W (PolyT W b pl k pc) := by
  refine (sPolyOf_any l x a c n b W h.is h.le hb).mono fun e w' hh => ?_
  rw [hp] at hh
  exact PolyT.of hh (fun e => by unfold polyOfB at e; simp only [Bool.and_eq_true] at e; exact e.2.2) hp hk
theorem sPolyTurned_t (h : PIn W a n c x) (hb : turnedPB ⟨l, x⟩ = b) (hp : turnedP ⟨l, x⟩ = ⟨pl, pc⟩) (hk : pc.length = k) : Calls Try.prog 40 #[plV l (.slice a n c)] W (PolyT W b pl k pc) := by
  refine (sPolyTurned_any l x a c n _ b W h.is rfl hb).mono fun e w' hh => ?_
  rw [show doneP b (turnP ⟨l, x⟩) = ⟨pl, pc⟩ by rw [← hb]; exact hp] at hh
  exact PolyT.of hh (fun e => by unfold turnedPB at e; simp only [Bool.and_eq_true] at e; exact e.2) hp hk
theorem sPolyPlain_t (h : PIn W a n c x) (hb : polyB ⟨l, x⟩ = b) (hp : plainedP ⟨l, x⟩ = ⟨pl, pc⟩) (hk : pc.length = k) : Calls Try.prog 43 #[plV l (.slice a n c)] W (PolyT W b pl k pc) := by
  refine (sPolyPlain_any l x a c n b W h.is hb).mono fun e w' hh => ?_
  rw [show doneP b (plainP ⟨l, x⟩) = ⟨pl, pc⟩ by rw [← hb]; exact hp] at hh
  exact PolyT.of hh plain_polyB hp hk
theorem sPolyAdd_t (h : PIn W a n c x) (h2 : PIn W a2 m c2 y) (hb : addPB ⟨l, x⟩ ⟨l2, y⟩ = b) (hp : addP ⟨l, x⟩ ⟨l2, y⟩ = ⟨pl, pc⟩) (hk : pc.length = k) : Calls Try.prog 33 #[plV l (.slice a n c), plV l2 (.slice a2 m c2)] W (PolyT W b pl k pc) := by
  refine (sPolyAdd_any l l2 x y a a2 c c2 n m _ _ b W h.is h2.is h.le rfl rfl hb).mono fun e w' hh => ?_
  rw [show doneP b (sumP ⟨l, x⟩ 1 ⟨l2, y⟩) = ⟨pl, pc⟩ by rw [← hb]; exact hp] at hh
  exact PolyT.of hh (fun e => by unfold addPB at e; simp only [Bool.and_eq_true] at e; exact e.2.2) hp hk
theorem sPolyTimes_t (h : PIn W a n c x) (h2 : PIn W a2 m c2 y) (hb : timesPB ⟨l, x⟩ ⟨l2, y⟩ = b) (hp : timesP ⟨l, x⟩ ⟨l2, y⟩ = ⟨pl, pc⟩) (hk : pc.length = k) : Calls Try.prog 36 #[plV l (.slice a n c), plV l2 (.slice a2 m c2)] W (PolyT W b pl k pc) := by
  refine (sPolyTimes_any l l2 x y a a2 c c2 n m _ _ b W h.is h2.is rfl rfl hb).mono fun e w' hh => ?_
  rw [show doneP b (prodP ⟨l, x⟩ ⟨l2, y⟩) = ⟨pl, pc⟩ by rw [← hb]; exact hp] at hh
  exact PolyT.of hh (fun e => by unfold timesPB at e; simp only [Bool.and_eq_true] at e; exact e.2.2) hp hk
theorem iPolyIn_t (h : PIn W a n c x) (hb : polyB ⟨l, x⟩ = b) : Calls Try.prog 24 #[plV l (.slice a n c)] W fun e w' => e = .returned (.bool b) ∧ Below W.heap.size W w' := iPolyIn_any l x a c n b W h.is h.le hb
theorem iPolyOne_t {v : Int} (h : PIn W a n c x) (hb : polyB ⟨l, x⟩ = b) (hv : (if b then oneP x n else 0) = v) : Calls Try.prog 34 #[plV l (.slice a n c)] W fun e w' => e = .returned (.tuple #[.int .i64 v, .bool b]) ∧ Below W.heap.size W w' := by
  subst hv
  exact iPolyOne_any l x a c n b W h.is h.le hb
theorem iPolyOf_t (h : PIn W a n c x) (hb : polyOfB l x = b) (hp : polyOfP l x = ⟨pl, pc⟩) (hk : pc.length = k) : Calls Try.prog 26 #[.int .i64 l, .slice a n c] W (PolyT W b pl k pc) := by
  refine (iPolyOf_any l x a c n b W h.is h.le hb).mono fun e w' hh => ?_
  rw [hp] at hh
  exact PolyT.of hh (fun e => by unfold polyOfB at e; simp only [Bool.and_eq_true] at e; exact e.2.2) hp hk
theorem iPolyTurned_t (h : PIn W a n c x) (hb : turnedPB ⟨l, x⟩ = b) (hp : turnedP ⟨l, x⟩ = ⟨pl, pc⟩) (hk : pc.length = k) : Calls Try.prog 39 #[plV l (.slice a n c)] W (PolyT W b pl k pc) := by
  refine (iPolyTurned_any l x a c n _ b W h.is h.le rfl hb).mono fun e w' hh => ?_
  rw [show doneP b (turnP ⟨l, x⟩) = ⟨pl, pc⟩ by rw [← hb]; exact hp] at hh
  exact PolyT.of hh (fun e => by unfold turnedPB at e; simp only [Bool.and_eq_true] at e; exact e.2) hp hk
theorem iPolyPlain_t (h : PIn W a n c x) (hb : polyB ⟨l, x⟩ = b) (hp : plainedP ⟨l, x⟩ = ⟨pl, pc⟩) (hk : pc.length = k) : Calls Try.prog 42 #[plV l (.slice a n c)] W (PolyT W b pl k pc) := by
  refine (iPolyPlain_any l x a c n b W h.is h.le hb).mono fun e w' hh => ?_
  rw [show doneP b (plainP ⟨l, x⟩) = ⟨pl, pc⟩ by rw [← hb]; exact hp] at hh
  exact PolyT.of hh plain_polyB hp hk
theorem iPolyAdd_t (h : PIn W a n c x) (h2 : PIn W a2 m c2 y) (hb : addPB ⟨l, x⟩ ⟨l2, y⟩ = b) (hp : addP ⟨l, x⟩ ⟨l2, y⟩ = ⟨pl, pc⟩) (hk : pc.length = k) : Calls Try.prog 32 #[plV l (.slice a n c), plV l2 (.slice a2 m c2)] W (PolyT W b pl k pc) := by
  refine (iPolyAdd_any l l2 x y a a2 c c2 n m _ _ b W h.is h2.is h.le h2.le rfl rfl hb).mono fun e w' hh => ?_
  rw [show doneP b (sumP ⟨l, x⟩ 1 ⟨l2, y⟩) = ⟨pl, pc⟩ by rw [← hb]; exact hp] at hh
  exact PolyT.of hh (fun e => by unfold addPB at e; simp only [Bool.and_eq_true] at e; exact e.2.2) hp hk
theorem iPolyTimes_t (h : PIn W a n c x) (h2 : PIn W a2 m c2 y) (hb : timesPB ⟨l, x⟩ ⟨l2, y⟩ = b) (hp : timesP ⟨l, x⟩ ⟨l2, y⟩ = ⟨pl, pc⟩) (hk : pc.length = k) : Calls Try.prog 27 #[plV l (.slice a n c), plV l2 (.slice a2 m c2)] W (PolyT W b pl k pc) := by
  refine (iPolyTimes_any l l2 x y a a2 c c2 n m _ _ b W h.is h2.is h.le h2.le rfl rfl hb).mono fun e w' hh => ?_
  rw [show doneP b (prodP ⟨l, x⟩ ⟨l2, y⟩) = ⟨pl, pc⟩ by rw [← hb]; exact hp] at hh
  exact PolyT.of hh (fun e => by unfold timesPB at e; simp only [Bool.and_eq_true] at e; exact e.2.2) hp hk
theorem sPolyOver_t (h : PIn W a n c x) (h2 : PIn W a2 m c2 y) (hb : dividedB ⟨l, x⟩ ⟨l2, y⟩ = b) (hp : dividedP ⟨l, x⟩ ⟨l2, y⟩ = ⟨pl, pc⟩) (hk : pc.length = k) : Calls Try.prog 48 #[plV l (.slice a n c), plV l2 (.slice a2 m c2)] W (PolyT W b pl k pc) := by
  refine (sPolyOver_any l l2 x y a a2 c c2 n m b W h.is h2.is hb).mono fun e w' hh => ?_
  rw [hp] at hh
  refine PolyT.of (t := b) (q := overP ⟨l, x⟩ ⟨l2, y⟩) hh (fun e => ?_) (by rw [← hb]; exact hp) hk
  rw [e] at hb
  exact divided_in hb
theorem sPolyAlike_t (h : PIn W a n c x) (h2 : PIn W a2 m c2 y) (hb : alikeB ⟨l, x⟩ ⟨l2, y⟩ = b) : Calls Try.prog 50 #[plV l (.slice a n c), plV l2 (.slice a2 m c2)] W fun e w' => e = .returned (.bool b) ∧ Below W.heap.size W w' := sPolyAlike_any l l2 x y a a2 c c2 n m _ _ b W h.is h2.is rfl rfl hb
theorem iPolyOver_t (h : PIn W a n c x) (h2 : PIn W a2 m c2 y) (hb : dividedB ⟨l, x⟩ ⟨l2, y⟩ = b) (hp : dividedP ⟨l, x⟩ ⟨l2, y⟩ = ⟨pl, pc⟩) (hk : pc.length = k) : Calls Try.prog 37 #[plV l (.slice a n c), plV l2 (.slice a2 m c2)] W (PolyT W b pl k pc) := by
  refine (iPolyOver_any l l2 x y a a2 c c2 n m b W h.is h2.is h.le h2.le hb).mono fun e w' hh => ?_
  rw [hp] at hh
  refine PolyT.of (t := b) (q := overP ⟨l, x⟩ ⟨l2, y⟩) hh (fun e => ?_) (by rw [← hb]; exact hp) hk
  rw [e] at hb
  exact divided_in hb
theorem iPolyAlike_t (h : PIn W a n c x) (h2 : PIn W a2 m c2 y) (hb : alikeB ⟨l, x⟩ ⟨l2, y⟩ = b) : Calls Try.prog 44 #[plV l (.slice a n c), plV l2 (.slice a2 m c2)] W fun e w' => e = .returned (.bool b) ∧ Below W.heap.size W w' := iPolyAlike_any l l2 x y a a2 c c2 n m _ _ b W h.is h2.is h.le h2.le rfl rfl hb
end

end Go.Proofs.Ytocklmiappppgaa

/- The laws' samePoly; boxes that may be written. -/

namespace Go.Proofs.Ytocklmiappppgaa
open Go.RowKit

/-- A box of a polynomial that may be written. -/
def BoxF (w : World) (j : Nat) (x y : Value) : Prop := j < w.heap.size ∧ w.cell? ⟨j, 0, none⟩ = some x ∧ w.cell? ⟨j, 1, none⟩ = some y ∧ w.frozen? ⟨j, 0, none⟩ = false ∧ w.frozen? ⟨j, 1, none⟩ = false
theorem BoxF.below {w w' : World} {j : Nat} {x y : Value} (h : BoxF w j x y) (hb : Below w.heap.size w w') : BoxF w' j x y := by
  have e := hb.block j h.1
  refine ⟨Nat.lt_of_lt_of_le h.1 hb.size, ?_, ?_, ?_, ?_⟩
  · rw [← h.2.1]; simp [World.cell?, e]
  · rw [← h.2.2.1]; simp [World.cell?, e]
  · rw [← h.2.2.2.1]; simp [World.frozen?, e]
  · rw [← h.2.2.2.2]; simp [World.frozen?, e]
theorem BoxF.grown {w w' : World} {j : Nat} {x y : Value} {row : Option Nat} (h : BoxF w j x y) (hg : w.grownBy w' row) (hne : some j ≠ row) : BoxF w' j x y := by
  have e := hg.block j h.1 hne
  refine ⟨Nat.lt_of_lt_of_le h.1 hg.size, ?_, ?_, ?_, ?_⟩
  · rw [← h.2.1]; simp [World.cell?, e]
  · rw [← h.2.2.1]; simp [World.cell?, e]
  · rw [← h.2.2.2.1]; simp [World.frozen?, e]
  · rw [← h.2.2.2.2]; simp [World.frozen?, e]
theorem BoxF.new {w W : World} {t : TypeId} {x y : Value} (hW : w.alloc (.cells #[x, y] t) = W) : BoxF W w.heap.size x y := by
  have e : W.heap[w.heap.size]? = some (.cells #[x, y] t (0, 0)) := by rw [← hW]; exact World.alloc_heap_new w _
  refine ⟨by rw [← hW]; simp, ?_, ?_, ?_, ?_⟩ <;> simp [World.cell?, World.frozen?, e]
theorem BoxF.fill {w : World} {j : Nat} {x y : Value} (u v : Value) (h : BoxF w j x y) : BoxF ((w.setCell ⟨j, 0, none⟩ u).setCell ⟨j, 1, none⟩ v) j u v := by
  obtain ⟨h0, h1, h2, h3, h4⟩ := h
  refine ⟨by simp; exact h0, ?_, ?_, ?_, ?_⟩
  · go_simp
  · go_simp
  · rw [World.frozen?_setCell, World.frozen?_setCell]; exact h3
  · rw [World.frozen?_setCell, World.frozen?_setCell]; exact h4
theorem grown_cell (w : World) (b o : Nat) (v : Value) : w.grownBy (w.setCell ⟨b, o, none⟩ v) (some b) :=
  ⟨((Below.refl 0 w).setCell (p := ⟨b, o, none⟩) (Nat.zero_le _) v).os, ((Below.refl 0 w).setCell (p := ⟨b, o, none⟩) (Nat.zero_le _) v).tape, ((Below.refl 0 w).setCell (p := ⟨b, o, none⟩) (Nat.zero_le _) v).output, ((Below.refl 0 w).setCell (p := ⟨b, o, none⟩) (Nat.zero_le _) v).size, fun i _ hne => Below.heap_setCell w ⟨b, o, none⟩ v i (fun e => hne (by rw [e]))⟩
theorem grown_cells (w : World) (b : Nat) (u v : Value) : w.grownBy ((w.setCell ⟨b, 0, none⟩ u).setCell ⟨b, 1, none⟩ v) (some b) := grownTrans (grown_cell w b 0 u) (grown_cell _ b 1 v)
theorem BoxF.other {w : World} {j B : Nat} {x y : Value} (u v : Value) (h : BoxF w j x y) (hne : j ≠ B) : BoxF ((w.setCell ⟨B, 0, none⟩ u).setCell ⟨B, 1, none⟩ v) j x y := h.grown (grown_cells w B u v) (fun e => hne (by simpa using e))
theorem row_others {w : World} {base B : Nat} {v x y : Value} {zs : List Int} (h : IntRow base w v zs) (hne : ∀ j, v.ownBlock = some j → j ≠ B) : IntRow base ((w.setCell ⟨B, 0, none⟩ x).setCell ⟨B, 1, none⟩ y) v zs := by
  unfold IntRow at h ⊢
  refine h.kept (grown_cells w B x y) ?_
  cases e : v.ownBlock with
  | none => exact .inl rfl
  | some j => exact .inr fun e2 => hne j e (by simpa using e2)

set_option maxRecDepth 100000 in
set_option maxHeartbeats 1000000 in
theorem sameIntsI_yes (a1 a2 : Option Addr) (c1 c2 n : Nat) (zs : List Int) (w : World) (h1 : Ints w a1 n zs) (h2 : Ints w a2 n zs) :
    Calls Try.prog 72 #[.slice a1 n c1, .slice a2 n c2] w fun e w' => e = .returned (.bool true) ∧ Below w.heap.size w w' := by
  have hm := h1.max
  unfold maxLen at hm
  have H1 := Lib.hid h1
  have H2 := Lib.hid h2
  clear h1 h2
  go_enter Try.func72, Try.ntmps72
  go_wp2
  go_loopw [5] (fun i wr => ∃ k : Nat, k ≤ n ∧ i = .int .i64 k ∧ Below w.heap.size w wr) (fun i _ => n - (intOf i).toNat)
  case atStart => exact ⟨0, Nat.zero_le _, rfl, Below.refl _ _⟩
  case round =>
    obtain ⟨k, hk, rfl, hB⟩ := hrel
    by_cases hlt : k < n
    · obtain ⟨z1, rfl, hb1, hc1⟩ := (H1.out.below hB).at_ (by omega)
      obtain ⟨z2, rfl, hb2, hc2⟩ := (H2.out.below hB).at_ (by omega)
      have hkz : k < zs.length := by rw [H1.out.len]; exact hlt
      obtain ⟨z, hz⟩ : ∃ z, zs[k] = z := ⟨_, rfl⟩
      have d1 := hc1 k hkz
      have d2 := hc2 k hkz
      rw [hz] at d1 d2
      clear hz hkz hc1 hc2
      go_wp2
      go_quiet (fail)
      go_wp2
      go_roundw
      case rel => exact ⟨k + 1, by omega, by go_num, below_drewN hB _⟩
      case measure => simp [intOf]; omega
    · go_wp2
      go_ret
      exact ⟨rfl, hB⟩

set_option maxRecDepth 100000 in
set_option maxHeartbeats 1000000 in
theorem samePoly_t {W : World} {a a2 : Option Addr} {n c c2 : Nat} {l : Int} {zs : List Int} (h : PIn W a n c zs) (h2 : PIn W a2 n c2 zs) :
    Calls Try.prog 28 #[plV l (.slice a n c), plV l (.slice a2 n c2)] W fun e w' => e = .returned (.bool true) ∧ Below W.heap.size W w' := by
  obtain ⟨V, hV⟩ : ∃ V, (W.alloc (.cells #[.int .i64 l, .slice a n c] 25)).alloc (.cells #[.int .i64 l, .slice a2 n c2] 25) = V := ⟨_, rfl⟩
  have hbV : Below W.heap.size W V := by rw [← hV]; exact ((Below.refl _ W).alloc (Nat.le_refl _) _).alloc (by simp) _
  have hC := twoCells hV (Below.refl _ _)
  rw [← hV] at hC
  obtain ⟨q0, q1, q2, q3⟩ := hC
  have HS := Lib.hid (sameIntsI_yes a a2 c c2 n zs V (h.is.below hbV) (h2.is.below hbV))
  have HB := Lib.hid hbV
  have HV := Lib.hid hV
  clear hV hbV h h2
  go_enter Try.func28, Try.ntmps28
  go_wp2_with fail
  rw [HV.out]
  refine HS.out.mono ?_
  rintro e w1 ⟨rfl, hb1⟩
  have HB1 := Lib.hid (HB.out.trans (hb1.mono HB.out.size))
  clear hb1 q0 q1 q2 q3
  go_wp2
  go_ret
  exact ⟨rfl, HB1.out⟩

end Go.Proofs.Ytocklmiappppgaa

/- The contracts of the model's reader of drawn inputs: 'l6Open', 'pick', 'of'. -/

namespace Go.Proofs.Ytocklmiappppgaa
open Go.RowKit Go.Shelf

theorem i64_xor (a b : Nat) (ha : a < 2 ^ 63) (hb : b < 2 ^ 63) : bits .xor .i64 (a : Int) (b : Int) = ((a ^^^ b : Nat) : Int) := by
  show IntKind.i64.wrap ((BitVec.ofInt 64 (a : Int) ^^^ BitVec.ofInt 64 (b : Int)).toNat : Int) = _
  rw [BitVec.toNat_xor, ofInt_u64 a (by omega), ofInt_u64 b (by omega)]
  have : a ^^^ b < 2 ^ 63 := Nat.xor_lt_two_pow ha hb
  exact IntWalk.i64_in _ (by omega)

abbrev RdT : TypeId := 99
/-- A slice of bytes, as numbers, in a block below base. -/
structure BsAt (base : Nat) (w : World) (a : Option Addr) (n cap : Nat) (zs : List Int) : Prop where
  len : zs.length = n
  fit : n ≤ cap ∧ cap ≤ maxLen
  at_ : 0 < n → ∃ x, a = some x ∧ x.block < base ∧ ∀ j (h : j < zs.length), w.cell? (x.add j) = some (.int .u8 zs[j])
  byte : ∀ z ∈ zs, 0 ≤ z ∧ z ≤ 255
theorem BsAt.below {base : Nat} {w w' : World} {a : Option Addr} {n cap : Nat} {zs : List Int} (h : BsAt base w a n cap zs) (hb : Below base w w') : BsAt base w' a n cap zs :=
  ⟨h.len, h.fit, fun h0 => by obtain ⟨x, e, hx, hc⟩ := h.at_ h0; exact ⟨x, e, hx, fun j hj => (hb.cell (p := x.add j) (by show (x.add j).block < _; rw [addr_add_block]; exact hx)).trans (hc j hj)⟩, h.byte⟩
theorem bs_of {H : Type} {enc : TypeId × Value → H} {W : World} {base : Nat} {spare : Nat → Bool} {held : Bool} {fuel : Nat} {a : Option Addr} {len cap : Nat} {x : DataW H × List MemPlace}
    (h : DataW.trod enc Try.prog W base spare held fuel 22 [.slice a len cap] = some x) : ∃ zs, BsAt W.heap.size W a len cap zs := by
  rcases Go.ChangeShapes.open_ints Try.underlying22 Try.underlying5 (by kernel_rfl) h with ⟨hcs, _⟩ | ⟨y, l, c, zs, hcs, hb, hl, hm, hz, _, hx, hwf⟩
  · simp at hcs
    obtain ⟨rfl, rfl, rfl⟩ := hcs
    exact ⟨[], rfl, ⟨Nat.le_refl _, Nat.zero_le _⟩, fun h => absurd h (Nat.lt_irrefl _), fun z h => by cases h⟩
  · simp at hcs
    obtain ⟨rfl, rfl, rfl⟩ := hcs
    have hlz : len ≤ zs.length := by rw [hz]; split <;> omega
    refine ⟨zs.take len, by rw [List.length_take]; omega, ⟨hl, hm⟩, fun h0 => ⟨y, rfl, ?_, fun j hj => ?_⟩, fun z hzm => ?_⟩
    · have := World.block_lt_of_cell? _ _ (hx 0 (by omega))
      rwa [addr_add_block] at this
    · rw [List.length_take] at hj
      rw [hx j (by omega), List.getD_eq_getElem?_getD, List.getElem?_eq_getElem (by omega), List.getElem_take]; rfl
    · have h2 := hwf z (List.mem_of_mem_take hzm)
      simp only [Lit.wf, Bool.and_eq_true, decide_eq_true_eq] at h2
      have e1 : IntKind.u8.min = 0 := by decide
      have e2 : IntKind.u8.max = 255 := by decide
      omega
/-- A reader and how far it is. -/
structure Rd (base : Nat) (w : World) (rb : Nat) (a : Option Addr) (n cap : Nat) (zs : List Int) (p : Nat) : Prop where
  lo : base ≤ rb
  box : w.heap[rb]? = some (.cells #[.slice a n cap, .int .i64 p] RdT (0, 0))
  data : BsAt base w a n cap zs
  short : n ≤ 2000
theorem Rd.lt {base : Nat} {w : World} {rb : Nat} {a : Option Addr} {n cap : Nat} {zs : List Int} {p : Nat} (h : Rd base w rb a n cap zs p) : rb < w.heap.size := (Array.getElem?_eq_some_iff.1 h.box).1
theorem Rd.c0 {base : Nat} {w : World} {rb : Nat} {a : Option Addr} {n cap : Nat} {zs : List Int} {p : Nat} (h : Rd base w rb a n cap zs p) : w.cell? ⟨rb, 0, none⟩ = some (.slice a n cap) := by simp [World.cell?, h.box]
theorem Rd.c1 {base : Nat} {w : World} {rb : Nat} {a : Option Addr} {n cap : Nat} {zs : List Int} {p : Nat} (h : Rd base w rb a n cap zs p) : w.cell? ⟨rb, 1, none⟩ = some (.int .i64 p) := by simp [World.cell?, h.box]
theorem Rd.fr {base : Nat} {w : World} {rb : Nat} {a : Option Addr} {n cap : Nat} {zs : List Int} {p : Nat} (h : Rd base w rb a n cap zs p) : w.frozen? ⟨rb, 1, none⟩ = false := by simp [World.frozen?, h.box]
theorem Rd.below {base : Nat} {w w' : World} {rb : Nat} {a : Option Addr} {n cap : Nat} {zs : List Int} {p : Nat} (h : Rd base w rb a n cap zs p) (hb : Below w.heap.size w w') : Rd base w' rb a n cap zs p :=
  ⟨h.lo, (hb.block rb h.lt).trans h.box, h.data.below (hb.mono (Nat.le_of_lt (Nat.lt_of_le_of_lt h.lo h.lt))), h.short⟩
theorem Rd.set {base : Nat} {w : World} {rb : Nat} {a : Option Addr} {n cap : Nat} {zs : List Int} {p : Nat} (h : Rd base w rb a n cap zs p) (q : Nat) : Rd base (w.setCell ⟨rb, 1, none⟩ (.int .i64 q)) rb a n cap zs q := by
  refine ⟨h.lo, ?_, h.data.below ((Below.refl _ w).setCell (p := ⟨rb, 1, none⟩) h.lo _), h.short⟩
  obtain ⟨hlt, hk⟩ := Array.getElem?_eq_some_iff.1 h.box
  show (w.heap.modify rb _)[rb]? = _
  rw [Array.getElem?_eq_getElem (by rw [Array.size_modify]; exact hlt), Array.getElem_modify_self, hk]
  rfl

theorem grown_set (w : World) (a : Addr) (v : Value) : w.grownBy (w.setCell a v) (some a.block) :=
  ⟨rfl, rfl, rfl, by show _ ≤ (w.heap.modify a.block _).size; rw [Array.size_modify]; exact Nat.le_refl _, fun k hk hne => by
    show (w.heap.modify a.block _)[k]? = _
    rw [Array.getElem?_modify, if_neg (fun e => hne (by rw [e]))]⟩

set_option maxRecDepth 100000 in
set_option maxHeartbeats 4000000 in
theorem pick_any (base rb : Nat) (a : Option Addr) (n cap : Nat) (zs : List Int) (p m : Nat) (w : World) (h : Rd base w rb a n cap zs p) (hp : p ≤ 100000) (hm : 1 ≤ m) (hm2 : m ≤ 1000) :
    Calls Try.prog 73 #[.pointer (some ⟨rb, 0, none⟩), .int .i64 m] w fun e w' => (∃ z : Nat, e = .returned (.int .i64 z) ∧ z < m) ∧ Rd base w' rb a n cap zs (p + 1) ∧ Below base w w' ∧ w.grownBy w' (some rb) := by
  have hlt := h.lt
  have hc0 := h.c0
  have hc1 := h.c1
  have hfr := h.fr
  have hsh := h.short
  have hw1 : IntKind.i64.wrap ((p : Int) + 1) = (p : Int) + 1 := IntWalk.i64_in _ (by omega)
  have ep : ((p + 1 : Nat) : Int) = (p : Int) + 1 := by push_cast; rfl
  have hR := h.set (p + 1)
  rw [ep] at hR
  have hB : Below base w (w.setCell ⟨rb, 1, none⟩ (.int .i64 ((p : Int) + 1))) := (Below.refl _ w).setCell (p := ⟨rb, 1, none⟩) h.lo _
  have hG := grown_set w ⟨rb, 1, none⟩ (.int .i64 ((p : Int) + 1))
  obtain ⟨V, hV⟩ : ∃ V, w.setCell ⟨rb, 1, none⟩ (.int .i64 ((p : Int) + 1)) = V := ⟨_, rfl⟩
  have HV := Lib.hid hV
  rw [hV] at hR hB hG
  have HG := Lib.hid hG
  have hd0 := hR.c0
  have hd1 := hR.c1
  rw [ep] at hd1
  have hml : decide ((m : Int) < 1) = false := decide_eq_false (by omega)
  have hml2 : ¬ (m : Int) < 1 := by omega
  have HR := Lib.hid hR
  have HB := Lib.hid hB
  have hmz : ¬ (m : Int) = 0 := by omega
  have HD := Lib.hid hR.data
  have hw2 : IntKind.i64.wrap ((p : Int) + 1 - 1) = (p : Int) := by rw [IntWalk.i64_in _ (by omega)]; omega
  have hrem : ∀ z : Int, 0 ≤ z → ∃ r : Nat, z.tmod (m : Int) = (r : Int) ∧ r < m := fun z hz => ⟨z.toNat % m, by
    rw [Int.tmod_eq_emod_of_nonneg hz, Int.natCast_emod, Int.toNat_of_nonneg hz], Nat.mod_lt _ (by omega)⟩
  have HREM := Lib.hid hrem
  clear h hR hB hV hrem hG
  by_cases hn : n = 0
  · subst hn
    go_enter Try.func73, Try.ntmps73
    go_wp2
    go_ret
    rw [HV.out]
    exact ⟨⟨0, rfl, by omega⟩, HR.out, HB.out, HG.out⟩
  · have hn0 : ¬ (n : Int) = 0 := by omega
    have hne : ((n : Int) == 0) = false := by simpa using hn0
    obtain ⟨x, rfl, hxb, hcx⟩ := HD.out.at_ (by omega)
    have hzl := HD.out.len
    by_cases hpn : p < n
    · have hpz : p < zs.length := by omega
      obtain ⟨z, hz⟩ : ∃ z, zs[p] = z := ⟨_, rfl⟩
      have hcp := hcx p hpz
      rw [hz, ← HV.out] at hcp
      have hzb := HD.out.byte z (by rw [← hz]; exact List.getElem_mem hpz)
      obtain ⟨r, hr, hrm⟩ := HREM.out z hzb.1
      have hwz : IntKind.i64.wrap z = z := IntWalk.i64_in _ (by omega)
      have hwr : IntKind.i64.wrap (r : Int) = (r : Int) := IntWalk.i64_in _ (by omega)
      have hpi : (p : Int) < (n : Int) := by omega
      go_enter Try.func73, Try.ntmps73
      go_wp2_with fail
      go_ret
      rw [HV.out]
      exact ⟨⟨r, rfl, hrm⟩, HR.out, HB.out, HG.out⟩
    · have hpi : ¬ (p : Int) < (n : Int) := by omega
      have hn1 : 0 < n := by omega
      obtain ⟨k1, hk1⟩ : ∃ k, p % n = k := ⟨_, rfl⟩
      obtain ⟨k2, hk2⟩ : ∃ k, (p * 7 + 3) % n = k := ⟨_, rfl⟩
      obtain ⟨d, hd⟩ : ∃ d, p / n = d := ⟨_, rfl⟩
      have hk1n : k1 < n := by rw [← hk1]; exact Nat.mod_lt _ hn1
      have hk2n : k2 < n := by rw [← hk2]; exact Nat.mod_lt _ hn1
      have hdp : d ≤ p := by rw [← hd]; exact Nat.div_le_self _ _
      have ht1 : (p : Int).tmod (n : Int) = (k1 : Int) := by rw [Int.tmod_eq_emod_of_nonneg (by omega), ← hk1]; rfl
      have ht2 : ((p : Int) * 7 + 3).tmod (n : Int) = (k2 : Int) := by rw [Int.tmod_eq_emod_of_nonneg (by omega), ← hk2]; push_cast; rfl
      have ht3 : (p : Int).tdiv (n : Int) = (d : Int) := by rw [Int.tdiv_eq_ediv_of_nonneg (by omega), ← hd]; rfl
      have hz1 : k1 < zs.length := by omega
      have hz2 : k2 < zs.length := by omega
      obtain ⟨q1, hq1⟩ : ∃ z, zs[k1] = z := ⟨_, rfl⟩
      obtain ⟨q2, hq2⟩ : ∃ z, zs[k2] = z := ⟨_, rfl⟩
      have hcp1 := hcx k1 hz1
      have hcp2 := hcx k2 hz2
      rw [hq1, ← HV.out] at hcp1
      rw [hq2, ← HV.out] at hcp2
      have hb1 := HD.out.byte q1 (by rw [← hq1]; exact List.getElem_mem hz1)
      have hb2 := HD.out.byte q2 (by rw [← hq2]; exact List.getElem_mem hz2)
      have hk1i : (k1 : Int) < (n : Int) := by omega
      have hk2i : (k2 : Int) < (n : Int) := by omega
      have a1 : IntKind.i64.wrap (k1 : Int) = (k1 : Int) := IntWalk.i64_in _ (by omega)
      have a2 : IntKind.i64.wrap (k2 : Int) = (k2 : Int) := IntWalk.i64_in _ (by omega)
      have a3 : IntKind.i64.wrap (d : Int) = (d : Int) := IntWalk.i64_in _ (by omega)
      have a4 : IntKind.i64.wrap q1 = q1 := IntWalk.i64_in _ (by omega)
      have a5 : IntKind.i64.wrap q2 = q2 := IntWalk.i64_in _ (by omega)
      have a6 : IntKind.i64.wrap (q1 * 131) = q1 * 131 := IntWalk.i64_in _ (by omega)
      have a7 : IntKind.i64.wrap (q2 * 1117) = q2 * 1117 := IntWalk.i64_in _ (by omega)
      have a8 : IntKind.i64.wrap ((p : Int) * 7) = (p : Int) * 7 := IntWalk.i64_in _ (by omega)
      have a9 : IntKind.i64.wrap ((p : Int) * 7 + 3) = (p : Int) * 7 + 3 := IntWalk.i64_in _ (by omega)
      have b1 : IntKind.i64.wrap (q1 * 131 + q2 * 1117) = q1 * 131 + q2 * 1117 := IntWalk.i64_in _ (by omega)
      have b2 : IntKind.i64.wrap ((p : Int) * 29) = (p : Int) * 29 := IntWalk.i64_in _ (by omega)
      have b3 : IntKind.i64.wrap (q1 * 131 + q2 * 1117 + (p : Int) * 29) = q1 * 131 + q2 * 1117 + (p : Int) * 29 := IntWalk.i64_in _ (by omega)
      have b4 : IntKind.i64.wrap ((d : Int) * 53) = (d : Int) * 53 := IntWalk.i64_in _ (by omega)
      obtain ⟨X, hX⟩ : ∃ X : Nat, q1 * 131 + q2 * 1117 + (p : Int) * 29 + (d : Int) * 53 = (X : Int) := ⟨(q1 * 131 + q2 * 1117 + (p : Int) * 29 + (d : Int) * 53).toNat, by omega⟩
      have hXb : X ≤ 10000000 := by omega
      have b5 : IntKind.i64.wrap (X : Int) = (X : Int) := IntWalk.i64_in _ (by omega)
      have ht4 : (X : Int).tdiv 64 = ((X / 64 : Nat) : Int) := by rw [Int.tdiv_eq_ediv_of_nonneg (by omega)]; rfl
      have hY : X / 64 ≤ X := Nat.div_le_self _ _
      obtain ⟨Y, hYe⟩ : ∃ Y, X / 64 = Y := ⟨_, rfl⟩
      rw [hYe] at ht4 hY
      have b6 : IntKind.i64.wrap (Y : Int) = (Y : Int) := IntWalk.i64_in _ (by omega)
      have hxor := i64_xor X Y (by omega) (by omega)
      obtain ⟨Z, hZ⟩ : ∃ Z, X ^^^ Y = Z := ⟨_, rfl⟩
      rw [hZ] at hxor
      obtain ⟨r, hr, hrm⟩ := HREM.out (Z : Int) (by omega)
      have b7 : IntKind.i64.wrap (r : Int) = (r : Int) := IntWalk.i64_in _ (by omega)
      have HRM := Lib.hid hrm
      clear hk1 hk2 hd hq1 hq2 hb1 hb2 hdp hXb hY hYe hZ hcx hrm hzl hz1 hz2
      go_enter Try.func73, Try.ntmps73
      go_wp2
      go_quiet (fail)
      go_wp2
      go_ret
      rw [HV.out]
      exact ⟨⟨r, rfl, HRM.out⟩, ⟨HR.out.lo, HR.out.box, ⟨HR.out.data.len, HR.out.data.fit, HR.out.data.at_, HR.out.data.byte⟩, HR.out.short⟩, ⟨HB.out.os, HB.out.tape, HB.out.output, HB.out.size, HB.out.block⟩, ⟨HG.out.os, HG.out.tape, HG.out.output, HG.out.size, HG.out.block⟩⟩

set_option maxHeartbeats 1000000 in
theorem open_any (a : Option Addr) (n cap : Nat) (zs : List Int) (w : World) (h : BsAt w.heap.size w a n cap zs) :
    Calls Try.prog 66 #[.slice a n cap] w fun e w' => ∃ n' zs', e = .returned (.pointer (some ⟨w.heap.size, 0, none⟩)) ∧ Rd w.heap.size w' w.heap.size a n' cap zs' 0 ∧ Below w.heap.size w w' := by
  have hf := h.fit
  have hl := h.len
  unfold maxLen at hf
  have hB : ∀ m : Nat, Below w.heap.size w (w.alloc (.cells #[.slice a m cap, .int .i64 0] RdT)) := fun m => (Below.refl _ w).alloc (Nat.le_refl _) _
  have hRd : ∀ (m : Nat) (ys : List Int), m ≤ 2000 → BsAt w.heap.size w a m cap ys → Rd w.heap.size (w.alloc (.cells #[.slice a m cap, .int .i64 0] RdT)) w.heap.size a m cap ys 0 := fun m ys hm hd => ⟨Nat.le_refl _, World.alloc_heap_new w _, hd.below (hB m), hm⟩
  have HRD := Lib.hid hRd
  have HBD := Lib.hid hB
  have H := Lib.hid h
  clear h hRd hB
  by_cases hn : n ≤ 2000
  · have hd : decide ((2000 : Int) < (n : Int)) = false := decide_eq_false (by omega)
    go_enter Try.func66, Try.ntmps66
    go_wp2
    go_ret
    exact ⟨n, zs, rfl, HRD.out n zs hn H.out, HBD.out n⟩
  · have hd : decide ((2000 : Int) < (n : Int)) = true := decide_eq_true (by omega)
    obtain ⟨x, rfl, hxb, hc⟩ := H.out.at_ (by omega)
    have hcap : (2000 : Int) ≤ (cap : Int) := by omega
    have hcap2 : 2000 ≤ cap := by omega
    have H2 : Hid (BsAt w.heap.size w (some x) 2000 cap (zs.take 2000)) := Lib.hid ⟨by rw [List.length_take]; omega, ⟨hcap2, H.out.fit.2⟩, fun _ => ⟨x, rfl, hxb, fun j hj => by rw [List.getElem_take]; exact hc j (by rw [List.length_take] at hj; omega)⟩, fun z hz => H.out.byte z (List.mem_of_mem_take hz)⟩
    clear hc
    go_enter Try.func66, Try.ntmps66
    go_wp2
    go_ret
    exact ⟨2000, zs.take 2000, rfl, HRD.out 2000 _ (Nat.le_refl _) H2.out, HBD.out 2000⟩

end Go.Proofs.Ytocklmiappppgaa

/- The contracts of the model's 'of', 'l91Mono' and 'DrawSeriesShuffle'. -/

namespace Go.Proofs.Ytocklmiappppgaa
open Go.RowKit Go.Shelf

def abL : List ByteArray := [{ data := #[97] }, { data := #[98] }]
theorem abL_size : ∀ s ∈ abL, s.size = 1 := by decide

end Go.Proofs.Ytocklmiappppgaa

/- The contracts of the model's sums of letters. -/

namespace Go.Proofs.Ytocklmiappppgaa
open Go.RowKit

theorem sIndex_any (c : UInt8) (w : World) (h : letB c = true) :
    Calls Try.prog 119 #[.int .u8 (c.toNat : Int)] w fun e w' => e = .returned (.int .i64 (idxB c : Int)) ∧ w = w' := by
  have hc := (letB_iff c).1 h
  clear h
  by_cases h97 : 97 ≤ c.toNat
  · have H : Hid ((idxB c : Int) = (c.toNat : Int) - 97) := Lib.hid (by unfold idxB; rw [if_pos h97]; omega)
    have h2 : c.toNat ≤ 100 := by omega
    clear hc
    go_enter Try.func119, Try.ntmps119
    go_wp2
    go_ret
    exact ⟨ret_int H.out.symm, rfl⟩
  · have H : Hid ((idxB c : Int) = (c.toNat : Int) - 65) := Lib.hid (by unfold idxB; rw [if_neg h97]; omega)
    have h2 : c.toNat ≤ 68 := by omega
    have h3 : 65 ≤ c.toNat := by omega
    clear hc
    go_enter Try.func119, Try.ntmps119
    go_wp2
    go_ret
    exact ⟨ret_int H.out.symm, rfl⟩

set_option maxRecDepth 100000 in
set_option maxHeartbeats 1000000 in
theorem sSums_any (s : ByteArray) (w : World) (hs : s.size ≤ 1048576) (hl : letL s.data.toList = true) :
    Calls Try.prog 109 #[.string s] w fun e w' => ∃ v, e = .returned v ∧ IntRow w.heap.size w' v (sumsL s.data.toList) ∧ Below w.heap.size w w' := by
  have HL := Lib.hid hl
  clear hl
  obtain ⟨i0, hi, hz0, hz1, hz2⟩ := info_parts infoInt
  go_enter Try.func109, Try.ntmps109
  go_wp2_with (at_make; refine wpList_make_full _ rfl _ _ 23 rfl w.heap.size 3 i0 (.int .i64 0) 1 Try.underlying23 hi hz0 hz1 .i64 .i64 _ _ 4 rfl rfl rfl rfl (by rw [hz2]; decide) (by unfold maxLen; decide) (Nat.le_refl _) ?_; intro w1 hrow hgrow)
  have hB1 : Below w.heap.size w w1 := (Below.refl _ _).grown hgrow (Nat.le_refl _) (fun k e => by cases e)
  have hrow0 : w1.ownsRow w.heap.size 3 1 (.slice (some ⟨w.heap.size, 0, none⟩) 4 4) 4 (intsV (sumsL (s.data.toList.take 0))) := by
    have e : (madeCells (Value.cells (.int .i64 0)) (4 * 1)).toList = intsV (sumsL (s.data.toList.take 0)) := by
      rw [show Value.cells (.int .i64 0) = #[.int .i64 0] from rfl, toList_madeCells_one]; rfl
    rw [← e]; exact hrow
  clear hrow hgrow
  go_loopw [4] (fun i wr => ∃ k : Nat, k ≤ s.size ∧ i = .int .i64 k ∧ wr.ownsRow w.heap.size 3 1 (.slice (some ⟨w.heap.size, 0, none⟩) 4 4) 4 (intsV (sumsL (s.data.toList.take k))) ∧ Below w.heap.size w wr)
    (fun i _ => s.size - (intOf i).toNat)
  case atStart => exact ⟨0, Nat.zero_le _, rfl, hrow0, hB1⟩
  case round =>
    obtain ⟨k, hk, rfl, hr, hB⟩ := hrel
    by_cases hlt : k < s.size
    · have hl : k < s.data.toList.length := by simpa using hlt
      have hlet : letB s[k] = true := letL_get _ HL.out k hl
      have hlk : letL (s.data.toList.take k) = true := letL_of_mem _ _ HL.out (fun _ h => List.mem_of_mem_take h)
      obtain ⟨hz4, hzb⟩ := sumsL_inv _ hlk
      obtain ⟨j, hj⟩ : ∃ j, idxB s[k] = j := ⟨_, rfl⟩
      have hj4 : j < 4 := by rw [← hj]; exact idxB_lt _ hlet
      obtain ⟨z, hz⟩ : ∃ z, (sumsL (s.data.toList.take k))[j]'(by omega) = z := ⟨_, rfl⟩
      have hzm := hzb z (by rw [← hz]; exact List.getElem_mem _)
      have htl : (s.data.toList.take k).length ≤ k := List.length_take_le _ _
      have hz1' : -(1048576 : Int) ≤ z := by omega
      have hz2' : z ≤ 1048576 := by omega
      have hcl : wr.cell? ⟨w.heap.size, j, none⟩ = some (.int .i64 z) := by
        rw [hr.cellAt j (by omega), ← hz]
        simp [intsV, hz4, hj4]
      have hfr := hr.frozenAt j
      have hstep : ∀ u : Int, u = z + sgnB s[k] → (intsV (sumsL (s.data.toList.take k))).set j (.int .i64 u) = intsV (sumsL (s.data.toList.take (k + 1))) := by
        intro u hu
        rw [take_snoc _ k hl, sumsL_snoc]
        unfold sumsStep intsV
        have e1 : s.data.toList[k] = s[k] := rfl
        rw [e1, hj, List.getElem?_eq_getElem (by omega), Option.getD_some, hz, ← hu, List.map_set]
      have HST := Lib.hid hstep
      have HLet := Lib.hid hlet
      have HJ := Lib.hid hj
      have HR := Lib.hid hr
      clear hstep hlet hlk hz4 hzb hz hzm htl hr hj
      by_cases h97 : 97 ≤ s[k].toNat
      · have HG : Hid (sgnB s[k] = 1) := by unfold sgnB; rw [if_pos h97]; exact Lib.hid rfl
        go_wp2_with fail
        refine (sIndex_any _ _ HLet.out).mono ?_
        rw [HJ.out]
        rintro e w2 ⟨rfl, rfl⟩
        go_wp2_with fail
        go_roundw
        case rel =>
          have hst := HR.out.stored j (.int .i64 (z + 1))
          refine ⟨k + 1, by omega, by go_num, ?_, hB.setCell (p := ⟨w.heap.size, j, none⟩) (Nat.le_refl _) _⟩
          rw [← HST.out (z + 1) (by rw [HG.out])]
          exact hst.1
        case measure => simp [intOf]; omega
      · have HG : Hid (sgnB s[k] = -1) := by unfold sgnB; rw [if_neg h97]; exact Lib.hid rfl
        go_wp2_with fail
        refine (sIndex_any _ _ HLet.out).mono ?_
        rw [HJ.out]
        rintro e w2 ⟨rfl, rfl⟩
        go_wp2_with fail
        go_roundw
        case rel =>
          have hst := HR.out.stored j (.int .i64 (z - 1))
          refine ⟨k + 1, by omega, by go_num, ?_, hB.setCell (p := ⟨w.heap.size, j, none⟩) (Nat.le_refl _) _⟩
          rw [← HST.out (z - 1) (by rw [HG.out]; omega)]
          exact hst.1
        case measure => simp [intOf]; omega
    · have HE : Hid (s.data.toList.take k = s.data.toList) := List.take_of_length_le (by simp; omega)
      have HR := Lib.hid hr
      clear hr
      go_wp2_with fail
      go_ret
      refine ⟨_, rfl, ?_, hB⟩
      have := HR.out
      rw [HE.out] at this
      unfold IntRow
      rw [(sumsL_inv _ HL.out).1]
      exact this

end Go.Proofs.Ytocklmiappppgaa

/- The contracts of the model's 'l3Fox' and 'FoxOf'. -/

namespace Go.Proofs.Ytocklmiappppgaa
open Go.RowKit Go.Shelf

theorem Acc.more {base : Nat} {w : World} {v : Value} {acc : List Tm} {N N' : Nat} {B B' : Int} (h : Acc base w v acc N B) (hN : N ≤ N') (hB : B ≤ B') : Acc base w v acc N' B' :=
  ⟨h.own, Nat.le_trans h.len hN, fun u hu => by have := h.bnd u hu; omega, h.sml⟩
theorem extract_take (s : ByteArray) (k : Nat) : s.extract 0 k = bstr (s.data.toList.take k) := by
  apply bytes_ext
  rw [Lib.extract_data, bstr_toList]; simp

end Go.Proofs.Ytocklmiappppgaa

/- The contracts of the model's products and commutators of words. -/

namespace Go.Proofs.Ytocklmiappppgaa
open Go.RowKit

/-- What is told of letters. -/
def toldV (l : List UInt8) : Value := if l.length ≤ 60 then .tuple #[.string (bstr l), .bool true] else .tuple #[.string ByteArray.empty, .bool false]
theorem toldV_yes {l : List UInt8} (h : l.length ≤ 60) : toldV l = .tuple #[.string (bstr l), .bool true] := if_pos h
theorem toldV_no {l : List UInt8} (h : ¬ l.length ≤ 60) : toldV l = .tuple #[.string ByteArray.empty, .bool false] := if_neg h

theorem append_toList (a b : ByteArray) : (a ++ b).data.toList = a.data.toList ++ b.data.toList := by simp
theorem append_size (a b : ByteArray) : (a ++ b).size = a.size + b.size := by simp

/-- The letters of a commutator. -/
def commL (a b : List UInt8) : List UInt8 := a ++ b ++ backL a ++ backL b

end Go.Proofs.Ytocklmiappppgaa

/- The contracts of the model's 'l1Four', 'l1Put' and 'WordPut'. -/

namespace Go.Proofs.Ytocklmiappppgaa
open Go.RowKit

def wordsB (zs : List ByteArray) : Bool := zs.all fun s => wordB s.data.toList
/-- Are these four words? -/
def fourB (zs : List ByteArray) : Bool := wordsB zs && decide (zs.length = 4)

theorem wordsB_false (zs : List ByteArray) (k : Nat) (hk : k < zs.length) (h : wordB zs[k].data.toList = false) : wordsB zs = false :=
  List.all_eq_false.2 ⟨_, List.getElem_mem hk, by simp [h]⟩
theorem wordsB_of (zs : List ByteArray) (h : ∀ j (hj : j < zs.length), wordB zs[j].data.toList = true) : wordsB zs = true :=
  List.all_eq_true.2 fun s hs => by
    obtain ⟨j, hj, rfl⟩ := List.mem_iff_getElem.1 hs
    exact h j hj

/-- The image of a letter, and of a row of letters. -/
def imgL (zs : List ByteArray) (c : UInt8) : List UInt8 := if c.toNat < 97 then backL (zs.getD (idxB c) ByteArray.empty).data.toList else (zs.getD (idxB c) ByteArray.empty).data.toList
def putL (zs : List ByteArray) (l : List UInt8) : List UInt8 := (l.map (imgL zs)).flatten
theorem putL_snoc (zs : List ByteArray) (l : List UInt8) (c : UInt8) : putL zs (l ++ [c]) = putL zs l ++ imgL zs c := by simp [putL]
theorem imgL_len (zs : List ByteArray) (c : UInt8) (h : ∀ z ∈ zs, z.size ≤ 60) (hc : idxB c < zs.length) : (imgL zs c).length ≤ 60 := by
  have h1 : (zs.getD (idxB c) ByteArray.empty) ∈ zs := by
    rw [List.getD_eq_getElem?_getD, List.getElem?_eq_getElem hc]; exact List.getElem_mem hc
  have h2 := h _ h1
  unfold imgL
  split
  · rw [backL_length]; simpa using h2
  · simpa using h2

theorem fourB_iff (zs : List ByteArray) : fourB zs = true ↔ zs.length = 4 ∧ ∀ z ∈ zs, wordB z.data.toList = true := by
  unfold fourB wordsB
  rw [Bool.and_eq_true, List.all_eq_true, decide_eq_true_iff, and_comm]

end Go.Proofs.Ytocklmiappppgaa

/- The contracts of the model's 'SumTurned' and 'SumPut'. -/

namespace Go.Proofs.Ytocklmiappppgaa
open Go.RowKit Go.Shelf

/-- A term whose word is changed. -/
def mapT (f : List UInt8 → List UInt8) (t : Tm) : Tm := ⟨t.c, bstr (f t.s.data.toList)⟩
def fitB (ts : List Tm) : Bool := ts.all fun t => decide (t.s.size ≤ 60)
theorem fitB_at {ts : List Tm} {k : Nat} (hk : k < ts.length) (h : ¬ ts[k].s.size ≤ 60) : fitB ts = false :=
  List.all_eq_false.2 ⟨_, List.getElem_mem hk, by simpa using h⟩
theorem fitB_of {ts : List Tm} (h : ∀ j (hj : j < ts.length), ts[j].s.size ≤ 60) : fitB ts = true :=
  List.all_eq_true.2 fun t ht => by
    obtain ⟨j, hj, rfl⟩ := List.getElem_of_mem ht
    simpa using h j hj
theorem termB_word {t : Tm} (h : termB t = true) : wordB t.s.data.toList = true := by unfold termB at h; simp only [Bool.and_eq_true] at h; exact h.1

def putF (zs : List ByteArray) (l : List UInt8) : List UInt8 := redL [] (putL zs l)

end Go.Proofs.Ytocklmiappppgaa

/- The contracts of the model's 'l2Times' and 'SumTimes'. -/

namespace Go.Proofs.Ytocklmiappppgaa
open Go.RowKit Go.Shelf

/-- The product of two terms, and those of all pairs. -/
def pairT (t u : Tm) : Tm := ⟨t.c * u.c, bstr (redL [] (t.s.data.toList ++ u.s.data.toList))⟩
def pairsT (x y : List Tm) : List Tm := x.flatMap fun t => y.map (pairT t)
theorem pairs_succ (x y : List Tm) (k : Nat) (h : k < x.length) : pairsT (x.take (k + 1)) y = pairsT (x.take k) y ++ y.map (pairT x[k]) := by
  unfold pairsT
  rw [List.take_succ_eq_append_getElem h, List.flatMap_append]
  simp
theorem pairs_zero (y : List Tm) : pairsT [] y = [] := rfl
theorem pairs_len (x y : List Tm) : (pairsT x y).length = x.length * y.length := by
  unfold pairsT
  induction x with
  | nil => simp
  | cons t r ih => rw [List.flatMap_cons, List.length_append, ih, List.length_map, List.length_cons, Nat.succ_mul]; omega
theorem map_succ (f : Tm → Tm) (y : List Tm) (j : Nat) (h : j < y.length) : (y.take (j + 1)).map f = (y.take j).map f ++ [f y[j]] := by
  rw [List.take_succ_eq_append_getElem h, List.map_append]; rfl
theorem mul_bnd {a b : Int} (ha : -1000000 ≤ a ∧ a ≤ 1000000) (hb : -1000000 ≤ b ∧ b ≤ 1000000) : -1000000000000 ≤ a * b ∧ a * b ≤ 1000000000000 := by
  have h : (a * b).natAbs ≤ 1000000 * 1000000 := by
    rw [Int.natAbs_mul]
    exact Nat.mul_le_mul (by omega) (by omega)
  omega

/-- What has been added up so far: the terms of L. -/
structure AccL (base : Nat) (w : World) (v : Value) (L : List Tm) : Prop where
  fit : ∀ t ∈ L, t.s.size ≤ 60
  acc : Acc base w v (L.foldl addT []) L.length (1000000000000 * L.length)
theorem AccL.below {base : Nat} {w w' : World} {v : Value} {L : List Tm} (h : AccL base w v L) (hb : Below w.heap.size w w') : AccL base w' v L := ⟨h.fit, h.acc.below hb⟩
theorem AccL.snoc {base : Nat} {w w' : World} {v v' : Value} {L : List Tm} {t : Tm} (h : AccL base w v L) (ht : t.s.size ≤ 60) (h2 : Acc base w' v' (addT (L.foldl addT []) t) (L.length + 1) (1000000000000 * L.length + 1000000000000)) : AccL base w' v' (L ++ [t]) :=
  ⟨fun u hu => by
    rcases List.mem_append.1 hu with hu | hu
    · exact h.fit u hu
    · rw [List.mem_singleton.1 hu]; exact ht, by
    rw [List.foldl_append, List.length_append]
    rw [show (1000000000000 : Int) * ((L.length + [t].length : Nat) : Int) = 1000000000000 * L.length + 1000000000000 by rw [List.length_singleton]; omega]
    exact h2⟩
theorem AccL.nil (w : World) : AccL w.heap.size (w.alloc (.cells #[] TI)) (.slice (some ⟨w.heap.size, 0, none⟩) 0 0) [] := ⟨fun t h => (by cases h), acc_zero w⟩

/-- What l2Times hands back. -/
def TimesYes (w : World) (ts : List Tm) (e : Ending) (w' : World) : Prop := ∃ v, e = .returned (.tuple #[v, .bool true]) ∧ OwnTerms w.heap.size w' v (canonT ts) ∧ SmallT (canonT ts) ∧ Below w.heap.size w w'
def TimesNo (w : World) (e : Ending) (w' : World) : Prop := ∃ g n cap, e = .returned (.tuple #[.slice (some ⟨g, 0, none⟩) n cap, .bool false]) ∧ Below w.heap.size w w'
def TimesAny (w : World) (b : Bool) (ts : List Tm) (e : Ending) (w' : World) : Prop := (b = true ∧ TimesYes w ts e w') ∨ (b = false ∧ TimesNo w e w')

end Go.Proofs.Ytocklmiappppgaa

/- The contract of the model's 'FoxSum'. -/

namespace Go.Proofs.Ytocklmiappppgaa
open Go.RowKit Go.Shelf

theorem mul_bnd60 {a b : Int} (ha : -1000000 ≤ a ∧ a ≤ 1000000) (hb : -60 ≤ b ∧ b ≤ 60) : -60000000 ≤ a * b ∧ a * b ≤ 60000000 := by
  have h : (a * b).natAbs ≤ 1000000 * 60 := by
    rw [Int.natAbs_mul]
    exact Nat.mul_le_mul (by omega) (by omega)
  omega
theorem scale_succ (c : Int) (ds acc : List Tm) (j : Nat) (h : j < ds.length) : (scaleT c (ds.take (j + 1))).foldl addT acc = addT ((scaleT c (ds.take j)).foldl addT acc) ⟨c * ds[j].c, ds[j].s⟩ := by
  unfold scaleT
  rw [List.take_succ_eq_append_getElem h, List.map_append, List.foldl_append]; rfl

/-- What FoxSum answers. -/
def foxSumB (x : List Tm) (g : Int) : Bool := sumB x && (inR 0 3 g && twB (canonT (foxI g x)))

theorem foxSumB_tw {x : List Tm} {g : Int} {b : Bool} (h : foxSumB x g = b) : b = true → twB (canonT (foxI g x)) = true := by
  intro hb
  subst hb
  unfold foxSumB at h
  simp only [Bool.and_eq_true] at h
  exact h.2.2
end Go.Proofs.Ytocklmiappppgaa

/- The contracts of the model's 'l4Times', 'l4Done' and 'SeriesTimes'. -/

namespace Go.Proofs.Ytocklmiappppgaa
open Go.RowKit Go.Shelf

/-- The product of two terms whose words are put one behind the other; those of all pairs that are not too long. -/
def pairS (t u : Tm) : Tm := ⟨t.c * u.c, t.s ++ u.s⟩
def short (t : Tm) : Bool := decide (t.s.size ≤ 4)
def pairsS (x y : List Tm) : List Tm := x.flatMap fun t => (y.map (pairS t)).filter short
theorem pairsS_succ (x y : List Tm) (k : Nat) (h : k < x.length) : pairsS (x.take (k + 1)) y = pairsS (x.take k) y ++ (y.map (pairS x[k])).filter short := by
  unfold pairsS
  rw [List.take_succ_eq_append_getElem h, List.flatMap_append]
  simp
def rowS (t : Tm) (y : List Tm) : List Tm := (y.map (pairS t)).filter short
theorem rowS_succ (t : Tm) (y : List Tm) (j : Nat) (h : j < y.length) : rowS t (y.take (j + 1)) = rowS t (y.take j) ++ (if (t.s ++ y[j].s).size ≤ 4 then [pairS t y[j]] else []) := by
  unfold rowS
  rw [map_succ (pairS t) y j h, List.filter_append, List.filter_cons, List.filter_nil]
  congr 1
  by_cases hs : (t.s ++ y[j].s).size ≤ 4
  · rw [if_pos (show short (pairS t y[j]) = true from decide_eq_true hs), if_pos hs]
  · rw [if_neg (show ¬ short (pairS t y[j]) = true by unfold short pairS; simpa using hs), if_neg hs]

/-- What fits into the products of series. -/
def SerL (x : List Tm) : Prop := x.length ≤ 400 ∧ ∀ t ∈ x, t.s.size ≤ 4 ∧ -1000000 ≤ t.c ∧ t.c ≤ 1000000

theorem serB_is (ts : List Tm) : serB ts = ((List.range ts.length).all (serAt ts) && decide (ts.length ≤ 400)) := rfl
theorem serB_parts {ts : List Tm} (h : serB ts = true) : ts.length ≤ 400 ∧ (∀ t ∈ ts, t.c ≠ 0 ∧ (-1000000 ≤ t.c ∧ t.c ≤ 1000000) ∧ monoB t.s = true) ∧ Canon ts := by
  rw [serB_is] at h
  simp only [Bool.and_eq_true, decide_eq_true_eq] at h
  obtain ⟨h1, h2⟩ := h
  have hat : ∀ j (hj : j < ts.length), ts[j].c ≠ 0 ∧ (-1000000 ≤ ts[j].c ∧ ts[j].c ≤ 1000000) ∧ monoB ts[j].s = true ∧ (j = 0 ∨ lessW (ts.getD (j - 1) default).s (ts.getD j default).s = true) := fun j hj => by
    have h3 := List.all_eq_true.1 h1 j (List.mem_range.2 hj)
    have hg : ts.getD j default = ts[j] := by rw [List.getD_eq_getElem?_getD, List.getElem?_eq_getElem hj]; rfl
    unfold serAt inR at h3
    simp only [Bool.and_eq_true, bne_iff_ne, ne_eq, Bool.or_eq_true, decide_eq_true_eq] at h3
    rw [hg] at h3 ⊢
    exact ⟨h3.1.1.1, h3.1.1.2, h3.1.2, h3.2⟩
  refine ⟨h2, fun t ht => ?_, pairwise_lessW fun k hk hk0 => ?_, fun t ht => ?_⟩
  · obtain ⟨j, hj, rfl⟩ := List.getElem_of_mem ht
    exact ⟨(hat j hj).1, (hat j hj).2.1, (hat j hj).2.2.1⟩
  · rcases (hat k hk).2.2.2 with h | h
    · omega
    · exact h
  · obtain ⟨j, hj, rfl⟩ := List.getElem_of_mem ht
    exact (hat j hj).1
theorem mono_size {s : ByteArray} (h : monoB s = true) : s.size ≤ 4 := by
  unfold monoB at h
  simp only [Bool.and_eq_true, decide_eq_true_eq] at h
  exact h.2
theorem serL_of {ts : List Tm} (h : serB ts = true) : SerL ts := by
  obtain ⟨h1, h2, _⟩ := serB_parts h
  exact ⟨h1, fun t ht => ⟨mono_size (h2 t ht).2.2, (h2 t ht).2.1⟩⟩
/-- For canonical lists only the terms have to be looked at. -/
def twS (ts : List Tm) : Bool := decide (ts.length ≤ 400) && ts.all fun t => inR (-1000000) 1000000 t.c && monoB t.s
theorem serB_canon {ts : List Tm} (h : Canon ts) : serB ts = twS ts := by
  rw [serB_is, Bool.and_comm]
  unfold twS
  congr 1
  have hg : ∀ j (h : j < ts.length), ts.getD j default = ts[j] := fun j h => by rw [List.getD_eq_getElem?_getD, List.getElem?_eq_getElem h]; rfl
  rw [Bool.eq_iff_iff]
  simp only [List.all_eq_true, List.mem_range]
  constructor
  · intro h1 t ht
    obtain ⟨j, hj, rfl⟩ := List.getElem_of_mem ht
    have h3 := h1 j hj
    unfold serAt at h3
    rw [hg j hj] at h3
    simp only [Bool.and_eq_true] at h3 ⊢
    exact ⟨h3.1.1.2, h3.1.2⟩
  · intro h1 j hj
    have h3 := h1 _ (List.getElem_mem hj)
    simp only [Bool.and_eq_true] at h3
    unfold serAt
    rw [hg j hj, h3.1, h3.2]
    have h4 : (ts[j].c != 0) = true := by simpa using h.2 _ (List.getElem_mem hj)
    rw [h4]
    by_cases hj0 : j = 0
    · simp [hj0]
    · have h5 := List.pairwise_iff_getElem.1 h.1 (j - 1) j (by omega) hj (by omega)
      rw [hg (j - 1) (by omega), h5]
      simp
theorem twS_parts {ts : List Tm} (h : twS ts = true) : ts.length ≤ 400 ∧ ∀ t ∈ ts, (-1000000 ≤ t.c ∧ t.c ≤ 1000000) ∧ monoB t.s = true := by
  unfold twS inR at h
  simp only [Bool.and_eq_true, decide_eq_true_eq, List.all_eq_true] at h
  exact h
theorem told_smallS {b : Bool} {L us : List Tm} (h : b = true → twS L = true) (hus : cond b L [] = us) : SmallT us ∧ us.length ≤ 400 := by
  cases b with
  | false => subst hus; exact ⟨⟨Nat.zero_le _, fun t h => by cases h⟩, Nat.zero_le _⟩
  | true =>
    have hus : L = us := hus
    subst hus
    obtain ⟨h1, h2⟩ := twS_parts (h rfl)
    exact ⟨⟨by unfold maxLen; omega, fun t ht => by have := h2 t ht; have := mono_size this.2; unfold maxLen; omega⟩, h1⟩
/-- What SeriesTimes answers. -/
def serProdB (x y : List Tm) : Bool := serB x && (serB y && twS (canonT (pairsS x y)))
theorem serProdB_tw {x y : List Tm} {b : Bool} (h : serProdB x y = b) : b = true → twS (canonT (pairsS x y)) = true := by
  intro hb
  subst hb
  unfold serProdB at h
  simp only [Bool.and_eq_true] at h
  exact h.2.2

end Go.Proofs.Ytocklmiappppgaa

/- How great the coefficients of the series of a word get, and how many terms it has. -/

namespace Go.Proofs.Ytocklmiappppgaa
open Go.RowKit

/-- The sum of the sizes of the coefficients of degree d; of those up to degree d. -/
def nrm (d : Nat) : List Tm → Nat
  | [] => 0
  | t :: r => (if t.s.size = d then t.c.natAbs else 0) + nrm d r
def cum (d : Nat) : List Tm → Nat
  | [] => 0
  | t :: r => (if t.s.size ≤ d then t.c.natAbs else 0) + cum d r
theorem nrm_append (d : Nat) (a b : List Tm) : nrm d (a ++ b) = nrm d a + nrm d b := by
  induction a with
  | nil => simp [nrm]
  | cons t r ih => rw [List.cons_append, nrm, nrm, ih]; omega
theorem nrm_nz (d : Nat) (t : Tm) : nrm d (nz t) = if t.s.size = d then t.c.natAbs else 0 := by
  unfold nz
  by_cases h : t.c = 0
  · rw [if_pos h, h]; simp [nrm]
  · rw [if_neg h]; simp [nrm]
theorem nrm_add (d : Nat) (t : Tm) : ∀ ts, nrm d (addT ts t) ≤ nrm d ts + if t.s.size = d then t.c.natAbs else 0
  | [] => by rw [addT, nrm_nz, nrm]; omega
  | x :: r => by
    rw [addT]
    by_cases h : lessW x.s t.s = true
    · rw [if_pos h, nrm, nrm]
      have := nrm_add d t r
      omega
    · rw [if_neg h]
      by_cases h2 : x.s = t.s
      · rw [if_pos h2, nrm_append, nrm_nz, nrm, h2]
        by_cases h3 : t.s.size = d
        · simp only [h3, if_true]; omega
        · simp only [h3, if_false]; omega
      · rw [if_neg h2, nrm_append, nrm_nz]; omega
theorem nrm_fold (d : Nat) : ∀ (ts acc : List Tm), nrm d (ts.foldl addT acc) ≤ nrm d acc + nrm d ts
  | [], acc => by simp [nrm]
  | t :: r, acc => by
    have h1 := nrm_fold d r (addT acc t)
    have h2 := nrm_add d t acc
    rw [List.foldl_cons, nrm]
    omega
theorem nrm_canon (d : Nat) (ts : List Tm) : nrm d (canonT ts) ≤ nrm d ts := by
  have h := nrm_fold d ts []
  rw [show nrm d [] = 0 from rfl, Nat.zero_add] at h
  exact h
theorem cum_zero : ∀ ts, cum 0 ts = nrm 0 ts
  | [] => rfl
  | t :: r => by rw [cum, nrm, cum_zero r]; simp only [Nat.le_zero_eq]
theorem cum_succ (d : Nat) : ∀ ts, cum (d + 1) ts = cum d ts + nrm (d + 1) ts
  | [] => rfl
  | t :: r => by
    rw [cum, cum, nrm, cum_succ d r]
    by_cases h : t.s.size ≤ d
    · rw [if_pos (by omega), if_pos h, if_neg (by omega)]; omega
    · by_cases h2 : t.s.size = d + 1
      · rw [if_pos (by omega), if_neg h, if_pos h2]; omega
      · rw [if_neg (by omega), if_neg h, if_neg h2]; omega
theorem cum_le (d : Nat) : ∀ {ts : List Tm} {t : Tm}, t ∈ ts → t.s.size ≤ d → t.c.natAbs ≤ cum d ts
  | u :: r, t, h, hd => by
    rw [cum]
    rcases List.mem_cons.1 h with rfl | h
    · rw [if_pos hd]; omega
    · have := cum_le d h hd; omega
theorem nrm_row (d : Nat) (t : Tm) {y : List Tm} (hy : ∀ e, nrm e y ≤ 1) : nrm d (rowS t y) ≤ if t.s.size ≤ d then t.c.natAbs else 0 := by
  have key : ∀ z : List Tm, nrm d (rowS t z) ≤ if t.s.size ≤ d then t.c.natAbs * nrm (d - t.s.size) z else 0 := by
    intro z
    induction z with
    | nil => simp [rowS, nrm]
    | cons u r ih =>
      have e : rowS t (u :: r) = (if short (pairS t u) = true then [pairS t u] else []) ++ rowS t r := by
        unfold rowS
        rw [List.map_cons, List.filter_cons]
        split <;> simp
      have h1 : nrm d (if short (pairS t u) = true then [pairS t u] else []) ≤ if t.s.size + u.s.size = d then t.c.natAbs * u.c.natAbs else 0 := by
        have hs : (pairS t u).s.size = t.s.size + u.s.size := by unfold pairS; exact ByteArray.size_append
        split
        · rw [nrm, nrm, hs]
          split
          · unfold pairS; rw [Int.natAbs_mul]; omega
          · omega
        · simp [nrm]
      rw [e, nrm_append, nrm]
      by_cases h : t.s.size ≤ d
      · rw [if_pos h] at ih ⊢
        rw [Nat.mul_add]
        have h2 : (if t.s.size + u.s.size = d then t.c.natAbs * u.c.natAbs else 0) ≤ t.c.natAbs * (if u.s.size = d - t.s.size then u.c.natAbs else 0) := by
          by_cases h3 : t.s.size + u.s.size = d
          · rw [if_pos h3, if_pos (by omega)]; exact Nat.le_refl _
          · rw [if_neg h3]; exact Nat.zero_le _
        omega
      · rw [if_neg h] at ih ⊢
        have h3 : ¬ t.s.size + u.s.size = d := by omega
        rw [if_neg h3] at h1
        omega
  have h := key y
  by_cases hd : t.s.size ≤ d
  · rw [if_pos hd] at h ⊢
    have := Nat.mul_le_mul_left t.c.natAbs (hy (d - t.s.size))
    omega
  · rw [if_neg hd] at h ⊢; exact h
theorem nrm_pairs (d : Nat) {y : List Tm} (hy : ∀ e, nrm e y ≤ 1) : ∀ x, nrm d (pairsS x y) ≤ cum d x
  | [] => by simp [pairsS, nrm]
  | t :: r => by
    have h1 := nrm_pairs d hy r
    have h2 := nrm_row d t hy
    have e : pairsS (t :: r) y = rowS t y ++ pairsS r y := by unfold pairsS rowS; rw [List.flatMap_cons]
    rw [e, nrm_append, cum]
    omega

/-- How many ways there are to choose: of degree 0 to 4. -/
def stepW (p : Nat × Nat × Nat × Nat × Nat) : Nat × Nat × Nat × Nat × Nat := (p.1, p.1 + p.2.1, p.1 + p.2.1 + p.2.2.1, p.1 + p.2.1 + p.2.2.1 + p.2.2.2.1, p.1 + p.2.1 + p.2.2.1 + p.2.2.2.1 + p.2.2.2.2)
def waysT : Nat → Nat × Nat × Nat × Nat × Nat
  | 0 => (1, 1, 1, 1, 1)
  | k + 1 => stepW (waysT k)
theorem ways_le {k n : Nat} (h : k ≤ n) : (waysT k).2.2.2.2 ≤ (waysT n).2.2.2.2 := by
  induction h with
  | refl => exact Nat.le_refl _
  | step _ ih => exact Nat.le_trans ih (by rw [waysT, stepW]; simp only []; omega)
theorem ways_max : (waysT 60).2.2.2.2 = 635376 := by decide +kernel
def WaysIn (k : Nat) (x : List Tm) : Prop := cum 0 x ≤ (waysT k).1 ∧ cum 1 x ≤ (waysT k).2.1 ∧ cum 2 x ≤ (waysT k).2.2.1 ∧ cum 3 x ≤ (waysT k).2.2.2.1 ∧ cum 4 x ≤ (waysT k).2.2.2.2
theorem ways_step {k : Nat} {x y : List Tm} (hy : ∀ e, nrm e y ≤ 1) (h : WaysIn k x) : WaysIn (k + 1) (canonT (pairsS x y)) := by
  obtain ⟨h0, h1, h2, h3, h4⟩ := h
  have hn : ∀ d, nrm d (canonT (pairsS x y)) ≤ cum d x := fun d => Nat.le_trans (nrm_canon d _) (nrm_pairs d hy x)
  have n0 := hn 0
  have n1 := hn 1
  have n2 := hn 2
  have n3 := hn 3
  have n4 := hn 4
  have e0 := cum_zero (canonT (pairsS x y))
  have e1 := cum_succ 0 (canonT (pairsS x y))
  have e2 := cum_succ 1 (canonT (pairsS x y))
  have e3 := cum_succ 2 (canonT (pairsS x y))
  have e4 := cum_succ 3 (canonT (pairsS x y))
  simp only [Nat.zero_add, Nat.reduceAdd] at e1 e2 e3 e4
  unfold WaysIn
  rw [waysT, stepW]
  simp only []
  omega
theorem ways_coef {k : Nat} {x : List Tm} (h : WaysIn k x) (hk : k ≤ 60) {t : Tm} (ht : t ∈ x) (hs : t.s.size ≤ 4) : -1000000 ≤ t.c ∧ t.c ≤ 1000000 := by
  have h1 := cum_le 4 ht hs
  have h2 := h.2.2.2.2
  have h3 := ways_le hk
  rw [ways_max] at h3
  omega

/-! ### How many terms -/
theorem nodup_len {α : Type} [BEq α] [LawfulBEq α] : ∀ (l m : List α), l.Nodup → (∀ x ∈ l, x ∈ m) → l.length ≤ m.length
  | [], _, _, _ => Nat.zero_le _
  | x :: r, m, h, hs => by
    obtain ⟨h1, h2⟩ := List.nodup_cons.1 h
    have hx := hs x (by simp)
    have := nodup_len r (m.erase x) h2 fun y hy => (List.mem_erase_of_ne (fun e => h1 (by rw [← e]; exact hy))).2 (hs y (by simp [hy]))
    rw [List.length_erase_of_mem hx] at this
    have : 0 < m.length := List.length_pos_of_mem hx
    rw [List.length_cons]; omega
def monosN : Nat → List (List UInt8)
  | 0 => [[]]
  | n + 1 => (monosN n).flatMap fun l => [97 :: l, 98 :: l, 99 :: l, 100 :: l]
theorem mem_monos : ∀ (l : List UInt8), l.all genB = true → l ∈ monosN l.length
  | [], _ => by simp [monosN]
  | c :: r, h => by
    rw [List.all_cons, Bool.and_eq_true] at h
    obtain ⟨hc, hr⟩ := h
    have ih := mem_monos r hr
    have h4 : c = 97 ∨ c = 98 ∨ c = 99 ∨ c = 100 := by
      unfold genB at hc
      simp only [Bool.and_eq_true, decide_eq_true_eq] at hc
      have : c.toNat = 97 ∨ c.toNat = 98 ∨ c.toNat = 99 ∨ c.toNat = 100 := by omega
      rcases this with h | h | h | h
      · exact .inl (UInt8.toNat_inj.1 h)
      · exact .inr (.inl (UInt8.toNat_inj.1 h))
      · exact .inr (.inr (.inl (UInt8.toNat_inj.1 h)))
      · exact .inr (.inr (.inr (UInt8.toNat_inj.1 h)))
    rw [List.length_cons, monosN]
    refine List.mem_flatMap.2 ⟨r, ih, ?_⟩
    rcases h4 with rfl | rfl | rfl | rfl <;> simp
def monosAll : List (List UInt8) := (List.range 5).flatMap monosN
theorem monosAll_len : monosAll.length = 341 := by decide +kernel
theorem mono_mem {s : ByteArray} (h : monoB s = true) : s.data.toList ∈ monosAll := by
  unfold monoB at h
  simp only [Bool.and_eq_true, decide_eq_true_eq] at h
  have hl : s.data.toList.length ≤ 4 := by simpa using h.2
  exact List.mem_flatMap.2 ⟨_, List.mem_range.2 (by omega), mem_monos _ h.1⟩
theorem canon_len341 {ts : List Tm} (hc : Canon ts) (h : ∀ t ∈ ts, monoB t.s = true) : ts.length ≤ 341 := by
  have := nodup_len (ts.map fun t => t.s.data.toList) monosAll (by
    rw [List.nodup_iff_pairwise_ne, List.pairwise_map]
    exact hc.1.imp fun hl e => lessW_ne hl (bytes_ext e)) (fun l hl => by
    obtain ⟨t, ht, rfl⟩ := List.mem_map.1 hl
    exact mono_mem (h t ht))
  rwa [List.length_map, monosAll_len] at this
theorem mono_append {a b : ByteArray} (ha : monoB a = true) (hb : monoB b = true) (h : (a ++ b).size ≤ 4) : monoB (a ++ b) = true := by
  unfold monoB at *
  simp only [Bool.and_eq_true, decide_eq_true_eq] at *
  refine ⟨?_, h⟩
  rw [append_toList, List.all_append, ha.1, hb.1]; rfl
theorem pairsS_mono {x y : List Tm} (hx : ∀ t ∈ x, monoB t.s = true) (hy : ∀ t ∈ y, monoB t.s = true) : ∀ t ∈ pairsS x y, monoB t.s = true := fun t ht => by
  obtain ⟨u, hu, ht⟩ := List.mem_flatMap.1 ht
  obtain ⟨h1, h2⟩ := List.mem_filter.1 ht
  obtain ⟨v, hv, rfl⟩ := List.mem_map.1 h1
  exact mono_append (hx u hu) (hy v hv) (of_decide_eq_true h2)

end Go.Proofs.Ytocklmiappppgaa

/- The contracts of the model's powers of words. -/

namespace Go.Proofs.Ytocklmiappppgaa
open Go.RowKit

theorem l6In_same (k lo hi : Int) (b : Bool) (w : World) (h : (decide (lo ≤ k) && decide (k ≤ hi)) = b) :
    Calls Try.prog 69 #[.int .i64 k, .int .i64 lo, .int .i64 hi] w fun e w' => e = .returned (.bool b) ∧ w = w' := by
  by_cases h1 : lo ≤ k
  · by_cases h2 : k ≤ hi
    · have H : Hid (b = true) := Lib.hid (by rw [← h, decide_eq_true h1, decide_eq_true h2]; rfl)
      clear h
      go_enter Try.func69, Try.ntmps69
      go_wp2
      go_ret
      exact ⟨ret_bool H.out.symm, rfl⟩
    · have H : Hid (b = false) := Lib.hid (by rw [← h, decide_eq_false h2, Bool.and_false])
      clear h
      have h3 : hi < k := by omega
      go_enter Try.func69, Try.ntmps69
      go_wp2
      go_ret
      exact ⟨ret_bool H.out.symm, rfl⟩
  · have H : Hid (b = false) := Lib.hid (by rw [← h, decide_eq_false h1]; rfl)
    clear h
    have h3 : k < lo := by omega
    go_enter Try.func69, Try.ntmps69
    go_wp2
    go_ret
    exact ⟨ret_bool H.out.symm, rfl⟩

end Go.Proofs.Ytocklmiappppgaa

/- The contracts of slices.Grow and slices.Concat at terms. -/

namespace Go.Proofs.Ytocklmiappppgaa
open Go.RowKit Go.Shelf

theorem ownsRow_low {W : World} {base : Nat} {e : TypeId} {size : Nat} {v : Value} {n : Nat} {xs : List Value} (h : W.ownsRow base e size v n xs) : ∀ j, v.ownBlock = some j → base ≤ j := fun j ej => (h.lt j ej).1

/-- A slice of terms that may be nil. -/
def PartT (w : World) (v : Value) (ts : List Tm) : Prop := (v = .slice none 0 0 ∧ ts = []) ∨ ∃ x cap, v = .slice (some x) ts.length cap ∧ ∀ j u, (termsV ts)[j]? = some u → w.cell? (x.add j) = some u ∧ x.block < w.heap.size
theorem PartT.below {w w' : World} {v : Value} {ts : List Tm} (h : PartT w v ts) (hb : Below w.heap.size w w') : PartT w' v ts := by
  rcases h with h | ⟨x, cap, e, h⟩
  · exact .inl h
  · exact .inr ⟨x, cap, e, fun j u hu => by
      obtain ⟨h1, h2⟩ := h j u hu
      exact ⟨(hb.cell (p := x.add j) (by rw [addr_add_block]; exact h2)).trans h1, Nat.lt_of_lt_of_le h2 hb.size⟩⟩
theorem partT_of {w : World} {ad : Addr} {n cap : Nat} {ts : List Tm} (h : IsTerms w (some ad) n ts) : PartT w (.slice (some ad) n cap) ts := by
  refine .inr ⟨ad, cap, by rw [h.len], fun j u hu => ?_⟩
  rcases Nat.eq_zero_or_pos n with h0 | h0
  · have : ts = [] := List.length_eq_zero_iff.1 (h.len.trans h0)
    subst this
    simp [termsV] at hu
  · obtain ⟨z, e, h2⟩ := h.at_ h0
    cases e
    exact ⟨h2.cells j u hu, h2.1⟩
theorem partT_own {base : Nat} {w : World} {v : Value} {ts : List Tm} (h : OwnT base w v ts) : PartT w v ts := by
  rcases h.2 with ⟨rfl, h0⟩ | ⟨g, cap, cur, rfl, _, hg, _⟩
  · exact .inl ⟨rfl, List.length_eq_zero_iff.1 h0⟩
  · exact .inr ⟨_, cap, rfl, fun j u hu => ⟨(termsAt_of_owns rfl h).cells j u hu, (ownsRow_cap h).2.2.2⟩⟩
theorem PartT.len {w : World} {v : Value} {ts : List Tm} (h : PartT w v ts) : ∃ a cap, v = .slice a ts.length cap := by
  rcases h with ⟨rfl, rfl⟩ | ⟨x, cap, e, _⟩
  · exact ⟨_, _, rfl⟩
  · exact ⟨_, _, e⟩

def lens (ps : List (Value × List Tm)) : Nat := (ps.map fun p => p.2.length).sum
def flatT (ps : List (Value × List Tm)) : List Tm := (ps.map Prod.snd).flatten
theorem lens_succ (ps : List (Value × List Tm)) (k : Nat) (h : k < ps.length) : lens (ps.take (k + 1)) = lens (ps.take k) + ps[k].2.length := by
  unfold lens
  rw [List.take_succ_eq_append_getElem h, List.map_append, List.sum_append]; simp
theorem flatT_succ (ps : List (Value × List Tm)) (k : Nat) (h : k < ps.length) : flatT (ps.take (k + 1)) = flatT (ps.take k) ++ ps[k].2 := by
  unfold flatT
  rw [List.take_succ_eq_append_getElem h, List.map_append, List.flatten_append]; simp
theorem flatT_len (ps : List (Value × List Tm)) : (flatT ps).length = lens ps := by
  unfold flatT lens
  rw [List.length_flatten, List.map_map]; rfl
theorem lens_take (ps : List (Value × List Tm)) (k : Nat) : lens (ps.take k) ≤ lens ps := by
  have h : lens ps = lens (ps.take k) + lens (ps.drop k) := by
    conv => lhs; rw [← List.take_append_drop k ps]
    unfold lens
    rw [List.map_append, List.sum_append]
  omega

end Go.Proofs.Ytocklmiappppgaa

/- The contracts of the model's 'l4Letter' and 'SeriesOf'. -/

namespace Go.Proofs.Ytocklmiappppgaa
open Go.RowKit Go.Shelf

def letX (c : UInt8) : List UInt8 := [UInt8.ofNat (97 + idxB c)]
/-- The sign of a power of an inverse letter. -/
def altZ (i : Nat) : Int := if i % 2 = 0 then 1 else -1
def powT (c : UInt8) (i : Nat) : Tm := ⟨altZ i, bstr (repL i (letX c))⟩
/-- The series of a letter. -/
def letS (c : UInt8) : List Tm := if 97 ≤ c.toNat then [⟨1, { data := #[] }⟩, ⟨1, bstr (letX c)⟩] else (List.range 5).map (powT c)
theorem let_cases {P : UInt8 → Prop} (h : ∀ n : Fin 8, P (UInt8.ofNat (if n.val < 4 then 97 + n.val else 61 + n.val))) {c : UInt8} (hc : letB c = true) : P c := by
  have h2 := (letB_iff c).1 hc
  have : ∃ n : Fin 8, c = UInt8.ofNat (if n.val < 4 then 97 + n.val else 61 + n.val) := by
    rcases h2 with h2 | h2
    · exact ⟨⟨c.toNat - 97, by omega⟩, UInt8.toNat_inj.1 (by rw [if_pos (by show c.toNat - 97 < 4; omega)]; rw [UInt8.toNat_ofNat', Nat.mod_eq_of_lt (by show 97 + (c.toNat - 97) < _; omega)]; show c.toNat = 97 + (c.toNat - 97); omega)⟩
    · exact ⟨⟨c.toNat - 61, by omega⟩, UInt8.toNat_inj.1 (by rw [if_neg (by show ¬ c.toNat - 61 < 4; omega)]; rw [UInt8.toNat_ofNat', Nat.mod_eq_of_lt (by show 61 + (c.toNat - 61) < _; omega)]; show c.toNat = 61 + (c.toNat - 61); omega)⟩
  obtain ⟨n, rfl⟩ := this
  exact h n
theorem letS_facts : ∀ n : Fin 8, (letS (UInt8.ofNat (if n.val < 4 then 97 + n.val else 61 + n.val))).all (fun t => monoB t.s && (inR (-1) 1 t.c)) = true ∧ (letS (UInt8.ofNat (if n.val < 4 then 97 + n.val else 61 + n.val))).length ≤ 5 ∧
    (List.range 5).all (fun e => decide (nrm e (letS (UInt8.ofNat (if n.val < 4 then 97 + n.val else 61 + n.val))) ≤ 1)) = true := by decide +kernel
theorem nrm_far {d : Nat} : ∀ {ts : List Tm}, (∀ t ∈ ts, t.s.size ≠ d) → nrm d ts = 0
  | [], _ => rfl
  | t :: r, h => by rw [nrm, if_neg (h t (by simp)), nrm_far fun u hu => h u (by simp [hu])]
theorem letS_ok {c : UInt8} (hc : letB c = true) : (∀ t ∈ letS c, monoB t.s = true ∧ -1 ≤ t.c ∧ t.c ≤ 1) ∧ (letS c).length ≤ 5 ∧ ∀ e, nrm e (letS c) ≤ 1 := by
  obtain ⟨h1, h2, h3⟩ := let_cases (P := fun c => (letS c).all (fun t => monoB t.s && (inR (-1) 1 t.c)) = true ∧ (letS c).length ≤ 5 ∧ (List.range 5).all (fun e => decide (nrm e (letS c) ≤ 1)) = true) letS_facts hc
  have h4 : ∀ t ∈ letS c, monoB t.s = true ∧ -1 ≤ t.c ∧ t.c ≤ 1 := fun t ht => by
    have := List.all_eq_true.1 h1 t ht
    unfold inR at this
    simp only [Bool.and_eq_true, decide_eq_true_eq] at this
    exact this
  refine ⟨h4, h2, fun e => ?_⟩
  by_cases he : e < 5
  · exact of_decide_eq_true (List.all_eq_true.1 h3 e (List.mem_range.2 he))
  · rw [nrm_far fun t ht => by have := mono_size (h4 t ht).1; omega]; omega
theorem letS_ser {c : UInt8} (hc : letB c = true) : SerL (letS c) := by
  obtain ⟨h1, h2, _⟩ := letS_ok hc
  exact ⟨by omega, fun t ht => by have := h1 t ht; have := mono_size this.1; omega⟩

/-- The series of a word. -/
def oneT : List Tm := [⟨1, { data := #[] }⟩]
def serW (l : List UInt8) : List Tm := l.foldl (fun out c => canonT (pairsS out (letS c))) oneT
theorem serW_snoc (l : List UInt8) (c : UInt8) : serW (l ++ [c]) = canonT (pairsS (serW l) (letS c)) := by unfold serW; rw [List.foldl_append]; rfl
structure SerOK (k : Nat) (x : List Tm) : Prop where
  ways : WaysIn k x
  canon : Canon x
  mono : ∀ t ∈ x, monoB t.s = true
theorem serOK_one : SerOK 0 oneT :=
  ⟨by unfold WaysIn; decide, ⟨by simp [oneT], fun t ht => by rw [List.mem_singleton.1 ht]; exact Int.one_ne_zero⟩, fun t ht => by rw [List.mem_singleton.1 ht]; decide⟩
theorem SerOK.step {k : Nat} {x : List Tm} {c : UInt8} (h : SerOK k x) (hc : letB c = true) : SerOK (k + 1) (canonT (pairsS x (letS c))) :=
  ⟨ways_step (letS_ok hc).2.2 h.ways, canon_of _, fun t ht => by
    obtain ⟨v, hv, e⟩ := canon_words ht
    rw [← e]
    exact pairsS_mono h.mono (fun u hu => ((letS_ok hc).1 u hu).1) v hv⟩
theorem SerOK.ser {k : Nat} {x : List Tm} (h : SerOK k x) (hk : k ≤ 60) : SerL x :=
  ⟨by have := canon_len341 h.canon h.mono; omega, fun t ht => by
    have h1 := mono_size (h.mono t ht)
    exact ⟨h1, ways_coef h.ways hk ht h1⟩⟩
theorem SerOK.told {k : Nat} {x : List Tm} (h : SerOK k x) (hk : k ≤ 60) : twS x = true := by
  obtain ⟨h1, h2⟩ := h.ser hk
  unfold twS inR
  rw [decide_eq_true h1, Bool.true_and]
  refine List.all_eq_true.2 fun t ht => ?_
  have := h2 t ht
  rw [h.mono t ht, decide_eq_true this.2.1, decide_eq_true this.2.2]; rfl
theorem serW_ok : ∀ (l : List UInt8), letL l = true → SerOK l.length (serW l) := by
  intro l
  generalize hn : l.length = n
  induction n generalizing l with
  | zero => intro _; rw [List.length_eq_zero_iff.1 hn]; exact serOK_one
  | succ n ih =>
    intro hl
    obtain ⟨p, c, rfl⟩ := last_split l (by omega)
    rw [letL_append, Bool.and_eq_true] at hl
    rw [serW_snoc]
    have hp : p.length = n := by rw [List.length_append] at hn; simp at hn; exact hn
    exact (ih p hp hl.1).step (by have := hl.2; simp [letL] at this; exact this)

theorem isTerms_ser {w : World} {ad : Option Addr} {n : Nat} {x : List Tm} (h : IsTerms w ad n x) : x.length = n := h.len

theorem acc_ser {base : Nat} {w : World} {v : Value} {x : List Tm} {N : Nat} {B : Int} (h : Acc base w v x N B) (hs : SerL x) : ∃ g cap, v = .slice (some ⟨g, 0, none⟩) x.length cap ∧ IsTerms w (some ⟨g, 0, none⟩) x.length x := by
  obtain ⟨g, cap, rfl, h1, h2, h3, h4⟩ := h.own.form
  exact ⟨g, cap, rfl, rfl, by have := hs.1; unfold maxLen; omega, fun _ => ⟨_, rfl, h1⟩, fun t ht => by have := hs.2 t ht; unfold maxLen; omega⟩
theorem own_ser {base : Nat} {w : World} {v : Value} {x : List Tm} (h : OwnTerms base w v x) (hs : SerL x) : ∃ g cap, v = .slice (some ⟨g, 0, none⟩) x.length cap ∧ IsTerms w (some ⟨g, 0, none⟩) x.length x := by
  obtain ⟨g, cap, rfl, h1, h2, h3, h4⟩ := h.form
  exact ⟨g, cap, rfl, rfl, by have := hs.1; unfold maxLen; omega, fun _ => ⟨_, rfl, h1⟩, fun t ht => by have := hs.2 t ht; unfold maxLen; omega⟩
theorem serL_small {x : List Tm} (h : SerL x) : SmallT x := ⟨by have := h.1; unfold maxLen; omega, fun t ht => by have := h.2 t ht; unfold maxLen; omega⟩

theorem serW_tw {s : ByteArray} {b : Bool} (h : wordB s.data.toList = b) : b = true → twS (serW s.data.toList) = true := by
  intro hb
  subst hb
  obtain ⟨h1, h2, _⟩ := (wordB_iff _).1 h
  exact (serW_ok _ h2).told h1
end Go.Proofs.Ytocklmiappppgaa

/- The contracts of the model's 'l91Word', 'l91Two' and 'DrawWordComm'. -/

namespace Go.Proofs.Ytocklmiappppgaa
open Go.RowKit Go.Shelf

theorem conv_byte (c : UInt8) (v : Int) (hv : (c.toNat : Int) = v) (V : World) : (convert 22 9 (.slice (some ⟨V.heap.size, 0, none⟩) 1 1)).run Try.prog (V.alloc (.cells #[.int .u8 v] 5)) = .ok (.string (bstr [c])) (V.alloc (.cells #[.int .u8 v] 5)) := by
  have := run_convert_bytes_back (P := Try.prog) (V.alloc (.cells #[.int .u8 v] 5)) 22 9 5 ⟨V.heap.size, 0, none⟩ 1 [c] Try.underlying22 Try.underlying5 Try.underlying9 (fun j hj => by
    have hj0 : j = 0 := by simp at hj; exact hj
    subst hj0
    show (V.alloc _).cell? ((⟨V.heap.size, 0, none⟩ : Addr).add 0) = some (.int .u8 (c.toNat : Int))
    rw [hv]
    exact cell_one_new _ _ _ 0 _ rfl)
  exact this

theorem grownAny_of_below {w w' : World} (hb : Below w.heap.size w w') (row : Option Nat) : w.grownBy w' row := ⟨hb.os, hb.tape, hb.output, hb.size, fun j hj _ => hb.block j hj⟩

end Go.Proofs.Ytocklmiappppgaa

/- The contracts of the laws' own helpers that mark memory and look the marks up. -/

namespace Go.Proofs.Ytocklmiappppgaa
open Go.RowKit Go.Shelf

/-- A term is stored: its two cells. -/
theorem set_terms (us : List Tm) (i : Nat) (t : Tm) (hi : i < us.length) : ((termsV us).set (i * 2) (.int .i64 t.c)).set (i * 2 + 1) (.string t.s) = termsV (us.set i t) := by
  have e : us = us.take i ++ us[i] :: us.drop (i + 1) := by rw [List.getElem_cons_drop]; exact (List.take_append_drop i us).symm
  have hl : (termsV (us.take i)).length = i * 2 := by rw [termsV_len, List.length_take, Nat.min_eq_left (by omega)]
  have hset : us.set i t = us.take i ++ t :: us.drop (i + 1) := by rw [List.set_eq_take_append_cons_drop, if_pos hi]
  rw [hset]
  have e2 : termsV us = termsV (us.take i) ++ .int .i64 us[i].c :: .string us[i].s :: termsV (us.drop (i + 1)) := by
    rw [← termsV_cons, ← termsV_append, ← e]
  rw [e2, termsV_append, termsV_cons, List.set_append_right _ _ (by omega), List.set_append_right _ _ (by omega), hl, Nat.sub_self, show i * 2 + 1 - i * 2 = 1 by omega]
  rfl

/-- The text of a mark. -/
def mkB (m : Nat) (t : ByteArray) : ByteArray :=
  if _h : m = 0 then t else mkB (m / 10) (⟨#[UInt8.ofNat (48 + m % 10)]⟩ ++ t)
termination_by m
decreasing_by omega
theorem mkB_zero (t : ByteArray) : mkB 0 t = t := by rw [mkB]; simp
theorem mkB_step {m : Nat} (h : m ≠ 0) (t : ByteArray) : mkB (m / 10) (⟨#[UInt8.ofNat (48 + m % 10)]⟩ ++ t) = mkB m t := by conv => rhs; rw [mkB, dif_neg h]
def mkS (k : Nat) : ByteArray := ⟨#[109]⟩ ++ mkB k ⟨#[]⟩

set_option maxRecDepth 100000 in
set_option maxHeartbeats 1000000 in
theorem markText_any (k : Nat) (w : World) (hk0 : 0 < k) (hk : k ≤ 100000000) :
    Calls Try.prog 100 #[.int .i64 k] w fun e w' => e = .returned (.string (mkS k)) ∧ Below w.heap.size w w' := by
  have hk1 : ¬ k = 0 := by omega
  have hk2 : decide (k = 0) = false := decide_eq_false hk1
  go_enter Try.func100, Try.ntmps100
  go_wp2
  go_loopw [0, 3] (fun p s wr => ∃ (m : Nat) (t : ByteArray), p = .int .i64 m ∧ s = .string t ∧ Hid (mkB m t = mkB k ⟨#[]⟩) ∧ t.size + m ≤ k ∧ Hid (Below w.heap.size w wr)) (fun p _ _ => (intOf p).toNat)
  case atStart => exact ⟨k, ⟨#[]⟩, rfl, rfl, Lib.hid rfl, Nat.le_of_eq (Nat.zero_add k), Lib.hid (Below.refl _ _)⟩
  case round =>
    obtain ⟨m, t, rfl, rfl, HM, hsz, HB⟩ := hrel
    by_cases hm : m = 0
    · subst hm
      go_wp2
      go_ret
      refine ⟨?_, HB.out⟩
      rw [mkS, ← HM.out, mkB_zero]
      rfl
    · have hm0 : 0 < m := by omega
      have hlt : m % 10 < 10 := Nat.mod_lt _ (by omega)
      have hval : ((UInt8.ofNat (48 + m % 10)).toNat : Int) = 48 + (m : Int) % 10 := by
        rw [UInt8.toNat_ofNat']
        rw [Nat.mod_eq_of_lt (by omega)]
        omega
      have hconv : (convert 22 9 (.slice (some ⟨wr.heap.size, 0, none⟩) 1 1)).run Try.prog (wr.alloc (.cells #[.int .u8 (48 + (m : Int) % 10)] 5)) = .ok (.string ⟨#[UInt8.ofNat (48 + m % 10)]⟩) (wr.alloc (.cells #[.int .u8 (48 + (m : Int) % 10)] 5)) := by
        have := run_convert_bytes_back (P := Try.prog) (wr.alloc (.cells #[.int .u8 (48 + (m : Int) % 10)] 5)) 22 9 5 ⟨wr.heap.size, 0, none⟩ 1 [UInt8.ofNat (48 + m % 10)] Try.underlying22 Try.underlying5 Try.underlying9 (fun j hj => by
          have hj0 : j = 0 := by simp at hj; exact hj
          subst hj0
          show (wr.alloc _).cell? ((⟨wr.heap.size, 0, none⟩ : Addr).add 0) = some (.int .u8 ((UInt8.ofNat (48 + m % 10)).toNat : Int))
          rw [hval]
          exact cell_one_new _ _ _ 0 _ rfl)
        exact this
      have hrange : 0 ≤ 48 + (m : Int) % 10 ∧ 48 + (m : Int) % 10 ≤ 255 := by omega
      have hsz2 : ((⟨#[UInt8.ofNat (48 + m % 10)]⟩ : ByteArray) ++ t).size = 1 + t.size := by simp [ByteArray.size_append]; rfl
      obtain ⟨c, hc⟩ : ∃ c : ByteArray, (⟨#[UInt8.ofNat (48 + m % 10)]⟩ : ByteArray) = c := ⟨_, rfl⟩
      rw [hc] at hconv hsz2
      have HCC := Lib.hid hc
      have HVAL := Lib.hid hval
      have HSZ2 := Lib.hid hsz2
      have hcs : c.size = 1 := by rw [← hc]; rfl
      have hnot : ¬ 9223372036854775807 < c.size + t.size := by omega
      clear hc hval hsz2 hcs
      go_wp2
      go_roundw
      case rel =>
        refine ⟨m / 10, c ++ t, by go_num, rfl, Lib.hid ?_, by rw [HSZ2.out]; omega, Lib.hid (HB.out.alloc HB.out.size _)⟩
        rw [← HM.out, ← HCC.out]
        exact mkB_step hm t
      case measure => simp [intOf]; omega

end Go.Proofs.Ytocklmiappppgaa

/- The contracts of the laws' 'markTermS' and 'heldTermS'. -/

namespace Go.Proofs.Ytocklmiappppgaa
open Go.RowKit Go.Shelf

def markT (k i : Nat) : Tm := ⟨((k + 2 * i : Nat) : Int), mkS (k + 2 * i + 1)⟩
/-- The marks from k on. -/
def marksT (k n : Nat) : List Tm := (List.range n).map (markT k)
theorem marksT_len (k n : Nat) : (marksT k n).length = n := by simp [marksT]
theorem marksT_get (k n i : Nat) (h : i < (marksT k n).length) : (marksT k n)[i] = markT k i := by simp [marksT]
theorem marksT_set (k j n : Nat) (us : List Tm) (hl : us.length = n) (hj : j < n) : (marksT k j ++ us.drop j).set j (markT k j) = marksT k (j + 1) ++ us.drop (j + 1) := by
  rw [List.set_append_right _ _ (by rw [marksT_len]; exact Nat.le_refl _), marksT_len, Nat.sub_self, List.drop_eq_getElem_cons (by omega : j < us.length), List.set_cons_zero]
  unfold marksT
  rw [List.range_succ, List.map_append, List.append_assoc]
  rfl

theorem ownsRow_past {w w' : World} {base : Nat} {e : TypeId} {size : Nat} {v : Value} {n : Nat} {xs : List Value} (h : w.ownsRow base e size v n xs) (hb : Below w.heap.size w w') : w'.ownsRow base e size v n xs :=
  h.kept ⟨hb.os, hb.tape, hb.output, hb.size, fun j hj _ => hb.block j hj⟩ (row := none) (by
    rcases h.2 with ⟨rfl, _⟩ | ⟨g, cap, cur, rfl, _⟩
    · exact .inl rfl
    · exact .inr (by simp [Value.ownBlock]))
theorem marksT_row (k j n : Nat) (us : List Tm) (hl : us.length = n) (hj : j < n) :
    ((termsV (marksT k j ++ us.drop j)).set (j * 2) (.int .i64 ((k + 2 * j : Nat) : Int))).set (j * 2 + 1) (.string (mkS (k + 2 * j + 1))) = termsV (marksT k (j + 1) ++ us.drop (j + 1)) := by
  rw [← marksT_set k j n us hl hj]
  exact set_terms _ j (markT k j) (by rw [List.length_append, marksT_len, List.length_drop]; omega)

theorem grown_trans {a b c : World} {row : Option Nat} (h : a.grownBy b row) (k : b.grownBy c row) : a.grownBy c row :=
  ⟨k.os.trans h.os, k.tape.trans h.tape, k.output.trans h.output, Nat.le_trans h.size k.size, fun i hi hne => (k.block i (Nat.lt_of_lt_of_le hi h.size) hne).trans (h.block i hi hne)⟩
theorem grown_refl (a : World) (row : Option Nat) : a.grownBy a row := ⟨rfl, rfl, rfl, Nat.le_refl _, fun _ _ _ => rfl⟩
theorem grown_below {a b : World} (row : Option Nat) (h : Below a.heap.size a b) : a.grownBy b row := ⟨h.os, h.tape, h.output, h.size, fun i hi _ => h.block i hi⟩
theorem mkB_size : ∀ (m : Nat) (t : ByteArray), (mkB m t).size ≤ t.size + m := by
  intro m
  induction m using Nat.strongRecOn with
  | _ m ih =>
    intro t
    by_cases h : m = 0
    · subst h; rw [mkB_zero]; exact Nat.le_refl _
    · rw [← mkB_step h]
      have h1 := ih (m / 10) (by omega) (⟨#[UInt8.ofNat (48 + m % 10)]⟩ ++ t)
      have h2 : ((⟨#[UInt8.ofNat (48 + m % 10)]⟩ : ByteArray) ++ t).size = 1 + t.size := by simp [ByteArray.size_append]; rfl
      omega
theorem mkS_size (k : Nat) : (mkS k).size ≤ k + 1 := by
  have h := mkB_size k ⟨#[]⟩
  have h0 : (⟨#[]⟩ : ByteArray).size = 0 := rfl
  have h1 : (mkS k).size = 1 + (mkB k ⟨#[]⟩).size := by unfold mkS; simp [ByteArray.size_append]; rfl
  omega
theorem marksT_small (k n : Nat) (hk : k ≤ 1000000) (hn : n ≤ 1048576) : SmallT (marksT k n) :=
  ⟨by rw [marksT_len]; unfold maxLen; omega, fun t ht => by
    unfold marksT at ht
    obtain ⟨i, hi, rfl⟩ := List.mem_map.1 ht
    have hi := List.mem_range.1 hi
    have := mkS_size (k + 2 * i + 1)
    unfold markT maxLen
    dsimp only
    omega⟩

set_option maxRecDepth 100000 in
set_option maxHeartbeats 2000000 in
theorem markTermS_any (base k : Nat) (v : Value) (us : List Tm) (w : World) (h : OwnT base w v us) (hn : us.length ≤ 1048576) (hk0 : 0 < k) (hk : k ≤ 10000000) :
    Calls Try.prog 64 #[v, .int .i64 k] w fun e w' => e = .returned (.int .i64 ((k + 2 * us.length : Nat) : Int)) ∧ OwnT base w' v (marksT k us.length) ∧ w.grownBy w' v.ownBlock := by
  obtain ⟨a, cap, rfl⟩ : ∃ a cap, v = .slice a us.length cap := by
    rcases h.2 with ⟨rfl, h0⟩ | ⟨g, cap, cur, rfl, _⟩
    · exact ⟨none, 0, by rw [h0]⟩
    · exact ⟨_, _, rfl⟩
  obtain ⟨n, hl⟩ : ∃ n, us.length = n := ⟨_, rfl⟩
  unfold OwnT at h ⊢
  rw [hl] at h hn ⊢
  rw [marksT_len]
  have HH := Lib.hid h
  have HL := Lib.hid hl
  clear h hl
  go_enter Try.func64, Try.ntmps64
  go_wp2
  go_loopw [1, 5] (fun q i wr => ∃ j : Nat, j ≤ n ∧ q = .int .i64 ((k + 2 * j : Nat) : Int) ∧ i = .int .i64 j ∧ Hid (wr.ownsRow base TI 2 (.slice a n cap) n (termsV (marksT k j ++ us.drop j))) ∧ Hid (w.grownBy wr (Value.slice a n cap).ownBlock)) (fun _ i _ => n - (intOf i).toNat)
  case atStart => exact ⟨0, Nat.zero_le _, rfl, rfl, Lib.hid (by simpa [marksT] using HH.out), Lib.hid (grown_refl _ _)⟩
  case round =>
    obtain ⟨j, hj, rfl, rfl, HR, HB⟩ := hrel
    by_cases hlt : j < n
    · obtain ⟨g, rfl, hg⟩ : ∃ g, a = some ⟨g, 0, none⟩ ∧ base ≤ g := by
        rcases HR.out.2 with ⟨_, e1⟩ | ⟨g, cap1, cur, e0, hg, _⟩
        · omega
        · simp only [Value.slice.injEq] at e0; exact ⟨g, e0.1, hg⟩
      have hxl : (termsV (marksT k j ++ us.drop j)).length = n * 2 := by rw [termsV_len, List.length_append, marksT_len, List.length_drop, HL.out]; omega
      have hd0 : ∃ u, wr.cell? ⟨g, j * 2, none⟩ = some u := by rw [HR.out.cellAt _ (by omega)]; exact ⟨_, List.getElem?_eq_getElem (by omega)⟩
      obtain ⟨u0, hu0⟩ := hd0
      have hf0 := HR.out.frozenAt (j * 2)
      obtain ⟨m, hm⟩ : ∃ m, k + 2 * j = m := ⟨_, rfl⟩
      have hm1 : m ≤ 20000000 := by omega
      rw [hm]
      have hst := (HR.out.stored (j * 2) (.int .i64 (m : Int))).1
      have hbw := (HR.out.stored (j * 2) (.int .i64 (m : Int))).2
      have HM := Lib.hid hm
      have HST := Lib.hid hst
      have HBW := Lib.hid (grown_trans HB.out hbw)
      clear hm hst hbw hxl
      go_wp2_with fail
      refine (show Calls Try.prog 100 #[.int .i64 ((m : Int) + 1)] _ _ from markText_any (m + 1) _ (by omega) (by omega)).mono ?_
      rintro e w4 ⟨rfl, hb4⟩
      have hr4 := ownsRow_past HST.out hb4
      have hxl4 := hr4.1
      have hd1 : ∃ u, w4.cell? ⟨g, j * 2 + 1, none⟩ = some u := by rw [hr4.cellAt _ (by omega)]; exact ⟨_, List.getElem?_eq_getElem (by omega)⟩
      obtain ⟨u1, hu1⟩ := hd1
      have hf1 := hr4.frozenAt (j * 2 + 1)
      have HR4 := Lib.hid hr4
      have HB4 := Lib.hid (grown_trans HBW.out (grown_below _ hb4))
      clear hr4 hb4 hxl4
      go_wp2
      go_roundw
      case rel =>
        refine ⟨j + 1, by omega, by have := HM.out; go_num, by go_num, Lib.hid ?_, Lib.hid (grown_trans HB4.out (HR4.out.stored (j * 2 + 1) (.string (mkS (m + 1)))).2)⟩
        rw [← marksT_row k j n us HL.out hlt, HM.out]
        exact (HR4.out.stored (j * 2 + 1) (.string (mkS (m + 1)))).1
      case measure => simp [intOf]; omega
    · obtain rfl : j = n := by omega
      go_wp2
      go_ret
      refine ⟨rfl, ?_, HB.out⟩
      have := HR.out
      rw [List.drop_of_length_le (by rw [HL.out]; exact Nat.le_refl _), List.append_nil] at this
      exact this

/-! ### Texts -/
def marksS (k n : Nat) : List ByteArray := (List.range n).map fun i => mkS (k + i)
theorem marksS_len (k n : Nat) : (marksS k n).length = n := by simp [marksS]
theorem marksS_set (k j n : Nat) (us : List ByteArray) (hl : us.length = n) (hj : j < n) : (strsV (marksS k j ++ us.drop j)).set j (.string (mkS (k + j))) = strsV (marksS k (j + 1) ++ us.drop (j + 1)) := by
  have h1 : (marksS k j ++ us.drop j).set j (mkS (k + j)) = marksS k (j + 1) ++ us.drop (j + 1) := by
    rw [List.set_append_right _ _ (by rw [marksS_len]; exact Nat.le_refl _), marksS_len, Nat.sub_self, List.drop_eq_getElem_cons (by omega : j < us.length), List.set_cons_zero]
    unfold marksS
    rw [List.range_succ, List.map_append, List.append_assoc]
    rfl
  rw [← h1]
  unfold strsV
  rw [List.map_set]
def OwnS (base : Nat) (w : World) (v : Value) (zs : List ByteArray) : Prop := w.ownsRow base 9 1 v zs.length (strsV zs)
theorem OwnS.below {base : Nat} {w w' : World} {v : Value} {zs : List ByteArray} (h : OwnS base w v zs) (hb : Below w.heap.size w w') : OwnS base w' v zs := ownsRow_past h hb

end Go.Proofs.Ytocklmiappppgaa

/- The contract of the program's 'WordSums'. -/

namespace Go.Proofs.Ytocklmiappppgaa
open Go.RowKit Go.Shelf

attribute [local go_sem] Oper.semAt_some

theorem idx_tab : ((List.range 256).all fun n => !(decide ((97 ≤ n ∧ n ≤ 100) ∨ (65 ≤ n ∧ n ≤ 68))) || (decide (bits BinOp.or IntKind.u8 (n : Int) 32 = ((if 97 ≤ n then n - 97 else n - 65 : Nat) : Int) + 97) && decide (bits BinOp.and IntKind.u8 (n : Int) 32 = if 97 ≤ n then 32 else 0))) = true := by kernel_rfl
theorem idx_let (c : UInt8) (h : letB c = true) : bits BinOp.or IntKind.u8 (c.toNat : Int) 32 = (idxB c : Int) + 97 ∧ bits BinOp.and IntKind.u8 (c.toNat : Int) 32 = if 97 ≤ c.toNat then 32 else 0 := by
  have := List.all_eq_true.1 idx_tab c.toNat (List.mem_range.2 c.toNat_lt)
  simp only [Bool.or_eq_true, Bool.and_eq_true, Bool.not_eq_true', decide_eq_false_iff_not, decide_eq_true_eq] at this
  exact this.resolve_left (fun h2 => h2 ((letB_iff c).1 h))

theorem iSign_any (c : UInt8) (w : World) (h : letB c = true) :
    Calls Try.prog 116 #[.int .u8 (c.toNat : Int)] w fun e w' => e = .returned (.int .i64 (sgnB c)) ∧ w' = w := by
  have hb := (idx_let c h).2
  by_cases h97 : 97 ≤ c.toNat
  · rw [if_pos h97] at hb
    have hs : Hid (sgnB c = 1) := by unfold sgnB; rw [if_pos h97]; exact Lib.hid rfl
    clear h h97
    go_enter Try.func116, Try.ntmps116
    go_wp2
    go_ret
    exact ⟨ret_int hs.out.symm, rfl⟩
  · rw [if_neg h97] at hb
    have hs : Hid (sgnB c = -1) := by unfold sgnB; rw [if_neg h97]; exact Lib.hid rfl
    clear h h97
    go_enter Try.func116, Try.ntmps116
    go_wp2
    go_ret
    exact ⟨ret_int hs.out.symm, rfl⟩

end Go.Proofs.Ytocklmiappppgaa

/- The contracts of the program's 'WordTimes' and 'WordComm'. -/

namespace Go.Proofs.Ytocklmiappppgaa
open Go.RowKit Go.Shelf

/-- A word in a box, and the function that gives letters out of it. -/
structure Item where
  gf : Nat
  sv : Value
  L : List UInt8
  xs : List UInt8
def Gives (it : Item) : Prop :=
  (∀ (W : World) (Bs n₀ : Nat), Bs < n₀ → n₀ ≤ W.heap.size → W.cell? ⟨Bs, 0, none⟩ = some it.sv → IsWord n₀ W it.sv it.L → SeqO n₀ W it.gf #[.pointer (some ⟨Bs, 0, none⟩)] it.xs) ∧
  ∀ args w, (callFunc it.gf args).run Try.prog w = .ok (.enter it.gf args) w
theorem gives_fwd (sv : Value) (L : List UInt8) : Gives ⟨136, sv, L, L⟩ :=
  ⟨fun W Bs n₀ h1 h2 h3 h4 => values_seq L sv W Bs n₀ (by omega) h2 h3 h4, enters_of Try.func136 (by kernel_rfl) rfl⟩
theorem gives_bwd (sv : Value) (L : List UInt8) : Gives ⟨133, sv, L, L.reverse.map invB⟩ :=
  ⟨fun W Bs n₀ h1 h2 h3 h4 => turned_seq L sv W Bs n₀ h1 h2 h3 h4, enters_of Try.func133 (by kernel_rfl) rfl⟩

def boxes : World → List Item → World
  | w, [] => w
  | w, it :: r => boxes (w.alloc (.cells #[it.sv] WT)) r
def funcs : Nat → List Item → List Value
  | _, [] => []
  | k, it :: r => .func (.func it.gf) #[] #[.pointer (some ⟨k, 0, none⟩)] :: funcs (k + 1) r
def partsOf : Nat → List Item → List Part
  | _, [] => []
  | k, it :: r => ⟨it.gf, #[.pointer (some ⟨k, 0, none⟩)], it.xs⟩ :: partsOf (k + 1) r
theorem boxes_size : ∀ (its : List Item) (w : World), (boxes w its).heap.size = w.heap.size + its.length
  | [], _ => rfl
  | it :: r, w => by rw [boxes, boxes_size r]; simp; omega
theorem boxes_below : ∀ (its : List Item) (w : World), Below w.heap.size w (boxes w its)
  | [], w => Below.refl _ _
  | it :: r, w => ((Below.refl _ w).alloc (Nat.le_refl _) _).trans ((boxes_below r _).mono (by simp))
theorem partsOf_len : ∀ (its : List Item) (k : Nat), (partsOf k its).length = its.length
  | [], _ => rfl
  | it :: r, k => by simp [partsOf, partsOf_len r]
theorem funcs_get : ∀ (its : List Item) (k i : Nat) (h : i < (partsOf k its).length), (funcs k its)[i]? = some (.func (.func (partsOf k its)[i].gf) #[] (partsOf k its)[i].lb)
  | [], _, _, h => by simp [partsOf] at h
  | it :: r, k, 0, _ => rfl
  | it :: r, k, i + 1, h => by
    simp only [partsOf, List.length_cons] at h
    simpa [partsOf, funcs] using funcs_get r (k + 1) i (by omega)
theorem parts_mem : ∀ (its : List Item) (w : World) (p : Part), p ∈ partsOf w.heap.size its → ∃ it ∈ its, ∃ B, p = ⟨it.gf, #[.pointer (some ⟨B, 0, none⟩)], it.xs⟩ ∧ B < (boxes w its).heap.size ∧ (boxes w its).cell? ⟨B, 0, none⟩ = some it.sv
  | [], _, _, h => by simp [partsOf] at h
  | it :: r, w, p, h => by
    rcases List.mem_cons.1 h with rfl | h
    · refine ⟨it, by simp, w.heap.size, rfl, by rw [boxes_size]; simp, ?_⟩
      exact ((boxes_below r (w.alloc (.cells #[it.sv] WT))).cell (p := ⟨w.heap.size, 0, none⟩) (by simp)).trans (Boxed.new w WT it.sv).cell
    · have h2 : p ∈ partsOf (w.alloc (.cells #[it.sv] WT)).heap.size r := by simpa using h
      obtain ⟨it2, hm, B, hp, hB, hc⟩ := parts_mem r _ p h2
      exact ⟨it2, by simp [hm], B, hp, hB, hc⟩
theorem cat_parts : ∀ (its : List Item) (k : Nat), cat (partsOf k its) = (its.map Item.xs).flatten
  | [], _ => rfl
  | it :: r, k => by
    have := cat_parts r (k + 1)
    simp only [cat] at this ⊢
    simp only [partsOf, List.map_cons, List.flatten_cons, this]
theorem cell_past {w : World} {p : Addr} {v : Value} (h : w.cell? p = some v) (o : Obj) : (w.alloc o).cell? p = some v := (World.cell?_alloc_lt w o p (World.block_lt_of_cell? w _ h)).trans h
theorem cell_drawn {w : World} {p : Addr} {v : Value} (h : w.cell? p = some v) : w.drew.cell? p = some v := h

/-- 'reduced' over boxed words. -/
theorem reduced_boxes (w : World) (its : List Item) (hG : ∀ it ∈ its, Gives it ∧ IsWord w.heap.size w it.sv it.L) (hl : (its.map Item.xs).flatten.length ≤ 100000000) (hn : its.length ≤ 1000000) :
    Calls Try.prog 139 #[.slice (some ⟨w.heap.size + its.length, 0, none⟩) its.length its.length] ((boxes w its).alloc (.cells (funcs w.heap.size its).toArray IT)).drew fun e w' =>
      ∃ g m cap', e = .returned (.slice (some ⟨g, 0, none⟩) m cap') ∧ (redX [] (its.map Item.xs).flatten).length = m ∧ w'.ownsRow w.heap.size 119 1 (.slice (some ⟨g, 0, none⟩) m cap') m (bytesV (redX [] (its.map Item.xs).flatten)) ∧ Below w.heap.size w w' := by
  have hbw := boxes_below its w
  have hsz := boxes_size its w
  have hbW : Below w.heap.size w ((boxes w its).alloc (.cells (funcs w.heap.size its).toArray IT)).drew := (hbw.alloc (by omega) _).drew
  have hr := reduced_in 20 (by omega) (some ⟨w.heap.size + its.length, 0, none⟩) (w.heap.size + its.length) 0 its.length (partsOf w.heap.size its) ((boxes w its).alloc (.cells (funcs w.heap.size its).toArray IT)).drew (fun _ => rfl)
    (by show _ < ((boxes w its).alloc (.cells (funcs w.heap.size its).toArray IT)).heap.size; simp; omega)
    (fun i h => by
      show ((boxes w its).alloc (.cells (funcs w.heap.size its).toArray IT)).cell? _ = _
      rw [World.cell?_alloc_at _ _ _ _ (by show _ = _; omega)]
      rw [Nat.zero_add, List.getElem?_toArray]
      exact funcs_get its _ i h)
    (fun p hp => by
      obtain ⟨it, hm, B, rfl, hB, hc⟩ := parts_mem its w p hp
      obtain ⟨hg, hw⟩ := hG it hm
      refine ⟨hg.1 _ B _ ?_ (Nat.le_refl _) (cell_drawn (cell_past hc _)) ((hw.below hbW).mono ?_), hg.2⟩
      · show B < ((boxes w its).alloc (.cells (funcs w.heap.size its).toArray IT)).heap.size; simp; omega
      · show _ ≤ ((boxes w its).alloc (.cells (funcs w.heap.size its).toArray IT)).heap.size; simp; omega)
    (by rw [cat_parts]; exact hl) (by rw [partsOf_len]; exact hn)
  rw [cat_parts, partsOf_len] at hr
  refine ((callsIn_wide (n := 20)).1 hr).mono ?_
  rintro e w' ⟨g, m, cap', rfl, hm, hown, hb⟩
  have hsW : w.heap.size ≤ ((boxes w its).alloc (.cells (funcs w.heap.size its).toArray IT)).drew.heap.size := hbW.size
  exact ⟨g, m, cap', rfl, hm, ownsRow_base hown hsW, hbW.trans (hb.mono hsW)⟩

end Go.Proofs.Ytocklmiappppgaa

/- A law for a region that draws its order, inside a fence, by what stands when some of its operations have come up: each operation is met once, in whatever order they come. -/

namespace Go.Proofs.Ytocklmiappppgaa
open Go.RowKit Go.Shelf

theorem count_set (l : List Bool) : ∀ i, l[i]? = some false → (l.set i true).count false + 1 = l.count false := by
  induction l with
  | nil => intro i h; simp at h
  | cons b r ih =>
    intro i h
    cases i with
    | zero => simp at h; subst h; simp
    | succ i =>
      simp only [List.getElem?_cons_succ] at h
      have := ih i h
      simp only [List.set_cons_succ, List.count_cons]
      omega
theorem listed_false {l : Array Bool} {i : Nat} (h : l.getD i true = false) : l.toList[i]? = some false := by
  rw [Array.getD_eq_getD_getElem?] at h
  rw [Array.getElem?_toList]
  cases e : l[i]? with
  | none => rw [e] at h; cases h
  | some b => rw [e] at h; simp at h; rw [h]

theorem wpAnyIn_inv {F : Fence} {n : Nat} {P : Program} {md : Region.Mode} {ops : Array Oper} {Q : Exit → Act → World → Prop} (Inv : Array Bool → Act → World → Prop)
    (hstep : ∀ listed a w i, Inv listed a w → listed.getD i true = false → (∀ o, ops[i]? = some o → ∀ e ∈ o.after, Region.binds md e = true → listed.getD e.on false = true) → i < ops.size →
      wpOpIn F n P ops Q i (fun a' w' => Inv (listed.setIfInBounds i true) a' w') a w)
    (hdone : ∀ listed a w, Inv listed a w → (∀ i o, ops[i]? = some o → (∀ e ∈ o.after, Region.binds md e = true → listed.getD e.on false = true) → listed.getD i true = true) → Q .normal a w) :
    ∀ (fuel : Nat) (listed : Array Bool) (a : Act) (w : World), listed.toList.count false ≤ fuel → Inv listed a w → wpAnyIn F n P md ops Q fuel listed a w := by
  have hd : ∀ listed a w, Inv listed a w → Region.ready md ops listed = [] → Q .normal a w := fun listed a w hI hr => hdone listed a w hI fun i o ho hall => by
    cases h : listed.getD i true with
    | true => rfl
    | false =>
      have : i ∈ Region.ready md ops listed := mem_ready.2 ⟨h, o, ho, hall⟩
      rw [hr] at this; cases this
  intro fuel
  induction fuel with
  | zero =>
    intro listed a w hc hI
    have hr : Region.ready md ops listed = [] := by
      rw [List.eq_nil_iff_forall_not_mem]
      intro j hj
      have h1 := listed_false (mem_ready.1 hj).1
      have := count_set _ _ h1
      omega
    exact ⟨hr, hd _ _ _ hI hr⟩
  | succ fuel ih =>
    intro listed a w hc hI
    refine ⟨fun h => hd _ _ _ hI h, fun i hi => ?_⟩
    obtain ⟨h1, o, ho, hall⟩ := mem_ready.1 hi
    refine wpOpIn_mono (fun a' w' h => ih _ a' w' ?_ h) (hstep listed a w i hI h1 (fun o' ho' => by rw [ho] at ho'; cases ho'; exact hall) (Array.getElem?_eq_some_iff.1 ho).1)
    have := count_set _ _ (listed_false h1)
    rw [Array.toList_setIfInBounds]
    omega

end Go.Proofs.Ytocklmiappppgaa

/- The contract of the program's 'WordPut'. -/

namespace Go.Proofs.Ytocklmiappppgaa
open Go.RowKit Go.Shelf

attribute [local go_sem] Oper.semAt_some

abbrev FV : Nat := 136

/-- What a round keeps, where the iterator is that of a word. -/
def KeepP (n₀ N : Nat) (W W' : World) : Prop := Below n₀ W W' ∧ KeepsFrom N W W'

/-- The loop's law at the letters of a word, for bodies that write where they will behind what was there. -/
theorem range_values {n : Nat} {g : Operand} {p : Tmp} {assign body : Code} {Q : Exit → Act → World → Prop} {a : Act} {w : World} {Bs : Nat} (hn : 14 ≤ n)
    (hg : a.eval g = .func (.func FV) #[] #[.pointer (some ⟨Bs, 0, none⟩)])
    {n₀ : Nat} {L : List UInt8} {sv : Value} (hBs : Bs < w.heap.size) (hc : w.cell? ⟨Bs, 0, none⟩ = some sv) (hw : IsWord n₀ w sv L) (hn₀ : n₀ ≤ w.heap.size)
    (I : List UInt8 → World → Prop) (hI : OwnFrom w.heap.size I) (h0 : I [] w) (a₁ : UInt8 → Act)
    (hassign : ∀ (l : Nat) (x : UInt8) (W : World) (K : Act → World → Prop), K (a₁ x) W →
      assign.wpIn (Fence.wide.inRound l) (n - 1 - 1) Try.prog (Exit.then K (fun _ _ _ => False)) { tmps := (#[p].zip (encB x)).foldl (fun t (q, v) => t.setIfInBounds q v) a.tmps, defers := [] } W)
    (hbody : ∀ (l : Nat) (pre : List UInt8) (x : UInt8) (W : World), I pre W → pre ++ [x] <+: L →
      body.wpIn (Fence.wide.inRound l) (n - 1 - 1) Try.prog (goesOn w.heap.size (KeepP n₀) I (pre ++ [x]) W) (a₁ x) W)
    (hdone : ∀ (D : Nat) (W : World), w.heap.size ≤ D → I L W → W.heap[D]? = some (.deferred (some [])) → Q .normal { a with defers := { target := .collected D, args := #[] } :: a.defers } W) :
    (Code.rangeFunc g #[p] assign body).wpIn Fence.wide n Try.prog Q a w :=
  range_law (by omega) hg (enters_of Try.func136 (by kernel_rfl) rfl) (fun _ => rfl) (KeepP n₀) (fun h k => ⟨h.1.trans k.1, h.2.trans k.2⟩)
    (fun N W l o o' hl hwl hW ho hwk => ⟨belowK_b hn₀ W l o o' hwl hW ho hwk, KeepsFrom.of_grownBy (grownBy_putObj' W l o') (fun j e => by cases e; exact hl)⟩)
    (fun h => ⟨h.1, keepsFrom_mono h.2 (by omega)⟩)
    (fun l J V hV hlt hJ hY h0 => (values1_in (n - 1) (by omega) l Bs n₀ L sv J (fun _ _ => False) (fun pre x W1 hj hl => (hY pre x W1 hj hl).mono (fun _ _ ⟨a, b, c⟩ => .inl ⟨a, b, c.1⟩)) V
      ((hV.cell (p := ⟨Bs, 0, none⟩) hBs).trans hc) (hw.below (hV.mono hn₀)) h0).mono (by
        rintro e W' ⟨hv, ⟨ys, rfl, hJ'⟩ | ⟨_, _, hf⟩⟩
        · exact ⟨hv, hJ'⟩
        · exact hf.elim)) I hI h0 a₁ hassign hbody hdone

/-- A part's box, and what it gives. -/
def PartAt (N : Nat) (w W : World) (p : Part) : Prop :=
  ∃ B sv L, p.lb = #[.pointer (some ⟨B, 0, none⟩)] ∧ N ≤ B ∧ Boxed W B WT sv ∧ Gives ⟨p.gf, sv, L, p.xs⟩ ∧ IsWord N w sv L
theorem PartAt.own (N : Nat) (w : World) (p : Part) : Own (fun (_ : Unit) W => PartAt N w W p) := by
  rintro s X Y row ⟨B, sv, L, h1, h2, h3, h4⟩ hg hrow
  exact ⟨B, sv, L, h1, h2, boxed_own B WT (fun _ : Unit => sv) () X Y row h3 hg hrow, h4⟩

def funcV (p : Part) : Value := .func (.func p.gf) #[] p.lb
/-- The parts that the loop has gathered. -/
def Gathered (N BP : Nat) (w : World) (img : UInt8 → List UInt8) (pre : List UInt8) (W : World) : Prop :=
  ∃ ps : List Part, ps.length = pre.length ∧ cat ps = (pre.map img).flatten ∧ (∃ v, Boxed W BP 141 v ∧ W.ownsRow N IT 1 v ps.length (ps.map funcV) ∧ True) ∧ ∀ p ∈ ps, PartAt N w W p
theorem Gathered.own (N BP : Nat) (w : World) (img : UInt8 → List UInt8) : Own (Gathered N BP w img) := by
  rintro s X Y row ⟨ps, h1, h2, h3, h4⟩ hg hrow
  exact ⟨ps, h1, h2, holdsRow_own N BP _ IT 1 (fun _ : Unit => ps.length) (fun _ => ps.map funcV) (fun _ _ => True) () X Y row h3 hg hrow, fun p hp => PartAt.own N w p () X Y row (h4 p hp) hg hrow⟩

/-- The letters of a letter's image, as its iterator gives them. -/
def imgX (zs : List ByteArray) (x : UInt8) : List UInt8 := if 97 ≤ x.toNat then (zs.getD (idxB x) ByteArray.empty).data.toList else (zs.getD (idxB x) ByteArray.empty).data.toList.reverse.map invB
/-- All images, one behind the other. -/
def putX (zs : List ByteArray) (L : List UInt8) : List UInt8 := (L.map (imgX zs)).flatten
theorem imgX_len (zs : List ByteArray) (hz : ∀ z ∈ zs, wordB z.data.toList = true) (x : UInt8) : (imgX zs x).length ≤ 60 := by
  have hz' : (zs.getD (idxB x) ByteArray.empty).data.toList.length ≤ 60 := by
    rw [List.getD_eq_getElem?_getD]
    cases h : zs[idxB x]? with
    | none => simp
    | some z => exact ((wordB_iff _).1 (hz z (List.mem_of_getElem? h))).1
  unfold imgX
  split
  · exact hz'
  · rw [List.length_map, List.length_reverse]; exact hz'
theorem putX_len (zs : List ByteArray) (L : List UInt8) (hz : ∀ z ∈ zs, wordB z.data.toList = true) : (putX zs L).length ≤ L.length * 60 := by
  unfold putX
  induction L with
  | nil => simp
  | cons x r ih =>
    rw [List.map_cons, List.flatten_cons, List.length_append, List.length_cons]
    have := imgX_len zs hz x
    omega
theorem imgX_eq (zs : List ByteArray) (hz : ∀ z ∈ zs, wordB z.data.toList = true) (x : UInt8) : imgX zs x = imgL zs x ∧ letL (imgL zs x) = true := by
  have hl : letL (zs.getD (idxB x) ByteArray.empty).data.toList = true := by
    rw [List.getD_eq_getElem?_getD]
    cases h : zs[idxB x]? with
    | none => rfl
    | some z => exact ((wordB_iff _).1 (hz z (List.mem_of_getElem? h))).2.1
  unfold imgX imgL
  by_cases h : 97 ≤ x.toNat
  · rw [if_pos h, if_neg (by omega)]; exact ⟨rfl, hl⟩
  · rw [if_neg h, if_pos (by omega)]; exact ⟨inv_back _ hl, letL_back _ hl⟩
theorem putX_eq (zs : List ByteArray) (L : List UInt8) (hz : ∀ z ∈ zs, wordB z.data.toList = true) : putX zs L = putL zs L ∧ letL (putL zs L) = true := by
  unfold putX putL
  induction L with
  | nil => exact ⟨rfl, rfl⟩
  | cons x r ih =>
    obtain ⟨h1, h2⟩ := imgX_eq zs hz x
    rw [List.map_cons, List.map_cons, List.flatten_cons, List.flatten_cons, h1, ih.1, letL_append, h2, ih.2]
    exact ⟨rfl, rfl⟩
theorem letL_putX (zs : List ByteArray) (L : List UInt8) (hz : ∀ z ∈ zs, wordB z.data.toList = true) : letL (putX zs L) = true := by
  rw [(putX_eq zs L hz).1]; exact (putX_eq zs L hz).2
abbrev LTi : TypeId := 141

theorem infoSeqI : (Try.prog.info? IT).map (fun i => (i.zero, i.size, i.bytes)) = some (some .nilFunc, 1, 8) := by kernel_rfl

/-- An append in whatever place of a region. -/
theorem wpIn_append_op {F : Fence} {n : Nat} {P : Program} (w : World) {o : Oper} {a : Act} {K : Act → World → Prop} {Q : Exit → Act → World → Prop}
    (s x : Operand) (t : TypeId) (hop : o.op = Op.call { callee := Callee.builtin Builtin.append, args := #[s, x], argTypes := #[t, t] })
    (base : Nat) (e : TypeId) (i : TypeInfo) (z : Value) (size bytes : Nat) (h1 : P.underlying t = some (.slice e)) (h2 : P.info? e = some i) (h3 : i.zero = some z) (h4 : i.size = size) (h5 : i.bytes = bytes) (h6 : z.cells.size = size) (h7 : 0 < size)
    (v : Value) (k : Nat) (xs : List Value) (hs : a.eval s = v) (hown : w.ownsRow base e size v k xs) (ad : Addr) (m c : Nat) (news : List Value) (hx : a.eval x = .slice (some ad) m c) (hn : news.length = m * size)
    (hc : ∀ j u, news[j]? = some u → w.cell? (ad.add j) = some u) (h1c : ∀ u ∈ news, u.oneCell' = true) (b1 : k + m ≤ maxLen) (b2 : (k + m) * bytes ≤ 140737488355328) (b3 : base ≤ w.heap.size)
    (hK : ∀ v' w', w'.ownsRow base e size v' (k + m) (xs ++ news) → w.grownBy w' v.ownBlock → True → K (a.put o.dst v') w') : o.wpIn F n P a w K Q := by
  obtain ⟨v', w', hrun, r1, r2, _⟩ := run_append_own (P := P) w base t o.type e i z size bytes h1 h2 h3 h4 h5 h6 h7 v k xs hown ad m c news hn hc h1c b1 b2 b3
  unfold Oper.wpIn
  refine ⟨by simp [Oper.about, hop, resolve, Target.leads, Sem.run_pure], ?_⟩
  rw [Oper.semAt_plain F _ _ (by rw [hop]; intro c hc'; cases hc')]
  simp [execOp, hop, resolve, invoke, builtin, hs, hx, hrun, Result.andThen]
  exact hK v' w' r1 r2 trivial

theorem owns_slice {W : World} {base : Nat} {e : TypeId} {v : Value} {n : Nat} {xs : List Value} (h : W.ownsRow base e 1 v n xs) (h0 : 0 < W.heap.size) :
    ∃ a cap b, v = .slice a n cap ∧ (0 < n → a = some ⟨b, 0, none⟩) ∧ b < W.heap.size ∧ ∀ i (h : i < xs.length), W.cell? ⟨b, i, none⟩ = some xs[i] := by
  have hl := h.1
  rw [Nat.mul_one] at hl
  have hc := fun g cap (e : v = .slice (some ⟨g, 0, none⟩) n cap) => e
  rcases h.2 with ⟨rfl, e⟩ | ⟨g, cap, cur, rfl, e2⟩
  · have e0 : n = 0 := e
    subst e0
    exact ⟨none, 0, 0, rfl, fun h => absurd h (Nat.lt_irrefl _), h0, fun i hi => absurd hi (by omega)⟩
  · refine ⟨_, cap, g, rfl, fun _ => rfl, (ownsRow_cap h).2.2.2, fun i hi => ?_⟩
    rw [h.cellAt i (by omega)]
    exact List.getElem?_eq_getElem hi

/-- Four words in memory. -/
def FourAt (gi : Nat) (lo : Nat) (w : World) (zs : List ByteArray) : Prop :=
  gi < w.heap.size ∧ ∀ j (h : j < zs.length), ∃ v, w.cell? ⟨gi, j, none⟩ = some v ∧ WordAt lo w v zs[j].data.toList
theorem FourAt.below {gi lo : Nat} {w w' : World} {zs : List ByteArray} (h : FourAt gi lo w zs) (hb : Below w.heap.size w w') : FourAt gi lo w' zs :=
  ⟨Nat.lt_of_lt_of_le h.1 hb.size, fun j hj => by
    obtain ⟨v, h1, h2⟩ := h.2 j hj
    exact ⟨v, (hb.cell (p := ⟨gi, j, none⟩) h.1).trans h1, h2.below hb⟩⟩

end Go.Proofs.Ytocklmiappppgaa

/- The contracts of the program's 'imagesOf' and 'WordPut'. -/

namespace Go.Proofs.Ytocklmiappppgaa
open Go.RowKit Go.Shelf

/-- A list of strings from a cell 0 on, as a law copies it. -/
structure StrsIn (w : World) (a : Option Addr) (g : Nat) (n : Nat) (zs : List ByteArray) : Prop where
  len : zs.length = n
  at0 : 0 < n → a = some ⟨g, 0, none⟩
  blk : g < w.heap.size
  cells : ∀ i (h : i < zs.length), w.cell? ⟨g, i, none⟩ = some (.string zs[i])
  small : ∀ s ∈ zs, s.size ≤ maxLen
theorem StrsIn.below {w w' : World} {a : Option Addr} {g n : Nat} {zs : List ByteArray} (h : StrsIn w a g n zs) (hb : Below w.heap.size w w') : StrsIn w' a g n zs :=
  ⟨h.len, h.at0, Nat.lt_of_lt_of_le h.blk hb.size, fun i hi => (hb.cell (p := ⟨g, i, none⟩) h.blk).trans (h.cells i hi), h.small⟩

end Go.Proofs.Ytocklmiappppgaa

/- Letters as a free group: reducing goes along, inverses cancel, sums of letters, powers, commutators, putting. -/

namespace Go.Proofs.Ytocklmiappppgaa
open Go.RowKit

theorem toList_size (s : ByteArray) : s.data.toList.length = s.size := by simp
theorem letL_step {l : List UInt8} {c : UInt8} (hl : letL l = true) (hc : letB c = true) : letL (redStep l c) = true := by
  unfold redStep
  split
  · exact letL_of_mem l _ hl fun _ h => List.dropLast_subset _ h
  · rw [letL_append, hl, letL_cons, hc]; rfl
theorem letL_red2 : ∀ (s acc : List UInt8), letL s = true → letL acc = true → letL (redL acc s) = true
  | [], _, _, h => h
  | c :: s, acc, h, ha => by
    rw [letL_cons, Bool.and_eq_true] at h
    exact letL_red2 s (redStep acc c) h.2 (letL_step ha h.1)
theorem step_cancel {l : List UInt8} (hn : noC l) {x : UInt8} (hx : letB x = true) : redStep (redStep l x) (turnB x) = l := by
  obtain ⟨ht, hx2⟩ := turn_turn x hx
  by_cases h : l.getLast? = some (turnB x)
  · obtain ⟨p, y, rfl⟩ := last_split l (by cases l with | nil => simp at h | cons a l => simp)
    have hy : y = turnB x := by simpa using h
    subst hy
    rw [redStep_pop p (turnB x) x rfl]
    by_cases h2 : p.getLast? = some (turnB (turnB x))
    · exfalso
      obtain ⟨q, z, rfl⟩ := last_split p (by cases p with | nil => simp at h2 | cons a l => simp)
      have hz : z = turnB (turnB x) := by simpa using h2
      exact hn q z (turnB x) [] (by simp) hz
    · unfold redStep; rw [if_neg h2]
  · have e : redStep l x = l ++ [x] := by unfold redStep; rw [if_neg h]
    rw [e, redStep_pop l x (turnB x) ht.symm]
theorem red_through : ∀ (y acc : List UInt8), noC acc → letL y = true → redL acc (redL [] y) = redL acc y := by
  intro y
  generalize hn : y.length = n
  induction n generalizing y with
  | zero => intro acc _ _; rw [List.length_eq_zero_iff.1 hn]; rfl
  | succ n ih =>
    intro acc ha hl
    obtain ⟨p, c, rfl⟩ := last_split y (by omega)
    have hp : p.length = n := by rw [List.length_append] at hn; simp at hn; exact hn
    rw [letL_append, Bool.and_eq_true] at hl
    have hc : letB c = true := by have := hl.2; simp [letL] at this; exact this
    have h1 := ih p hp acc ha hl.1
    rw [redL_snoc, redL_snoc]
    by_cases h : (redL [] p).getLast? = some (turnB c)
    · obtain ⟨q, z, hq⟩ := last_split (redL [] p) (by cases hr : redL [] p with | nil => rw [hr] at h; simp at h | cons a l => simp)
      rw [hq] at h h1 ⊢
      have hz : z = turnB c := by simpa using h
      subst hz
      rw [redStep_pop q (turnB c) c rfl, ← h1, redL_snoc]
      have := step_cancel (noC_red q acc ha) (turn_turn c hc).2
      rw [(turn_turn c hc).1] at this
      exact this.symm
    · have e : redStep (redL [] p) c = redL [] p ++ [c] := by unfold redStep; rw [if_neg h]
      rw [e, redL_snoc, h1]
/-- Reducing parts first. -/
theorem red_both {a b : List UInt8} (hb : letL b = true) : redL [] (redL [] a ++ redL [] b) = redL [] (a ++ b) := by
  rw [red_append, redL_append, redL_append, red_through b _ (noC_red a [] noC_nil) hb]
theorem red_right {a b : List UInt8} (hb : letL b = true) : redL [] (a ++ redL [] b) = redL [] (a ++ b) := by
  rw [redL_append, redL_append, red_through b _ (noC_red a [] noC_nil) hb]
/-- A word and its inverse. -/
theorem red_cancel : ∀ (s acc : List UInt8), noC acc → letL s = true → redL (redL acc s) (backL s) = acc := by
  intro s
  induction s with
  | nil => intro acc _ _; rfl
  | cons c s ih =>
    intro acc ha hl
    rw [letL_cons, Bool.and_eq_true] at hl
    have e : backL (c :: s) = backL s ++ [turnB c] := by simp [backL]
    have e2 : redL acc (c :: s) = redL (redStep acc c) s := rfl
    rw [e, redL_append, e2, ih _ (noC_step acc c ha) hl.2]
    exact step_cancel ha hl.1
theorem red_inv {s : List UInt8} (hl : letL s = true) (a : List UInt8) : redL [] (a ++ s ++ backL s) = redL [] a := by
  rw [redL_append, redL_append]
  exact red_cancel s _ (noC_red a [] noC_nil) hl
theorem red_inv2 {s : List UInt8} (hl : letL s = true) (a : List UInt8) : redL [] (a ++ backL s ++ s) = redL [] a := by
  have := red_inv (letL_back s hl) a
  rwa [back_back s hl] at this
/-- Words that are the same behind each other's inverse. -/
theorem red_unique {a b : List UInt8} (hb : letL b = true) (h : redL [] (a ++ backL b) = []) : redL [] a = redL [] b := by
  have h1 : redL [] (a ++ backL b ++ b) = redL [] a := red_inv2 hb a
  rw [← h1, redL_append, h]
theorem back_red {s : List UInt8} (hl : letL s = true) : backL (redL [] s) = redL [] (backL s) := by
  have hr := letL_red2 s [] hl rfl
  have h1 : redL [] (backL (redL [] s)) = backL (redL [] s) := red_back _ hr (red_red s)
  rw [← h1]
  refine red_unique (letL_back s hl) ?_
  rw [back_back s hl, ← red_right hl]
  have := red_inv2 hr []
  rw [List.nil_append] at this
  exact this
/-! ### Sums of letters -/
theorem sgnB_bnd2 (x : UInt8) : -1 ≤ sgnB x ∧ sgnB x ≤ 1 := by unfold sgnB; split <;> omega
def sgL (i : Nat) : List UInt8 → Int
  | [] => 0
  | c :: r => (if idxB c = i then sgnB c else 0) + sgL i r
theorem sgL_append (i : Nat) : ∀ a b : List UInt8, sgL i (a ++ b) = sgL i a + sgL i b
  | [], b => by simp [sgL]
  | c :: r, b => by rw [List.cons_append, sgL, sgL, sgL_append i r b]; omega
theorem sg_turn {c : UInt8} (hc : letB c = true) : idxB (turnB c) = idxB c ∧ sgnB (turnB c) = - sgnB c := by
  have h := (letB_iff c).1 hc
  unfold idxB sgnB
  rcases h with h | h
  · have := turnB_hi c h.1
    rw [if_neg (by omega), if_pos (by omega), if_neg (by omega), if_pos (by omega)]; omega
  · have := turnB_lo c (by omega)
    rw [if_pos (by omega), if_neg (by omega), if_pos (by omega), if_neg (by omega)]; omega
theorem sgL_turn (i : Nat) {c : UInt8} (hc : letB c = true) : sgL i [turnB c] = - sgL i [c] := by
  obtain ⟨h1, h2⟩ := sg_turn hc
  simp only [sgL]
  rw [h1, h2]; split <;> omega
theorem sgL_back (i : Nat) : ∀ s : List UInt8, letL s = true → sgL i (backL s) = - sgL i s
  | [], _ => by simp [sgL, backL]
  | c :: s, h => by
    rw [letL_cons, Bool.and_eq_true] at h
    have e : backL (c :: s) = backL s ++ [turnB c] := by simp [backL]
    rw [e, sgL_append, sgL_back i s h.2, sgL_turn i h.1, show c :: s = [c] ++ s from rfl, sgL_append]; omega
theorem sgL_step (i : Nat) {l : List UInt8} {c : UInt8} (hc : letB c = true) : sgL i (redStep l c) = sgL i l + sgL i [c] := by
  by_cases h : l.getLast? = some (turnB c)
  · obtain ⟨p, y, rfl⟩ := last_split l (by cases l with | nil => simp at h | cons a l => simp)
    have hy : y = turnB c := by simpa using h
    subst hy
    rw [redStep_pop p (turnB c) c rfl, sgL_append, sgL_turn i hc]; omega
  · have e : redStep l c = l ++ [c] := by unfold redStep; rw [if_neg h]
    rw [e, sgL_append]
theorem sgL_red (i : Nat) : ∀ (s acc : List UInt8), letL s = true → sgL i (redL acc s) = sgL i acc + sgL i s
  | [], acc, _ => by simp [redL_nil, sgL]
  | c :: s, acc, h => by
    rw [letL_cons, Bool.and_eq_true] at h
    have e : redL acc (c :: s) = redL (redStep acc c) s := rfl
    rw [e, sgL_red i s _ h.2, sgL_step i h.1, show c :: s = [c] ++ s from rfl, sgL_append]; omega
theorem sums_get : ∀ (s : List UInt8), letL s = true → ∀ i (h : i < (sumsL s).length), (sumsL s)[i] = sgL i s := by
  intro s
  generalize hn : s.length = n
  induction n generalizing s with
  | zero =>
    intro _ i h
    obtain rfl := List.length_eq_zero_iff.1 hn
    have h4 : i < 4 := h
    rcases (show i = 0 ∨ i = 1 ∨ i = 2 ∨ i = 3 by omega) with rfl | rfl | rfl | rfl <;> rfl
  | succ n ih =>
    intro hl i h
    obtain ⟨p, c, rfl⟩ := last_split s (by omega)
    have hp : p.length = n := by rw [List.length_append] at hn; simp at hn; exact hn
    rw [letL_append, Bool.and_eq_true] at hl
    have hc : letB c = true := by have := hl.2; simp [letL] at this; exact this
    have h4 := (sumsL_inv p hl.1).1
    have hi := idxB_lt c hc
    have h4s := (sumsL_inv (p ++ [c]) (by rw [letL_append, hl.1, hl.2]; rfl)).1
    have hi4 : i < (sumsL p).length := by omega
    have h1 := ih p hp hl.1 i hi4
    have e : sumsL (p ++ [c]) = (sumsL p).set (idxB c) ((sumsL p)[idxB c]?.getD 0 + sgnB c) := sumsL_snoc p c
    simp only [e]
    rw [List.getElem_set, sgL_append, ← h1]
    simp only [sgL]
    by_cases hic : idxB c = i
    · subst hic
      rw [if_pos rfl, if_pos rfl, List.getElem?_eq_getElem hi4]
      simp
    · rw [if_neg hic, if_neg hic]; omega
theorem sums_eq {s t : List UInt8} (hs : letL s = true) (ht : letL t = true) (h : ∀ i, i < 4 → sgL i s = sgL i t) : sumsL s = sumsL t := by
  have h1 := (sumsL_inv s hs).1
  have h2 := (sumsL_inv t ht).1
  refine List.ext_getElem (by omega) fun i hi hj => ?_
  rw [sums_get s hs, sums_get t ht]
  exact h i (by omega)
/-! ### Powers -/
theorem powL_next {s : List UInt8} (hl : letL s = true) (n : Int) : redL [] (powL (n + 1) s) = redL [] (powL n s ++ s) := by
  unfold powL
  by_cases h : n < 0
  · rw [if_pos h]
    obtain ⟨m, hm⟩ : ∃ m : Nat, n.natAbs = m + 1 := ⟨n.natAbs - 1, by omega⟩
    have e1 : repL n.natAbs (backL s) = repL m (backL s) ++ backL s := by rw [hm, ← repL_add m 1, repL_one]
    rw [e1, red_inv2 hl]
    by_cases h2 : n + 1 < 0
    · rw [if_pos h2, show (n + 1).natAbs = m by omega]
    · rw [if_neg h2, show (n + 1).natAbs = 0 by omega, show m = 0 by omega]; rfl
  · rw [if_neg h, if_neg (show ¬ n + 1 < 0 by omega), show (n + 1).natAbs = n.natAbs + 1 by omega, ← repL_add n.natAbs 1, repL_one]

end Go.Proofs.Ytocklmiappppgaa

/- Commutators, parity, cores and putting, over lists of letters. -/

namespace Go.Proofs.Ytocklmiappppgaa
open Go.RowKit

/-! ### Commutators -/
theorem comm_back {a b : List UInt8} (ha : letL a = true) (hb : letL b = true) : backL (commL a b) = commL b a := by
  unfold commL
  rw [backL_append, backL_append, backL_append, back_back a ha, back_back b hb]
  simp
theorem comm_let {a b : List UInt8} (ha : letL a = true) (hb : letL b = true) : letL (commL a b) = true := by
  unfold commL
  rw [letL_append, letL_append, letL_append, ha, hb, letL_back a ha, letL_back b hb]; rfl
theorem comm_sg (i : Nat) {a b : List UInt8} (ha : letL a = true) (hb : letL b = true) : sgL i (commL a b) = 0 := by
  unfold commL
  rw [sgL_append, sgL_append, sgL_append, sgL_back i a ha, sgL_back i b hb]; omega
/-- A commutator ahead of the product the other way. -/
theorem comm_times {a b : List UInt8} (ha : letL a = true) (hb : letL b = true) : redL [] (commL a b ++ (b ++ a)) = redL [] (a ++ b) := by
  unfold commL
  rw [show a ++ b ++ backL a ++ backL b ++ (b ++ a) = (a ++ b ++ backL a ++ backL b ++ b) ++ a by simp, redL_append, red_inv2 hb, ← redL_append, red_inv2 ha]
theorem sums_comm {a b : List UInt8} (ha : letL a = true) (hb : letL b = true) : sumsL (redL [] (commL a b)) = [0, 0, 0, 0] := by
  have hl := letL_red2 _ [] (comm_let ha hb) rfl
  have h4 := (sumsL_inv _ hl).1
  refine List.ext_getElem (by rw [h4]; rfl) fun i hi hj => ?_
  rw [sums_get _ hl, sgL_red i _ [] (comm_let ha hb), comm_sg i ha hb]
  have hj4 : i < 4 := hj
  rcases (show i = 0 ∨ i = 1 ∨ i = 2 ∨ i = 3 by omega) with rfl | rfl | rfl | rfl <;> rfl
/-! ### Parity -/
theorem step_parity (l : List UInt8) (c : UInt8) : ∃ k, (redStep l c).length + 2 * k = l.length + 1 := by
  unfold redStep
  split
  · refine ⟨1, ?_⟩
    rename_i h
    cases l with
    | nil => simp at h
    | cons a r => simp
  · exact ⟨0, by simp⟩
theorem red_parity : ∀ (s l : List UInt8), ∃ k, (redL l s).length + 2 * k = l.length + s.length
  | [], l => ⟨0, by simp [redL_nil]⟩
  | c :: s, l => by
    obtain ⟨k, hk⟩ := step_parity l c
    obtain ⟨j, hj⟩ := red_parity s (redStep l c)
    refine ⟨k + j, ?_⟩
    have e : redL l (c :: s) = redL (redStep l c) s := rfl
    rw [e, List.length_cons]; omega
/-! ### Cores -/
theorem coreF_core : ∀ (m : Nat) (l : List UInt8), l.length ≤ m → coreC (coreF m l) = false
  | 0, l, h => by
    have : l = [] := List.length_eq_zero_iff.1 (by omega)
    subst this
    rfl
  | m + 1, l, h => by
    rw [coreF]
    split
    · rename_i hc
      have h1 : 1 < l.length := by unfold coreC at hc; simp only [Bool.and_eq_true, decide_eq_true_eq] at hc; exact hc.1
      exact coreF_core m _ (by rw [core_len]; omega)
    · rename_i hc; simpa using hc
theorem core_core (l : List UInt8) : coreL (coreL l) = coreL l := coreF_false (coreF_core l.length l (Nat.le_refl _)) _
theorem core_le (l : List UInt8) : (coreL l).length ≤ l.length := coreF_len _ _
theorem core_ends {l : List UInt8} (hl : letL l = true) (hc : coreC l = true) : ∃ c, letB c = true ∧ l = [turnB c] ++ l.tail.dropLast ++ [c] := by
  have h1 : 1 < l.length := by unfold coreC at hc; simp only [Bool.and_eq_true, decide_eq_true_eq] at hc; exact hc.1
  obtain ⟨p, c, rfl⟩ := last_split l (by omega)
  cases p with
  | nil => simp at h1
  | cons x q =>
    have hx : x = turnB c := by
      unfold coreC at hc
      simp only [Bool.and_eq_true, decide_eq_true_eq] at hc
      have h2 := hc.2
      have e : (x :: q ++ [c]).getLast? = some c := List.getLast?_concat
      rw [e] at h2
      simpa using h2
    refine ⟨c, letL_get _ hl ((x :: q ++ [c]).length - 1) (by simp) |> fun h => by simpa using h, ?_⟩
    subst hx
    simp
theorem coreF_word : ∀ (m : Nat) (l : List UInt8), letL l = true → noC l → letL (coreF m l) = true ∧ noC (coreF m l)
  | 0, l, h1, h2 => ⟨h1, h2⟩
  | m + 1, l, h1, h2 => by
    rw [coreF]
    split
    · rename_i hc
      obtain ⟨c, _, e⟩ := core_ends h1 hc
      refine coreF_word m _ (letL_core l h1) ?_
      rw [e] at h2
      intro p x y q h3
      refine h2 (turnB c :: p) x y (q ++ [c]) ?_
      rw [h3]; simp
    · exact ⟨h1, h2⟩
theorem core_word {l : List UInt8} (h : wordB l = true) : wordB (coreL l) = true := by
  obtain ⟨h1, h2, h3⟩ := (wordB_iff _).1 h
  obtain ⟨h4, h5⟩ := coreF_word l.length l h2 ((red_iff _).1 h3)
  refine (wordB_iff _).2 ⟨by have := core_le l; omega, h4, (red_iff _).2 h5⟩
theorem coreF_sg (i : Nat) : ∀ (m : Nat) (l : List UInt8), letL l = true → sgL i (coreF m l) = sgL i l
  | 0, l, h1 => rfl
  | m + 1, l, h1 => by
    rw [coreF]
    split
    · rename_i hc
      obtain ⟨c, hcl, e⟩ := core_ends h1 hc
      have h2 := coreF_sg i m _ (letL_core l h1)
      rw [h2]
      have h3 : sgL i l = sgL i ([turnB c] ++ l.tail.dropLast ++ [c]) := congrArg _ e
      rw [sgL_append, sgL_append, sgL_turn i hcl] at h3
      omega
    · rfl
theorem sums_core {l : List UInt8} (h : letL l = true) (h2 : letL (coreL l) = true) : sumsL (coreL l) = sumsL l := sums_eq h2 h fun i _ => coreF_sg i _ l h
/-! ### Putting -/
theorem img_turn (zs : List ByteArray) (hz : ∀ z ∈ zs, wordB z.data.toList = true) {c : UInt8} (hc : letB c = true) : imgL zs (turnB c) = backL (imgL zs c) := by
  have hl : letL (zs.getD (idxB c) ByteArray.empty).data.toList = true := by
    rw [List.getD_eq_getElem?_getD]
    cases h : zs[idxB c]? with
    | none => rfl
    | some z => exact ((wordB_iff _).1 (hz z (List.mem_of_getElem? h))).2.1
  have hi := (sg_turn hc).1
  unfold imgL
  rw [hi]
  have h := (letB_iff c).1 hc
  rcases h with h | h
  · have := turnB_hi c h.1
    rw [if_pos (by omega), if_neg (by omega)]
  · have := turnB_lo c (by omega)
    rw [if_neg (by omega), if_pos (by omega), back_back _ hl]
theorem putL_append (zs : List ByteArray) (a b : List UInt8) : putL zs (a ++ b) = putL zs a ++ putL zs b := by simp [putL]
theorem put_back (zs : List ByteArray) (hz : ∀ z ∈ zs, wordB z.data.toList = true) : ∀ s : List UInt8, letL s = true → putL zs (backL s) = backL (putL zs s)
  | [], _ => rfl
  | c :: s, h => by
    rw [letL_cons, Bool.and_eq_true] at h
    have e : backL (c :: s) = backL s ++ [turnB c] := by simp [backL]
    have e1 : putL zs [turnB c] = imgL zs (turnB c) := by simp [putL]
    have e2 : putL zs (c :: s) = imgL zs c ++ putL zs s := by simp [putL]
    rw [e, putL_append, put_back zs hz s h.2, e1, img_turn zs hz h.1, e2, backL_append]
def abcd : List ByteArray := [{ data := #[97] }, { data := #[98] }, { data := #[99] }, { data := #[100] }]
theorem abcd_four : fourB abcd = true := by decide +kernel
theorem abcd_tab : ∀ n : Fin 256, letB (UInt8.ofNat n.val) = true → imgL abcd (UInt8.ofNat n.val) = [UInt8.ofNat n.val] := by decide +kernel
theorem abcd_img {c : UInt8} (h : letB c = true) : imgL abcd c = [c] := by
  have := abcd_tab ⟨c.toNat, c.toNat_lt⟩
  simp only [UInt8.ofNat_toNat] at this
  exact this h
theorem abcd_put : ∀ s : List UInt8, letL s = true → putL abcd s = s
  | [], _ => rfl
  | c :: s, h => by
    rw [letL_cons, Bool.and_eq_true] at h
    have e2 : putL abcd (c :: s) = imgL abcd c ++ putL abcd s := by simp [putL]
    rw [e2, abcd_img h.1, abcd_put s h.2]; rfl
theorem put_let (zs : List ByteArray) (hz : ∀ z ∈ zs, wordB z.data.toList = true) (s : List UInt8) : letL (putL zs s) = true := (putX_eq zs s hz).2

/-! ### Words of letters that reduce to few -/
theorem word_of_red {s : List UInt8} (hl : letL s = true) (h : (redL [] s).length ≤ 60) : wordB (redL [] s) = true := (wordB_iff _).2 ⟨h, letL_red2 s [] hl rfl, red_red s⟩
theorem word_back {s : List UInt8} (h : wordB s = true) : wordB (backL s) = true := by
  obtain ⟨h1, h2, h3⟩ := (wordB_iff _).1 h
  exact (wordB_iff _).2 ⟨by rw [backL_length]; exact h1, letL_back s h2, red_back s h2 h3⟩

end Go.Proofs.Ytocklmiappppgaa

/- The contracts of the model's 'l91Four' and 'DrawWordPut'. -/

namespace Go.Proofs.Ytocklmiappppgaa
open Go.RowKit Go.Shelf

theorem Rd.past {base N : Nat} {w w' : World} {rb : Nat} {a : Option Addr} {n cap : Nat} {zs : List Int} {p : Nat} (h : Rd base w rb a n cap zs p) (hb : Below N w w') (hN : rb < N) : Rd base w' rb a n cap zs p :=
  ⟨h.lo, (hb.block rb hN).trans h.box, h.data.below (hb.mono (Nat.le_of_lt (Nat.lt_of_le_of_lt h.lo hN))), h.short⟩
theorem ownS_made2 (w : World) : OwnS w.heap.size (w.alloc (.cells #[] 9)) (.slice (some ⟨w.heap.size, 0, none⟩) 0 0) [] :=
  World.ownsRow_made w #[] 0 (Nat.le_refl _) (Nat.zero_le _) rfl
theorem OwnS.kept {base : Nat} {w w' : World} {v : Value} {zs : List ByteArray} (h : OwnS base w v zs) {rb : Nat} (hg : w.grownBy w' (some rb)) (hr : rb < base) : OwnS base w' v zs :=
  World.ownsRow.kept h hg (by
    cases hv : v.ownBlock with
    | none => exact .inl rfl
    | some k => exact .inr fun e => by have := (h.lt k hv).1; cases e; omega)

theorem StrsIn.taken {w : World} {g n : Nat} {zs : List ByteArray} (h : StrsIn w (some ⟨g, 0, none⟩) g n zs) (k : Nat) (hk : k ≤ n) : StrsIn w (some ⟨g, 0, none⟩) g k (zs.take k) :=
  ⟨by rw [List.length_take, h.len]; omega, fun _ => rfl, h.blk, fun i hi => by rw [List.getElem_take]; exact h.cells i (by rw [List.length_take] at hi; omega), fun s hs => h.small s (List.mem_of_mem_take hs)⟩
theorem StrsIn.at_ {w : World} {g n : Nat} {zs : List ByteArray} (h : StrsIn w (some ⟨g, 0, none⟩) g n zs) : StrsAt w (some ⟨g, 0, none⟩) zs :=
  ⟨fun _ => ⟨_, rfl, h.blk, fun i hi => by
    have e : (⟨g, 0, none⟩ : Addr).add i = ⟨g, i, none⟩ := by unfold Addr.add; split <;> simp_all
    rw [e]; exact h.cells i hi⟩, h.small⟩
theorem strsIn_abcd (w : World) : StrsIn (w.alloc (.cells #[.string { data := #[97] }, .string { data := #[98] }, .string { data := #[99] }, .string { data := #[100] }] 9)) (some ⟨w.heap.size, 0, none⟩) w.heap.size 4 abcd :=
  ⟨rfl, fun _ => rfl, by simp, fun j hj => by
    have hj4 : j < 4 := hj
    rcases (show j = 0 ∨ j = 1 ∨ j = 2 ∨ j = 3 by omega) with rfl | rfl | rfl | rfl <;> exact (World.cell?_alloc_at _ _ _ _ (by simp)).trans rfl, by
    have : ∀ s ∈ abcd, s.size = 1 := by decide
    intro s hs
    rw [this s hs]; unfold maxLen; omega⟩

/-- Few texts that lie in a block of the call's own. -/
def FourS (base : Nat) (w' : World) (v : Value) : Prop := ∃ g c n zs, v = .slice (some ⟨g, 0, none⟩) n c ∧ base ≤ g ∧ StrsIn w' (some ⟨g, 0, none⟩) g n zs ∧ n ≤ 4 ∧ ∀ z ∈ zs, z.size ≤ 4

theorem _root_.Go.World.grownBy.past {w w1 w2 : World} {rb N : Nat} (hg : w.grownBy w1 (some rb)) (hb : Below N w1 w2) (hN : w.heap.size ≤ N := by omega) : w.grownBy w2 (some rb) :=
  ⟨hb.os.trans hg.os, hb.tape.trans hg.tape, hb.output.trans hg.output, Nat.le_trans hg.size hb.size, fun k hk hne => (hb.block k (by omega)).trans (hg.block k hk hne)⟩
theorem FourS.mono {b1 b2 : Nat} {w : World} {v : Value} (h : FourS b1 w v) (hb : b2 ≤ b1) : FourS b2 w v := by
  obtain ⟨g, c, n, ts, rfl, h1, h2⟩ := h
  exact ⟨g, c, n, ts, rfl, Nat.le_trans hb h1, h2⟩

end Go.Proofs.Ytocklmiappppgaa

/- The contracts of the model's draws of polynomials. -/

namespace Go.Proofs.Ytocklmiappppgaa
open Go.RowKit Go.Shelf

/-- A small polynomial of the draw's own, seldom none. -/
structure SmallP (base : Nat) (w : World) (low : Int) (v : Value) (zs : List Int) : Prop where
  row : IntRow base w v zs
  len : zs.length ≤ 4
  lo : -10 ≤ low ∧ low ≤ 10
  cs : ∀ i, -4 ≤ zs.getD i 0 ∧ zs.getD i 0 ≤ 4
theorem SmallP.below {base : Nat} {w w' : World} {low : Int} {v : Value} {zs : List Int} (h : SmallP base w low v zs) (hb : Below w.heap.size w w') : SmallP base w' low v zs := ⟨rowPast h.row hb, h.len, h.lo, h.cs⟩
theorem SmallP.grown {base B : Nat} {w w' : World} {low : Int} {v : Value} {zs : List Int} (h : SmallP base w low v zs) (hg : w.grownBy w' (some B)) (hB : B < base) : SmallP base w' low v zs := by
  refine ⟨?_, h.len, h.lo, h.cs⟩
  have hr := h.row
  unfold IntRow at hr ⊢
  refine hr.kept hg ?_
  cases e : v.ownBlock with
  | none => exact .inl rfl
  | some j => exact .inr fun e2 => by have := own_ge hr j e; simp only [Option.some.injEq] at e2; omega
theorem SmallP.mono {b1 b2 : Nat} {w : World} {low : Int} {v : Value} {zs : List Int} (h : SmallP b1 w low v zs) (hb : b2 ≤ b1) : SmallP b2 w low v zs := ⟨h.row.mono hb, h.len, h.lo, h.cs⟩
theorem SmallP.pin {base : Nat} {w : World} {low : Int} {v : Value} {zs : List Int} (h : SmallP base w low v zs) : ∃ a c, v = .slice a zs.length c ∧ PIn w a zs.length c zs := by
  obtain ⟨a, c, rfl, hc, hi⟩ := h.row.readc (fun z hz => by
    obtain ⟨i, hi, rfl⟩ := List.mem_iff_getElem.1 hz
    have := h.cs i
    rw [List.getD_eq_getElem?_getD, List.getElem?_eq_getElem hi] at this
    have : -4 ≤ zs[i] ∧ zs[i] ≤ 4 := this
    omega)
  exact ⟨a, c, rfl, hi, hc⟩
theorem tidy_small {low : Int} {l : List Int} (hl : l.length ≤ 4) (hlo : -3 ≤ low ∧ low ≤ 3) (hc : ∀ i, -4 ≤ l.getD i 0 ∧ l.getD i 0 ≤ 4) : (tidyP low l).cs.length ≤ 4 ∧ (-10 ≤ (tidyP low l).low ∧ (tidyP low l).low ≤ 10) ∧ ∀ i, -4 ≤ (tidyP low l).cs.getD i 0 ∧ (tidyP low l).cs.getD i 0 ≤ 4 := by
  have h1 := tidy_len low l
  have h2 := zfrom_le l
  refine ⟨by omega, ?_, fun i => ?_⟩
  · unfold tidyP
    split
    · show -10 ≤ (0 : Int) ∧ (0 : Int) ≤ 10; omega
    · show -10 ≤ low + (zfrom l : Int) ∧ low + (zfrom l : Int) ≤ 10; omega
  · rw [← pat_at (tidyP low l) i, tidy_pat]
    unfold pat
    split
    · exact hc _
    · omega
theorem snoc_small {l : List Int} {z : Int} (hc : ∀ i, -4 ≤ l.getD i 0 ∧ l.getD i 0 ≤ 4) (hz : -4 ≤ z ∧ z ≤ 4) : ∀ i, -4 ≤ (l ++ [z]).getD i 0 ∧ (l ++ [z]).getD i 0 ≤ 4 := fun i => by
  by_cases h : i < l.length
  · rw [List.getD_eq_getElem?_getD, List.getElem?_append_left h, ← List.getD_eq_getElem?_getD]; exact hc i
  · by_cases h2 : i = l.length
    · subst h2
      rw [List.getD_eq_getElem?_getD, List.getElem?_append_right (Nat.le_refl _), Nat.sub_self]
      exact hz
    · rw [getD_far (by simp; omega)]; omega
theorem set_small {l : List Int} (hc : ∀ i, -4 ≤ l.getD i 0 ∧ l.getD i 0 ≤ 4) : ∀ i, -4 ≤ (l.set 0 0).getD i 0 ∧ (l.set 0 0).getD i 0 ≤ 4 := fun i => by
  rw [List.getD_eq_getElem?_getD, List.getElem?_set]
  split
  · split
    · simp
    · simp
  · rw [← List.getD_eq_getElem?_getD]; exact hc i

theorem l92_close {base rb n cap p q b : Nat} {a : Option Addr} {zs : List Int} {w V : World} {ql : Int} {v : Value} {qc : List Int} (hrb : rb < w.heap.size) (hrow : IntRow b V v qc) (hb : w.heap.size < b) (hlo : base ≤ rb) (hlen : qc.length ≤ 4) (hl : -10 ≤ ql ∧ ql ≤ 10) (hc : ∀ i, -4 ≤ qc.getD i 0 ∧ qc.getD i 0 ≤ 4)
    (hR : Rd base V rb a n cap zs q) (hq : q ≤ p + 10) (hB : Below base w V) (hG : w.grownBy V (some rb)) :
    (∃ low v' cs, Ending.returned (plV ql v) = .returned (plV low v') ∧ SmallP w.heap.size ((V.setCell ⟨w.heap.size, 0, none⟩ (.int .i64 ql)).setCell ⟨w.heap.size, 1, none⟩ v) low v' cs) ∧ (∃ p', p' ≤ p + 10 ∧ Rd base ((V.setCell ⟨w.heap.size, 0, none⟩ (.int .i64 ql)).setCell ⟨w.heap.size, 1, none⟩ v) rb a n cap zs p') ∧ Below base w ((V.setCell ⟨w.heap.size, 0, none⟩ (.int .i64 ql)).setCell ⟨w.heap.size, 1, none⟩ v) ∧ w.grownBy ((V.setCell ⟨w.heap.size, 0, none⟩ (.int .i64 ql)).setCell ⟨w.heap.size, 1, none⟩ v) (some rb) := by
  have hs : Below w.heap.size V ((V.setCell ⟨w.heap.size, 0, none⟩ (.int .i64 ql)).setCell ⟨w.heap.size, 1, none⟩ v) := ((Below.refl w.heap.size V).setCell (p := ⟨w.heap.size, 0, none⟩) (Nat.le_refl _) _).setCell (p := ⟨w.heap.size, 1, none⟩) (Nat.le_refl _) _
  refine ⟨⟨ql, v, qc, rfl, (row_others hrow fun j e => ?_).mono (by omega), hlen, hl, hc⟩, ⟨q, hq, hR.past hs (by omega)⟩, hB.trans (hs.mono (by omega)), hG.past hs (Nat.le_refl _)⟩
  have := own_ge hrow j e
  omega

set_option maxRecDepth 100000 in
set_option maxHeartbeats 3000000 in
theorem l92Poly_any (base rb : Nat) (a : Option Addr) (n cap : Nat) (zs : List Int) (p : Nat) (w : World) (h : Rd base w rb a n cap zs p) (hp : p ≤ 80000) :
    Calls Try.prog 65 #[.pointer (some ⟨rb, 0, none⟩)] w fun e w' => (∃ low v cs, e = .returned (plV low v) ∧ SmallP w.heap.size w' low v cs) ∧ (∃ p', p' ≤ p + 10 ∧ Rd base w' rb a n cap zs p') ∧ Below base w w' ∧ w.grownBy w' (some rb) := by
  obtain ⟨i0, hi, hz0, hz1, hz2⟩ := info_parts infoInt
  have hlo := h.lo
  have hrl := h.lt
  obtain ⟨X1, hX1⟩ : ∃ X, w.alloc (.cells #[.int .i64 0, .slice none 0 0] 25) = X := ⟨_, rfl⟩
  obtain ⟨W, hW⟩ : ∃ X, X1.alloc (.cells #[] 3) = X := ⟨_, rfl⟩
  have s1 : X1.heap.size = w.heap.size + 1 := by rw [← hX1]; simp
  have s2 : W.heap.size = w.heap.size + 2 := by rw [← hW]; simp [s1]
  have b1 : Below w.heap.size w X1 := by rw [← hX1]; exact (Below.refl _ w).alloc (Nat.le_refl _) _
  have b2 : Below X1.heap.size X1 W := by rw [← hW]; exact (Below.refl _ _).alloc (Nat.le_refl _) _
  have bW : Below w.heap.size w W := b1.trans (b2.mono (by omega))
  have hF0 : BoxF W w.heap.size (.int .i64 0) (.slice none 0 0) := (BoxF.new hX1).below b2
  have hO0 : W.ownsRow (w.heap.size + 1) 3 1 (.slice (some ⟨w.heap.size + 1, 0, none⟩) 0 0) 0 (intsV []) := by
    have h := made_at X1 (w.heap.size + 1) s1 (w.heap.size + 1) (Nat.le_refl _)
    rwa [hW] at h
  have H := Lib.hid (h.below bW)
  have HBA := Lib.hid bW
  have HF0 := Lib.hid hF0
  have HO0 := Lib.hid hO0
  have hWW : (w.alloc (.cells #[.int .i64 0, .slice none 0 0] 25)).alloc (.cells #[] 3) = W := by rw [hX1, hW]
  have HWW := Lib.hid hWW
  have HS2 := Lib.hid s2
  clear h hX1 hW s1 b1 b2 bW hF0 hO0 hWW s2
  go_enter Try.func65, Try.ntmps65
  go_wp2_with fail
  rw [HWW.out]
  refine (pick_any base rb a n cap zs p 5 W H.out (by omega) (by omega) (by omega)).mono ?_
  rintro e w1 ⟨⟨N, rfl, hN⟩, hR1, hB1, hG1⟩
  have hs2 := HS2.out
  have HO1 : Hid (w1.ownsRow (w.heap.size + 1) 3 1 (.slice (some ⟨w.heap.size + 1, 0, none⟩) 0 0) 0 (intsV [])) := Lib.hid (HO0.out.kept hG1 (.inr (by simp [Value.ownBlock]; omega)))
  have HF1 := Lib.hid (HF0.out.grown hG1 (by simp; omega))
  have HR1 := Lib.hid hR1
  have HB1 := Lib.hid ((HBA.out.mono (by omega)).trans hB1)
  have HG1 := Lib.hid ((grownAny_of_below HBA.out (some rb)).trans hG1)
  have hs1 : w.heap.size + 1 < w1.heap.size := by have := hG1.size; omega
  clear hR1 hB1 hG1
  go_wp2_with fail
  go_loopw [3, 5] (fun v i wr => ∃ (k q : Nat) (cs : List Int), k ≤ N ∧ i = .int .i64 (k : Int) ∧ q ≤ p + 1 + k ∧ Hid (cs.length = k ∧ (∀ i, -4 ≤ cs.getD i 0 ∧ cs.getD i 0 ≤ 4) ∧ wr.ownsRow (w.heap.size + 1) 3 1 v k (intsV cs) ∧ BoxF wr w.heap.size (.int .i64 0) (.slice none 0 0) ∧ Rd base wr rb a n cap zs q ∧ Below base w wr ∧ w.grownBy wr (some rb)) ∧ w.heap.size + 1 < wr.heap.size) (fun _ i _ => N - (intOf i).toNat)
  case atStart => exact ⟨0, p + 1, [], Nat.zero_le _, rfl, by omega, Lib.hid ⟨rfl, fun i => by simp, HO1.out, HF1.out, HR1.out, HB1.out, HG1.out⟩, hs1⟩
  case round =>
    obtain ⟨k, q, cs, hk, rfl, hq, HH, hsz⟩ := hrel
    by_cases hlt : k < N
    · have hli : (k : Int) < (N : Int) := by omega
      go_wp2_with fail
      refine (pick_any base rb a n cap zs q 9 wr HH.out.2.2.2.2.1 (by omega) (by omega) (by omega)).mono ?_
      rintro e w4 ⟨⟨z, rfl, hz⟩, hR4, hB4, hG4⟩
      obtain ⟨h1, h2, h3, h4, h5, h6, h7⟩ := HH.out
      have ho4 : w4.ownsRow (w.heap.size + 1) 3 1 u3 k (intsV cs) := h3.kept hG4 (.inr fun e => by have := own_ge h3 rb e; omega)
      have HO4 := Lib.hid (ho4.alloc (.cells #[.int .i64 ((z : Int) - 4)] 3))
      have HOG := Lib.hid (own_ge ho4)
      have HF4 := Lib.hid (h4.grown hG4 (by simp; omega))
      have HR4 := Lib.hid hR4
      have HB4 := Lib.hid (h6.trans hB4)
      have HG4 := Lib.hid (h7.trans hG4)
      have hs4 := hG4.size
      have HL := Lib.hid h1
      have HC := Lib.hid h2
      have e1 : IntKind.i64.wrap ((z : Int) - 4) = (z : Int) - 4 := IntWalk.i64_in _ (by omega)
      have HNB := Lib.hid (World.news_of_block (cs := #[.int .i64 ((z : Int) - 4)]) (t := 3) (fr := (0, 0)) (World.alloc_heap_new w4 (.cells #[.int .i64 ((z : Int) - 4)] 3)))
      clear hR4 hB4 hG4 h1 h2 h3 h4 h5 h6 h7 ho4
      go_wp2_with (at_builtin; refine wpList_append_own _ rfl _ _ 23 rfl (w.heap.size + 1) 3 i0 (.int .i64 0) 1 8 Try.underlying23 hi hz0 hz1 hz2 rfl (by decide) _ k _ rfl HO4.out ⟨w4.heap.size, 0, none⟩ 1 1 [.int .i64 ((z : Int) - 4)] rfl rfl HNB.out (fun u hu => by simp at hu; rcases hu with rfl; rfl) (by unfold maxLen; omega) (by omega) (by simp; omega) ?_; intro v1 w7 hrow hgrow hnil)
      have hB57 : Below (w.heap.size + 1) w4 w7 := ((Below.refl (w.heap.size + 1) w4).alloc (by omega) _).grown hgrow (by simp; omega) (fun j e => HOG.out j e)
      have hs7 := hB57.size
      refine ⟨⟨k + 1, q + 1, cs ++ [(z : Int) - 4], by omega, by go_num, by omega, Lib.hid ⟨by rw [List.length_append, HL.out]; rfl, snoc_small HC.out (by omega), ?_, HF4.out.grown (grownTrans (World.grownBy_alloc w4 _ _) hgrow) (fun e => by have := HOG.out _ e.symm; omega), HR4.out.past hB57 (by omega), HB4.out.trans (hB57.mono (by omega)), HG4.out.past hB57⟩, by omega⟩, by simp [intOf]; omega⟩
      have h := hrow
      unfold intsV at h ⊢
      rw [List.map_append]
      exact h
    · obtain rfl : k = N := by omega
      go_wp2_with fail
      refine (pick_any base rb a n cap zs q 7 wr HH.out.2.2.2.2.1 (by omega) (by omega) (by omega)).mono ?_
      rintro e w4 ⟨⟨z, rfl, hz⟩, hR4, hB4, hG4⟩
      obtain ⟨h1, h2, h3, h4, h5, h6, h7⟩ := HH.out
      have ho4 : w4.ownsRow (w.heap.size + 1) 3 1 u3 k (intsV cs) := h3.kept hG4 (.inr fun e => by have := own_ge h3 rb e; omega)
      have hrow : IntRow (w.heap.size + 1) w4 u3 cs := rowI ho4 h1
      obtain ⟨a6, c6, rfl, hc6, hi6⟩ := hrow.readc (fun z hz => by
        obtain ⟨i, hi, rfl⟩ := List.mem_iff_getElem.1 hz
        have := h2 i
        rw [List.getD_eq_getElem?_getD, List.getElem?_eq_getElem hi] at this
        have : -4 ≤ cs[i] ∧ cs[i] ≤ 4 := this
        omega)
      rw [h1] at hi6 hc6 ⊢
      have HF4 := Lib.hid (h4.grown hG4 (by simp; omega))
      have HR4 := Lib.hid hR4
      have HB4 := Lib.hid (h6.trans hB4)
      have HG4 := Lib.hid (h7.trans hG4)
      have hs4 := hG4.size
      obtain ⟨t1, t2, t3⟩ := tidy_small (low := (z : Int) - 3) (l := cs) (by omega) (by omega) h2
      have e1 : IntKind.i64.wrap ((z : Int) - 3) = (z : Int) - 3 := IntWalk.i64_in _ (by omega)
      have HTI := Lib.hid (l6pTidy_any ((z : Int) - 3) cs a6 c6 k w4 hi6 hc6 (by omega) (by omega) (by omega))
      obtain ⟨Q, hQ⟩ : ∃ Q, tidyP ((z : Int) - 3) cs = Q := ⟨_, rfl⟩
      rw [hQ] at HTI t1 t2 t3
      have HT2 := Lib.hid t2
      have HT3 := Lib.hid t3
      clear hR4 hB4 hG4 h1 h2 h3 h4 h5 h6 h7 ho4 hrow hi6 hQ t2 t3
      go_wp2_with fail
      refine HTI.out.mono ?_
      rintro e w5 ⟨⟨v, rfl, hr5⟩, hb5⟩
      obtain ⟨ql, qc⟩ := Q
      obtain ⟨m, hm⟩ : ∃ m, qc.length = m := ⟨_, rfl⟩
      have hsh := hr5.shape
      obtain ⟨a7, g7, c7, rfl, hg7, _⟩ := hsh
      have hs5 := hb5.size
      rw [show (⟨ql, qc⟩ : Pl).low = ql from rfl, show (⟨ql, qc⟩ : Pl).cs.length = m from hm]
      have hg7 : 0 < m → a7 = some ⟨g7, 0, none⟩ ∧ w4.heap.size ≤ g7 ∧ g7 < w5.heap.size := fun h => hg7 (by show 0 < qc.length; rw [hm]; exact h)
      have hr5 : w5.ownsRow w4.heap.size 3 1 (.slice a7 m c7) m (intsV qc) := by
        have h := hr5
        unfold IntRow at h
        rw [show (⟨ql, qc⟩ : Pl).cs.length = m from hm] at h
        exact h
      obtain ⟨V, hV⟩ : ∃ V, w5.alloc (.cells #[.int .i64 ql, .slice a7 m c7] 25) = V := ⟨_, rfl⟩
      have hbV : Below w5.heap.size w5 V := by rw [← hV]; exact (Below.refl _ _).alloc (Nat.le_refl _) _
      have hb4V : Below w4.heap.size w4 V := hb5.trans (hbV.mono hs5)
      have HBX := Lib.hid (BoxF.new hV)
      have HRW := Lib.hid (rowPast hr5 hbV)
      have HFV := Lib.hid (HF4.out.below hb4V)
      have HRV := Lib.hid (HR4.out.below hb4V)
      have HBV := Lib.hid (HB4.out.trans (hb4V.mono (by omega)))
      have HGV := Lib.hid (HG4.out.trans (grownAny_of_below hb4V _))
      have hsV := hb4V.size
      have hp := HBX.out
      rw [← hV] at hp
      obtain ⟨_, q0, q1, _, _⟩ := hp
      have HV := Lib.hid hV
      have HM := Lib.hid hm
      have hm4 : m ≤ 4 := by rw [← hm]; exact t1
      have hw5 : w5.heap.size < V.heap.size := by rw [← hV]; simp
      clear hr5 hb5 hV hbV hb4V hm t1
      by_cases hm0 : m = 0
      · subst hm0
        have hd : decide ((0 : Int) < ((0 : Nat) : Int)) = false := rfl
        obtain ⟨_, e0, e1, f0, f1⟩ := HFV.out
        have d0 := e0
        have d1 := e1
        rw [← HV.out] at d0 d1 f0 f1
        clear hg7
        go_wp2_with fail
        rw [HV.out]
        clear d0 d1
        refine bodyPost_ret (v := plV ql (.slice a7 0 c7)) ?_ rfl (l92_close (b := w4.heap.size) hrl (rowI HRW.out HM.out) (by omega) hlo (by rw [HM.out]; omega) HT2.out HT3.out HRV.out (by omega) HBV.out HGV.out)
        simp [results, Try.results65, go_sem, e0, e1, plV]
      · have hd : decide ((0 : Int) < (m : Int)) = true := decide_eq_true (by omega)
        have hdi : (0 : Int) < (m : Int) := by omega
        obtain ⟨rfl, hga, hgb⟩ := hg7 (by omega)
        clear hg7
        go_wp2_with fail
        rw [HV.out]
        refine (pick_any base rb a n cap zs (q + 1) 30 V HRV.out (by omega) (by omega) (by omega)).mono ?_
        rintro e w6 ⟨⟨z3, rfl, hz3⟩, hR6, hB6, hG6⟩
        have HBX6 := Lib.hid (HBX.out.grown hG6 (by simp; omega))
        have HF6 := Lib.hid (HFV.out.grown hG6 (by simp; omega))
        have HRW6 := Lib.hid (HRW.out.kept hG6 (.inr fun e => by have := own_ge HRW.out rb e; omega))
        have HR6 := Lib.hid hR6
        have HB6 := Lib.hid (HBV.out.trans hB6)
        have HG6 := Lib.hid (HGV.out.trans hG6)
        have hs6 := hG6.size
        clear hR6 hB6 hG6 q0 q1
        obtain ⟨_, q0, q1, _, _⟩ := HBX6.out
        obtain ⟨_, e0, e1, f0, f1⟩ := HF6.out
        by_cases hz0 : z3 = 0
        · subst hz0
          obtain ⟨zc, hzc⟩ : ∃ z, qc[0]? = some z := by
            have : 0 < qc.length := by rw [HM.out]; omega
            exact ⟨_, List.getElem?_eq_getElem this⟩
          have ec : w6.cell? ⟨g7, 0, none⟩ = some (.int .i64 zc) := by
            rw [HRW6.out.cellAt 0 (by omega)]
            simp [intsV, hzc]
          have ef := HRW6.out.frozenAt 0
          have hst := (HRW6.out.stored 0 (.int .i64 0))
          obtain ⟨U, hU⟩ : ∃ U, w6.setCell ⟨g7, 0, none⟩ (.int .i64 0) = U := ⟨_, rfl⟩
          rw [hU] at hst
          obtain ⟨hs1', hs2'⟩ := hst
          have HRU : Hid (U.ownsRow w4.heap.size 3 1 (.slice (some ⟨g7, 0, none⟩) m c7) m (intsV (qc.set 0 0))) := Lib.hid (by
            have h := hs1'
            unfold intsV at h ⊢
            rw [List.map_set]
            exact h)
          have hbU : Below w4.heap.size w6 U := by rw [← hU]; exact (Below.refl w4.heap.size w6).setCell (p := ⟨g7, 0, none⟩) hga _
          have HFU := Lib.hid (HF6.out.grown hs2' (by simp; omega))
          have HBXU := Lib.hid (HBX6.out.grown hs2' (by simp; omega))
          have HRdU := Lib.hid (HR6.out.past hbU (by omega))
          have HBU := Lib.hid (HB6.out.trans (hbU.mono (by omega)))
          have HGU := Lib.hid (HG6.out.past hbU (by omega))
          obtain ⟨_, x0, x1, _, _⟩ := HBXU.out
          obtain ⟨_, y0, y1, y2, y3⟩ := HFU.out
          have z0 := y0
          have z1 := y1
          rw [← hU] at x0 x1 y0 y1 y2 y3
          have HU := Lib.hid hU
          clear hU hs1' hs2' hbU hzc e0 e1 f0 f1
          go_wp2_with fail
          rw [HU.out]
          clear y0 y1
          refine bodyPost_ret (v := plV ql (.slice (some ⟨g7, 0, none⟩) m c7)) ?_ rfl (l92_close (b := w4.heap.size) hrl (rowI HRU.out (by rw [List.length_set]; exact HM.out)) (by omega) hlo (by rw [List.length_set, HM.out]; omega) HT2.out (set_small HT3.out) HRdU.out (by omega) HBU.out HGU.out)
          simp [results, Try.results65, go_sem, z0, z1, plV]
        · have hzi : ((z3 : Int) == 0) = false := by simpa using hz0
          have hzn : ¬ (z3 : Int) = 0 := by omega
          go_wp2_with fail
          refine bodyPost_ret (v := plV ql (.slice (some ⟨g7, 0, none⟩) m c7)) ?_ rfl (l92_close (b := w4.heap.size) hrl (rowI HRW6.out HM.out) (by omega) hlo (by rw [HM.out]; omega) HT2.out HT3.out HR6.out (by omega) HB6.out HG6.out)
          simp [results, Try.results65, go_sem, e0, e1, plV]

end Go.Proofs.Ytocklmiappppgaa

/- The contracts of the model's draws of two polynomials. -/

namespace Go.Proofs.Ytocklmiappppgaa
open Go.RowKit Go.Shelf

theorem BsAt.more {b1 b2 : Nat} {w : World} {a : Option Addr} {n cap : Nat} {zs : List Int} (h : BsAt b1 w a n cap zs) (hb : b1 ≤ b2) : BsAt b2 w a n cap zs :=
  ⟨h.len, h.fit, fun h0 => by obtain ⟨x, e, hx, hc⟩ := h.at_ h0; exact ⟨x, e, by omega, hc⟩, h.byte⟩
theorem SmallP.others {b B : Nat} {w : World} {low : Int} {v : Value} {zs : List Int} (x y : Value) (h : SmallP b w low v zs) (hB : B < b) : SmallP b ((w.setCell ⟨B, 0, none⟩ x).setCell ⟨B, 1, none⟩ y) low v zs := h.grown (grown_cells w B x y) hB
/-- Two answers' cells. -/
theorem resTwo {w W w1 : World} (hW : (w.alloc (.cells #[.int .i64 0, .slice none 0 0] 25)).alloc (.cells #[.int .i64 0, .slice none 0 0] 25) = W) (hb : Below W.heap.size W w1) :
    BoxF w1 w.heap.size (.int .i64 0) (.slice none 0 0) ∧ BoxF w1 (w.heap.size + 1) (.int .i64 0) (.slice none 0 0) := by
  obtain ⟨X, hX⟩ : ∃ X, w.alloc (.cells #[.int .i64 0, .slice none 0 0] 25) = X := ⟨_, rfl⟩
  rw [hX] at hW
  have hs : X.heap.size = w.heap.size + 1 := by rw [← hX]; simp
  have h2 := BoxF.new hW
  rw [hs] at h2
  have hbX : Below X.heap.size X W := by rw [← hW]; exact (Below.refl _ _).alloc (Nat.le_refl _) _
  exact ⟨((BoxF.new hX).below hbX).below hb, h2.below hb⟩
theorem resTwoBelow {w W : World} (hW : (w.alloc (.cells #[.int .i64 0, .slice none 0 0] 25)).alloc (.cells #[.int .i64 0, .slice none 0 0] 25) = W) : Below w.heap.size w W ∧ W.heap.size = w.heap.size + 2 := by
  subst hW
  exact ⟨((Below.refl _ w).alloc (Nat.le_refl _) _).alloc (by simp) _, by simp⟩
theorem setTwoBelow {b r : Nat} {w w1 : World} (x y u v : Value) (h : Below b w w1) (hb : b ≤ r) : Below b w ((((w1.setCell ⟨r, 0, none⟩ x).setCell ⟨r, 1, none⟩ y).setCell ⟨r + 1, 0, none⟩ u).setCell ⟨r + 1, 1, none⟩ v) :=
  (((h.setCell (p := ⟨r, 0, none⟩) hb x).setCell (p := ⟨r, 1, none⟩) hb y).setCell (p := ⟨r + 1, 0, none⟩) (Nat.le_succ_of_le hb) u).setCell (p := ⟨r + 1, 1, none⟩) (Nat.le_succ_of_le hb) v
/-- What a draw of two polynomials comes to. -/
def TwoP (w : World) (e : Ending) (w' : World) : Prop := (∃ l1 v1 x l2 v2 y, e = .returned (.tuple #[plV l1 v1, plV l2 v2]) ∧ SmallP w.heap.size w' l1 v1 x ∧ SmallP w.heap.size w' l2 v2 y) ∧ Below w.heap.size w w'

set_option maxRecDepth 100000 in
set_option maxHeartbeats 3000000 in
theorem l92Two_any (a : Option Addr) (n cap : Nat) (zs : List Int) (w : World) (h : BsAt w.heap.size w a n cap zs) :
    Calls Try.prog 77 #[.slice a n cap] w (TwoP w) := by
  obtain ⟨W, hW⟩ : ∃ W, (w.alloc (.cells #[.int .i64 0, .slice none 0 0] 25)).alloc (.cells #[.int .i64 0, .slice none 0 0] 25) = W := ⟨_, rfl⟩
  obtain ⟨hbW, hsz⟩ := resTwoBelow hW
  have HO := Lib.hid (open_any a n cap zs W ((h.below hbW).more hbW.size))
  have HC : Hid (∀ w1, Below W.heap.size W w1 → _) := Lib.hid fun w1 (hg : Below W.heap.size W w1) => resTwo hW hg
  have HBW := Lib.hid hbW
  have HW := Lib.hid hW
  have HSZ := Lib.hid hsz
  clear h hW hbW hsz
  go_enter Try.func77, Try.ntmps77
  go_wp2_with fail
  rw [HW.out]
  refine HO.out.mono ?_
  rintro e w1 ⟨n', zs', rfl, hR1, hB1⟩
  have HR1 := Lib.hid hR1
  have HB1 := Lib.hid hB1
  have hs1 := hB1.size
  have hr1 := hR1.lt
  clear hR1 hB1
  go_wp2_with fail
  refine (l92Poly_any W.heap.size W.heap.size a n' cap zs' 0 w1 HR1.out (by omega)).mono ?_
  rintro e w2 ⟨⟨l1, v1, x, rfl, hS1⟩, ⟨p2, hp2, hR2⟩, hB2, hG2⟩
  obtain ⟨g1, d1, rfl, hi1⟩ := hS1.pin
  obtain ⟨m1, hm1⟩ : ∃ m, x.length = m := ⟨_, rfl⟩
  rw [hm1] at hS1 ⊢
  obtain ⟨V, hV⟩ : ∃ V, w2.alloc (.cells #[.int .i64 l1, .slice g1 m1 d1] 25) = V := ⟨_, rfl⟩
  have hbV : Below w2.heap.size w2 V := by rw [← hV]; exact (Below.refl _ _).alloc (Nat.le_refl _) _
  have hs2 := hG2.size
  have HX := Lib.hid (BoxF.new hV)
  have HSV := Lib.hid (hS1.below hbV)
  have HRV := Lib.hid (hR2.below hbV)
  have HBV := Lib.hid ((HB1.out.trans hB2).trans (hbV.mono (by omega)))
  have hsV := hbV.size
  have hsV2 : V.heap.size = w2.heap.size + 1 := by rw [← hV]; simp
  have HV := Lib.hid hV
  have HSV2 := Lib.hid hsV2
  clear hS1 hi1 hm1 hR2 hB2 hG2 hbV hV hsV2
  go_upto_region 3 with fail
  rw [HV.out]
  have hss0 := HSZ.out
  obtain ⟨n1, n2, n3, n4, n5, n6⟩ := two_ahead (show w.heap.size + 1 < w2.heap.size by omega)
  clear hss0
  obtain ⟨_, k0, k1, _, _⟩ := HX.out
  obtain ⟨⟨_, d0, d1', f0, f1⟩, ⟨_, e0, e1, g0, g1'⟩⟩ := HC.out V HBV.out
  go_region_held3 (fun w' : World => w'.cell? ⟨w2.heap.size, 0, none⟩ = some (.int .i64 l1) ∧ w'.cell? ⟨w2.heap.size, 1, none⟩ = some (.slice g1 m1 d1)) (first | go_keep | exact ⟨k0, k1⟩)
    (first
      | (go_at_call 65
         refine (l92Poly_any W.heap.size W.heap.size a n' cap zs' p2 _ (HRV.out.below (Below.refl _ _).drew) (by omega)).mono ?_
         rintro e w3 ⟨⟨l2, v2, y, rfl, hS2⟩, _, hB3, hG3⟩
         obtain ⟨g2, d2, rfl, hi2⟩ := hS2.pin
         obtain ⟨m2, hm2⟩ : ∃ m, y.length = m := ⟨_, rfl⟩
         rw [hm2] at hS2 ⊢
         have hgV : V.grownBy w3 (some W.heap.size) := grownTrans (grownBelow _ (Below.refl V.heap.size V).drew) hG3
         have hS2 : SmallP V.heap.size w3 l2 (.slice g2 m2 d2) y := hS2
         have HS2 := Lib.hid hS2
         have HS1 := Lib.hid (HSV.out.grown hgV (by omega))
         have HB3 := Lib.hid (HBV.out.drew.trans hB3)
         have hs3 := hgV.size
         obtain ⟨_, k0, k1, _, _⟩ := HX.out.grown hgV (by simp; omega)
         obtain ⟨⟨_, d0, d1', f0, f1⟩, ⟨_, e0, e1, g0, g1'⟩⟩ := HC.out w3 HB3.out
         clear hS2 hi2 hm2 hB3 hG3 hgV))
  all_goals
    go_wp2
    have hss := HSZ.out
    have hss2 := HSV2.out
    refine bodyPost_ret (v := .tuple #[plV l1 (.slice g1 m1 d1), plV l2 (.slice g2 m2 d2)]) ?_ rfl ⟨⟨l1, _, x, l2, _, y, rfl, ((HS1.out.others (B := w.heap.size) _ _ (by omega)).others (B := w.heap.size + 1) _ _ (by omega)).mono (by omega), ((HS2.out.others (B := w.heap.size) _ _ (by omega)).others (B := w.heap.size + 1) _ _ (by omega)).mono (by omega)⟩, setTwoBelow _ _ _ _ (HBW.out.trans (HB3.out.mono HBW.out.size)) (Nat.le_refl _)⟩
    simp [results, Try.results77, go_sem, d0, d1', e0, e1, plV]

end Go.Proofs.Ytocklmiappppgaa

/- The contracts of DrawPolyTimes and DrawPolyOver. -/

namespace Go.Proofs.Ytocklmiappppgaa
open Go.RowKit Go.Shelf

set_option maxRecDepth 100000 in
set_option maxHeartbeats 2000000 in
theorem drawPolyTimes_any (a : Option Addr) (n cap : Nat) (zs : List Int) (w : World) (h : BsAt w.heap.size w a n cap zs) :
    Calls Try.prog 35 #[.slice a n cap] w (TwoP w) := by
  obtain ⟨W, hW⟩ : ∃ W, (w.alloc (.cells #[.int .i64 0, .slice none 0 0] 25)).alloc (.cells #[.int .i64 0, .slice none 0 0] 25) = W := ⟨_, rfl⟩
  obtain ⟨hbW, hsz⟩ := resTwoBelow hW
  have HO := Lib.hid (l92Two_any a n cap zs W ((h.below hbW).more hbW.size))
  have HC : Hid (∀ w1, Below W.heap.size W w1 → _) := Lib.hid fun w1 (hg : Below W.heap.size W w1) => resTwo hW hg
  have HBW := Lib.hid hbW
  have HW := Lib.hid hW
  have HSZ := Lib.hid hsz
  clear h hW hbW hsz
  go_enter Try.func35, Try.ntmps35
  go_wp2_with fail
  rw [HW.out]
  refine HO.out.mono ?_
  rintro e w1 ⟨⟨l1, v1, x, l2, v2, y, rfl, hS1, hS2⟩, hB1⟩
  obtain ⟨g1, d1, rfl, hi1⟩ := hS1.pin
  obtain ⟨g2, d2, rfl, hi2⟩ := hS2.pin
  obtain ⟨m1, hm1⟩ : ∃ m, x.length = m := ⟨_, rfl⟩
  obtain ⟨m2, hm2⟩ : ∃ m, y.length = m := ⟨_, rfl⟩
  rw [hm1] at hS1 ⊢
  rw [hm2] at hS2 ⊢
  have HS1 := Lib.hid hS1
  have HS2 := Lib.hid hS2
  have HB1 := Lib.hid (HBW.out.trans (hB1.mono HBW.out.size))
  obtain ⟨⟨_, d0, d1', f0, f1⟩, ⟨_, e0, e1, g0, g1'⟩⟩ := HC.out w1 hB1
  clear hS1 hS2 hi1 hi2 hm1 hm2 hB1
  go_wp2
  have hss := HSZ.out
  refine bodyPost_ret (v := .tuple #[plV l1 (.slice g1 m1 d1), plV l2 (.slice g2 m2 d2)]) ?_ rfl ⟨⟨l1, _, x, l2, _, y, rfl, ((HS1.out.others (B := w.heap.size) _ _ (by omega)).others (B := w.heap.size + 1) _ _ (by omega)).mono (by omega), ((HS2.out.others (B := w.heap.size) _ _ (by omega)).others (B := w.heap.size + 1) _ _ (by omega)).mono (by omega)⟩, setTwoBelow _ _ _ _ HB1.out (Nat.le_refl _)⟩
  simp [results, Try.results35, go_sem, d0, d1', e0, e1, plV]

/-- A row of the draw's own. -/
structure AnyP (b : Nat) (w : World) (v : Value) (zs : List Int) : Prop where
  row : IntRow b w v zs
  wf : ∀ z ∈ zs, -9223372036854775808 ≤ z ∧ z ≤ 9223372036854775807
theorem SmallP.any {b : Nat} {w : World} {low : Int} {v : Value} {zs : List Int} (h : SmallP b w low v zs) : AnyP b w v zs := ⟨h.row, fun z hz => by
    obtain ⟨i, hi, rfl⟩ := List.mem_iff_getElem.1 hz
    have := h.cs i
    rw [List.getD_eq_getElem?_getD, List.getElem?_eq_getElem hi] at this
    have : -4 ≤ zs[i] ∧ zs[i] ≤ 4 := this
    omega⟩
theorem AnyP.below {b : Nat} {w w' : World} {v : Value} {zs : List Int} (h : AnyP b w v zs) (hb : Below w.heap.size w w') : AnyP b w' v zs := ⟨rowPast h.row hb, h.wf⟩
theorem AnyP.grown {b B : Nat} {w w' : World} {v : Value} {zs : List Int} (h : AnyP b w v zs) (hg : w.grownBy w' (some B)) (hB : B < b) : AnyP b w' v zs := by
  refine ⟨?_, h.wf⟩
  have hr := h.row
  unfold IntRow at hr ⊢
  refine hr.kept hg ?_
  cases e : v.ownBlock with
  | none => exact .inl rfl
  | some j => exact .inr fun e2 => by have := own_ge hr j e; simp only [Option.some.injEq] at e2; omega
theorem AnyP.others {b B : Nat} {w : World} {v : Value} {zs : List Int} (x y : Value) (h : AnyP b w v zs) (hB : B < b) : AnyP b ((w.setCell ⟨B, 0, none⟩ x).setCell ⟨B, 1, none⟩ y) v zs := h.grown (grown_cells w B x y) hB
theorem AnyP.pin {b : Nat} {w : World} {v : Value} {zs : List Int} (h : AnyP b w v zs) : ∃ a c, v = .slice a zs.length c ∧ PIn w a zs.length c zs := by
  obtain ⟨a, c, rfl, hc, hi⟩ := h.row.readc h.wf
  exact ⟨a, c, rfl, hi, hc⟩
theorem AnyP.pin_at {b m : Nat} {w : World} {a : Option Addr} {c : Nat} {zs : List Int} (h : AnyP b w (.slice a m c) zs) : PIn w a m c zs := by
  obtain ⟨a', c', e, hp⟩ := h.pin
  simp only [Value.slice.injEq] at e
  obtain ⟨rfl, rfl, rfl⟩ := e
  exact hp
/-- What a draw of two polynomials comes to, of whatever size. -/
def TwoAny (w : World) (e : Ending) (w' : World) : Prop := (∃ l1 a1 m1 d1 x l2 a2 m2 d2 y, e = .returned (.tuple #[plV l1 (.slice a1 m1 d1), plV l2 (.slice a2 m2 d2)]) ∧ PIn w' a1 m1 d1 x ∧ PIn w' a2 m2 d2 y) ∧ Below w.heap.size w w'

set_option maxRecDepth 100000 in
set_option maxHeartbeats 3000000 in
theorem drawPolyOver_any (a : Option Addr) (n cap : Nat) (zs : List Int) (w : World) (h : BsAt w.heap.size w a n cap zs) :
    Calls Try.prog 47 #[.slice a n cap] w (TwoAny w) := by
  obtain ⟨W, hW⟩ : ∃ W, (w.alloc (.cells #[.int .i64 0, .slice none 0 0] 25)).alloc (.cells #[.int .i64 0, .slice none 0 0] 25) = W := ⟨_, rfl⟩
  obtain ⟨hbW, hsz⟩ := resTwoBelow hW
  have HO := Lib.hid (open_any a n cap zs W ((h.below hbW).more hbW.size))
  have HC : Hid (∀ w1, Below W.heap.size W w1 → _) := Lib.hid fun w1 (hg : Below W.heap.size W w1) => resTwo hW hg
  have HBW := Lib.hid hbW
  have HW := Lib.hid hW
  have HSZ := Lib.hid hsz
  clear h hW hbW hsz
  go_enter Try.func47, Try.ntmps47
  go_wp2_with fail
  rw [HW.out]
  refine HO.out.mono ?_
  rintro e w1 ⟨n', zs', rfl, hR1, hB1⟩
  have HR1 := Lib.hid hR1
  have HB1 := Lib.hid hB1
  have hs1 := hB1.size
  have hr1 := hR1.lt
  clear hR1 hB1
  go_wp2_with fail
  refine (l92Poly_any W.heap.size W.heap.size a n' cap zs' 0 w1 HR1.out (by omega)).mono ?_
  rintro e w2 ⟨⟨l1, v1, x, rfl, hS1⟩, ⟨p2, hp2, hR2⟩, hB2, hG2⟩
  obtain ⟨g1, d1, rfl, hi1⟩ := hS1.pin
  obtain ⟨m1, hm1⟩ : ∃ m, x.length = m := ⟨_, rfl⟩
  rw [hm1] at hS1 ⊢
  obtain ⟨V, hV⟩ : ∃ V, w2.alloc (.cells #[.int .i64 l1, .slice g1 m1 d1] 25) = V := ⟨_, rfl⟩
  have hbV : Below w2.heap.size w2 V := by rw [← hV]; exact (Below.refl _ _).alloc (Nat.le_refl _) _
  have hs2 := hG2.size
  have HX := Lib.hid (BoxF.new hV)
  have HSV := Lib.hid ((hS1.below hbV).any)
  have HRV := Lib.hid (hR2.below hbV)
  have HBV := Lib.hid ((HB1.out.trans hB2).trans (hbV.mono (by omega)))
  have hsV := hbV.size
  have hsV2 : V.heap.size = w2.heap.size + 1 := by rw [← hV]; simp
  have HV := Lib.hid hV
  have HSV2 := Lib.hid hsV2
  clear hS1 hi1 hm1 hR2 hB2 hG2 hbV hV hsV2
  go_wp2_with fail
  rw [HV.out]
  refine (l92Poly_any W.heap.size W.heap.size a n' cap zs' p2 V HRV.out (by omega)).mono ?_
  rintro e w3 ⟨⟨l2, v2, y, rfl, hS2⟩, ⟨p3, hp3, hR3⟩, hB3, hG3⟩
  obtain ⟨g2, d2, rfl, hi2⟩ := hS2.pin
  obtain ⟨m2, hm2⟩ : ∃ m, y.length = m := ⟨_, rfl⟩
  rw [hm2] at hS2 ⊢
  have hss2 := HSV2.out
  obtain ⟨U, hU⟩ : ∃ U, w3.alloc (.cells #[.int .i64 l2, .slice g2 m2 d2] 25) = U := ⟨_, rfl⟩
  have hbU : Below w3.heap.size w3 U := by rw [← hU]; exact (Below.refl _ _).alloc (Nat.le_refl _) _
  have hs3 := hG3.size
  have HX1 := Lib.hid ((HX.out.grown hG3 (by simp; omega)).below hbU)
  have HX2 := Lib.hid (BoxF.new hU)
  have HA1 := Lib.hid ((HSV.out.grown hG3 (by omega)).below hbU)
  have HA2 := Lib.hid ((hS2.below hbU).any)
  have HRU := Lib.hid (hR3.below hbU)
  have HBU := Lib.hid ((HBV.out.trans hB3).trans (hbU.mono (by omega)))
  have hsU2 : U.heap.size = w3.heap.size + 1 := by rw [← hU]; simp
  have HSU2 := Lib.hid hsU2
  have HU := Lib.hid hU
  obtain ⟨_, k0, k1, _, _⟩ := HX1.out
  obtain ⟨_, k2, k3, _, _⟩ := HX2.out
  rw [← hU] at k0 k1 k2 k3
  obtain ⟨t, ht⟩ : ∃ t, timesPB ⟨l1, x⟩ ⟨l2, y⟩ = t := ⟨_, rfl⟩
  obtain ⟨P, hP⟩ : ∃ P, doneP t (prodP ⟨l1, x⟩ ⟨l2, y⟩) = P := ⟨_, rfl⟩
  have hwf : ∀ z ∈ P.cs, -9223372036854775808 ≤ z ∧ z ≤ 9223372036854775807 := doneP_mem (fun e => by rw [e] at ht; unfold timesPB at ht; simp only [Bool.and_eq_true] at ht; exact ht.2.2) hP
  have hcall := sPolyTimes_any l1 l2 x y g1 g2 d1 d2 m1 m2 _ _ t U HA1.out.pin_at.is HA2.out.pin_at.is rfl rfl ht
  rw [hP] at hcall
  have HCALL := Lib.hid hcall
  have HWF := Lib.hid hwf
  clear hS2 hi2 hm2 hR3 hB3 hG3 hbU hU hsU2 ht hP hwf hcall hss2
  go_wp2_with fail
  rw [HU.out]
  clear k0 k1 k2 k3
  refine HCALL.out.mono ?_
  rintro e w4 ⟨⟨v, rfl, hr4⟩, hb4⟩
  have hA3 : AnyP U.heap.size w4 v P.cs := ⟨hr4, HWF.out⟩
  obtain ⟨g3, d3, rfl, hi3⟩ := hA3.pin
  obtain ⟨m3, hm3⟩ : ∃ m, P.cs.length = m := ⟨_, rfl⟩
  obtain ⟨pl, hpl⟩ : ∃ l, P.low = l := ⟨_, rfl⟩
  rw [hm3] at hA3 ⊢
  rw [hpl]
  obtain ⟨T, hT⟩ : ∃ T, w4.alloc (.cells #[.int .i64 pl, .slice g3 m3 d3] 25) = T := ⟨_, rfl⟩
  have hbT : Below w4.heap.size w4 T := by rw [← hT]; exact (Below.refl _ _).alloc (Nat.le_refl _) _
  have hb4T : Below U.heap.size U T := hb4.trans (hbT.mono hb4.size)
  have HY1 := Lib.hid (HX1.out.below hb4T)
  have HY2 := Lib.hid (HX2.out.below hb4T)
  have HY3 := Lib.hid (BoxF.new hT)
  have HD1 := Lib.hid (HA1.out.below hb4T)
  have HD2 := Lib.hid (HA2.out.below hb4T)
  have HD3 := Lib.hid (hA3.below hbT)
  have HRT := Lib.hid (HRU.out.below hb4T)
  have hsU := HBU.out.size
  have HBT := Lib.hid (HBU.out.trans (hb4T.mono hsU))
  have hs4 := hb4.size
  have hsT := hbT.size
  have HT := Lib.hid hT
  clear hr4 hA3 hi3 hm3 hpl hbT hb4T hT hb4
  have hUs := HSU2.out
  have hVs := HSV2.out
  have hWs := HSZ.out
  have hbig : w.heap.size + 1 < w2.heap.size := by omega
  have hbig3 : w.heap.size + 1 < w3.heap.size := by omega
  have hbig4 : w.heap.size + 1 < w4.heap.size := by omega
  have hx1 : w2.heap.size < w3.heap.size := by omega
  have hx2 : w3.heap.size < w4.heap.size := by omega
  clear hUs hVs hWs
  obtain ⟨⟨_, r0, r1, f0, f1⟩, ⟨_, e0, e1, g0, g1'⟩⟩ := HC.out T HBT.out
  obtain ⟨_, k0, k1, _, _⟩ := HY1.out
  obtain ⟨_, k2, k3, _, _⟩ := HY2.out
  obtain ⟨_, k4, k5, _, _⟩ := HY3.out
  obtain ⟨n1, n2, n3, n4, n5, n6⟩ := two_ahead hbig
  obtain ⟨q1, q2, q3, q4, q5, q6⟩ := two_ahead hbig3
  obtain ⟨o1, o2, o3, o4, o5, o6⟩ := two_ahead hbig4
  cases t with
  | false =>
    rw [← HT.out] at k0 k1 k2 k3 k4 k5 r0 r1 f0 f1 e0 e1 g0 g1'
    go_upto_region 7 with fail
    rw [HT.out] at k0 k1 k2 k3 k4 k5 r0 r1 f0 f1 e0 e1 g0 g1' ⊢
    go_region_held3 (fun w' : World => w'.cell? ⟨w2.heap.size, 0, none⟩ = some (.int .i64 l1) ∧ w'.cell? ⟨w2.heap.size, 1, none⟩ = some (.slice g1 m1 d1) ∧ w'.cell? ⟨w3.heap.size, 0, none⟩ = some (.int .i64 l2) ∧ w'.cell? ⟨w3.heap.size, 1, none⟩ = some (.slice g2 m2 d2)) (first | go_keep | exact ⟨k0, k1, k2, k3⟩) (fail)
    all_goals
      go_wp2
      have hUs := HSU2.out
      have hVs := HSV2.out
      have hWs := HSZ.out
      refine bodyPost_ret (v := .tuple #[plV l1 (.slice g1 m1 d1), plV l2 (.slice g2 m2 d2)]) ?_ rfl ⟨⟨l1, g1, m1, d1, x, l2, g2, m2, d2, y, rfl, ((HD1.out.others (B := w.heap.size) _ _ (by omega)).others (B := w.heap.size + 1) _ _ (by omega)).pin_at.below (Below.refl _ _).drew, ((HD2.out.others (B := w.heap.size) _ _ (by omega)).others (B := w.heap.size + 1) _ _ (by omega)).pin_at.below (Below.refl _ _).drew⟩, (setTwoBelow _ _ _ _ (HBW.out.trans (HBT.out.mono HBW.out.size)) (Nat.le_refl _)).drew⟩
      simp [results, Try.results47, go_sem, r0, r1, e0, e1, plV]
  | true =>
    rw [← HT.out] at k0 k1 k2 k3 k4 k5 r0 r1 f0 f1 e0 e1 g0 g1'
    go_wp2_with fail
    rw [HT.out]
    clear k0 k1 k2 k3 k4 k5 r0 r1 f0 f1 e0 e1 g0 g1'
    refine (pick_any W.heap.size W.heap.size a n' cap zs' p3 3 T HRT.out (by omega) (by omega) (by omega)).mono ?_
    rintro e w6 ⟨⟨z3, rfl, hz3⟩, _, hB6, hG6⟩
    have hUs := HSU2.out
    have hVs := HSV2.out
    have hWs := HSZ.out
    have HZ1 := Lib.hid (HY1.out.grown hG6 (by simp; omega))
    have HZ2 := Lib.hid (HY2.out.grown hG6 (by simp; omega))
    have HZ3 := Lib.hid (HY3.out.grown hG6 (by simp; omega))
    have HE1 := Lib.hid (HD1.out.grown hG6 (by omega))
    have HE2 := Lib.hid (HD2.out.grown hG6 (by omega))
    have HE3 := Lib.hid (HD3.out.grown hG6 (by omega))
    have HB6 := Lib.hid (HBT.out.trans hB6)
    have hs6 := hG6.size
    clear hB6 hG6 hUs hVs hWs
    obtain ⟨⟨_, r0, r1, f0, f1⟩, ⟨_, e0, e1, g0, g1'⟩⟩ := HC.out w6 HB6.out
    obtain ⟨_, k0, k1, _, _⟩ := HZ1.out
    obtain ⟨_, k2, k3, _, _⟩ := HZ2.out
    obtain ⟨_, k4, k5, _, _⟩ := HZ3.out
    by_cases hz : z3 = 0
    · subst hz
      have hd : decide ((0 : Int) < ((0 : Nat) : Int)) = false := rfl
      go_upto_region 7 with fail
      go_region_held3 (fun w' : World => w'.cell? ⟨w2.heap.size, 0, none⟩ = some (.int .i64 l1) ∧ w'.cell? ⟨w2.heap.size, 1, none⟩ = some (.slice g1 m1 d1) ∧ w'.cell? ⟨w3.heap.size, 0, none⟩ = some (.int .i64 l2) ∧ w'.cell? ⟨w3.heap.size, 1, none⟩ = some (.slice g2 m2 d2)) (first | go_keep | exact ⟨k0, k1, k2, k3⟩) (fail)
      all_goals
        go_wp2
        have hUs := HSU2.out
        have hVs := HSV2.out
        have hWs := HSZ.out
        refine bodyPost_ret (v := .tuple #[plV l1 (.slice g1 m1 d1), plV l2 (.slice g2 m2 d2)]) ?_ rfl ⟨⟨l1, g1, m1, d1, x, l2, g2, m2, d2, y, rfl, ((HE1.out.others (B := w.heap.size) _ _ (by omega)).others (B := w.heap.size + 1) _ _ (by omega)).pin_at.below (Below.refl _ _).drew, ((HE2.out.others (B := w.heap.size) _ _ (by omega)).others (B := w.heap.size + 1) _ _ (by omega)).pin_at.below (Below.refl _ _).drew⟩, (setTwoBelow _ _ _ _ (HBW.out.trans (HB6.out.mono HBW.out.size)) (Nat.le_refl _)).drew⟩
        simp [results, Try.results47, go_sem, r0, r1, e0, e1, plV]
    · have hd : decide ((0 : Int) < (z3 : Int)) = true := decide_eq_true (by omega)
      go_upto_region 6 with fail
      go_region_held3 (fun w' : World => w'.cell? ⟨w4.heap.size, 0, none⟩ = some (.int .i64 pl) ∧ w'.cell? ⟨w4.heap.size, 1, none⟩ = some (.slice g3 m3 d3) ∧ w'.cell? ⟨w3.heap.size, 0, none⟩ = some (.int .i64 l2) ∧ w'.cell? ⟨w3.heap.size, 1, none⟩ = some (.slice g2 m2 d2)) (first | go_keep | exact ⟨k4, k5, k2, k3⟩) (fail)
      all_goals
        go_wp2
        have hUs := HSU2.out
        have hVs := HSV2.out
        have hWs := HSZ.out
        refine bodyPost_ret (v := .tuple #[plV pl (.slice g3 m3 d3), plV l2 (.slice g2 m2 d2)]) ?_ rfl ⟨⟨pl, g3, m3, d3, P.cs, l2, g2, m2, d2, y, rfl, ((HE3.out.others (B := w.heap.size) _ _ (by omega)).others (B := w.heap.size + 1) _ _ (by omega)).pin_at.below (Below.refl _ _).drew, ((HE2.out.others (B := w.heap.size) _ _ (by omega)).others (B := w.heap.size + 1) _ _ (by omega)).pin_at.below (Below.refl _ _).drew⟩, (setTwoBelow _ _ _ _ (HBW.out.trans (HB6.out.mono HBW.out.size)) (Nat.le_refl _)).drew⟩
        simp [results, Try.results47, go_sem, r0, r1, e0, e1, plV]

end Go.Proofs.Ytocklmiappppgaa

/- Products and quotients as functions answer them (mathematics). -/

namespace Go.Proofs.Ytocklmiappppgaa
open Go.RowKit

theorem times_true {a b : Pl} (h : timesPB a b = true) : polyB a = true ∧ polyB b = true ∧ polyB (prodP a b) = true ∧ timesP a b = prodP a b := by
  have h' := h
  unfold timesPB at h
  simp only [Bool.and_eq_true] at h
  refine ⟨h.1, h.2.1, h.2.2, ?_⟩
  unfold timesP
  rw [h']
  rfl
theorem times_comm (a b : Pl) : timesPB b a = timesPB a b ∧ timesP b a = timesP a b := by
  have e : timesPB b a = timesPB a b := by
    unfold timesPB
    rw [prod_comm b a]
    cases polyB a <;> cases polyB b <;> rfl
  refine ⟨e, ?_⟩
  unfold timesP
  rw [e, prod_comm b a]
theorem over_times {a b : Pl} (h : timesPB a b = true) (h0 : 0 < b.cs.length) (hxa : ∀ i, -4 ≤ a.cs.getD i 0 ∧ a.cs.getD i 0 ≤ 4) (hxb : ∀ i, -4 ≤ b.cs.getD i 0 ∧ b.cs.getD i 0 ≤ 4) (hl : a.cs.length ≤ 1000) : dividedB (timesP a b) b = true ∧ dividedP (timesP a b) b = a := by
  obtain ⟨h1, h2, h3, h4⟩ := times_true h
  rw [h4]
  have e := over_prod (polyB_trim h1).1 (polyB_trim h2).1 h0 hxa hxb hl
  obtain ⟨e1, e2⟩ := over_some e
  have hb : dividedB (prodP a b) b = true := by
    unfold dividedB
    rw [h3, h2, decide_eq_true h0, e1, h1]
    rfl
  refine ⟨hb, ?_⟩
  rw [(divided_over hb h3 h2 h0).2, e2, h1]
  rfl
theorem times_over {a b : Pl} (h : dividedB a b = true) : timesPB (dividedP a b) b = true ∧ timesP (dividedP a b) b = a := by
  have h' := h
  unfold dividedB at h
  simp only [Bool.and_eq_true, decide_eq_true_eq] at h
  obtain ⟨h1, h2, h0, h3⟩ := h
  have hp : dividedP a b = overP a b := (divided_over h' h1 h2 h0).2
  cases e : overQ a b with
  | none => rw [(over_none e).1] at h3; exact absurd h3 (by decide)
  | some p =>
    obtain ⟨e1, e2⟩ := over_some e
    rw [e1] at h3
    have ep : dividedP a b = p := by rw [hp, e2, h3]; rfl
    have hm := over_back (polyB_trim h1).1 h0 e
    rw [ep]
    have hb : timesPB p b = true := by
      unfold timesPB
      rw [h3, h2, hm, h1]
      rfl
    exact ⟨hb, by rw [(times_true hb).2.2.2, hm]⟩

end Go.Proofs.Ytocklmiappppgaa

/- The contracts of the model's draws of one polynomial, and of DrawPolyAdd. -/

namespace Go.Proofs.Ytocklmiappppgaa
open Go.RowKit Go.Shelf

/-- What a draw of a polynomial comes to. -/
def OneP (w : World) (e : Ending) (w' : World) : Prop := (∃ l v x, e = .returned (plV l v) ∧ SmallP w.heap.size w' l v x) ∧ Below w.heap.size w w'

set_option maxRecDepth 100000 in
set_option maxHeartbeats 2000000 in
theorem drawPolyIn_any (a : Option Addr) (n cap : Nat) (zs : List Int) (w : World) (h : BsAt w.heap.size w a n cap zs) :
    Calls Try.prog 23 #[.slice a n cap] w (OneP w) := by
  obtain ⟨W, hW⟩ : ∃ W, w.alloc (.cells #[.int .i64 0, .slice none 0 0] 25) = W := ⟨_, rfl⟩
  have hbW : Below w.heap.size w W := by rw [← hW]; exact (Below.refl _ w).alloc (Nat.le_refl _) _
  have hsz : W.heap.size = w.heap.size + 1 := by rw [← hW]; simp
  have HO := Lib.hid (open_any a n cap zs W ((h.below hbW).more hbW.size))
  have HF := Lib.hid (BoxF.new hW)
  have HBW := Lib.hid hbW
  have HW := Lib.hid hW
  have HSZ := Lib.hid hsz
  clear h hW hbW hsz
  go_enter Try.func23, Try.ntmps23
  go_wp2_with fail
  rw [HW.out]
  refine HO.out.mono ?_
  rintro e w1 ⟨n', zs', rfl, hR1, hB1⟩
  have HR1 := Lib.hid hR1
  have HB1 := Lib.hid hB1
  have hr1 := hR1.lt
  clear hR1 hB1
  go_wp2_with fail
  refine (l92Poly_any W.heap.size W.heap.size a n' cap zs' 0 w1 HR1.out (by omega)).mono ?_
  rintro e w2 ⟨⟨l1, v1, x, rfl, hS1⟩, _, hB2, _⟩
  obtain ⟨g1, d1, rfl, hi1⟩ := hS1.pin
  obtain ⟨m1, hm1⟩ : ∃ m, x.length = m := ⟨_, rfl⟩
  rw [hm1] at hS1 ⊢
  have HS1 := Lib.hid hS1
  have HB2 := Lib.hid (HB1.out.trans hB2)
  obtain ⟨_, d0, d1', f0, f1⟩ := HF.out.below HB2.out
  clear hS1 hi1 hm1 hB2
  go_wp2
  have hss := HSZ.out
  refine bodyPost_ret (v := plV l1 (.slice g1 m1 d1)) ?_ rfl ⟨⟨l1, _, x, rfl, (HS1.out.others (B := w.heap.size) _ _ (by omega)).mono (by omega)⟩, resBelow _ _ (HBW.out.trans (HB2.out.mono HBW.out.size))⟩
  simp [results, Try.results23, go_sem, d0, d1', plV]

set_option maxRecDepth 100000 in
set_option maxHeartbeats 2000000 in
theorem drawPolyTurned_any (a : Option Addr) (n cap : Nat) (zs : List Int) (w : World) (h : BsAt w.heap.size w a n cap zs) :
    Calls Try.prog 38 #[.slice a n cap] w (OneP w) := by
  obtain ⟨W, hW⟩ : ∃ W, w.alloc (.cells #[.int .i64 0, .slice none 0 0] 25) = W := ⟨_, rfl⟩
  have hbW : Below w.heap.size w W := by rw [← hW]; exact (Below.refl _ w).alloc (Nat.le_refl _) _
  have hsz : W.heap.size = w.heap.size + 1 := by rw [← hW]; simp
  have HO := Lib.hid (open_any a n cap zs W ((h.below hbW).more hbW.size))
  have HF := Lib.hid (BoxF.new hW)
  have HBW := Lib.hid hbW
  have HW := Lib.hid hW
  have HSZ := Lib.hid hsz
  clear h hW hbW hsz
  go_enter Try.func38, Try.ntmps38
  go_wp2_with fail
  rw [HW.out]
  refine HO.out.mono ?_
  rintro e w1 ⟨n', zs', rfl, hR1, hB1⟩
  have HR1 := Lib.hid hR1
  have HB1 := Lib.hid hB1
  have hr1 := hR1.lt
  clear hR1 hB1
  go_wp2_with fail
  refine (l92Poly_any W.heap.size W.heap.size a n' cap zs' 0 w1 HR1.out (by omega)).mono ?_
  rintro e w2 ⟨⟨l1, v1, x, rfl, hS1⟩, _, hB2, _⟩
  obtain ⟨g1, d1, rfl, hi1⟩ := hS1.pin
  obtain ⟨m1, hm1⟩ : ∃ m, x.length = m := ⟨_, rfl⟩
  rw [hm1] at hS1 ⊢
  have HS1 := Lib.hid hS1
  have HB2 := Lib.hid (HB1.out.trans hB2)
  obtain ⟨_, d0, d1', f0, f1⟩ := HF.out.below HB2.out
  clear hS1 hi1 hm1 hB2
  go_wp2
  have hss := HSZ.out
  refine bodyPost_ret (v := plV l1 (.slice g1 m1 d1)) ?_ rfl ⟨⟨l1, _, x, rfl, (HS1.out.others (B := w.heap.size) _ _ (by omega)).mono (by omega)⟩, resBelow _ _ (HBW.out.trans (HB2.out.mono HBW.out.size))⟩
  simp [results, Try.results38, go_sem, d0, d1', plV]

set_option maxRecDepth 100000 in
set_option maxHeartbeats 2000000 in
theorem drawPolyPlain_any (a : Option Addr) (n cap : Nat) (zs : List Int) (w : World) (h : BsAt w.heap.size w a n cap zs) :
    Calls Try.prog 41 #[.slice a n cap] w (OneP w) := by
  obtain ⟨W, hW⟩ : ∃ W, w.alloc (.cells #[.int .i64 0, .slice none 0 0] 25) = W := ⟨_, rfl⟩
  have hbW : Below w.heap.size w W := by rw [← hW]; exact (Below.refl _ w).alloc (Nat.le_refl _) _
  have hsz : W.heap.size = w.heap.size + 1 := by rw [← hW]; simp
  have HO := Lib.hid (open_any a n cap zs W ((h.below hbW).more hbW.size))
  have HF := Lib.hid (BoxF.new hW)
  have HBW := Lib.hid hbW
  have HW := Lib.hid hW
  have HSZ := Lib.hid hsz
  clear h hW hbW hsz
  go_enter Try.func41, Try.ntmps41
  go_wp2_with fail
  rw [HW.out]
  refine HO.out.mono ?_
  rintro e w1 ⟨n', zs', rfl, hR1, hB1⟩
  have HR1 := Lib.hid hR1
  have HB1 := Lib.hid hB1
  have hr1 := hR1.lt
  clear hR1 hB1
  go_wp2_with fail
  refine (l92Poly_any W.heap.size W.heap.size a n' cap zs' 0 w1 HR1.out (by omega)).mono ?_
  rintro e w2 ⟨⟨l1, v1, x, rfl, hS1⟩, _, hB2, _⟩
  obtain ⟨g1, d1, rfl, hi1⟩ := hS1.pin
  obtain ⟨m1, hm1⟩ : ∃ m, x.length = m := ⟨_, rfl⟩
  rw [hm1] at hS1 ⊢
  have HS1 := Lib.hid hS1
  have HB2 := Lib.hid (HB1.out.trans hB2)
  obtain ⟨_, d0, d1', f0, f1⟩ := HF.out.below HB2.out
  clear hS1 hi1 hm1 hB2
  go_wp2
  have hss := HSZ.out
  refine bodyPost_ret (v := plV l1 (.slice g1 m1 d1)) ?_ rfl ⟨⟨l1, _, x, rfl, (HS1.out.others (B := w.heap.size) _ _ (by omega)).mono (by omega)⟩, resBelow _ _ (HBW.out.trans (HB2.out.mono HBW.out.size))⟩
  simp [results, Try.results41, go_sem, d0, d1', plV]

set_option maxRecDepth 100000 in
set_option maxHeartbeats 2000000 in
theorem drawPolyOne_any (a : Option Addr) (n cap : Nat) (zs : List Int) (w : World) (h : BsAt w.heap.size w a n cap zs) :
    Calls Try.prog 45 #[.slice a n cap] w (OneP w) := by
  obtain ⟨W, hW⟩ : ∃ W, w.alloc (.cells #[.int .i64 0, .slice none 0 0] 25) = W := ⟨_, rfl⟩
  have hbW : Below w.heap.size w W := by rw [← hW]; exact (Below.refl _ w).alloc (Nat.le_refl _) _
  have hsz : W.heap.size = w.heap.size + 1 := by rw [← hW]; simp
  have HO := Lib.hid (open_any a n cap zs W ((h.below hbW).more hbW.size))
  have HF := Lib.hid (BoxF.new hW)
  have HBW := Lib.hid hbW
  have HW := Lib.hid hW
  have HSZ := Lib.hid hsz
  clear h hW hbW hsz
  go_enter Try.func45, Try.ntmps45
  go_wp2_with fail
  rw [HW.out]
  refine HO.out.mono ?_
  rintro e w1 ⟨n', zs', rfl, hR1, hB1⟩
  have HR1 := Lib.hid hR1
  have HB1 := Lib.hid hB1
  have hr1 := hR1.lt
  clear hR1 hB1
  go_wp2_with fail
  refine (l92Poly_any W.heap.size W.heap.size a n' cap zs' 0 w1 HR1.out (by omega)).mono ?_
  rintro e w2 ⟨⟨l1, v1, x, rfl, hS1⟩, _, hB2, _⟩
  obtain ⟨g1, d1, rfl, hi1⟩ := hS1.pin
  obtain ⟨m1, hm1⟩ : ∃ m, x.length = m := ⟨_, rfl⟩
  rw [hm1] at hS1 ⊢
  have HS1 := Lib.hid hS1
  have HB2 := Lib.hid (HB1.out.trans hB2)
  obtain ⟨_, d0, d1', f0, f1⟩ := HF.out.below HB2.out
  clear hS1 hi1 hm1 hB2
  go_wp2
  have hss := HSZ.out
  refine bodyPost_ret (v := plV l1 (.slice g1 m1 d1)) ?_ rfl ⟨⟨l1, _, x, rfl, (HS1.out.others (B := w.heap.size) _ _ (by omega)).mono (by omega)⟩, resBelow _ _ (HBW.out.trans (HB2.out.mono HBW.out.size))⟩
  simp [results, Try.results45, go_sem, d0, d1', plV]

set_option maxRecDepth 100000 in
set_option maxHeartbeats 2000000 in
theorem drawPolyAdd_any (a : Option Addr) (n cap : Nat) (zs : List Int) (w : World) (h : BsAt w.heap.size w a n cap zs) :
    Calls Try.prog 31 #[.slice a n cap] w (TwoP w) := by
  obtain ⟨W, hW⟩ : ∃ W, (w.alloc (.cells #[.int .i64 0, .slice none 0 0] 25)).alloc (.cells #[.int .i64 0, .slice none 0 0] 25) = W := ⟨_, rfl⟩
  obtain ⟨hbW, hsz⟩ := resTwoBelow hW
  have HO := Lib.hid (l92Two_any a n cap zs W ((h.below hbW).more hbW.size))
  have HC : Hid (∀ w1, Below W.heap.size W w1 → _) := Lib.hid fun w1 (hg : Below W.heap.size W w1) => resTwo hW hg
  have HBW := Lib.hid hbW
  have HW := Lib.hid hW
  have HSZ := Lib.hid hsz
  clear h hW hbW hsz
  go_enter Try.func31, Try.ntmps31
  go_wp2_with fail
  rw [HW.out]
  refine HO.out.mono ?_
  rintro e w1 ⟨⟨l1, v1, x, l2, v2, y, rfl, hS1, hS2⟩, hB1⟩
  obtain ⟨g1, d1, rfl, hi1⟩ := hS1.pin
  obtain ⟨g2, d2, rfl, hi2⟩ := hS2.pin
  obtain ⟨m1, hm1⟩ : ∃ m, x.length = m := ⟨_, rfl⟩
  obtain ⟨m2, hm2⟩ : ∃ m, y.length = m := ⟨_, rfl⟩
  rw [hm1] at hS1 ⊢
  rw [hm2] at hS2 ⊢
  have HS1 := Lib.hid hS1
  have HS2 := Lib.hid hS2
  have HB1 := Lib.hid (HBW.out.trans (hB1.mono HBW.out.size))
  obtain ⟨⟨_, d0, d1', f0, f1⟩, ⟨_, e0, e1, g0, g1'⟩⟩ := HC.out w1 hB1
  clear hS1 hS2 hi1 hi2 hm1 hm2 hB1
  go_wp2
  have hss := HSZ.out
  refine bodyPost_ret (v := .tuple #[plV l1 (.slice g1 m1 d1), plV l2 (.slice g2 m2 d2)]) ?_ rfl ⟨⟨l1, _, x, l2, _, y, rfl, ((HS1.out.others (B := w.heap.size) _ _ (by omega)).others (B := w.heap.size + 1) _ _ (by omega)).mono (by omega), ((HS2.out.others (B := w.heap.size) _ _ (by omega)).others (B := w.heap.size + 1) _ _ (by omega)).mono (by omega)⟩, setTwoBelow _ _ _ _ HB1.out (Nat.le_refl _)⟩
  simp [results, Try.results31, go_sem, d0, d1', e0, e1, plV]

end Go.Proofs.Ytocklmiappppgaa

/- Values at 1; turned, plain ones and sums again (mathematics). -/

namespace Go.Proofs.Ytocklmiappppgaa
open Go.RowKit

/-- The value with 1 in the place of t. -/
def valP (p : Pl) : Int := oneP p.cs p.cs.length
theorem oneP_sumN (l : List Int) : ∀ k, oneP l k = sumN (fun i => l.getD i 0) k
  | 0 => rfl
  | k + 1 => by rw [oneP, sumN, oneP_sumN l k]
theorem sumN_split (f : Nat → Int) (a : Nat) : ∀ b, sumN f (a + b) = sumN f a + sumN (fun i => f (a + i)) b
  | 0 => by rw [Nat.add_zero, sumN, Int.add_zero]
  | b + 1 => by rw [← Nat.add_assoc, sumN, sumN, sumN_split f a b]; omega
/-- A window that holds all coefficients. -/
theorem val_window (p : Pl) {lo : Int} {n : Nat} (h1 : lo ≤ p.low) (h2 : p.low + p.cs.length ≤ lo + n) : sumN (fun i => pat p (lo + (i : Int))) n = valP p := by
  obtain ⟨a, ha⟩ : ∃ a : Nat, p.low = lo + (a : Int) := ⟨(p.low - lo).toNat, by omega⟩
  obtain ⟨b, hb⟩ : ∃ b : Nat, n = a + b := ⟨n - a, by omega⟩
  subst hb
  rw [sumN_split, sumN_none fun i hi => pat_low p (by omega), Int.zero_add, sumN_cut (m := p.cs.length) (by omega) fun i h3 _ => pat_high p (by omega)]
  unfold valP
  rw [oneP_sumN]
  refine sumN_congr fun i _ => ?_
  rw [show lo + ((a + i : Nat) : Int) = p.low + (i : Int) by omega, pat_at]
theorem val_pat {p q : Pl} (h : ∀ k, pat p k = pat q k) : valP p = valP q := by
  obtain ⟨lo, h1, h2⟩ : ∃ lo : Int, lo ≤ p.low ∧ lo ≤ q.low := ⟨if p.low ≤ q.low then p.low else q.low, by split <;> omega, by split <;> omega⟩
  obtain ⟨n, h3, h4⟩ : ∃ n : Nat, p.low + p.cs.length ≤ lo + n ∧ q.low + q.cs.length ≤ lo + n := ⟨(p.low - lo).toNat + (q.low - lo).toNat + p.cs.length + q.cs.length, by omega, by omega⟩
  rw [← val_window p h1 h3, ← val_window q h2 h4]
  exact sumN_congr fun i _ => h _
theorem val_tidy (low : Int) (l : List Int) : valP (tidyP low l) = oneP l l.length := val_pat (q := ⟨low, l⟩) fun k => tidy_pat low l k
theorem val_sum (a b : Pl) : valP (sumP a 1 b) = valP a + valP b := by
  obtain ⟨lo, h1, h2, h5⟩ : ∃ lo : Int, lo ≤ a.low ∧ lo ≤ b.low ∧ lo ≤ (sumP a 1 b).low := ⟨-(a.low.natAbs : Int) - b.low.natAbs - (sumP a 1 b).low.natAbs, by omega, by omega, by omega⟩
  obtain ⟨n, h3, h4, h6⟩ : ∃ n : Nat, a.low + a.cs.length ≤ lo + n ∧ b.low + b.cs.length ≤ lo + n ∧ (sumP a 1 b).low + (sumP a 1 b).cs.length ≤ lo + n := ⟨(a.low - lo).toNat + (b.low - lo).toNat + ((sumP a 1 b).low - lo).toNat + a.cs.length + b.cs.length + (sumP a 1 b).cs.length, by omega, by omega, by omega⟩
  rw [← val_window a h1 h3, ← val_window b h2 h4, ← val_window _ h5 h6, ← sumN_add]
  refine sumN_congr fun i _ => ?_
  rw [sum_pat, Int.one_mul]
theorem val_prod (a b : Pl) : valP (prodP a b) = valP a * valP b := by
  obtain ⟨lo, h1, h2⟩ : ∃ lo : Int, lo ≤ (prodP a b).low ∧ lo ≤ a.low + b.low := ⟨-((prodP a b).low.natAbs : Int) - (a.low + b.low).natAbs, by omega, by omega⟩
  obtain ⟨n, h3, h4⟩ : ∃ n : Nat, (prodP a b).low + (prodP a b).cs.length ≤ lo + n ∧ a.low + b.low + a.cs.length + b.cs.length ≤ lo + n := ⟨((prodP a b).low - lo).toNat + (a.low + b.low - lo).toNat + (prodP a b).cs.length + a.cs.length + b.cs.length, by omega, by omega⟩
  rw [← val_window _ h1 h3]
  have e1 : sumN (fun i => pat (prodP a b) (lo + (i : Int))) n = sumN (fun i => sumN (fun m => a.cs.getD m 0 * pat b (lo + (i : Int) - (a.low + (m : Int)))) a.cs.length) n := sumN_congr fun i _ => prod_pat a b _
  rw [e1, sumN_swap]
  have e2 : sumN (fun m => sumN (fun i => a.cs.getD m 0 * pat b (lo + (i : Int) - (a.low + (m : Int)))) n) a.cs.length = sumN (fun m => valP b * a.cs.getD m 0) a.cs.length := sumN_congr fun m hm => by
    rw [sumN_mul, Int.mul_comm (valP b)]
    congr 1
    rw [← val_window b (lo := lo - (a.low + (m : Int))) (n := n) (by omega) (by omega)]
    exact sumN_congr fun i _ => by rw [show lo + (i : Int) - (a.low + (m : Int)) = lo - (a.low + (m : Int)) + (i : Int) by omega]
  rw [e2, sumN_mul, Int.mul_comm]
  congr 1
  unfold valP
  rw [oneP_sumN]
theorem oneP_far (l : List Int) : ∀ m, oneP l (l.length + m) = oneP l l.length
  | 0 => rfl
  | m + 1 => by rw [← Nat.add_assoc, oneP, oneP_far l m, getD_far (by omega), Int.add_zero]
theorem sumN_back (f : Nat → Int) : ∀ n, sumN (fun i => f (n - 1 - i)) n = sumN f n
  | 0 => rfl
  | n + 1 => by
    have h := sumN_split (fun i => f (n + 1 - 1 - i)) 1 n
    rw [Nat.add_comm 1 n] at h
    rw [h, sumN, sumN, sumN, ← sumN_back f n, Int.zero_add, show n + 1 - 1 - 0 = n by omega, Int.add_comm]
    congr 1
    exact sumN_congr fun i _ => by rw [show n + 1 - 1 - (1 + i) = n - 1 - i by omega]
theorem val_turn (a : Pl) : valP (turnP a) = valP a := by
  unfold turnP
  rw [val_tidy, List.length_reverse, oneP_sumN]
  unfold valP
  rw [oneP_sumN, ← sumN_back (fun i => a.cs.getD i 0)]
  refine sumN_congr fun i hi => ?_
  rw [List.getD_eq_getElem?_getD, List.getElem?_reverse hi, ← List.getD_eq_getElem?_getD]
theorem turnP_turnP {a : Pl} (h : Trim a) : turnP (turnP a) = a := trim_unique (tidy_trim _ _) h fun k => by rw [turn_pat, turn_pat, Int.neg_neg]
theorem val_bound {p : Pl} (h : polyB p = true) : -200000000000 ≤ valP p ∧ valP p ≤ 200000000000 := by
  obtain ⟨_, h1, _, _, h2⟩ := polyB_trim h
  have := oneP_bound (l := p.cs) h2 p.cs.length
  unfold valP
  omega
theorem turned_true {a : Pl} (h : turnedPB a = true) : polyB a = true ∧ turnedP a = turnP a ∧ polyB (turnP a) = true ∧ turnedPB (turnP a) = true ∧ turnedP (turnP a) = a := by
  have h' := h
  unfold turnedPB at h
  simp only [Bool.and_eq_true] at h
  have e : turnedPB (turnP a) = true := by
    unfold turnedPB
    rw [h.2, turnP_turnP (polyB_trim h.1).1, h.1]
    rfl
  refine ⟨h.1, ?_, h.2, e, ?_⟩
  · unfold turnedP; rw [h']; rfl
  · unfold turnedP; rw [e, turnP_turnP (polyB_trim h.1).1]; rfl
theorem sum_comm {a b : Pl} (ha : Trim a) (hb : Trim b) : sumP b 1 a = sumP a 1 b := trim_unique (sum_trim _ _ hb) (sum_trim _ _ ha) fun k => by rw [sum_pat, sum_pat]; omega
theorem add_true {a b : Pl} (h : addPB a b = true) : polyB a = true ∧ polyB b = true ∧ polyB (sumP a 1 b) = true ∧ addP a b = sumP a 1 b ∧ addPB b a = true ∧ addP b a = sumP a 1 b := by
  have h' := h
  unfold addPB at h
  simp only [Bool.and_eq_true] at h
  have e : addPB b a = true := by
    unfold addPB
    rw [h.1, h.2.1, sum_comm (polyB_trim h.1).1 (polyB_trim h.2.1).1, h.2.2]
    rfl
  refine ⟨h.1, h.2.1, h.2.2, ?_, e, ?_⟩
  · unfold addP; rw [h']; rfl
  · unfold addP; rw [e, sum_comm (polyB_trim h.1).1 (polyB_trim h.2.1).1]; rfl
theorem plain_some {b : Pl} (h : ¬ b.cs.length = 0) : plainP b = ⟨0, b.cs.map fun z => (if b.cs.getD 0 0 < 0 then -1 else 1) * z⟩ := by unfold plainP; rw [if_neg h]
theorem plain_plain (a : Pl) : plainP (plainP a) = plainP a := by
  by_cases h0 : a.cs.length = 0
  · have e : plainP a = a := by unfold plainP; rw [if_pos h0]
    rw [e, e]
  · have hlen : (plainP a).cs.length = a.cs.length := plain_len a
    have hlow : (plainP a).low = 0 := plain_low (by omega)
    have e : (plainP a).cs = a.cs.map fun z => (if a.cs.getD 0 0 < 0 then -1 else 1) * z := by unfold plainP; rw [if_neg h0]
    have hz : (plainP a).cs.getD 0 0 = (if a.cs.getD 0 0 < 0 then -1 else 1) * a.cs.getD 0 0 := by
      rw [e, List.getD_eq_getElem?_getD, List.getElem?_map, List.getElem?_eq_getElem (by omega), List.getD_eq_getElem?_getD, List.getElem?_eq_getElem (by omega)]
      rfl
    have hn : ¬ (plainP a).cs.getD 0 0 < 0 := by
      rw [hz]
      split <;> omega
    have e2 : plainP (plainP a) = ⟨0, (plainP a).cs.map fun z => (if (plainP a).cs.getD 0 0 < 0 then -1 else 1) * z⟩ := plain_some (by rw [hlen]; exact h0)
    rw [e2, if_neg hn]
    have e3 : ((plainP a).cs.map fun z => 1 * z) = (plainP a).cs := by
      rw [show (fun z : Int => 1 * z) = id from funext fun z => Int.one_mul z, List.map_id]
    rw [e3]
    show (⟨0, (plainP a).cs⟩ : Pl) = plainP a
    rw [← hlow]

end Go.Proofs.Ytocklmiappppgaa

/- Polynomials of sums (mathematics). -/

namespace Go.Proofs.Ytocklmiappppgaa
open Go.RowKit

/-- The power of t that belongs to a word. -/
def pwL : List UInt8 → Int
  | [] => 0
  | c :: r => sgnB c + pwL r
theorem pwL_snoc (l : List UInt8) (c : UInt8) : pwL (l ++ [c]) = pwL l + sgnB c := by
  induction l with
  | nil => simp [pwL]
  | cons x r ih => rw [List.cons_append, pwL, pwL, ih]; omega
theorem sgnB_bound (c : UInt8) : -1 ≤ sgnB c ∧ sgnB c ≤ 1 := by unfold sgnB; split <;> omega
theorem pwL_bound : ∀ l : List UInt8, -(l.length : Int) ≤ pwL l ∧ pwL l ≤ (l.length : Int)
  | [] => by simp [pwL]
  | c :: r => by
    have h1 := pwL_bound r
    have h2 := sgnB_bound c
    rw [pwL, List.length_cons]
    omega
def four (z : List Int) : Int := z.getD 0 0 + z.getD 1 0 + z.getD 2 0 + z.getD 3 0
theorem four_step (z : List Int) (c : UInt8) (hz : z.length = 4) (hc : idxB c < 4) : four (sumsStep z c) = four z + sgnB c := by
  obtain ⟨j, hj⟩ : ∃ j, idxB c = j := ⟨_, rfl⟩
  obtain ⟨u, hu⟩ : ∃ u, sgnB c = u := ⟨_, rfl⟩
  unfold sumsStep
  rw [hj] at hc
  rw [hj, hu]
  match z, hz with
  | [z0, z1, z2, z3], _ =>
    have : j = 0 ∨ j = 1 ∨ j = 2 ∨ j = 3 := by omega
    rcases this with rfl | rfl | rfl | rfl <;> simp [four] <;> omega
theorem sums_power (l : List UInt8) (hl : letL l = true) : four (sumsL l) = pwL l := by
  have key : ∀ (n : Nat) (l : List UInt8), l.length = n → letL l = true → four (sumsL l) = pwL l := by
    intro n
    induction n with
    | zero =>
      intro l hl _
      obtain rfl := List.length_eq_zero_iff.1 hl
      rfl
    | succ n ih =>
      intro l hl hlet
      obtain ⟨p, c, rfl⟩ := last_split l (by omega)
      rw [letL_append, Bool.and_eq_true] at hlet
      have hp : p.length = n := by simp at hl; omega
      have hc : letB c = true := by
        have h := hlet.2
        unfold letL at h
        simpa using h
      rw [sumsL_snoc, pwL_snoc, four_step _ _ (sumsL_inv p hlet.1).1 (idxB_lt c hc), ih p hp hlet.1]
  exact key l.length l rfl hl

def pwT (t : Tm) : Int := pwL t.s.data.toList
/-- The coefficients of a list of terms. -/
def ofF : List Tm → Int → Int
  | [], _ => 0
  | t :: r, z => pat ⟨pwT t, [t.c]⟩ z + ofF r z
theorem ofF_snoc (l : List Tm) (t : Tm) (z : Int) : ofF (l ++ [t]) z = ofF l z + pat ⟨pwT t, [t.c]⟩ z := by
  induction l with
  | nil => simp [ofF]
  | cons x r ih => rw [List.cons_append, ofF, ofF, ih]; omega
theorem pat_one (low c z : Int) : pat ⟨low, [c]⟩ z = if z = low then c else 0 := by
  by_cases h : z = low
  · subst h
    have e := pat_at ⟨z, [c]⟩ 0
    rw [if_pos rfl]
    simpa using e
  · rw [if_neg h]
    by_cases h2 : z < low
    · exact pat_low _ h2
    · exact pat_high _ (by show low + ((1 : Nat) : Int) ≤ z; omega)
theorem pat_many (low c z : Int) : c * pat ⟨low, [1]⟩ z = pat ⟨low, [c]⟩ z := by
  rw [pat_one, pat_one]
  split
  · exact Int.mul_one c
  · exact Int.mul_zero c
/-- The sum of the powers, term for term. -/
def sumsP (ts : List Tm) : Pl := ts.foldl (fun p t => sumP p t.c ⟨pwT t, [1]⟩) ⟨0, []⟩
theorem sumsP_snoc (l : List Tm) (t : Tm) : sumsP (l ++ [t]) = sumP (sumsP l) t.c ⟨pwT t, [1]⟩ := by
  unfold sumsP
  rw [List.foldl_append]
  rfl
theorem sumsP_succ (x : List Tm) (k : Nat) (h : k < x.length) : sumsP (x.take (k + 1)) = sumP (sumsP (x.take k)) x[k].c ⟨pwT x[k], [1]⟩ := by
  rw [List.take_succ_eq_append_getElem h, sumsP_snoc]
theorem ofF_succ (x : List Tm) (k : Nat) (h : k < x.length) (z : Int) : ofF (x.take (k + 1)) z = ofF (x.take k) z + pat ⟨pwT x[k], [x[k].c]⟩ z := by
  rw [List.take_succ_eq_append_getElem h, ofF_snoc]
theorem sumsP_trim (x : List Tm) : ∀ k, k ≤ x.length → Trim (sumsP (x.take k))
  | 0, _ => .inl ⟨rfl, rfl⟩
  | k + 1, h => by
    rw [sumsP_succ x k h]
    exact sum_trim _ _ (sumsP_trim x k (by omega))
theorem sumsP_pat (x : List Tm) (z : Int) : ∀ k, k ≤ x.length → pat (sumsP (x.take k)) z = ofF (x.take k) z
  | 0, _ => pat_nil _ _
  | k + 1, h => by
    rw [sumsP_succ x k h, ofF_succ x k h, sum_pat, sumsP_pat x z k (by omega), pat_many]
theorem ofF_bound (x : List Tm) (hx : ∀ t ∈ x, -1000000 ≤ t.c ∧ t.c ≤ 1000000) (z : Int) : ∀ k : Nat, k ≤ x.length → -1000000 * (k : Int) ≤ ofF (x.take k) z ∧ ofF (x.take k) z ≤ 1000000 * (k : Int)
  | 0, _ => by simp [ofF]
  | k + 1, h => by
    have h1 := ofF_bound x hx z k (by omega)
    have h2 := hx x[k] (List.getElem_mem _)
    rw [ofF_succ x k h, pat_one]
    split <;> omega
theorem ofF_out (x : List Tm) (hx : ∀ t ∈ x, t.s.size ≤ 60) (z : Int) (hz : z < -60 ∨ 60 < z) : ∀ k : Nat, k ≤ x.length → ofF (x.take k) z = 0
  | 0, _ => rfl
  | k + 1, h => by
    have h1 := ofF_out x hx z hz k (by omega)
    have h2 := hx x[k] (List.getElem_mem _)
    have h3 := pwL_bound x[k].s.data.toList
    rw [show x[k].s.data.toList.length = x[k].s.size by simp] at h3
    rw [ofF_succ x k h, h1, pat_one, if_neg (by unfold pwT; omega)]
    rfl
/-- What a trimmed polynomial's powers and coefficients lie between. -/
theorem trim_within {p : Pl} {a b M : Int} (h : Trim p) (hab : a ≤ 0 ∧ 0 ≤ b) (_ : 0 ≤ M) (h0 : ∀ z, z < a ∨ b < z → pat p z = 0) (hm : ∀ z, -M ≤ pat p z ∧ pat p z ≤ M) :
    a ≤ p.low ∧ p.low ≤ b ∧ (p.cs.length : Int) ≤ b - a + 1 ∧ ∀ i, -M ≤ p.cs.getD i 0 ∧ p.cs.getD i 0 ≤ M := by
  have hc : ∀ i, -M ≤ p.cs.getD i 0 ∧ p.cs.getD i 0 ≤ M := fun i => by
    rw [← pat_at p i]
    exact hm _
  rcases h with ⟨h1, h2⟩ | ⟨h1, h2, h3⟩
  · rw [h1, h2]
    refine ⟨hab.1, hab.2, by simp; omega, ?_⟩
    rw [h1] at hc
    exact hc
  · have hl := List.length_pos_iff.2 h1
    have e1 := pat_at p 0
    have e2 := pat_at p (p.cs.length - 1)
    have c1 : ¬ (p.low + ((0 : Nat) : Int) < a ∨ b < p.low + ((0 : Nat) : Int)) := fun h => h2 (by rw [← e1]; exact h0 _ h)
    have c2 : ¬ (p.low + ((p.cs.length - 1 : Nat) : Int) < a ∨ b < p.low + ((p.cs.length - 1 : Nat) : Int)) := fun h => h3 (by rw [← e2]; exact h0 _ h)
    exact ⟨by omega, by omega, by omega, hc⟩
theorem sumsP_in (x : List Tm) (h1 : ∀ t ∈ x, -1000000 ≤ t.c ∧ t.c ≤ 1000000) (h2 : ∀ t ∈ x, t.s.size ≤ 60) (hl : x.length ≤ 300) (k : Nat) (hk : k ≤ x.length) :
    -60 ≤ (sumsP (x.take k)).low ∧ (sumsP (x.take k)).low ≤ 60 ∧ ((sumsP (x.take k)).cs.length : Int) ≤ 121 ∧ ∀ i, -300000000 ≤ (sumsP (x.take k)).cs.getD i 0 ∧ (sumsP (x.take k)).cs.getD i 0 ≤ 300000000 :=
  trim_within (p := sumsP (x.take k)) (a := -60) (b := 60) (M := 300000000) (sumsP_trim x k hk) (by omega) (by omega)
    (fun z hz => by rw [sumsP_pat x z k hk]; exact ofF_out x h2 z hz k hk)
    (fun z => by rw [sumsP_pat x z k hk]; have := ofF_bound x h1 z k hk; omega)
theorem sumsP_all (x : List Tm) : sumsP (x.take x.length) = sumsP x := by rw [List.take_length]

def ofSumB (ts : List Tm) : Bool := sumB ts && polyB (sumsP ts)
def ofSumP (ts : List Tm) : Pl := doneP (ofSumB ts) (sumsP ts)
theorem ofSum_len {ts : List Tm} {b : Bool} {p : Pl} (_ : ofSumB ts = b) (hp : ofSumP ts = p) : p.cs.length ≤ 200 := by
  unfold ofSumP at hp
  refine doneP_len (fun h => ?_) hp
  unfold ofSumB at h
  simp only [Bool.and_eq_true] at h
  exact h.2
theorem ofSum_fit {w : World} {a : Option Addr} {n : Nat} {ts : List Tm} {b : Bool} {p : Pl} (_ : IsTerms w a n ts) (hb : ofSumB ts = b) (hp : ofSumP ts = p) : p.cs.length ≤ 200 := ofSum_len hb hp

end Go.Proofs.Ytocklmiappppgaa

/- The program's power of a word. -/

namespace Go.Proofs.Ytocklmiappppgaa
open Go.RowKit Go.Shelf

attribute [local go_sem] Oper.semAt_some

set_option maxRecDepth 100000 in
set_option maxHeartbeats 2000000 in
theorem power_in (n : Nat) (hn : 40 ≤ n) (gw cw : Nat) (s : ByteArray) (w : World) (h : wordB s.data.toList = true) (hw : IsWord w.heap.size w (.slice (some ⟨gw, 0, none⟩) s.size cw) s.data.toList) :
    CallsIn Fence.wide n Try.prog 98 #[.slice (some ⟨gw, 0, none⟩) s.size cw] w fun e w' => e = .returned (.int .i64 (pwL s.data.toList)) ∧ Below w.heap.size w w' := by
  obtain ⟨h1, h2, _⟩ := (wordB_iff _).1 h
  have hs : s.size ≤ 60 := by simpa using h1
  have H2 := Lib.hid h2
  have HW := Lib.hid hw
  clear h h1 h2 hw
  refine callsIn_of_wp_marks Try.func98 rfl trivial ?_ rfl
  simp only [Try.ntmps98, List.size_toArray, List.length_cons, List.length_nil, Nat.reduceAdd, Nat.reduceSub, Array.replicate_succ, Array.replicate_zero, List.push_toArray, List.append_toArray, List.nil_append, List.cons_append]
  gi_wp2_with fail
  refine ⟨trivial, fun _ => by omega, ?_⟩
  refine (callsIn_wide.2 (letters_fwd _ _ _ 1 _ (by decide))).mono ?_
  rintro e w2 ⟨rfl, rfl⟩
  have hbx := (Boxed.new w 3 (.int .i64 0)).alloc (.cells #[.slice (some ⟨gw, 0, none⟩) s.size cw] WT)
  have hbi := Boxed.new (w.alloc (.cells #[.int .i64 0] 3)) WT (.slice (some ⟨gw, 0, none⟩) s.size cw)
  have hBv : Below w.heap.size w ((w.alloc (.cells #[.int .i64 0] 3)).alloc (.cells #[.slice (some ⟨gw, 0, none⟩) s.size cw] WT)) := ((Below.refl _ w).alloc (Nat.le_refl _) _).alloc (by simp) _
  have hsz : ((w.alloc (.cells #[.int .i64 0] 3)).alloc (.cells #[.slice (some ⟨gw, 0, none⟩) s.size cw] WT)).heap.size = w.heap.size + 2 := by simp
  simp only [World.size_alloc] at hbx hbi ⊢
  generalize ((w.alloc (.cells #[.int .i64 0] 3)).alloc (.cells #[.slice (some ⟨gw, 0, none⟩) s.size cw] WT)) = V at hbx hbi hBv hsz ⊢
  have hwV : IsWord w.heap.size V (.slice (some ⟨gw, 0, none⟩) s.size cw) s.data.toList := HW.out.below hBv
  have HBI := Lib.hid hbi
  have HBX := Lib.hid hbx
  have HWV := Lib.hid hwV
  clear hbx hbi hwV
  gi_wp2_with fail
  refine range_letters (by omega) (gf := 136) (lb := #[.pointer (some ⟨w.heap.size + 1, 0, none⟩)]) rfl (enters_of Try.func136 (by kernel_rfl) rfl)
    (n₀ := w.heap.size) (B := w.heap.size) (xs := s.data.toList) (values_seq s.data.toList _ V (w.heap.size + 1) w.heap.size (by omega) (by omega) HBI.out.cell HWV.out) (by omega) (Nat.le_refl _) (by omega)
    (fun pre X => Boxed X w.heap.size 3 (.int .i64 (pwL pre)) ∧ Below w.heap.size w X)
    (OwnFrom.and (Own.from (boxed_own w.heap.size 3 (fun pre : List UInt8 => .int .i64 (pwL pre))) _) (ownFrom_below (Nat.le_refl _) (by omega)))
    ⟨HBX.out, hBv⟩
    (fun x => { tmps := #[.slice (some ⟨gw, 0, none⟩) s.size cw, undef, .int .i64 0, .pointer (some ⟨w.heap.size, 0, none⟩), .int .u8 (x.toNat : Int), .slice (some ⟨gw, 0, none⟩) s.size cw, .func (.func 136) #[] #[.pointer (some ⟨w.heap.size + 1, 0, none⟩)], .int .u8 (x.toNat : Int), undef, undef, undef, undef, undef], defers := [] }) ?assign ?body ?done
  case assign =>
    intro l x W K hK
    gi_wp2
    exact hK
  case body =>
    rintro l pre x X ⟨hbx, hB⟩ hpre
    have hlet : letB x = true := List.all_eq_true.1 H2.out x (prefix_mem hpre)
    have hplen := prefix_len hpre
    rw [show s.data.toList.length = s.size by simp] at hplen
    have hpb := pwL_bound pre
    obtain ⟨p, hp⟩ : ∃ p, pwL pre = p := ⟨_, rfl⟩
    rw [hp] at hpb hbx
    obtain ⟨hp1, hp2⟩ := hpb
    have hbc := hbx.cell
    have hfr := hbx.frozen
    have hsg := sgnB_bound x
    obtain ⟨u, hu⟩ : ∃ u, sgnB x = u := ⟨_, rfl⟩
    rw [hu] at hsg
    obtain ⟨hu1, hu2⟩ := hsg
    have HST : Hid (pwL (pre ++ [x]) = p + u) := Lib.hid (by rw [pwL_snoc, hp, hu])
    have HBX' := Lib.hid hbx
    have hd : 1 ≤ n - 1 - 1 := by omega
    have hmx : Try.prog.follows .mixedOrders = true := by kernel_rfl
    have hsx : ∀ W, Calls Try.prog 116 #[.int .u8 (x.toNat : Int)] W fun e w' => e = .returned (.int .i64 u) ∧ w' = W := fun W => by rw [← hu]; exact iSign_any x W hlet
    have HSX := Lib.hid hsx
    have hwrap : IntKind.i64.wrap (p + u) = p + u := IntWalk.i64_in _ (by omega)
    clear hlet hp hu hbx hpre hsx
    gi_wp2
    gi_region_with_o (first | (refine ⟨trivial, ?_⟩; gi_at_call 116; refine (CallsIn.inRound l (callsIn_wide.2 (HSX.out _))).mono ?_; rintro e w' ⟨rfl, rfl⟩))
    all_goals gi_wp2
    all_goals
      try rw [hwrap]
      have hst := HBX'.out.set (.int .i64 (p + u))
      rw [← HST.out] at hst ⊢
      have hko : KeepsOthers X (X.setCell ⟨w.heap.size, 0, none⟩ (.int .i64 (pwL (pre ++ [x])))).drew := (KeepsOthers.setCell _ _ _).trans (KeepsOthers.drew _)
      exact ⟨hko.from _, ⟨((Below.refl _ X).setCell (p := ⟨w.heap.size, 0, none⟩) (Nat.le_refl _) _).drew, fun k cs t r hk _ hkB => (Below.heap_setCell _ _ _ k hkB).trans hk, hko.from _⟩,
        hst, (hB.setCell (p := ⟨w.heap.size, 0, none⟩) (Nat.le_refl _) _).drew⟩
  case done =>
    rintro D X hD ⟨hbx, hB⟩ hK
    have hbc := hbx.cell
    gi_wp2
    refine ⟨by simp, .inl ⟨_, _, rfl, run_takeDeferred hK, ?_⟩⟩
    refine ⟨.int .i64 (pwL s.data.toList), by simp [results, Try.f98, go_sem], rfl, hB.trans (belowK_b (w := w) (Nat.le_refl _) X D _ _ (by omega) hK rfl rfl)⟩

theorem power_any (gw cw : Nat) (s : ByteArray) (w : World) (h : wordB s.data.toList = true) (hw : IsWord w.heap.size w (.slice (some ⟨gw, 0, none⟩) s.size cw) s.data.toList) :
    Calls Try.prog 98 #[.slice (some ⟨gw, 0, none⟩) s.size cw] w fun e w' => e = .returned (.int .i64 (pwL s.data.toList)) ∧ Below w.heap.size w w' :=
  (callsIn_wide (n := 50)).1 (power_in 50 (by omega) gw cw s w h hw)

end Go.Proofs.Ytocklmiappppgaa

/- The program's PolyOfSum. -/

namespace Go.Proofs.Ytocklmiappppgaa
open Go.RowKit

/-- A row of words, those of the terms. -/
def WordRow (w : World) (g : Nat) (ts : List Tm) : Prop :=
  g < w.heap.size ∧ ∀ j (h : j < ts.length), ∃ gw cap, w.cell? ⟨g, j, none⟩ = some (.slice (some ⟨gw, 0, none⟩) ts[j].s.size cap) ∧ IsWord w.heap.size w (.slice (some ⟨gw, 0, none⟩) ts[j].s.size cap) ts[j].s.data.toList
theorem WordRow.below {w w' : World} {g : Nat} {ts : List Tm} (h : WordRow w g ts) (hb : Below w.heap.size w w') : WordRow w' g ts :=
  ⟨Nat.lt_of_lt_of_le h.1 hb.size, fun j hj => by
    obtain ⟨gw, cap, h1, h2⟩ := h.2 j hj
    exact ⟨gw, cap, (hb.cell (p := ⟨g, j, none⟩) h.1).trans h1, (h2.below hb).mono hb.size⟩⟩
theorem wordRow_of {w : World} {base lo g cap n : Nat} {vals : List Value} {ts : List Tm} (hn : ts.length = n) (h : w.ownsRow base WT 1 (.slice (some ⟨g, 0, none⟩) n cap) n vals) (hv : ∀ j (h : j < ts.length) v, vals[j]? = some v → WordAt lo w v ts[j].s.data.toList) : WordRow w g ts :=
  ⟨(ownsRow_cap h).2.2.2, fun j hj => by
    have hl := h.1
    rw [Nat.mul_one] at hl
    have hjv : j < vals.length := by omega
    have hw := hv j hj vals[j] (List.getElem?_eq_getElem hjv)
    have hi := hw.isWord
    obtain ⟨gw, cp, e⟩ := hw.slice
    have hsz : ts[j].s.data.toList.length = ts[j].s.size := by simp
    rw [hsz] at e
    refine ⟨gw, cp, ?_, by rw [← e]; exact hi⟩
    rw [h.cellAt j (by omega), List.getElem?_eq_getElem hjv, e]⟩
theorem tm_word {t : Tm} (h : termB t = true) : wordB t.s.data.toList = true ∧ t.s.size ≤ 60 ∧ -1000000 ≤ t.c ∧ t.c ≤ 1000000 := by
  unfold termB inR at h
  simp only [Bool.and_eq_true, decide_eq_true_eq] at h
  exact ⟨h.1, by have := ((wordB_iff _).1 h.1).1; simpa using this, h.2⟩

/-- An int that was laid in a block of its own. -/
def OneI (w : World) (j : Nat) (c : Int) : Prop := w.heap[j]? = some (.cells #[.int .i64 c] 3 (0, 0))
theorem OneI.new (w : World) (c : Int) : OneI (w.alloc (.cells #[.int .i64 c] 3)) w.heap.size c := World.alloc_heap_new w _
theorem OneI.below {w w' : World} {j : Nat} {c : Int} (h : OneI w j c) (hb : Below w.heap.size w w') : OneI w' j c :=
  (hb.block j (Array.getElem?_eq_some_iff.1 h).1).trans h
theorem OneI.of {w w' : World} {c : Int} (hb : Below (w.alloc (.cells #[.int .i64 c] 3)).heap.size (w.alloc (.cells #[.int .i64 c] 3)) w') : OneI w' w.heap.size c := (OneI.new w c).below hb
theorem OneI.ints {w : World} {j : Nat} {c : Int} (h : OneI w j c) (hc : -9223372036854775808 ≤ c ∧ c ≤ 9223372036854775807) : Ints w (some ⟨j, 0, none⟩) 1 [c] :=
  ⟨rfl, by unfold maxLen; omega, fun _ => ⟨_, rfl, (Array.getElem?_eq_some_iff.1 h).1, fun i hi => by
    have : i = 0 := by simpa using hi
    subst this
    rw [show (⟨j, 0, none⟩ : Addr).add 0 = ⟨j, 0, none⟩ by unfold Addr.add; simp]
    simp [World.cell?, show w.heap[j]? = _ from h]⟩, fun z hz => by rw [List.mem_singleton.1 hz]; exact hc⟩

set_option maxRecDepth 100000 in
set_option maxHeartbeats 3000000 in
theorem iPolyOfSum_any (a : Option Addr) (cap n : Nat) (x : List Tm) (t : Bool) (P : Pl) (w : World) (hx : IsTerms w a n x) (ht : ofSumB x = t) (hp : ofSumP x = P) :
    Calls Try.prog 62 #[.slice a n cap] w fun e w' => (∃ v, e = .returned (.tuple #[plV P.low v, .bool t]) ∧ IntRow w.heap.size w' v P.cs) ∧ Below w.heap.size w w' := by
  obtain ⟨i0, hi, hz0, hz1, hz2⟩ := info_parts infoInt
  have hmx : Try.prog.follows .mixedOrders = true := by kernel_rfl
  have hzm := told_zm
  have hzn := told_zn
  have hpm := told_pm
  have hpn := told_pn
  obtain ⟨W, hW⟩ : ∃ W, w.alloc (.cells #[.int .i64 0, .slice none 0 0] 25) = W := ⟨_, rfl⟩
  have hsz : W.heap.size = w.heap.size + 1 := by rw [← hW]; simp
  have hbW : Below w.heap.size w W := by rw [← hW]; exact (Below.refl _ w).alloc (Nat.le_refl _) _
  have HC : Hid (∀ w1, Below W.heap.size W w1 → w1.cell? ⟨w.heap.size, 0, none⟩ = some (.int .i64 0) ∧ w1.cell? ⟨w.heap.size, 1, none⟩ = some (.slice none 0 0) ∧ w1.frozen? ⟨w.heap.size, 0, none⟩ = false ∧ w1.frozen? ⟨w.heap.size, 1, none⟩ = false) := Lib.hid fun w1 (hg : Below W.heap.size W w1) => resCells rfl (by rw [hW, ← hsz]; exact hg)
  have HX := Lib.hid (hx.below hbW)
  have HSW := Lib.hid (sumWords_any a cap n x W (hx.below hbW))
  have HN := Lib.hid hx.len
  have HT := Lib.hid ht
  have HP := Lib.hid hp
  have HBW := Lib.hid hbW
  have HW := Lib.hid hW
  have HSZ := Lib.hid hsz
  clear hW hbW hx ht hp hsz
  go_enter Try.func62, Try.ntmps62
  go_wp2_with fail
  rw [HW.out]
  refine HSW.out.mono ?_
  rintro e w1 ⟨⟨rfl, hf⟩ | ⟨g1, vals, rfl, hf, hr1, hv1⟩, hb1⟩
  · have hno : t = false ∧ P = ⟨0, []⟩ := by
      have e : ofSumB x = false := by unfold ofSumB; rw [hf]; rfl
      refine ⟨HT.out.symm.trans e, HP.out.symm.trans ?_⟩
      unfold ofSumP
      rw [e]
      rfl
    obtain ⟨rfl, rfl⟩ := hno
    obtain ⟨d0, d1, f0, f1⟩ := HC.out w1 hb1
    have HB1 := Lib.hid hb1
    clear hf hb1
    go_wp2
    refine bodyPost_ret (v := .tuple #[plV 0 (.slice none 0 0), .bool false]) ?_ rfl ⟨⟨_, rfl, intNil _ _⟩, resBelow (.int .i64 0) (.slice none 0 0) (HBW.out.trans (HB1.out.mono HBW.out.size))⟩
    simp [results, Try.results62, go_sem, d0, d1, plV]
  · obtain ⟨hlx, hwx⟩ := canon_len_words (sumB_parts hf).1
    have HWX : Hid (∀ u ∈ x, wordB u.s.data.toList = true ∧ u.s.size ≤ 60 ∧ -1000000 ≤ u.c ∧ u.c ≤ 1000000) := Lib.hid fun u hu => tm_word (hwx u hu)
    have hn3 : n ≤ 300 := by rw [← HN.out]; exact hlx
    have HF := Lib.hid hf
    have HB1 := Lib.hid hb1
    have HW1 := Lib.hid (wordRow_of HN.out hr1 hv1)
    have hs1 := hb1.size
    have hg1 : g1 < w1.heap.size := HW1.out.1
    clear hb1 hf hr1 hv1 hlx hwx
    go_wp2_with (at_make; refine wpList_make_full _ rfl _ _ 23 rfl w1.heap.size 3 i0 (.int .i64 0) 1 Try.underlying23 hi hz0 hz1 .i64 .i64 _ _ 121 rfl rfl rfl rfl (by rw [hz2]; omega) (by unfold maxLen; omega) (Nat.le_refl _) ?_; intro w2 hrow hgrow)
    rw [made_zero (-60) 121, listP_zero] at hrow
    obtain ⟨V, hV⟩ : ∃ V, w2.alloc (.cells #[.int .i64 (-60), .slice (some ⟨w1.heap.size, 0, none⟩) 121 121] 25) = V := ⟨_, rfl⟩
    have hb2 : Below w1.heap.size w1 w2 := (Below.refl _ _).grown hgrow (Nat.le_refl _) (fun k e => by cases e)
    have hbV2 : Below w2.heap.size w2 V := by rw [← hV]; exact (Below.refl _ _).alloc (Nat.le_refl _) _
    have hlt2 : w1.heap.size < w2.heap.size := own_lt hrow _ rfl
    have HE : Hid (∀ V1, V.grownBy V1 (some w1.heap.size) → V1.cell? ⟨w2.heap.size, 0, none⟩ = some (.int .i64 (-60)) ∧ V1.cell? ⟨w2.heap.size, 1, none⟩ = some (.slice (some ⟨w1.heap.size, 0, none⟩) 121 121)) := Lib.hid fun V1 (hg : V.grownBy V1 (some w1.heap.size)) => boxKept hV hg hlt2
    have hVs : V.heap.size = w2.heap.size + 1 := by rw [← hV]; simp
    have HVS := Lib.hid hVs
    have HB1V : Hid (Below w1.heap.size w1 V) := Lib.hid (hb2.trans (hbV2.mono (by omega)))
    have HR0 : Hid (V.ownsRow w1.heap.size 3 1 (.slice (some ⟨w1.heap.size, 0, none⟩) 121 121) 121 (intsV (listP (ofF (x.take 0)) (-60) 121))) := Lib.hid (by
      have h := rowPast hrow hbV2
      rw [← listP_zero (-60) 121] at h
      exact h)
    have HV := Lib.hid hV
    clear hrow hgrow hV hb2 hbV2 hVs
    rw [HV.out]
    go_loopw [7, 8, 21] (fun _ _ i wr => ∃ k : Nat, k ≤ n ∧ i = .int .i64 (k : Int) ∧ Hid (wr.ownsRow w1.heap.size 3 1 (.slice (some ⟨w1.heap.size, 0, none⟩) 121 121) 121 (intsV (listP (ofF (x.take k)) (-60) 121))) ∧ Hid (V.grownBy wr (some w1.heap.size))) (fun _ _ i _ => n - (intOf i).toNat)
    case atStart => exact ⟨0, Nat.zero_le _, rfl, HR0, Lib.hid (grownRefl _ _)⟩
    case round =>
      obtain ⟨k, hk, rfl, HR, HG⟩ := hrel
      have hBw : Below w1.heap.size w1 wr := HB1V.out.grown HG.out (by have := HVS.out; omega) (fun j e => by simp at e; omega)
      have HBw := Lib.hid hBw
      obtain ⟨q0, q1⟩ := HE.out wr HG.out
      by_cases hlt : k < n
      · have hki : (k : Int) < (n : Int) := by omega
        have hk0 : (0 : Int) ≤ (k : Int) := by omega
        have hkx : k < x.length := by rw [HN.out]; exact hlt
        obtain ⟨z, rfl, hz⟩ := (HX.out.below HB1.out).at_ (by omega)
        obtain ⟨u, hu⟩ : ∃ u, x[k] = u := ⟨_, rfl⟩
        obtain ⟨hub1, hub2, hub3, hub4⟩ := HWX.out _ (List.getElem_mem hkx)
        obtain ⟨gw, cw, hcw, hiw⟩ := (HW1.out.below hBw).2 k hkx
        have hcc := (hz.below hBw).2 k hkx
        rw [hu] at hub1 hub2 hub3 hub4 hcw hiw hcc
        obtain ⟨c0, _⟩ := hcc
        obtain ⟨c, hc⟩ : ∃ c, u.c = c := ⟨_, rfl⟩
        rw [hc] at c0 hub3 hub4
        obtain ⟨pw, hpw⟩ : ∃ p, pwL u.s.data.toList = p := ⟨_, rfl⟩
        have hpb := pwL_bound u.s.data.toList
        rw [show u.s.data.toList.length = u.s.size by simp, hpw] at hpb
        obtain ⟨hpb1, hpb2⟩ := hpb
        have HSU := Lib.hid (ofF_succ x k hkx)
        have HPU : Hid (∀ z, pat ⟨pwT x[k], [x[k].c]⟩ z = pat ⟨pw, [c]⟩ z) := Lib.hid fun z => by rw [hu, hc]; unfold pwT; rw [hpw]
        have hfb : ∀ z, -4000000000000000000 ≤ ofF (x.take k) z ∧ ofF (x.take k) z ≤ 4000000000000000000 := fun z => by
          have := ofF_bound x (fun u hu => (HWX.out u hu).2.2) z k (by omega)
          omega
        have HFB := Lib.hid hfb
        have hzb : z.block < wr.heap.size := Nat.lt_of_lt_of_le hz.1 HBw.out.size
        have HPW : Hid (∀ V1, Below wr.heap.size wr V1 → Calls Try.prog 98 #[.slice (some ⟨gw, 0, none⟩) u.s.size cw] V1 fun e w' => e = .returned (.int .i64 pw) ∧ Below V1.heap.size V1 w') := Lib.hid fun V1 hV1 => by
          rw [← hpw]
          exact power_any gw cw u.s V1 hub1 ((hiw.below hV1).mono hV1.size)
        have hg1w : w1.heap.size < wr.heap.size := own_lt HR.out _ rfl
        have HADD : Hid (∀ V1 j, Below wr.heap.size wr V1 → OneI V1 j c → wr.heap.size ≤ j → Calls Try.prog 79 #[plV (-60) (.slice (some ⟨w1.heap.size, 0, none⟩) 121 121), plV pw (.slice (some ⟨j, 0, none⟩) 1 1)] V1 fun e w' => e = .returned (.tuple #[]) ∧ w'.ownsRow w1.heap.size 3 1 (.slice (some ⟨w1.heap.size, 0, none⟩) 121 121) 121 (intsV (listP (ofF (x.take (k + 1))) (-60) 121)) ∧ V1.grownBy w' (some w1.heap.size)) := Lib.hid fun V1 j hV1 hO hj => by
          have h := add_any w1.heap.size w1.heap.size 121 121 (ofF (x.take k)) (-60) pw [c] (some ⟨j, 0, none⟩) 1 1 V1 (rowPast HR.out hV1) (hO.ints (by omega)) (by omega) (by omega) (by omega) (by omega) (.inr (by omega)) (.inr fun y e => by
            simp only [Option.some.injEq] at e
            subst e
            show j ≠ w1.heap.size
            omega) HFB.out (fun i => by
            cases i with
            | zero => show -4000000000000000000 ≤ c ∧ c ≤ 4000000000000000000; omega
            | succ i => simp)
          have e : listP (fun z => ofF (x.take k) z + pat ⟨pw, [c]⟩ z) (-60) 121 = listP (ofF (x.take (k + 1))) (-60) 121 := listP_congr fun z _ _ => by rw [HSU.out, HPU.out]
          rw [e] at h
          exact h
        have HZC : Hid (∀ V1, Below wr.heap.size wr V1 → V1.cell? (z.add (k * 2)) = some (.int .i64 c)) := Lib.hid fun V1 hV1 => (hV1.cell (p := z.add (k * 2)) (by rw [addr_add_block]; exact hzb)).trans c0
        have hne : z.block ≠ w1.heap.size := by have := hz.1; omega
        have HZG : Hid (∀ V1, wr.grownBy V1 (some w1.heap.size) → V1.cell? (z.add (k * 2)) = some (.int .i64 c)) := Lib.hid fun V1 hV1 => by
          have e1 := hV1.block z.block hzb (by simp; exact hne)
          have e2 : V1.cell? (z.add (k * 2)) = wr.cell? (z.add (k * 2)) := by unfold World.cell?; rw [addr_add_block, e1]
          rw [e2]
          exact c0
        have HBk : Hid (Below wr.heap.size wr wr) := Lib.hid (Below.refl _ _)
        have k0 := q0
        have k1 := q1
        have k2 := c0
        clear hz hu hc hpw hub1 hub2 hfb hiw
        go_upto_region 8 with fail
        go_region_held3 (fun w' : World => w'.cell? ⟨w2.heap.size, 0, none⟩ = some (.int .i64 (-60)) ∧ w'.cell? ⟨w2.heap.size, 1, none⟩ = some (.slice (some ⟨w1.heap.size, 0, none⟩) 121 121) ∧ w'.cell? (z.add (k * 2)) = some (.int .i64 c)) (first | go_keep | exact ⟨k0, k1, k2⟩)
          (first
            | (go_at_call 98
               with_reducible refine (HPW.out _ (by first | exact HBk.out | exact HBk.out.drew | exact HBk.out.alloc HBk.out.size _ | exact (HBk.out.alloc HBk.out.size _).drew)).mono ?_
               rintro e V1 ⟨rfl, hbv⟩
               have hbn : Below wr.heap.size wr V1 := by
                 first
                 | exact HBk.out.trans (hbv.mono HBk.out.size)
                 | exact HBk.out.drew.trans (hbv.mono HBk.out.size)
                 | exact below_alloc HBk.out HBk.out.size hbv
                 | exact below_drewAlloc HBk.out HBk.out.size hbv
               first
               | (have HZ : Hid (OneI V1 wr.heap.size c) := Lib.hid (OneI.of (w := wr.drew) hbv))
               | (have HZ : Hid (OneI V1 wr.heap.size c) := Lib.hid (OneI.of (w := wr) hbv))
               | skip
               clear HBk
               have HBk := Lib.hid hbn
               obtain ⟨k0, k1⟩ := HE.out V1 (grownTrans HG.out (grownBelow _ hbn))
               have k2 := HZC.out V1 hbn
               clear hbv hbn)
            | (go_at_call 79
               first
               | with_reducible refine (HADD.out _ _ HBk.out HZ.out (Nat.le_refl _)).mono ?_
               | with_reducible refine (HADD.out _ _ (HBk.out.alloc HBk.out.size _) (OneI.new _ _) HBk.out.size).mono ?_
               rintro e Y ⟨rfl, hry, hgy⟩
               have HRY := Lib.hid hry
               have hgn : wr.grownBy Y (some w1.heap.size) := by
                 first
                 | exact grownTrans (grownBelow _ HBk.out) hgy
                 | exact grownTrans (grownBelow _ (HBk.out.alloc HBk.out.size _)) hgy
               have HGY := Lib.hid hgn
               obtain ⟨k0, k1⟩ := HE.out Y (grownTrans HG.out hgn)
               have k2 := HZG.out Y hgn
               clear hry hgy hgn))
        all_goals (have HGX := Lib.hid (grownTrans HG.out HGY.out))
        all_goals (go_wp2; go_roundw)
        all_goals first
          | exact ⟨k + 1, by omega, by go_num, HRY, HGX⟩
          | (simp [intOf]; omega)
      · obtain rfl : k = n := by omega
        have hwc : ∀ u ∈ x, -1000000 ≤ u.c ∧ u.c ≤ 1000000 := fun u hu => (HWX.out u hu).2.2
        have hws : ∀ u ∈ x, u.s.size ≤ 60 := fun u hu => (HWX.out u hu).2.1
        have hxl : x.length ≤ 300 := by rw [HN.out]; exact hn3
        obtain ⟨Q, hQ⟩ : ∃ Q, sumsP x = Q := ⟨_, rfl⟩
        have hTR : Trim Q := by
          have h := sumsP_trim x x.length (Nat.le_refl _)
          rwa [sumsP_all, hQ] at h
        have hPT : polyB Q = t := by
          rw [← HT.out, ← hQ]
          unfold ofSumB
          rw [HF.out, Bool.true_and]
        obtain rfl : P = doneP t Q := by
          rw [← HP.out]
          unfold ofSumP
          rw [HT.out, hQ]
        have htd : tidyP (-60) (listP (ofF (x.take k)) (-60) 121) = Q := by
          have e : x.take k = x := by rw [← HN.out, List.take_length]
          rw [e]
          refine listP_tidy hTR (fun z hz => ?_) (fun z hz => ?_) (fun z => ?_)
          · have h := ofF_out x hws z (.inl hz) x.length (Nat.le_refl _)
            rwa [List.take_length] at h
          · have h := ofF_out x hws z (.inr (by omega)) x.length (Nat.le_refl _)
            rwa [List.take_length] at h
          · have h := sumsP_pat x z x.length (Nat.le_refl _)
            rwa [List.take_length, hQ] at h
        have hwf : ∀ z ∈ listP (ofF (x.take k)) (-60) 121, -9223372036854775808 ≤ z ∧ z ≤ 9223372036854775807 := fun z hz => by
          unfold listP at hz
          obtain ⟨i, _, rfl⟩ := List.mem_map.1 hz
          have := ofF_bound x hwc (-60 + (i : Int)) k (by rw [HN.out]; exact Nat.le_refl _)
          omega
        have hrr : IntRow w1.heap.size wr (.slice (some ⟨w1.heap.size, 0, none⟩) 121 121) (listP (ofF (x.take k)) (-60) 121) := rowI HR.out (listP_len _ _ _)
        obtain ⟨a5, c5, hv, hc5, hi5⟩ := hrr.readc hwf
        rw [listP_len] at hv hc5 hi5
        simp at hv
        obtain ⟨rfl, rfl⟩ := hv
        have HTR := Lib.hid hTR
        have HPT := Lib.hid hPT
        have HTD := Lib.hid htd
        have HA := Lib.hid (apart_in (-60) (listP (ofF (x.take k)) (-60) 121) (some ⟨w1.heap.size, 0, none⟩) 121 121 wr hi5 (Nat.le_refl _) (by omega) (by omega) (by omega))
        have HBW1 := Lib.hid (HB1.out.trans (HBw.out.mono hs1))
        clear hwc hws hxl hQ hTR hPT htd hwf hrr hc5 hi5
        go_wp2_with fail
        refine HA.out.mono ?_
        rintro e w5 ⟨⟨v, rfl, hA⟩, hb5⟩
        have hsq := HBW1.out.size
        have HB5 := Lib.hid (HBW1.out.trans (hb5.mono hsq))
        have hs5 := HB5.out.size
        clear hb5 q0 q1
        rw [HTD.out] at hA
        have hss := HSZ.out
        rcases hA with ⟨hq, rfl⟩ | ⟨hq, a6, c6, rfl, hc6, hi6⟩
        · obtain ⟨rfl, hq0⟩ := told_zero HTR.out hq HPT.out
          have HQ0 := Lib.hid hq0
          clear hq hq0
          go_wp2_with fail
          refine (toldZ_any _).mono ?_
          rintro e w6 ⟨⟨v, rfl, hr⟩, hb6⟩
          obtain ⟨d0, d1, f0, f1⟩ := HC.out w6 (HB5.out.trans (hb6.mono hs5))
          have HR6 := Lib.hid hr
          have HB6 := Lib.hid (HBW.out.trans ((HB5.out.trans (hb6.mono hs5)).mono HBW.out.size))
          obtain ⟨g4, gg, cap4, rfl, _⟩ := hr.shape
          clear hr hb6
          go_wp2
          refine bodyPost_ret (v := .tuple #[plV 0 (.slice g4 0 cap4), .bool true]) ?_ rfl ⟨⟨.slice g4 0 cap4, by rw [HQ0.out]; rfl, by rw [HQ0.out]; exact resRow (.int .i64 0) (.slice g4 0 cap4) HR6.out (by omega)⟩, resBelow (.int .i64 0) (.slice g4 0 cap4) HB6.out⟩
          simp [results, Try.results62, go_sem, d0, d1, plV]
        · have HTO := Lib.hid (toldP_any Q.low Q.cs a6 c6 _ t w5 hi6 (by rw [fits_polyB HTR.out hq]; exact HPT.out))
          clear hi6
          go_wp2_with fail
          refine HTO.out.mono ?_
          rintro e w6 ⟨⟨v, rfl, hr⟩, hb6⟩
          obtain ⟨d0, d1, f0, f1⟩ := HC.out w6 (HB5.out.trans (hb6.mono hs5))
          have HR6 := Lib.hid hr
          have HB6 := Lib.hid (HBW.out.trans ((HB5.out.trans (hb6.mono hs5)).mono HBW.out.size))
          obtain ⟨g4, gg, cap4, rfl, _⟩ := hr.shape
          clear hr hb6
          go_wp2
          refine bodyPost_ret (v := .tuple #[plV (doneP t Q).low (.slice g4 (doneP t Q).cs.length cap4), .bool t]) ?_ rfl ⟨⟨_, rfl, resRow (.int .i64 (doneP t Q).low) (.slice g4 (doneP t Q).cs.length cap4) HR6.out (by omega)⟩, resBelow (.int .i64 (doneP t Q).low) (.slice g4 (doneP t Q).cs.length cap4) HB6.out⟩
          simp [results, Try.results62, go_sem, d0, d1, plV]

end Go.Proofs.Ytocklmiappppgaa

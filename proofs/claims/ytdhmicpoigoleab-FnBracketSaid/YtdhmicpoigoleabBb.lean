/- What the laws' proofs stand on, part 2 of 3. -/
import Derived.Laws.AppendOwnNone
import Derived.Lib.AppendZerosOnto
import Derived.Lib.SliceRun
import Derived.Deep.AppendLies
import Derived.IntWalk
import Derived.Deep.RegionHeld3
import Derived.Maps.RangeWalk
import Derived.Maps.OwnOps
import Derived.Sort.KeysCollected
import Derived.WalkLawsBesides
import Derived.Test.YtdhmicpoigoleabBa

/- The contracts of the model's 'l2Times' and 'SumTimes'. -/

namespace Go.Proofs.Ytdhmicpoigoleab
open Go.RowKit Go.Shelf

/-- The product of two terms, and those of all pairs. -/
def pairT (t u : Tm) : Tm := ⟨t.c * u.c, bstr (redL [] (t.s.data.toList ++ u.s.data.toList))⟩
def pairsT (x y : List Tm) : List Tm := x.flatMap fun t => y.map (pairT t)
theorem pairs_succ (x y : List Tm) (k : Nat) (h : k < x.length) : pairsT (x.take (k + 1)) y = pairsT (x.take k) y ++ y.map (pairT x[k]) := by
  unfold pairsT
  rw [List.take_succ_eq_append_getElem h, List.flatMap_append]
  simp
theorem pairs_zero (y : List Tm) : pairsT [] y = [] := rfl
theorem pairs_len (x y : List Tm) : (pairsT x y).length = x.length * y.length := by
  unfold pairsT
  induction x with
  | nil => simp
  | cons t r ih => rw [List.flatMap_cons, List.length_append, ih, List.length_map, List.length_cons, Nat.succ_mul]; omega
theorem map_succ (f : Tm → Tm) (y : List Tm) (j : Nat) (h : j < y.length) : (y.take (j + 1)).map f = (y.take j).map f ++ [f y[j]] := by
  rw [List.take_succ_eq_append_getElem h, List.map_append]; rfl
theorem mul_bnd {a b : Int} (ha : -1000000 ≤ a ∧ a ≤ 1000000) (hb : -1000000 ≤ b ∧ b ≤ 1000000) : -1000000000000 ≤ a * b ∧ a * b ≤ 1000000000000 := by
  have h : (a * b).natAbs ≤ 1000000 * 1000000 := by
    rw [Int.natAbs_mul]
    exact Nat.mul_le_mul (by omega) (by omega)
  omega

/-- What has been added up so far: the terms of L. -/
structure AccL (base : Nat) (w : World) (v : Value) (L : List Tm) : Prop where
  fit : ∀ t ∈ L, t.s.size ≤ 60
  acc : Acc base w v (L.foldl addT []) L.length (1000000000000 * L.length)
theorem AccL.below {base : Nat} {w w' : World} {v : Value} {L : List Tm} (h : AccL base w v L) (hb : Below w.heap.size w w') : AccL base w' v L := ⟨h.fit, h.acc.below hb⟩
theorem AccL.snoc {base : Nat} {w w' : World} {v v' : Value} {L : List Tm} {t : Tm} (h : AccL base w v L) (ht : t.s.size ≤ 60) (h2 : Acc base w' v' (addT (L.foldl addT []) t) (L.length + 1) (1000000000000 * L.length + 1000000000000)) : AccL base w' v' (L ++ [t]) :=
  ⟨fun u hu => by
    rcases List.mem_append.1 hu with hu | hu
    · exact h.fit u hu
    · rw [List.mem_singleton.1 hu]; exact ht, by
    rw [List.foldl_append, List.length_append]
    rw [show (1000000000000 : Int) * ((L.length + [t].length : Nat) : Int) = 1000000000000 * L.length + 1000000000000 by rw [List.length_singleton]; omega]
    exact h2⟩
theorem AccL.nil (w : World) : AccL w.heap.size (w.alloc (.cells #[] TI)) (.slice (some ⟨w.heap.size, 0, none⟩) 0 0) [] := ⟨fun t h => (by cases h), acc_zero w⟩

/-- What l2Times hands back. -/
def TimesYes (w : World) (ts : List Tm) (e : Ending) (w' : World) : Prop := ∃ v, e = .returned (.tuple #[v, .bool true]) ∧ OwnTerms w.heap.size w' v (canonT ts) ∧ SmallT (canonT ts) ∧ Below w.heap.size w w'
def TimesNo (w : World) (e : Ending) (w' : World) : Prop := ∃ g n cap, e = .returned (.tuple #[.slice (some ⟨g, 0, none⟩) n cap, .bool false]) ∧ Below w.heap.size w w'
def TimesAny (w : World) (b : Bool) (ts : List Tm) (e : Ending) (w' : World) : Prop := (b = true ∧ TimesYes w ts e w') ∨ (b = false ∧ TimesNo w e w')

end Go.Proofs.Ytdhmicpoigoleab

/- The contract of the model's 'FoxSum'. -/

namespace Go.Proofs.Ytdhmicpoigoleab
open Go.RowKit Go.Shelf

theorem mul_bnd60 {a b : Int} (ha : -1000000 ≤ a ∧ a ≤ 1000000) (hb : -60 ≤ b ∧ b ≤ 60) : -60000000 ≤ a * b ∧ a * b ≤ 60000000 := by
  have h : (a * b).natAbs ≤ 1000000 * 60 := by
    rw [Int.natAbs_mul]
    exact Nat.mul_le_mul (by omega) (by omega)
  omega
theorem scale_succ (c : Int) (ds acc : List Tm) (j : Nat) (h : j < ds.length) : (scaleT c (ds.take (j + 1))).foldl addT acc = addT ((scaleT c (ds.take j)).foldl addT acc) ⟨c * ds[j].c, ds[j].s⟩ := by
  unfold scaleT
  rw [List.take_succ_eq_append_getElem h, List.map_append, List.foldl_append]; rfl

/-- What FoxSum answers. -/
def foxSumB (x : List Tm) (g : Int) : Bool := sumB x && (inR 0 3 g && twB (canonT (foxI g x)))

theorem foxSumB_tw {x : List Tm} {g : Int} {b : Bool} (h : foxSumB x g = b) : b = true → twB (canonT (foxI g x)) = true := by
  intro hb
  subst hb
  unfold foxSumB at h
  simp only [Bool.and_eq_true] at h
  exact h.2.2
end Go.Proofs.Ytdhmicpoigoleab

/- The contracts of the model's 'l4Times', 'l4Done' and 'SeriesTimes'. -/

namespace Go.Proofs.Ytdhmicpoigoleab
open Go.RowKit Go.Shelf

/-- The product of two terms whose words are put one behind the other; those of all pairs that are not too long. -/
def pairS (t u : Tm) : Tm := ⟨t.c * u.c, t.s ++ u.s⟩
def short (t : Tm) : Bool := decide (t.s.size ≤ 4)
def pairsS (x y : List Tm) : List Tm := x.flatMap fun t => (y.map (pairS t)).filter short
theorem pairsS_succ (x y : List Tm) (k : Nat) (h : k < x.length) : pairsS (x.take (k + 1)) y = pairsS (x.take k) y ++ (y.map (pairS x[k])).filter short := by
  unfold pairsS
  rw [List.take_succ_eq_append_getElem h, List.flatMap_append]
  simp
def rowS (t : Tm) (y : List Tm) : List Tm := (y.map (pairS t)).filter short
theorem rowS_succ (t : Tm) (y : List Tm) (j : Nat) (h : j < y.length) : rowS t (y.take (j + 1)) = rowS t (y.take j) ++ (if (t.s ++ y[j].s).size ≤ 4 then [pairS t y[j]] else []) := by
  unfold rowS
  rw [map_succ (pairS t) y j h, List.filter_append, List.filter_cons, List.filter_nil]
  congr 1
  by_cases hs : (t.s ++ y[j].s).size ≤ 4
  · rw [if_pos (show short (pairS t y[j]) = true from decide_eq_true hs), if_pos hs]
  · rw [if_neg (show ¬ short (pairS t y[j]) = true by unfold short pairS; simpa using hs), if_neg hs]

/-- What fits into the products of series. -/
def SerL (x : List Tm) : Prop := x.length ≤ 400 ∧ ∀ t ∈ x, t.s.size ≤ 4 ∧ -1000000 ≤ t.c ∧ t.c ≤ 1000000

theorem serB_is (ts : List Tm) : serB ts = ((List.range ts.length).all (serAt ts) && decide (ts.length ≤ 400)) := rfl
theorem serB_parts {ts : List Tm} (h : serB ts = true) : ts.length ≤ 400 ∧ (∀ t ∈ ts, t.c ≠ 0 ∧ (-1000000 ≤ t.c ∧ t.c ≤ 1000000) ∧ monoB t.s = true) ∧ Canon ts := by
  rw [serB_is] at h
  simp only [Bool.and_eq_true, decide_eq_true_eq] at h
  obtain ⟨h1, h2⟩ := h
  have hat : ∀ j (hj : j < ts.length), ts[j].c ≠ 0 ∧ (-1000000 ≤ ts[j].c ∧ ts[j].c ≤ 1000000) ∧ monoB ts[j].s = true ∧ (j = 0 ∨ lessW (ts.getD (j - 1) default).s (ts.getD j default).s = true) := fun j hj => by
    have h3 := List.all_eq_true.1 h1 j (List.mem_range.2 hj)
    have hg : ts.getD j default = ts[j] := by rw [List.getD_eq_getElem?_getD, List.getElem?_eq_getElem hj]; rfl
    unfold serAt inR at h3
    simp only [Bool.and_eq_true, bne_iff_ne, ne_eq, Bool.or_eq_true, decide_eq_true_eq] at h3
    rw [hg] at h3 ⊢
    exact ⟨h3.1.1.1, h3.1.1.2, h3.1.2, h3.2⟩
  refine ⟨h2, fun t ht => ?_, pairwise_lessW fun k hk hk0 => ?_, fun t ht => ?_⟩
  · obtain ⟨j, hj, rfl⟩ := List.getElem_of_mem ht
    exact ⟨(hat j hj).1, (hat j hj).2.1, (hat j hj).2.2.1⟩
  · rcases (hat k hk).2.2.2 with h | h
    · omega
    · exact h
  · obtain ⟨j, hj, rfl⟩ := List.getElem_of_mem ht
    exact (hat j hj).1
theorem mono_size {s : ByteArray} (h : monoB s = true) : s.size ≤ 4 := by
  unfold monoB at h
  simp only [Bool.and_eq_true, decide_eq_true_eq] at h
  exact h.2
theorem serL_of {ts : List Tm} (h : serB ts = true) : SerL ts := by
  obtain ⟨h1, h2, _⟩ := serB_parts h
  exact ⟨h1, fun t ht => ⟨mono_size (h2 t ht).2.2, (h2 t ht).2.1⟩⟩
/-- For canonical lists only the terms have to be looked at. -/
def twS (ts : List Tm) : Bool := decide (ts.length ≤ 400) && ts.all fun t => inR (-1000000) 1000000 t.c && monoB t.s
theorem serB_canon {ts : List Tm} (h : Canon ts) : serB ts = twS ts := by
  rw [serB_is, Bool.and_comm]
  unfold twS
  congr 1
  have hg : ∀ j (h : j < ts.length), ts.getD j default = ts[j] := fun j h => by rw [List.getD_eq_getElem?_getD, List.getElem?_eq_getElem h]; rfl
  rw [Bool.eq_iff_iff]
  simp only [List.all_eq_true, List.mem_range]
  constructor
  · intro h1 t ht
    obtain ⟨j, hj, rfl⟩ := List.getElem_of_mem ht
    have h3 := h1 j hj
    unfold serAt at h3
    rw [hg j hj] at h3
    simp only [Bool.and_eq_true] at h3 ⊢
    exact ⟨h3.1.1.2, h3.1.2⟩
  · intro h1 j hj
    have h3 := h1 _ (List.getElem_mem hj)
    simp only [Bool.and_eq_true] at h3
    unfold serAt
    rw [hg j hj, h3.1, h3.2]
    have h4 : (ts[j].c != 0) = true := by simpa using h.2 _ (List.getElem_mem hj)
    rw [h4]
    by_cases hj0 : j = 0
    · simp [hj0]
    · have h5 := List.pairwise_iff_getElem.1 h.1 (j - 1) j (by omega) hj (by omega)
      rw [hg (j - 1) (by omega), h5]
      simp
theorem twS_parts {ts : List Tm} (h : twS ts = true) : ts.length ≤ 400 ∧ ∀ t ∈ ts, (-1000000 ≤ t.c ∧ t.c ≤ 1000000) ∧ monoB t.s = true := by
  unfold twS inR at h
  simp only [Bool.and_eq_true, decide_eq_true_eq, List.all_eq_true] at h
  exact h
theorem told_smallS {b : Bool} {L us : List Tm} (h : b = true → twS L = true) (hus : cond b L [] = us) : SmallT us ∧ us.length ≤ 400 := by
  cases b with
  | false => subst hus; exact ⟨⟨Nat.zero_le _, fun t h => by cases h⟩, Nat.zero_le _⟩
  | true =>
    have hus : L = us := hus
    subst hus
    obtain ⟨h1, h2⟩ := twS_parts (h rfl)
    exact ⟨⟨by unfold maxLen; omega, fun t ht => by have := h2 t ht; have := mono_size this.2; unfold maxLen; omega⟩, h1⟩
/-- What SeriesTimes answers. -/
def serProdB (x y : List Tm) : Bool := serB x && (serB y && twS (canonT (pairsS x y)))
theorem serProdB_tw {x y : List Tm} {b : Bool} (h : serProdB x y = b) : b = true → twS (canonT (pairsS x y)) = true := by
  intro hb
  subst hb
  unfold serProdB at h
  simp only [Bool.and_eq_true] at h
  exact h.2.2

end Go.Proofs.Ytdhmicpoigoleab

/- How great the coefficients of the series of a word get, and how many terms it has. -/

namespace Go.Proofs.Ytdhmicpoigoleab
open Go.RowKit

/-- The sum of the sizes of the coefficients of degree d; of those up to degree d. -/
def nrm (d : Nat) : List Tm → Nat
  | [] => 0
  | t :: r => (if t.s.size = d then t.c.natAbs else 0) + nrm d r
def cum (d : Nat) : List Tm → Nat
  | [] => 0
  | t :: r => (if t.s.size ≤ d then t.c.natAbs else 0) + cum d r
theorem nrm_append (d : Nat) (a b : List Tm) : nrm d (a ++ b) = nrm d a + nrm d b := by
  induction a with
  | nil => simp [nrm]
  | cons t r ih => rw [List.cons_append, nrm, nrm, ih]; omega
theorem nrm_nz (d : Nat) (t : Tm) : nrm d (nz t) = if t.s.size = d then t.c.natAbs else 0 := by
  unfold nz
  by_cases h : t.c = 0
  · rw [if_pos h, h]; simp [nrm]
  · rw [if_neg h]; simp [nrm]
theorem nrm_add (d : Nat) (t : Tm) : ∀ ts, nrm d (addT ts t) ≤ nrm d ts + if t.s.size = d then t.c.natAbs else 0
  | [] => by rw [addT, nrm_nz, nrm]; omega
  | x :: r => by
    rw [addT]
    by_cases h : lessW x.s t.s = true
    · rw [if_pos h, nrm, nrm]
      have := nrm_add d t r
      omega
    · rw [if_neg h]
      by_cases h2 : x.s = t.s
      · rw [if_pos h2, nrm_append, nrm_nz, nrm, h2]
        by_cases h3 : t.s.size = d
        · simp only [h3, if_true]; omega
        · simp only [h3, if_false]; omega
      · rw [if_neg h2, nrm_append, nrm_nz]; omega
theorem nrm_fold (d : Nat) : ∀ (ts acc : List Tm), nrm d (ts.foldl addT acc) ≤ nrm d acc + nrm d ts
  | [], acc => by simp [nrm]
  | t :: r, acc => by
    have h1 := nrm_fold d r (addT acc t)
    have h2 := nrm_add d t acc
    rw [List.foldl_cons, nrm]
    omega
theorem nrm_canon (d : Nat) (ts : List Tm) : nrm d (canonT ts) ≤ nrm d ts := by
  have h := nrm_fold d ts []
  rw [show nrm d [] = 0 from rfl, Nat.zero_add] at h
  exact h
theorem cum_zero : ∀ ts, cum 0 ts = nrm 0 ts
  | [] => rfl
  | t :: r => by rw [cum, nrm, cum_zero r]; simp only [Nat.le_zero_eq]
theorem cum_succ (d : Nat) : ∀ ts, cum (d + 1) ts = cum d ts + nrm (d + 1) ts
  | [] => rfl
  | t :: r => by
    rw [cum, cum, nrm, cum_succ d r]
    by_cases h : t.s.size ≤ d
    · rw [if_pos (by omega), if_pos h, if_neg (by omega)]; omega
    · by_cases h2 : t.s.size = d + 1
      · rw [if_pos (by omega), if_neg h, if_pos h2]; omega
      · rw [if_neg (by omega), if_neg h, if_neg h2]; omega
theorem cum_le (d : Nat) : ∀ {ts : List Tm} {t : Tm}, t ∈ ts → t.s.size ≤ d → t.c.natAbs ≤ cum d ts
  | u :: r, t, h, hd => by
    rw [cum]
    rcases List.mem_cons.1 h with rfl | h
    · rw [if_pos hd]; omega
    · have := cum_le d h hd; omega
theorem nrm_row (d : Nat) (t : Tm) {y : List Tm} (hy : ∀ e, nrm e y ≤ 1) : nrm d (rowS t y) ≤ if t.s.size ≤ d then t.c.natAbs else 0 := by
  have key : ∀ z : List Tm, nrm d (rowS t z) ≤ if t.s.size ≤ d then t.c.natAbs * nrm (d - t.s.size) z else 0 := by
    intro z
    induction z with
    | nil => simp [rowS, nrm]
    | cons u r ih =>
      have e : rowS t (u :: r) = (if short (pairS t u) = true then [pairS t u] else []) ++ rowS t r := by
        unfold rowS
        rw [List.map_cons, List.filter_cons]
        split <;> simp
      have h1 : nrm d (if short (pairS t u) = true then [pairS t u] else []) ≤ if t.s.size + u.s.size = d then t.c.natAbs * u.c.natAbs else 0 := by
        have hs : (pairS t u).s.size = t.s.size + u.s.size := by unfold pairS; exact ByteArray.size_append
        split
        · rw [nrm, nrm, hs]
          split
          · unfold pairS; rw [Int.natAbs_mul]; omega
          · omega
        · simp [nrm]
      rw [e, nrm_append, nrm]
      by_cases h : t.s.size ≤ d
      · rw [if_pos h] at ih ⊢
        rw [Nat.mul_add]
        have h2 : (if t.s.size + u.s.size = d then t.c.natAbs * u.c.natAbs else 0) ≤ t.c.natAbs * (if u.s.size = d - t.s.size then u.c.natAbs else 0) := by
          by_cases h3 : t.s.size + u.s.size = d
          · rw [if_pos h3, if_pos (by omega)]; exact Nat.le_refl _
          · rw [if_neg h3]; exact Nat.zero_le _
        omega
      · rw [if_neg h] at ih ⊢
        have h3 : ¬ t.s.size + u.s.size = d := by omega
        rw [if_neg h3] at h1
        omega
  have h := key y
  by_cases hd : t.s.size ≤ d
  · rw [if_pos hd] at h ⊢
    have := Nat.mul_le_mul_left t.c.natAbs (hy (d - t.s.size))
    omega
  · rw [if_neg hd] at h ⊢; exact h
theorem nrm_pairs (d : Nat) {y : List Tm} (hy : ∀ e, nrm e y ≤ 1) : ∀ x, nrm d (pairsS x y) ≤ cum d x
  | [] => by simp [pairsS, nrm]
  | t :: r => by
    have h1 := nrm_pairs d hy r
    have h2 := nrm_row d t hy
    have e : pairsS (t :: r) y = rowS t y ++ pairsS r y := by unfold pairsS rowS; rw [List.flatMap_cons]
    rw [e, nrm_append, cum]
    omega

/-- How many ways there are to choose: of degree 0 to 4. -/
def stepW (p : Nat × Nat × Nat × Nat × Nat) : Nat × Nat × Nat × Nat × Nat := (p.1, p.1 + p.2.1, p.1 + p.2.1 + p.2.2.1, p.1 + p.2.1 + p.2.2.1 + p.2.2.2.1, p.1 + p.2.1 + p.2.2.1 + p.2.2.2.1 + p.2.2.2.2)
def waysT : Nat → Nat × Nat × Nat × Nat × Nat
  | 0 => (1, 1, 1, 1, 1)
  | k + 1 => stepW (waysT k)
theorem ways_le {k n : Nat} (h : k ≤ n) : (waysT k).2.2.2.2 ≤ (waysT n).2.2.2.2 := by
  induction h with
  | refl => exact Nat.le_refl _
  | step _ ih => exact Nat.le_trans ih (by rw [waysT, stepW]; simp only []; omega)
theorem ways_max : (waysT 60).2.2.2.2 = 635376 := by decide +kernel
def WaysIn (k : Nat) (x : List Tm) : Prop := cum 0 x ≤ (waysT k).1 ∧ cum 1 x ≤ (waysT k).2.1 ∧ cum 2 x ≤ (waysT k).2.2.1 ∧ cum 3 x ≤ (waysT k).2.2.2.1 ∧ cum 4 x ≤ (waysT k).2.2.2.2
theorem ways_step {k : Nat} {x y : List Tm} (hy : ∀ e, nrm e y ≤ 1) (h : WaysIn k x) : WaysIn (k + 1) (canonT (pairsS x y)) := by
  obtain ⟨h0, h1, h2, h3, h4⟩ := h
  have hn : ∀ d, nrm d (canonT (pairsS x y)) ≤ cum d x := fun d => Nat.le_trans (nrm_canon d _) (nrm_pairs d hy x)
  have n0 := hn 0
  have n1 := hn 1
  have n2 := hn 2
  have n3 := hn 3
  have n4 := hn 4
  have e0 := cum_zero (canonT (pairsS x y))
  have e1 := cum_succ 0 (canonT (pairsS x y))
  have e2 := cum_succ 1 (canonT (pairsS x y))
  have e3 := cum_succ 2 (canonT (pairsS x y))
  have e4 := cum_succ 3 (canonT (pairsS x y))
  simp only [Nat.zero_add, Nat.reduceAdd] at e1 e2 e3 e4
  unfold WaysIn
  rw [waysT, stepW]
  simp only []
  omega
theorem ways_coef {k : Nat} {x : List Tm} (h : WaysIn k x) (hk : k ≤ 60) {t : Tm} (ht : t ∈ x) (hs : t.s.size ≤ 4) : -1000000 ≤ t.c ∧ t.c ≤ 1000000 := by
  have h1 := cum_le 4 ht hs
  have h2 := h.2.2.2.2
  have h3 := ways_le hk
  rw [ways_max] at h3
  omega

/-! ### How many terms -/
theorem nodup_len {α : Type} [BEq α] [LawfulBEq α] : ∀ (l m : List α), l.Nodup → (∀ x ∈ l, x ∈ m) → l.length ≤ m.length
  | [], _, _, _ => Nat.zero_le _
  | x :: r, m, h, hs => by
    obtain ⟨h1, h2⟩ := List.nodup_cons.1 h
    have hx := hs x (by simp)
    have := nodup_len r (m.erase x) h2 fun y hy => (List.mem_erase_of_ne (fun e => h1 (by rw [← e]; exact hy))).2 (hs y (by simp [hy]))
    rw [List.length_erase_of_mem hx] at this
    have : 0 < m.length := List.length_pos_of_mem hx
    rw [List.length_cons]; omega
def monosN : Nat → List (List UInt8)
  | 0 => [[]]
  | n + 1 => (monosN n).flatMap fun l => [97 :: l, 98 :: l, 99 :: l, 100 :: l]
theorem mem_monos : ∀ (l : List UInt8), l.all genB = true → l ∈ monosN l.length
  | [], _ => by simp [monosN]
  | c :: r, h => by
    rw [List.all_cons, Bool.and_eq_true] at h
    obtain ⟨hc, hr⟩ := h
    have ih := mem_monos r hr
    have h4 : c = 97 ∨ c = 98 ∨ c = 99 ∨ c = 100 := by
      unfold genB at hc
      simp only [Bool.and_eq_true, decide_eq_true_eq] at hc
      have : c.toNat = 97 ∨ c.toNat = 98 ∨ c.toNat = 99 ∨ c.toNat = 100 := by omega
      rcases this with h | h | h | h
      · exact .inl (UInt8.toNat_inj.1 h)
      · exact .inr (.inl (UInt8.toNat_inj.1 h))
      · exact .inr (.inr (.inl (UInt8.toNat_inj.1 h)))
      · exact .inr (.inr (.inr (UInt8.toNat_inj.1 h)))
    rw [List.length_cons, monosN]
    refine List.mem_flatMap.2 ⟨r, ih, ?_⟩
    rcases h4 with rfl | rfl | rfl | rfl <;> simp
def monosAll : List (List UInt8) := (List.range 5).flatMap monosN
theorem monosAll_len : monosAll.length = 341 := by decide +kernel
theorem mono_mem {s : ByteArray} (h : monoB s = true) : s.data.toList ∈ monosAll := by
  unfold monoB at h
  simp only [Bool.and_eq_true, decide_eq_true_eq] at h
  have hl : s.data.toList.length ≤ 4 := by simpa using h.2
  exact List.mem_flatMap.2 ⟨_, List.mem_range.2 (by omega), mem_monos _ h.1⟩
theorem canon_len341 {ts : List Tm} (hc : Canon ts) (h : ∀ t ∈ ts, monoB t.s = true) : ts.length ≤ 341 := by
  have := nodup_len (ts.map fun t => t.s.data.toList) monosAll (by
    rw [List.nodup_iff_pairwise_ne, List.pairwise_map]
    exact hc.1.imp fun hl e => lessW_ne hl (bytes_ext e)) (fun l hl => by
    obtain ⟨t, ht, rfl⟩ := List.mem_map.1 hl
    exact mono_mem (h t ht))
  rwa [List.length_map, monosAll_len] at this
theorem mono_append {a b : ByteArray} (ha : monoB a = true) (hb : monoB b = true) (h : (a ++ b).size ≤ 4) : monoB (a ++ b) = true := by
  unfold monoB at *
  simp only [Bool.and_eq_true, decide_eq_true_eq] at *
  refine ⟨?_, h⟩
  rw [append_toList, List.all_append, ha.1, hb.1]; rfl
theorem pairsS_mono {x y : List Tm} (hx : ∀ t ∈ x, monoB t.s = true) (hy : ∀ t ∈ y, monoB t.s = true) : ∀ t ∈ pairsS x y, monoB t.s = true := fun t ht => by
  obtain ⟨u, hu, ht⟩ := List.mem_flatMap.1 ht
  obtain ⟨h1, h2⟩ := List.mem_filter.1 ht
  obtain ⟨v, hv, rfl⟩ := List.mem_map.1 h1
  exact mono_append (hx u hu) (hy v hv) (of_decide_eq_true h2)

end Go.Proofs.Ytdhmicpoigoleab

/- The contracts of the model's powers of words. -/

namespace Go.Proofs.Ytdhmicpoigoleab
open Go.RowKit

theorem l6In_same (k lo hi : Int) (b : Bool) (w : World) (h : (decide (lo ≤ k) && decide (k ≤ hi)) = b) :
    Calls Try.prog 18 #[.int .i64 k, .int .i64 lo, .int .i64 hi] w fun e w' => e = .returned (.bool b) ∧ w = w' := by
  by_cases h1 : lo ≤ k
  · by_cases h2 : k ≤ hi
    · have H : Hid (b = true) := Lib.hid (by rw [← h, decide_eq_true h1, decide_eq_true h2]; rfl)
      clear h
      go_enter Try.func18, Try.ntmps18
      go_wp2
      go_ret
      exact ⟨ret_bool H.out.symm, rfl⟩
    · have H : Hid (b = false) := Lib.hid (by rw [← h, decide_eq_false h2, Bool.and_false])
      clear h
      have h3 : hi < k := by omega
      go_enter Try.func18, Try.ntmps18
      go_wp2
      go_ret
      exact ⟨ret_bool H.out.symm, rfl⟩
  · have H : Hid (b = false) := Lib.hid (by rw [← h, decide_eq_false h1]; rfl)
    clear h
    have h3 : k < lo := by omega
    go_enter Try.func18, Try.ntmps18
    go_wp2
    go_ret
    exact ⟨ret_bool H.out.symm, rfl⟩

end Go.Proofs.Ytdhmicpoigoleab

/- The contracts of slices.Grow and slices.Concat at terms. -/

namespace Go.Proofs.Ytdhmicpoigoleab
open Go.RowKit Go.Shelf

theorem ownsRow_low {W : World} {base : Nat} {e : TypeId} {size : Nat} {v : Value} {n : Nat} {xs : List Value} (h : W.ownsRow base e size v n xs) : ∀ j, v.ownBlock = some j → base ≤ j := fun j ej => (h.lt j ej).1

/-- A slice of terms that may be nil. -/
def PartT (w : World) (v : Value) (ts : List Tm) : Prop := (v = .slice none 0 0 ∧ ts = []) ∨ ∃ x cap, v = .slice (some x) ts.length cap ∧ ∀ j u, (termsV ts)[j]? = some u → w.cell? (x.add j) = some u ∧ x.block < w.heap.size
theorem PartT.below {w w' : World} {v : Value} {ts : List Tm} (h : PartT w v ts) (hb : Below w.heap.size w w') : PartT w' v ts := by
  rcases h with h | ⟨x, cap, e, h⟩
  · exact .inl h
  · exact .inr ⟨x, cap, e, fun j u hu => by
      obtain ⟨h1, h2⟩ := h j u hu
      exact ⟨(hb.cell (p := x.add j) (by rw [addr_add_block]; exact h2)).trans h1, Nat.lt_of_lt_of_le h2 hb.size⟩⟩
theorem partT_of {w : World} {ad : Addr} {n cap : Nat} {ts : List Tm} (h : IsTerms w (some ad) n ts) : PartT w (.slice (some ad) n cap) ts := by
  refine .inr ⟨ad, cap, by rw [h.len], fun j u hu => ?_⟩
  rcases Nat.eq_zero_or_pos n with h0 | h0
  · have : ts = [] := List.length_eq_zero_iff.1 (h.len.trans h0)
    subst this
    simp [termsV] at hu
  · obtain ⟨z, e, h2⟩ := h.at_ h0
    cases e
    exact ⟨h2.cells j u hu, h2.1⟩
theorem partT_own {base : Nat} {w : World} {v : Value} {ts : List Tm} (h : OwnT base w v ts) : PartT w v ts := by
  rcases h.2 with ⟨rfl, h0⟩ | ⟨g, cap, cur, rfl, _, hg, _⟩
  · exact .inl ⟨rfl, List.length_eq_zero_iff.1 h0⟩
  · exact .inr ⟨_, cap, rfl, fun j u hu => ⟨(termsAt_of_owns rfl h).cells j u hu, (ownsRow_cap h).2.2.2⟩⟩
theorem PartT.len {w : World} {v : Value} {ts : List Tm} (h : PartT w v ts) : ∃ a cap, v = .slice a ts.length cap := by
  rcases h with ⟨rfl, rfl⟩ | ⟨x, cap, e, _⟩
  · exact ⟨_, _, rfl⟩
  · exact ⟨_, _, e⟩

def lens (ps : List (Value × List Tm)) : Nat := (ps.map fun p => p.2.length).sum
def flatT (ps : List (Value × List Tm)) : List Tm := (ps.map Prod.snd).flatten
theorem lens_succ (ps : List (Value × List Tm)) (k : Nat) (h : k < ps.length) : lens (ps.take (k + 1)) = lens (ps.take k) + ps[k].2.length := by
  unfold lens
  rw [List.take_succ_eq_append_getElem h, List.map_append, List.sum_append]; simp
theorem flatT_succ (ps : List (Value × List Tm)) (k : Nat) (h : k < ps.length) : flatT (ps.take (k + 1)) = flatT (ps.take k) ++ ps[k].2 := by
  unfold flatT
  rw [List.take_succ_eq_append_getElem h, List.map_append, List.flatten_append]; simp
theorem flatT_len (ps : List (Value × List Tm)) : (flatT ps).length = lens ps := by
  unfold flatT lens
  rw [List.length_flatten, List.map_map]; rfl
theorem lens_take (ps : List (Value × List Tm)) (k : Nat) : lens (ps.take k) ≤ lens ps := by
  have h : lens ps = lens (ps.take k) + lens (ps.drop k) := by
    conv => lhs; rw [← List.take_append_drop k ps]
    unfold lens
    rw [List.map_append, List.sum_append]
  omega

end Go.Proofs.Ytdhmicpoigoleab

/- The contracts of the model's 'l4Letter' and 'SeriesOf'. -/

namespace Go.Proofs.Ytdhmicpoigoleab
open Go.RowKit Go.Shelf

def letX (c : UInt8) : List UInt8 := [UInt8.ofNat (97 + idxB c)]
/-- The sign of a power of an inverse letter. -/
def altZ (i : Nat) : Int := if i % 2 = 0 then 1 else -1
def powT (c : UInt8) (i : Nat) : Tm := ⟨altZ i, bstr (repL i (letX c))⟩
/-- The series of a letter. -/
def letS (c : UInt8) : List Tm := if 97 ≤ c.toNat then [⟨1, { data := #[] }⟩, ⟨1, bstr (letX c)⟩] else (List.range 5).map (powT c)
theorem let_cases {P : UInt8 → Prop} (h : ∀ n : Fin 8, P (UInt8.ofNat (if n.val < 4 then 97 + n.val else 61 + n.val))) {c : UInt8} (hc : letB c = true) : P c := by
  have h2 := (letB_iff c).1 hc
  have : ∃ n : Fin 8, c = UInt8.ofNat (if n.val < 4 then 97 + n.val else 61 + n.val) := by
    rcases h2 with h2 | h2
    · exact ⟨⟨c.toNat - 97, by omega⟩, UInt8.toNat_inj.1 (by rw [if_pos (by show c.toNat - 97 < 4; omega)]; rw [UInt8.toNat_ofNat', Nat.mod_eq_of_lt (by show 97 + (c.toNat - 97) < _; omega)]; show c.toNat = 97 + (c.toNat - 97); omega)⟩
    · exact ⟨⟨c.toNat - 61, by omega⟩, UInt8.toNat_inj.1 (by rw [if_neg (by show ¬ c.toNat - 61 < 4; omega)]; rw [UInt8.toNat_ofNat', Nat.mod_eq_of_lt (by show 61 + (c.toNat - 61) < _; omega)]; show c.toNat = 61 + (c.toNat - 61); omega)⟩
  obtain ⟨n, rfl⟩ := this
  exact h n
theorem letS_facts : ∀ n : Fin 8, (letS (UInt8.ofNat (if n.val < 4 then 97 + n.val else 61 + n.val))).all (fun t => monoB t.s && (inR (-1) 1 t.c)) = true ∧ (letS (UInt8.ofNat (if n.val < 4 then 97 + n.val else 61 + n.val))).length ≤ 5 ∧
    (List.range 5).all (fun e => decide (nrm e (letS (UInt8.ofNat (if n.val < 4 then 97 + n.val else 61 + n.val))) ≤ 1)) = true := by decide +kernel
theorem nrm_far {d : Nat} : ∀ {ts : List Tm}, (∀ t ∈ ts, t.s.size ≠ d) → nrm d ts = 0
  | [], _ => rfl
  | t :: r, h => by rw [nrm, if_neg (h t (by simp)), nrm_far fun u hu => h u (by simp [hu])]
theorem letS_ok {c : UInt8} (hc : letB c = true) : (∀ t ∈ letS c, monoB t.s = true ∧ -1 ≤ t.c ∧ t.c ≤ 1) ∧ (letS c).length ≤ 5 ∧ ∀ e, nrm e (letS c) ≤ 1 := by
  obtain ⟨h1, h2, h3⟩ := let_cases (P := fun c => (letS c).all (fun t => monoB t.s && (inR (-1) 1 t.c)) = true ∧ (letS c).length ≤ 5 ∧ (List.range 5).all (fun e => decide (nrm e (letS c) ≤ 1)) = true) letS_facts hc
  have h4 : ∀ t ∈ letS c, monoB t.s = true ∧ -1 ≤ t.c ∧ t.c ≤ 1 := fun t ht => by
    have := List.all_eq_true.1 h1 t ht
    unfold inR at this
    simp only [Bool.and_eq_true, decide_eq_true_eq] at this
    exact this
  refine ⟨h4, h2, fun e => ?_⟩
  by_cases he : e < 5
  · exact of_decide_eq_true (List.all_eq_true.1 h3 e (List.mem_range.2 he))
  · rw [nrm_far fun t ht => by have := mono_size (h4 t ht).1; omega]; omega
theorem letS_ser {c : UInt8} (hc : letB c = true) : SerL (letS c) := by
  obtain ⟨h1, h2, _⟩ := letS_ok hc
  exact ⟨by omega, fun t ht => by have := h1 t ht; have := mono_size this.1; omega⟩

/-- The series of a word. -/
def oneT : List Tm := [⟨1, { data := #[] }⟩]
def serW (l : List UInt8) : List Tm := l.foldl (fun out c => canonT (pairsS out (letS c))) oneT
theorem serW_snoc (l : List UInt8) (c : UInt8) : serW (l ++ [c]) = canonT (pairsS (serW l) (letS c)) := by unfold serW; rw [List.foldl_append]; rfl
structure SerOK (k : Nat) (x : List Tm) : Prop where
  ways : WaysIn k x
  canon : Canon x
  mono : ∀ t ∈ x, monoB t.s = true
theorem serOK_one : SerOK 0 oneT :=
  ⟨by unfold WaysIn; decide, ⟨by simp [oneT], fun t ht => by rw [List.mem_singleton.1 ht]; exact Int.one_ne_zero⟩, fun t ht => by rw [List.mem_singleton.1 ht]; decide⟩
theorem SerOK.step {k : Nat} {x : List Tm} {c : UInt8} (h : SerOK k x) (hc : letB c = true) : SerOK (k + 1) (canonT (pairsS x (letS c))) :=
  ⟨ways_step (letS_ok hc).2.2 h.ways, canon_of _, fun t ht => by
    obtain ⟨v, hv, e⟩ := canon_words ht
    rw [← e]
    exact pairsS_mono h.mono (fun u hu => ((letS_ok hc).1 u hu).1) v hv⟩
theorem SerOK.ser {k : Nat} {x : List Tm} (h : SerOK k x) (hk : k ≤ 60) : SerL x :=
  ⟨by have := canon_len341 h.canon h.mono; omega, fun t ht => by
    have h1 := mono_size (h.mono t ht)
    exact ⟨h1, ways_coef h.ways hk ht h1⟩⟩
theorem SerOK.told {k : Nat} {x : List Tm} (h : SerOK k x) (hk : k ≤ 60) : twS x = true := by
  obtain ⟨h1, h2⟩ := h.ser hk
  unfold twS inR
  rw [decide_eq_true h1, Bool.true_and]
  refine List.all_eq_true.2 fun t ht => ?_
  have := h2 t ht
  rw [h.mono t ht, decide_eq_true this.2.1, decide_eq_true this.2.2]; rfl
theorem serW_ok : ∀ (l : List UInt8), letL l = true → SerOK l.length (serW l) := by
  intro l
  generalize hn : l.length = n
  induction n generalizing l with
  | zero => intro _; rw [List.length_eq_zero_iff.1 hn]; exact serOK_one
  | succ n ih =>
    intro hl
    obtain ⟨p, c, rfl⟩ := last_split l (by omega)
    rw [letL_append, Bool.and_eq_true] at hl
    rw [serW_snoc]
    have hp : p.length = n := by rw [List.length_append] at hn; simp at hn; exact hn
    exact (ih p hp hl.1).step (by have := hl.2; simp [letL] at this; exact this)

theorem isTerms_ser {w : World} {ad : Option Addr} {n : Nat} {x : List Tm} (h : IsTerms w ad n x) : x.length = n := h.len

theorem acc_ser {base : Nat} {w : World} {v : Value} {x : List Tm} {N : Nat} {B : Int} (h : Acc base w v x N B) (hs : SerL x) : ∃ g cap, v = .slice (some ⟨g, 0, none⟩) x.length cap ∧ IsTerms w (some ⟨g, 0, none⟩) x.length x := by
  obtain ⟨g, cap, rfl, h1, h2, h3, h4⟩ := h.own.form
  exact ⟨g, cap, rfl, rfl, by have := hs.1; unfold maxLen; omega, fun _ => ⟨_, rfl, h1⟩, fun t ht => by have := hs.2 t ht; unfold maxLen; omega⟩
theorem own_ser {base : Nat} {w : World} {v : Value} {x : List Tm} (h : OwnTerms base w v x) (hs : SerL x) : ∃ g cap, v = .slice (some ⟨g, 0, none⟩) x.length cap ∧ IsTerms w (some ⟨g, 0, none⟩) x.length x := by
  obtain ⟨g, cap, rfl, h1, h2, h3, h4⟩ := h.form
  exact ⟨g, cap, rfl, rfl, by have := hs.1; unfold maxLen; omega, fun _ => ⟨_, rfl, h1⟩, fun t ht => by have := hs.2 t ht; unfold maxLen; omega⟩
theorem serL_small {x : List Tm} (h : SerL x) : SmallT x := ⟨by have := h.1; unfold maxLen; omega, fun t ht => by have := h.2 t ht; unfold maxLen; omega⟩

theorem serW_tw {s : ByteArray} {b : Bool} (h : wordB s.data.toList = b) : b = true → twS (serW s.data.toList) = true := by
  intro hb
  subst hb
  obtain ⟨h1, h2, _⟩ := (wordB_iff _).1 h
  exact (serW_ok _ h2).told h1
end Go.Proofs.Ytdhmicpoigoleab

/- The contracts of the model's 'l91Word', 'l91Two' and 'DrawWordComm'. -/

namespace Go.Proofs.Ytdhmicpoigoleab
open Go.RowKit Go.Shelf

theorem conv_byte (c : UInt8) (v : Int) (hv : (c.toNat : Int) = v) (V : World) : (convert 22 9 (.slice (some ⟨V.heap.size, 0, none⟩) 1 1)).run Try.prog (V.alloc (.cells #[.int .u8 v] 5)) = .ok (.string (bstr [c])) (V.alloc (.cells #[.int .u8 v] 5)) := by
  have := run_convert_bytes_back (P := Try.prog) (V.alloc (.cells #[.int .u8 v] 5)) 22 9 5 ⟨V.heap.size, 0, none⟩ 1 [c] Try.underlying22 Try.underlying5 Try.underlying9 (fun j hj => by
    have hj0 : j = 0 := by simp at hj; exact hj
    subst hj0
    show (V.alloc _).cell? ((⟨V.heap.size, 0, none⟩ : Addr).add 0) = some (.int .u8 (c.toNat : Int))
    rw [hv]
    exact cell_one_new _ _ _ 0 _ rfl)
  exact this

theorem grownAny_of_below {w w' : World} (hb : Below w.heap.size w w') (row : Option Nat) : w.grownBy w' row := ⟨hb.os, hb.tape, hb.output, hb.size, fun j hj _ => hb.block j hj⟩

set_option maxRecDepth 100000 in
set_option maxHeartbeats 2000000 in
theorem l91Word_grown (base rb : Nat) (a : Option Addr) (n cap : Nat) (zs : List Int) (p most gens : Nat) (w : World) (h : Rd base w rb a n cap zs p) (hp : p ≤ 90000) (hm : most ≤ 20) (hg1 : 1 ≤ gens) (hg2 : gens ≤ 4) :
    Calls Try.prog 16 #[.pointer (some ⟨rb, 0, none⟩), .int .i64 most, .int .i64 gens] w fun e w' => (∃ s : ByteArray, e = .returned (.string s) ∧ s.size ≤ most + 1) ∧ (∃ p', p' ≤ p + 60 ∧ Rd base w' rb a n cap zs p') ∧ Below base w w' ∧ w.grownBy w' (some rb) := by
  have hw1 : IntKind.i64.wrap ((most : Int) + 1) = ((most + 1 : Nat) : Int) := by rw [IntWalk.i64_in _ (by omega)]; push_cast; rfl
  have hlo := h.lo
  have hrl := h.lt
  have HP := Lib.hid (pick_any base rb a n cap zs p (most + 1) w h (by omega) (by omega) (by omega))
  clear h
  go_enter Try.func16, Try.ntmps16
  go_wp2_with fail
  refine HP.out.mono ?_
  rintro e w1 ⟨⟨N, rfl, hN⟩, hR1, hB1, hG1⟩
  have HR1 := Lib.hid hR1
  have HB1 := Lib.hid hB1
  have HG1 := Lib.hid hG1
  clear hR1 hB1 hG1
  go_wp2_with fail
  go_loopw [7, 9] (fun v i wr => ∃ (k : Nat) (s : ByteArray), k ≤ N ∧ v = .string s ∧ i = .int .i64 k ∧ s.size ≤ k ∧ Rd base wr rb a n cap zs (p + 1 + 2 * k) ∧ Below base w wr ∧ w.grownBy wr (some rb)) (fun _ i _ => N - (intOf i).toNat)
  case atStart => exact ⟨0, _, Nat.zero_le _, rfl, rfl, Nat.le_refl _, HR1.out, HB1.out, HG1.out⟩
  case round =>
    obtain ⟨k, s, hk, rfl, rfl, hsz, hR, hB, hG⟩ := hrel
    have HR := Lib.hid hR
    have HB := Lib.hid hB
    have HG := Lib.hid hG
    have hbl := hR.lt
    clear hR hB hG
    by_cases hlt : k < N
    · have hli : (k : Int) < (N : Int) := by omega
      have HP2 := Lib.hid (pick_any base rb a n cap zs (p + 1 + 2 * k) gens wr HR.out (by omega) hg1 (by omega))
      go_wp2_with fail
      refine HP2.out.mono ?_
      rintro e w5 ⟨⟨z, rfl, hz⟩, hR5, hB5, hG5⟩
      have HP3 := Lib.hid (pick_any base rb a n cap zs (p + 1 + 2 * k + 1) 2 w5 hR5 (by omega) (by omega) (by omega))
      have HB5 := Lib.hid (HB.out.trans hB5)
      have HG5 := Lib.hid (HG.out.trans hG5)
      have hwz : IntKind.i64.wrap (97 + (z : Int)) = 97 + (z : Int) := IntWalk.i64_in _ (by omega)
      have hwu : IntKind.u8.wrap (97 + (z : Int)) = 97 + (z : Int) := IntWalk.u8_in _ (by omega)
      clear hR5 hB5 hG5
      go_wp2_with fail
      refine HP3.out.mono ?_
      rintro e w6 ⟨⟨y, rfl, hy⟩, hR6, hB6, hG6⟩
      have HB6 := Lib.hid (HB5.out.trans hB6)
      have HG6 := Lib.hid (HG5.out.trans hG6)
      have hb6l := hR6.lt
      have hnot : ¬ 9223372036854775807 < s.size + 1 := by omega
      have HR6 := Lib.hid hR6
      clear hR6 hB6 hG6
      by_cases hy0 : y = 0
      · subst hy0
        have hws : IntKind.u8.wrap (97 + (z : Int) - 32) = 65 + (z : Int) := by rw [show (97 : Int) + (z : Int) - 32 = 65 + (z : Int) by omega]; exact IntWalk.u8_in _ (by omega)
        obtain ⟨t, ht⟩ : ∃ t, bstr [UInt8.ofNat (65 + z)] = t := ⟨_, rfl⟩
        have hts : t.size = 1 := by rw [← ht]; rfl
        have hcv := conv_byte (UInt8.ofNat (65 + z)) (65 + (z : Int)) (by rw [UInt8.toNat_ofNat', Nat.mod_eq_of_lt (by omega)]; push_cast; rfl) w6
        rw [ht] at hcv
        have hnot2 : ¬ 9223372036854775807 < s.size + t.size := by omega
        have HR7 := Lib.hid (HR6.out.below ((Below.refl _ w6).alloc (Nat.le_refl _) (.cells #[.int .u8 (65 + (z : Int))] 5)))
        have HB7 := Lib.hid (HB6.out.alloc (by omega) (.cells #[.int .u8 (65 + (z : Int))] 5))
        have HG7 := Lib.hid (HG6.out.trans (World.grownBy_alloc w6 (.cells #[.int .u8 (65 + (z : Int))] 5) _))
        clear ht
        go_wp2
        go_roundw
        case rel => exact ⟨k + 1, _, by omega, rfl, by go_num, by rw [ByteArray.size_append]; omega, (show p + 1 + 2 * (k + 1) = p + 1 + 2 * k + 1 + 1 by omega) ▸ HR7.out, HB7.out, HG7.out⟩
        case measure => simp [intOf]; omega
      · have hyi : ((y : Int) == 0) = false := by simpa using hy0
        have hyn : ¬ (y : Int) = 0 := by omega
        obtain ⟨t, ht⟩ : ∃ t, bstr [UInt8.ofNat (97 + z)] = t := ⟨_, rfl⟩
        have hts : t.size = 1 := by rw [← ht]; rfl
        have hcv := conv_byte (UInt8.ofNat (97 + z)) (97 + (z : Int)) (by rw [UInt8.toNat_ofNat', Nat.mod_eq_of_lt (by omega)]; push_cast; rfl) w6
        rw [ht] at hcv
        have hnot2 : ¬ 9223372036854775807 < s.size + t.size := by omega
        have HR7 := Lib.hid (HR6.out.below ((Below.refl _ w6).alloc (Nat.le_refl _) (.cells #[.int .u8 (97 + (z : Int))] 5)))
        have HB7 := Lib.hid (HB6.out.alloc (by omega) (.cells #[.int .u8 (97 + (z : Int))] 5))
        have HG7 := Lib.hid (HG6.out.trans (World.grownBy_alloc w6 (.cells #[.int .u8 (97 + (z : Int))] 5) _))
        clear ht
        go_wp2
        go_roundw
        case rel => exact ⟨k + 1, _, by omega, rfl, by go_num, by rw [ByteArray.size_append]; omega, (show p + 1 + 2 * (k + 1) = p + 1 + 2 * k + 1 + 1 by omega) ▸ HR7.out, HB7.out, HG7.out⟩
        case measure => simp [intOf]; omega
    · obtain rfl : N = k := by omega
      have HP2 := Lib.hid (pick_any base rb a n cap zs (p + 1 + 2 * N) 30 wr HR.out (by omega) (by omega) (by omega))
      go_wp2_with fail
      refine HP2.out.mono ?_
      rintro e w6 ⟨⟨z, rfl, hz⟩, hR6, hB6, hG6⟩
      have hb6l := hR6.lt
      have HR6 := Lib.hid hR6
      have HB6 := Lib.hid (HB.out.trans hB6)
      have HG6 := Lib.hid (HG.out.trans hG6)
      have hnot : ¬ 9223372036854775807 < s.size + 1 := by omega
      clear hR6 hB6 hG6
      by_cases hz0 : z = 0
      · subst hz0
        go_wp2
        go_ret
        exact ⟨⟨_, rfl, by rw [ByteArray.size_append]; show s.size + 1 ≤ _; omega⟩, ⟨_, by omega, HR6.out⟩, HB6.out, HG6.out⟩
      · have hzi : ((z : Int) == 0) = false := by simpa using hz0
        have hzn : ¬ (z : Int) = 0 := by omega
        have hrl2 := redL_len s.data.toList []
        obtain ⟨q, hq⟩ : ∃ q, bstr (redL [] s.data.toList) = q := ⟨_, rfl⟩
        have hqs : q.size ≤ s.size := by
          have e1 : q.size = (redL [] s.data.toList).length := by rw [← hq]; have : (bstr (redL [] s.data.toList)).size = (bstr (redL [] s.data.toList)).data.toList.length := by simp
                                                                  rw [this, bstr_toList]
          have e2 : s.data.toList.length = s.size := by simp
          simp only [List.length_nil] at hrl2
          omega
        have HRe := Lib.hid (reduce_is s q w6 (by omega) hq)
        clear hq hrl2
        go_wp2_with fail
        refine HRe.out.mono ?_
        rintro e w7 ⟨rfl, hb7⟩
        have HR7 := Lib.hid (HR6.out.below hb7)
        have HB7 := Lib.hid (HB6.out.trans (hb7.mono (by omega)))
        have HG7 := Lib.hid (HG6.out.trans (grownAny_of_below hb7 _))
        clear hb7
        go_wp2
        go_ret
        exact ⟨⟨_, rfl, by omega⟩, ⟨_, by omega, HR7.out⟩, HB7.out, HG7.out⟩

theorem l91Word_any (base rb : Nat) (a : Option Addr) (n cap : Nat) (zs : List Int) (p most gens : Nat) (w : World) (h : Rd base w rb a n cap zs p) (hp : p ≤ 90000) (hm : most ≤ 20) (hg1 : 1 ≤ gens) (hg2 : gens ≤ 4) :
    Calls Try.prog 16 #[.pointer (some ⟨rb, 0, none⟩), .int .i64 most, .int .i64 gens] w fun e w' => (∃ s : ByteArray, e = .returned (.string s) ∧ s.size ≤ most + 1) ∧ (∃ p', p' ≤ p + 60 ∧ Rd base w' rb a n cap zs p') ∧ Below base w w' := 
  (l91Word_grown base rb a n cap zs p most gens w h hp hm hg1 hg2).mono fun _ _ ⟨h1, h2, h3, _⟩ => ⟨h1, h2, h3⟩

end Go.Proofs.Ytdhmicpoigoleab

/- The contracts of the laws' own helpers that mark memory and look the marks up. -/

namespace Go.Proofs.Ytdhmicpoigoleab
open Go.RowKit Go.Shelf

/-- A term is stored: its two cells. -/
theorem set_terms (us : List Tm) (i : Nat) (t : Tm) (hi : i < us.length) : ((termsV us).set (i * 2) (.int .i64 t.c)).set (i * 2 + 1) (.string t.s) = termsV (us.set i t) := by
  have e : us = us.take i ++ us[i] :: us.drop (i + 1) := by rw [List.getElem_cons_drop]; exact (List.take_append_drop i us).symm
  have hl : (termsV (us.take i)).length = i * 2 := by rw [termsV_len, List.length_take, Nat.min_eq_left (by omega)]
  have hset : us.set i t = us.take i ++ t :: us.drop (i + 1) := by rw [List.set_eq_take_append_cons_drop, if_pos hi]
  rw [hset]
  have e2 : termsV us = termsV (us.take i) ++ .int .i64 us[i].c :: .string us[i].s :: termsV (us.drop (i + 1)) := by
    rw [← termsV_cons, ← termsV_append, ← e]
  rw [e2, termsV_append, termsV_cons, List.set_append_right _ _ (by omega), List.set_append_right _ _ (by omega), hl, Nat.sub_self, show i * 2 + 1 - i * 2 = 1 by omega]
  rfl

/-- The text of a mark. -/
def mkB (m : Nat) (t : ByteArray) : ByteArray :=
  if _h : m = 0 then t else mkB (m / 10) (⟨#[UInt8.ofNat (48 + m % 10)]⟩ ++ t)
termination_by m
decreasing_by omega
theorem mkB_zero (t : ByteArray) : mkB 0 t = t := by rw [mkB]; simp
theorem mkB_step {m : Nat} (h : m ≠ 0) (t : ByteArray) : mkB (m / 10) (⟨#[UInt8.ofNat (48 + m % 10)]⟩ ++ t) = mkB m t := by conv => rhs; rw [mkB, dif_neg h]
def mkS (k : Nat) : ByteArray := ⟨#[109]⟩ ++ mkB k ⟨#[]⟩

end Go.Proofs.Ytdhmicpoigoleab

/- The contracts of the laws' 'markTermS' and 'heldTermS'. -/

namespace Go.Proofs.Ytdhmicpoigoleab
open Go.RowKit Go.Shelf

def markT (k i : Nat) : Tm := ⟨((k + 2 * i : Nat) : Int), mkS (k + 2 * i + 1)⟩
/-- The marks from k on. -/
def marksT (k n : Nat) : List Tm := (List.range n).map (markT k)
theorem marksT_len (k n : Nat) : (marksT k n).length = n := by simp [marksT]
theorem marksT_get (k n i : Nat) (h : i < (marksT k n).length) : (marksT k n)[i] = markT k i := by simp [marksT]
theorem marksT_set (k j n : Nat) (us : List Tm) (hl : us.length = n) (hj : j < n) : (marksT k j ++ us.drop j).set j (markT k j) = marksT k (j + 1) ++ us.drop (j + 1) := by
  rw [List.set_append_right _ _ (by rw [marksT_len]; exact Nat.le_refl _), marksT_len, Nat.sub_self, List.drop_eq_getElem_cons (by omega : j < us.length), List.set_cons_zero]
  unfold marksT
  rw [List.range_succ, List.map_append, List.append_assoc]
  rfl

theorem ownsRow_past {w w' : World} {base : Nat} {e : TypeId} {size : Nat} {v : Value} {n : Nat} {xs : List Value} (h : w.ownsRow base e size v n xs) (hb : Below w.heap.size w w') : w'.ownsRow base e size v n xs :=
  h.kept ⟨hb.os, hb.tape, hb.output, hb.size, fun j hj _ => hb.block j hj⟩ (row := none) (by
    rcases h.2 with ⟨rfl, _⟩ | ⟨g, cap, cur, rfl, _⟩
    · exact .inl rfl
    · exact .inr (by simp [Value.ownBlock]))
theorem marksT_row (k j n : Nat) (us : List Tm) (hl : us.length = n) (hj : j < n) :
    ((termsV (marksT k j ++ us.drop j)).set (j * 2) (.int .i64 ((k + 2 * j : Nat) : Int))).set (j * 2 + 1) (.string (mkS (k + 2 * j + 1))) = termsV (marksT k (j + 1) ++ us.drop (j + 1)) := by
  rw [← marksT_set k j n us hl hj]
  exact set_terms _ j (markT k j) (by rw [List.length_append, marksT_len, List.length_drop]; omega)

theorem grown_trans {a b c : World} {row : Option Nat} (h : a.grownBy b row) (k : b.grownBy c row) : a.grownBy c row :=
  ⟨k.os.trans h.os, k.tape.trans h.tape, k.output.trans h.output, Nat.le_trans h.size k.size, fun i hi hne => (k.block i (Nat.lt_of_lt_of_le hi h.size) hne).trans (h.block i hi hne)⟩
theorem grown_refl (a : World) (row : Option Nat) : a.grownBy a row := ⟨rfl, rfl, rfl, Nat.le_refl _, fun _ _ _ => rfl⟩
theorem grown_below {a b : World} (row : Option Nat) (h : Below a.heap.size a b) : a.grownBy b row := ⟨h.os, h.tape, h.output, h.size, fun i hi _ => h.block i hi⟩
theorem mkB_size : ∀ (m : Nat) (t : ByteArray), (mkB m t).size ≤ t.size + m := by
  intro m
  induction m using Nat.strongRecOn with
  | _ m ih =>
    intro t
    by_cases h : m = 0
    · subst h; rw [mkB_zero]; exact Nat.le_refl _
    · rw [← mkB_step h]
      have h1 := ih (m / 10) (by omega) (⟨#[UInt8.ofNat (48 + m % 10)]⟩ ++ t)
      have h2 : ((⟨#[UInt8.ofNat (48 + m % 10)]⟩ : ByteArray) ++ t).size = 1 + t.size := by simp [ByteArray.size_append]; rfl
      omega
theorem mkS_size (k : Nat) : (mkS k).size ≤ k + 1 := by
  have h := mkB_size k ⟨#[]⟩
  have h0 : (⟨#[]⟩ : ByteArray).size = 0 := rfl
  have h1 : (mkS k).size = 1 + (mkB k ⟨#[]⟩).size := by unfold mkS; simp [ByteArray.size_append]; rfl
  omega
theorem marksT_small (k n : Nat) (hk : k ≤ 1000000) (hn : n ≤ 1048576) : SmallT (marksT k n) :=
  ⟨by rw [marksT_len]; unfold maxLen; omega, fun t ht => by
    unfold marksT at ht
    obtain ⟨i, hi, rfl⟩ := List.mem_map.1 ht
    have hi := List.mem_range.1 hi
    have := mkS_size (k + 2 * i + 1)
    unfold markT maxLen
    dsimp only
    omega⟩

def marksS (k n : Nat) : List ByteArray := (List.range n).map fun i => mkS (k + i)
theorem marksS_len (k n : Nat) : (marksS k n).length = n := by simp [marksS]
theorem marksS_set (k j n : Nat) (us : List ByteArray) (hl : us.length = n) (hj : j < n) : (strsV (marksS k j ++ us.drop j)).set j (.string (mkS (k + j))) = strsV (marksS k (j + 1) ++ us.drop (j + 1)) := by
  have h1 : (marksS k j ++ us.drop j).set j (mkS (k + j)) = marksS k (j + 1) ++ us.drop (j + 1) := by
    rw [List.set_append_right _ _ (by rw [marksS_len]; exact Nat.le_refl _), marksS_len, Nat.sub_self, List.drop_eq_getElem_cons (by omega : j < us.length), List.set_cons_zero]
    unfold marksS
    rw [List.range_succ, List.map_append, List.append_assoc]
    rfl
  rw [← h1]
  unfold strsV
  rw [List.map_set]
def OwnS (base : Nat) (w : World) (v : Value) (zs : List ByteArray) : Prop := w.ownsRow base 9 1 v zs.length (strsV zs)
theorem OwnS.below {base : Nat} {w w' : World} {v : Value} {zs : List ByteArray} (h : OwnS base w v zs) (hb : Below w.heap.size w w') : OwnS base w' v zs := ownsRow_past h hb

end Go.Proofs.Ytdhmicpoigoleab

/- The contract of the program's 'WordSums'. -/

namespace Go.Proofs.Ytdhmicpoigoleab
open Go.RowKit Go.Shelf

attribute [local go_sem] Oper.semAt_some

theorem idx_tab : ((List.range 256).all fun n => !(decide ((97 ≤ n ∧ n ≤ 100) ∨ (65 ≤ n ∧ n ≤ 68))) || (decide (bits BinOp.or IntKind.u8 (n : Int) 32 = ((if 97 ≤ n then n - 97 else n - 65 : Nat) : Int) + 97) && decide (bits BinOp.and IntKind.u8 (n : Int) 32 = if 97 ≤ n then 32 else 0))) = true := by kernel_rfl
theorem idx_let (c : UInt8) (h : letB c = true) : bits BinOp.or IntKind.u8 (c.toNat : Int) 32 = (idxB c : Int) + 97 ∧ bits BinOp.and IntKind.u8 (c.toNat : Int) 32 = if 97 ≤ c.toNat then 32 else 0 := by
  have := List.all_eq_true.1 idx_tab c.toNat (List.mem_range.2 c.toNat_lt)
  simp only [Bool.or_eq_true, Bool.and_eq_true, Bool.not_eq_true', decide_eq_false_iff_not, decide_eq_true_eq] at this
  exact this.resolve_left (fun h2 => h2 ((letB_iff c).1 h))

theorem iIndex_any (c : UInt8) (w : World) (h : letB c = true) :
    Calls Try.prog 71 #[.int .u8 (c.toNat : Int)] w fun e w' => e = .returned (.int .i64 (idxB c : Int)) ∧ w' = w := by
  have hb := (idx_let c h).1
  have hj := idxB_lt c h
  obtain ⟨j, hje⟩ : ∃ j, idxB c = j := ⟨_, rfl⟩
  rw [hje] at hb hj ⊢
  clear hje h
  go_enter Try.func71, Try.ntmps71
  go_wp2
  go_ret
  exact ⟨rfl, rfl⟩

theorem iSign_any (c : UInt8) (w : World) (h : letB c = true) :
    Calls Try.prog 66 #[.int .u8 (c.toNat : Int)] w fun e w' => e = .returned (.int .i64 (sgnB c)) ∧ w' = w := by
  have hb := (idx_let c h).2
  by_cases h97 : 97 ≤ c.toNat
  · rw [if_pos h97] at hb
    have hs : Hid (sgnB c = 1) := by unfold sgnB; rw [if_pos h97]; exact Lib.hid rfl
    clear h h97
    go_enter Try.func66, Try.ntmps66
    go_wp2
    go_ret
    exact ⟨ret_int hs.out.symm, rfl⟩
  · rw [if_neg h97] at hb
    have hs : Hid (sgnB c = -1) := by unfold sgnB; rw [if_neg h97]; exact Lib.hid rfl
    clear h h97
    go_enter Try.func66, Try.ntmps66
    go_wp2
    go_ret
    exact ⟨ret_int hs.out.symm, rfl⟩

end Go.Proofs.Ytdhmicpoigoleab

/- The contracts of the program's 'WordTimes' and 'WordComm'. -/

namespace Go.Proofs.Ytdhmicpoigoleab
open Go.RowKit Go.Shelf

/-- Two words out of a list of two texts. -/
theorem wordsOf_two (a b : ByteArray) (w : World) (ha : wordB a.data.toList = true) (hb : wordB b.data.toList = true) :
    Calls Try.prog 30 #[.slice (some ⟨w.heap.size, 0, none⟩) 2 2] (w.alloc (.cells #[.string a, .string b] 9)) fun e w' =>
      ∃ g ga ca gb cb, e = .returned (.tuple #[.slice (some ⟨g, 0, none⟩) 2 2, .bool true]) ∧ w'.cell? ⟨g, 0, none⟩ = some (.slice (some ⟨ga, 0, none⟩) a.size ca) ∧ w'.cell? ⟨g, 1, none⟩ = some (.slice (some ⟨gb, 0, none⟩) b.size cb) ∧ g < w'.heap.size ∧
        Hid (IsWord w'.heap.size w' (.slice (some ⟨ga, 0, none⟩) a.size ca) a.data.toList) ∧ Hid (IsWord w'.heap.size w' (.slice (some ⟨gb, 0, none⟩) b.size cb) b.data.toList) ∧ Below w.heap.size w w' := by
  have hs : a.size ≤ 60 := by have := ((wordB_iff _).1 ha).1; simpa using this
  have hs2 : b.size ≤ 60 := by have := ((wordB_iff _).1 hb).1; simpa using this
  have hcells := cell_two_new w (.string a) (.string b) 9
  refine (wordsOf_any (some ⟨w.heap.size, 0, none⟩) w.heap.size 0 2 2 [a, b] _ rfl (by omega) (fun _ => rfl) (by simp) ?_ ?_).mono ?_
  · intro i h
    have hi : i = 0 ∨ i = 1 := by simp at h; omega
    rcases hi with rfl | rfl
    · exact hcells 0 (.string a) rfl
    · exact hcells 1 (.string b) rfl
  · intro s h
    unfold maxLen
    rcases List.mem_cons.1 h with rfl | h
    · omega
    · obtain rfl := List.mem_singleton.1 h; omega
  · rintro e w' ⟨⟨_, s, h, hf⟩ | ⟨g, vals, rfl, _, hown, hv⟩, hB⟩
    · rcases List.mem_cons.1 h with rfl | h
      · rw [ha] at hf; cases hf
      · obtain rfl := List.mem_singleton.1 h; rw [hb] at hf; cases hf
    · have hl := hown.1
      match vals, hl with
      | [v0, v1], _ =>
        have h0 := hv 0 (by simp) v0 rfl
        have h1 := hv 1 (by simp) v1 rfl
        obtain ⟨ga, ca, e0⟩ := h0.slice
        obtain ⟨gb, cb, e1⟩ := h1.slice
        have i0 := h0.isWord
        have i1 := h1.isWord
        subst e0 e1
        refine ⟨g, ga, ca, gb, cb, rfl, ?_, ?_, (ownsRow_cap hown).2.2.2, ?_, ?_, ((Below.refl _ w).alloc (Nat.le_refl _) _).trans (hB.mono (by simp))⟩
        · rw [hown.cellAt 0 (by omega)]; simp
        · rw [hown.cellAt 1 (by omega)]; simp
        · have := i0; simp at this; exact this
        · have := i1; simp at this; exact this

theorem wordsOf_two_no (a b : ByteArray) (w : World) (hma : a.size ≤ maxLen) (hmb : b.size ≤ maxLen) (h : ¬ (wordB a.data.toList = true ∧ wordB b.data.toList = true)) :
    Calls Try.prog 30 #[.slice (some ⟨w.heap.size, 0, none⟩) 2 2] (w.alloc (.cells #[.string a, .string b] 9)) fun e w' =>
      e = .returned (.tuple #[.slice none 0 0, .bool false]) ∧ Below w.heap.size w w' := by
  have hcells := cell_two_new w (.string a) (.string b) 9
  refine (wordsOf_any (some ⟨w.heap.size, 0, none⟩) w.heap.size 0 2 2 [a, b] _ rfl (by omega) (fun _ => rfl) (by simp) ?_ ?_).mono ?_
  · intro i h
    have hi : i = 0 ∨ i = 1 := by simp at h; omega
    rcases hi with rfl | rfl
    · exact hcells 0 (.string a) rfl
    · exact hcells 1 (.string b) rfl
  · intro s h
    rcases List.mem_cons.1 h with rfl | h
    · exact hma
    · obtain rfl := List.mem_singleton.1 h; exact hmb
  · rintro e w' ⟨⟨he, _⟩ | ⟨g, vals, rfl, hall, _⟩, hB⟩
    · exact ⟨he, ((Below.refl _ w).alloc (Nat.le_refl _) _).trans (hB.mono (by simp))⟩
    · exact absurd ⟨hall a (by simp), hall b (by simp)⟩ h

/-- A word in a box, and the function that gives letters out of it. -/
structure Item where
  gf : Nat
  sv : Value
  L : List UInt8
  xs : List UInt8
def Gives (it : Item) : Prop :=
  (∀ (W : World) (Bs n₀ : Nat), Bs < n₀ → n₀ ≤ W.heap.size → W.cell? ⟨Bs, 0, none⟩ = some it.sv → IsWord n₀ W it.sv it.L → SeqO n₀ W it.gf #[.pointer (some ⟨Bs, 0, none⟩)] it.xs) ∧
  ∀ args w, (callFunc it.gf args).run Try.prog w = .ok (.enter it.gf args) w
theorem gives_fwd (sv : Value) (L : List UInt8) : Gives ⟨67, sv, L, L⟩ :=
  ⟨fun W Bs n₀ h1 h2 h3 h4 => values_seq L sv W Bs n₀ (by omega) h2 h3 h4, enters_of Try.func67 (by kernel_rfl) rfl⟩
theorem gives_bwd (sv : Value) (L : List UInt8) : Gives ⟨52, sv, L, L.reverse.map invB⟩ :=
  ⟨fun W Bs n₀ h1 h2 h3 h4 => turned_seq L sv W Bs n₀ h1 h2 h3 h4, enters_of Try.func52 (by kernel_rfl) rfl⟩

def boxes : World → List Item → World
  | w, [] => w
  | w, it :: r => boxes (w.alloc (.cells #[it.sv] WT)) r
def funcs : Nat → List Item → List Value
  | _, [] => []
  | k, it :: r => .func (.func it.gf) #[] #[.pointer (some ⟨k, 0, none⟩)] :: funcs (k + 1) r
def partsOf : Nat → List Item → List Part
  | _, [] => []
  | k, it :: r => ⟨it.gf, #[.pointer (some ⟨k, 0, none⟩)], it.xs⟩ :: partsOf (k + 1) r
theorem boxes_size : ∀ (its : List Item) (w : World), (boxes w its).heap.size = w.heap.size + its.length
  | [], _ => rfl
  | it :: r, w => by rw [boxes, boxes_size r]; simp; omega
theorem boxes_below : ∀ (its : List Item) (w : World), Below w.heap.size w (boxes w its)
  | [], w => Below.refl _ _
  | it :: r, w => ((Below.refl _ w).alloc (Nat.le_refl _) _).trans ((boxes_below r _).mono (by simp))
theorem partsOf_len : ∀ (its : List Item) (k : Nat), (partsOf k its).length = its.length
  | [], _ => rfl
  | it :: r, k => by simp [partsOf, partsOf_len r]
theorem funcs_get : ∀ (its : List Item) (k i : Nat) (h : i < (partsOf k its).length), (funcs k its)[i]? = some (.func (.func (partsOf k its)[i].gf) #[] (partsOf k its)[i].lb)
  | [], _, _, h => by simp [partsOf] at h
  | it :: r, k, 0, _ => rfl
  | it :: r, k, i + 1, h => by
    simp only [partsOf, List.length_cons] at h
    simpa [partsOf, funcs] using funcs_get r (k + 1) i (by omega)
theorem parts_mem : ∀ (its : List Item) (w : World) (p : Part), p ∈ partsOf w.heap.size its → ∃ it ∈ its, ∃ B, p = ⟨it.gf, #[.pointer (some ⟨B, 0, none⟩)], it.xs⟩ ∧ B < (boxes w its).heap.size ∧ (boxes w its).cell? ⟨B, 0, none⟩ = some it.sv
  | [], _, _, h => by simp [partsOf] at h
  | it :: r, w, p, h => by
    rcases List.mem_cons.1 h with rfl | h
    · refine ⟨it, by simp, w.heap.size, rfl, by rw [boxes_size]; simp, ?_⟩
      exact ((boxes_below r (w.alloc (.cells #[it.sv] WT))).cell (p := ⟨w.heap.size, 0, none⟩) (by simp)).trans (Boxed.new w WT it.sv).cell
    · have h2 : p ∈ partsOf (w.alloc (.cells #[it.sv] WT)).heap.size r := by simpa using h
      obtain ⟨it2, hm, B, hp, hB, hc⟩ := parts_mem r _ p h2
      exact ⟨it2, by simp [hm], B, hp, hB, hc⟩
theorem cat_parts : ∀ (its : List Item) (k : Nat), cat (partsOf k its) = (its.map Item.xs).flatten
  | [], _ => rfl
  | it :: r, k => by
    have := cat_parts r (k + 1)
    simp only [cat] at this ⊢
    simp only [partsOf, List.map_cons, List.flatten_cons, this]
theorem cell_past {w : World} {p : Addr} {v : Value} (h : w.cell? p = some v) (o : Obj) : (w.alloc o).cell? p = some v := (World.cell?_alloc_lt w o p (World.block_lt_of_cell? w _ h)).trans h
theorem cell_drawn {w : World} {p : Addr} {v : Value} (h : w.cell? p = some v) : w.drew.cell? p = some v := h

/-- 'reduced' over boxed words. -/
theorem reduced_boxes (w : World) (its : List Item) (hG : ∀ it ∈ its, Gives it ∧ IsWord w.heap.size w it.sv it.L) (hl : (its.map Item.xs).flatten.length ≤ 100000000) (hn : its.length ≤ 1000000) :
    Calls Try.prog 31 #[.slice (some ⟨w.heap.size + its.length, 0, none⟩) its.length its.length] ((boxes w its).alloc (.cells (funcs w.heap.size its).toArray IT)).drew fun e w' =>
      ∃ g m cap', e = .returned (.slice (some ⟨g, 0, none⟩) m cap') ∧ (redX [] (its.map Item.xs).flatten).length = m ∧ w'.ownsRow w.heap.size 77 1 (.slice (some ⟨g, 0, none⟩) m cap') m (bytesV (redX [] (its.map Item.xs).flatten)) ∧ Below w.heap.size w w' := by
  have hbw := boxes_below its w
  have hsz := boxes_size its w
  have hbW : Below w.heap.size w ((boxes w its).alloc (.cells (funcs w.heap.size its).toArray IT)).drew := (hbw.alloc (by omega) _).drew
  have hr := reduced_in 20 (by omega) (some ⟨w.heap.size + its.length, 0, none⟩) (w.heap.size + its.length) 0 its.length (partsOf w.heap.size its) ((boxes w its).alloc (.cells (funcs w.heap.size its).toArray IT)).drew (fun _ => rfl)
    (by show _ < ((boxes w its).alloc (.cells (funcs w.heap.size its).toArray IT)).heap.size; simp; omega)
    (fun i h => by
      show ((boxes w its).alloc (.cells (funcs w.heap.size its).toArray IT)).cell? _ = _
      rw [World.cell?_alloc_at _ _ _ _ (by show _ = _; omega)]
      rw [Nat.zero_add, List.getElem?_toArray]
      exact funcs_get its _ i h)
    (fun p hp => by
      obtain ⟨it, hm, B, rfl, hB, hc⟩ := parts_mem its w p hp
      obtain ⟨hg, hw⟩ := hG it hm
      refine ⟨hg.1 _ B _ ?_ (Nat.le_refl _) (cell_drawn (cell_past hc _)) ((hw.below hbW).mono ?_), hg.2⟩
      · show B < ((boxes w its).alloc (.cells (funcs w.heap.size its).toArray IT)).heap.size; simp; omega
      · show _ ≤ ((boxes w its).alloc (.cells (funcs w.heap.size its).toArray IT)).heap.size; simp; omega)
    (by rw [cat_parts]; exact hl) (by rw [partsOf_len]; exact hn)
  rw [cat_parts, partsOf_len] at hr
  refine ((callsIn_wide (n := 20)).1 hr).mono ?_
  rintro e w' ⟨g, m, cap', rfl, hm, hown, hb⟩
  have hsW : w.heap.size ≤ ((boxes w its).alloc (.cells (funcs w.heap.size its).toArray IT)).drew.heap.size := hbW.size
  exact ⟨g, m, cap', rfl, hm, ownsRow_base hown hsW, hbW.trans (hb.mono hsW)⟩

set_option maxRecDepth 100000 in
set_option maxHeartbeats 4000000 in
theorem iComm_yes (a b : ByteArray) (w : World) (ha : wordB a.data.toList = true) (hb : wordB b.data.toList = true) :
    Calls Try.prog 17 #[.string a, .string b] w fun e w' => e = .returned (toldV (redL [] (commL a.data.toList b.data.toList))) ∧ Below w.heap.size w w' := by
  obtain ⟨p1, p2, _⟩ := (wordB_iff _).1 ha
  obtain ⟨q1, q2, _⟩ := (wordB_iff _).1 hb
  have HR : Hid (redX [] (a.data.toList ++ (b.data.toList ++ (a.data.toList.reverse.map invB ++ (b.data.toList.reverse.map invB ++ [])))) = redL [] (commL a.data.toList b.data.toList)) := by
    rw [List.append_nil, inv_back _ p2, inv_back _ q2, redX_eq _ _ (by rw [letL_append, letL_append, letL_append, p2, q2, letL_back _ p2, letL_back _ q2]; rfl)]
    unfold commL
    rw [List.append_assoc, List.append_assoc]; exact Lib.hid rfl
  have HLn : Hid ((a.data.toList ++ (b.data.toList ++ (a.data.toList.reverse.map invB ++ (b.data.toList.reverse.map invB ++ [])))).length ≤ 100000000) := Lib.hid (by simp only [List.length_append, List.length_map, List.length_reverse, List.length_nil]; omega)
  have HLr : Hid ((redL [] (commL a.data.toList b.data.toList)).length ≤ 1000) := by
    have := redL_len (commL a.data.toList b.data.toList) []
    unfold commL at this ⊢
    simp only [List.length_append, List.length_nil, backL_length] at this
    exact Lib.hid (by omega)
  have HA := Lib.hid ha
  have HB := Lib.hid hb
  clear ha hb p1 p2 q1 q2
  go_enter Try.func17, Try.ntmps17
  go_wp2_with fail
  refine (wordsOf_two a b w HA.out HB.out).mono ?_
  rintro e w1 ⟨g, ga, ca, gb, cb, rfl, c0, c1, hg, i0, i1, hb1⟩
  have hrd := reduced_boxes w1 [⟨67, .slice (some ⟨ga, 0, none⟩) a.size ca, a.data.toList, a.data.toList⟩, ⟨67, .slice (some ⟨gb, 0, none⟩) b.size cb, b.data.toList, b.data.toList⟩,
      ⟨52, .slice (some ⟨ga, 0, none⟩) a.size ca, a.data.toList, a.data.toList.reverse.map invB⟩, ⟨52, .slice (some ⟨gb, 0, none⟩) b.size cb, b.data.toList, b.data.toList.reverse.map invB⟩]
    (fun it hit => by
      rcases List.mem_cons.1 hit with rfl | hit
      · exact ⟨gives_fwd _ _, i0.out⟩
      · rcases List.mem_cons.1 hit with rfl | hit
        · exact ⟨gives_fwd _ _, i1.out⟩
        · rcases List.mem_cons.1 hit with rfl | hit
          · exact ⟨gives_bwd _ _, i0.out⟩
          · obtain rfl := List.mem_singleton.1 hit; exact ⟨gives_bwd _ _, i1.out⟩) HLn.out (by simp)
  simp only [List.map_cons, List.map_nil, List.flatten_cons, List.flatten_nil, HR.out] at hrd
  have HRd := Lib.hid hrd
  clear hrd
  have tst1 : ∀ o1, (fun w' : World => w'.cell? ⟨g, 0, none⟩ = some (.slice (some ⟨ga, 0, none⟩) a.size ca) ∧ w'.cell? ⟨g, 1, none⟩ = some (.slice (some ⟨gb, 0, none⟩) b.size cb)) (w1.alloc o1) := fun o1 => ⟨cell_past c0 _, cell_past c1 _⟩
  have tst2 : ∀ o1 o2, (fun w' : World => w'.cell? ⟨g, 0, none⟩ = some (.slice (some ⟨ga, 0, none⟩) a.size ca) ∧ w'.cell? ⟨g, 1, none⟩ = some (.slice (some ⟨gb, 0, none⟩) b.size cb)) ((w1.alloc o1).alloc o2) := fun o1 o2 => ⟨(cell_past (cell_past c0 _) _), (cell_past (cell_past c1 _) _)⟩
  have tsd2 : ∀ o1 o2, (fun w' : World => w'.cell? ⟨g, 0, none⟩ = some (.slice (some ⟨ga, 0, none⟩) a.size ca) ∧ w'.cell? ⟨g, 1, none⟩ = some (.slice (some ⟨gb, 0, none⟩) b.size cb)) ((w1.alloc o1).alloc o2).drew := fun o1 o2 => ⟨cell_drawn (cell_past (cell_past c0 _) _), cell_drawn (cell_past (cell_past c1 _) _)⟩
  have tst3 : ∀ o1 o2 o3, (fun w' : World => w'.cell? ⟨g, 0, none⟩ = some (.slice (some ⟨ga, 0, none⟩) a.size ca) ∧ w'.cell? ⟨g, 1, none⟩ = some (.slice (some ⟨gb, 0, none⟩) b.size cb)) (((w1.alloc o1).alloc o2).alloc o3) := fun o1 o2 o3 => ⟨(cell_past (cell_past (cell_past c0 _) _) _), (cell_past (cell_past (cell_past c1 _) _) _)⟩
  have tsd3 : ∀ o1 o2 o3, (fun w' : World => w'.cell? ⟨g, 0, none⟩ = some (.slice (some ⟨ga, 0, none⟩) a.size ca) ∧ w'.cell? ⟨g, 1, none⟩ = some (.slice (some ⟨gb, 0, none⟩) b.size cb)) (((w1.alloc o1).alloc o2).alloc o3).drew := fun o1 o2 o3 => ⟨cell_drawn (cell_past (cell_past (cell_past c0 _) _) _), cell_drawn (cell_past (cell_past (cell_past c1 _) _) _)⟩
  have tst4 : ∀ o1 o2 o3 o4, (fun w' : World => w'.cell? ⟨g, 0, none⟩ = some (.slice (some ⟨ga, 0, none⟩) a.size ca) ∧ w'.cell? ⟨g, 1, none⟩ = some (.slice (some ⟨gb, 0, none⟩) b.size cb)) ((((w1.alloc o1).alloc o2).alloc o3).alloc o4) := fun o1 o2 o3 o4 => ⟨(cell_past (cell_past (cell_past (cell_past c0 _) _) _) _), (cell_past (cell_past (cell_past (cell_past c1 _) _) _) _)⟩
  have tsd4 : ∀ o1 o2 o3 o4, (fun w' : World => w'.cell? ⟨g, 0, none⟩ = some (.slice (some ⟨ga, 0, none⟩) a.size ca) ∧ w'.cell? ⟨g, 1, none⟩ = some (.slice (some ⟨gb, 0, none⟩) b.size cb)) ((((w1.alloc o1).alloc o2).alloc o3).alloc o4).drew := fun o1 o2 o3 o4 => ⟨cell_drawn (cell_past (cell_past (cell_past (cell_past c0 _) _) _) _), cell_drawn (cell_past (cell_past (cell_past (cell_past c1 _) _) _) _)⟩
  have tst5 : ∀ o1 o2 o3 o4 o5, (fun w' : World => w'.cell? ⟨g, 0, none⟩ = some (.slice (some ⟨ga, 0, none⟩) a.size ca) ∧ w'.cell? ⟨g, 1, none⟩ = some (.slice (some ⟨gb, 0, none⟩) b.size cb)) (((((w1.alloc o1).alloc o2).alloc o3).alloc o4).alloc o5) := fun o1 o2 o3 o4 o5 => ⟨(cell_past (cell_past (cell_past (cell_past (cell_past c0 _) _) _) _) _), (cell_past (cell_past (cell_past (cell_past (cell_past c1 _) _) _) _) _)⟩
  have tsd5 : ∀ o1 o2 o3 o4 o5, (fun w' : World => w'.cell? ⟨g, 0, none⟩ = some (.slice (some ⟨ga, 0, none⟩) a.size ca) ∧ w'.cell? ⟨g, 1, none⟩ = some (.slice (some ⟨gb, 0, none⟩) b.size cb)) (((((w1.alloc o1).alloc o2).alloc o3).alloc o4).alloc o5).drew := fun o1 o2 o3 o4 o5 => ⟨cell_drawn (cell_past (cell_past (cell_past (cell_past (cell_past c0 _) _) _) _) _), cell_drawn (cell_past (cell_past (cell_past (cell_past (cell_past c1 _) _) _) _) _)⟩
  by_cases h : (redL [] (commL a.data.toList b.data.toList)).length ≤ 60
  · have HT := Lib.hid (toldV_yes h)
    have HL := Lib.hid (h)
    clear h
    go_wp2_with fail
    go_region_held3 (fun w' : World => w'.cell? ⟨g, 0, none⟩ = some (.slice (some ⟨ga, 0, none⟩) a.size ca) ∧ w'.cell? ⟨g, 1, none⟩ = some (.slice (some ⟨gb, 0, none⟩) b.size cb)) (first | go_keep | exact ⟨k0', k1'⟩ | exact ⟨k0, k1⟩) (first | (go_at_call 32; refine (letters_fwd _ _ _ 1 _ (by decide)).mono ?_; rintro e w' ⟨rfl, rfl⟩) | (go_at_call 33; refine (iTurned_any _ _ _ _).mono ?_; rintro e w' ⟨rfl, rfl⟩) | (go_at_call 31; refine HRd.out.mono ?_; rintro e w4 ⟨g4, m, cap4, rfl, hm, hown, hb4⟩; have k0 := (hb4.cell (p := ⟨g, 0, none⟩) hg).trans c0; have k1 := (hb4.cell (p := ⟨g, 1, none⟩) hg).trans c1; have HM := Lib.hid hm; have HO := Lib.hid hown; have HG := Lib.hid (World.block_lt_of_cell? _ _ k0); clear hm hown) | (go_at_call 34; refine (told_yes _ _ _ _ _ _ HM.out (by rw [← HM.out]; exact HL.out) HO.out).mono ?_; rintro e w5 ⟨rfl, hb5⟩; have k0' := (hb5.cell (p := ⟨g, 0, none⟩) HG.out).trans k0; have k1' := (hb5.cell (p := ⟨g, 1, none⟩) HG.out).trans k1))
    go_wp2_with fail
    go_ret2
    exact ⟨by rw [HT.out]; rfl, hb1.trans ((hb4.trans (hb5.mono hb4.size)).mono hb1.size)⟩
  · have HT := Lib.hid (toldV_no h)
    have HL := Lib.hid (Nat.lt_of_not_le h)
    clear h
    go_wp2_with fail
    go_region_held3 (fun w' : World => w'.cell? ⟨g, 0, none⟩ = some (.slice (some ⟨ga, 0, none⟩) a.size ca) ∧ w'.cell? ⟨g, 1, none⟩ = some (.slice (some ⟨gb, 0, none⟩) b.size cb)) (first | go_keep | exact ⟨k0', k1'⟩ | exact ⟨k0, k1⟩) (first | (go_at_call 32; refine (letters_fwd _ _ _ 1 _ (by decide)).mono ?_; rintro e w' ⟨rfl, rfl⟩) | (go_at_call 33; refine (iTurned_any _ _ _ _).mono ?_; rintro e w' ⟨rfl, rfl⟩) | (go_at_call 31; refine HRd.out.mono ?_; rintro e w4 ⟨g4, m, cap4, rfl, hm, hown, hb4⟩; have k0 := (hb4.cell (p := ⟨g, 0, none⟩) hg).trans c0; have k1 := (hb4.cell (p := ⟨g, 1, none⟩) hg).trans c1; have HM := Lib.hid hm; have HO := Lib.hid hown; have HG := Lib.hid (World.block_lt_of_cell? _ _ k0); clear hm hown) | (go_at_call 34; refine (told_no _ _ _ _ (by rw [← HM.out]; exact HL.out) (by have := HLr.out; rw [HM.out] at this; unfold maxLen; omega)).mono ?_; rintro e w5 ⟨rfl, rfl⟩))
    go_wp2_with fail
    go_ret2
    exact ⟨by rw [HT.out]; rfl, hb1.trans (hb4.mono hb1.size)⟩

theorem iComm_no (a b : ByteArray) (w : World) (hma : a.size ≤ maxLen) (hmb : b.size ≤ maxLen) (h : ¬ (wordB a.data.toList = true ∧ wordB b.data.toList = true)) :
    Calls Try.prog 17 #[.string a, .string b] w fun e w' => e = .returned (.tuple #[.string ByteArray.empty, .bool false]) ∧ Below w.heap.size w w' := by
  have H := Lib.hid h
  clear h
  go_enter Try.func17, Try.ntmps17
  go_wp2_with fail
  refine (wordsOf_two_no a b w hma hmb H.out).mono ?_
  rintro e w1 ⟨rfl, hb1⟩
  go_wp2_with fail
  go_ret2
  exact ⟨rfl, hb1⟩

end Go.Proofs.Ytdhmicpoigoleab

/- A law for a region that draws its order, inside a fence, by what stands when some of its operations have come up: each operation is met once, in whatever order they come. -/

namespace Go.Proofs.Ytdhmicpoigoleab
open Go.RowKit Go.Shelf

theorem count_set (l : List Bool) : ∀ i, l[i]? = some false → (l.set i true).count false + 1 = l.count false := by
  induction l with
  | nil => intro i h; simp at h
  | cons b r ih =>
    intro i h
    cases i with
    | zero => simp at h; subst h; simp
    | succ i =>
      simp only [List.getElem?_cons_succ] at h
      have := ih i h
      simp only [List.set_cons_succ, List.count_cons]
      omega
theorem listed_false {l : Array Bool} {i : Nat} (h : l.getD i true = false) : l.toList[i]? = some false := by
  rw [Array.getD_eq_getD_getElem?] at h
  rw [Array.getElem?_toList]
  cases e : l[i]? with
  | none => rw [e] at h; cases h
  | some b => rw [e] at h; simp at h; rw [h]

theorem wpAnyIn_inv {F : Fence} {n : Nat} {P : Program} {md : Region.Mode} {ops : Array Oper} {Q : Exit → Act → World → Prop} (Inv : Array Bool → Act → World → Prop)
    (hstep : ∀ listed a w i, Inv listed a w → listed.getD i true = false → (∀ o, ops[i]? = some o → ∀ e ∈ o.after, Region.binds md e = true → listed.getD e.on false = true) → i < ops.size →
      wpOpIn F n P ops Q i (fun a' w' => Inv (listed.setIfInBounds i true) a' w') a w)
    (hdone : ∀ listed a w, Inv listed a w → (∀ i o, ops[i]? = some o → (∀ e ∈ o.after, Region.binds md e = true → listed.getD e.on false = true) → listed.getD i true = true) → Q .normal a w) :
    ∀ (fuel : Nat) (listed : Array Bool) (a : Act) (w : World), listed.toList.count false ≤ fuel → Inv listed a w → wpAnyIn F n P md ops Q fuel listed a w := by
  have hd : ∀ listed a w, Inv listed a w → Region.ready md ops listed = [] → Q .normal a w := fun listed a w hI hr => hdone listed a w hI fun i o ho hall => by
    cases h : listed.getD i true with
    | true => rfl
    | false =>
      have : i ∈ Region.ready md ops listed := mem_ready.2 ⟨h, o, ho, hall⟩
      rw [hr] at this; cases this
  intro fuel
  induction fuel with
  | zero =>
    intro listed a w hc hI
    have hr : Region.ready md ops listed = [] := by
      rw [List.eq_nil_iff_forall_not_mem]
      intro j hj
      have h1 := listed_false (mem_ready.1 hj).1
      have := count_set _ _ h1
      omega
    exact ⟨hr, hd _ _ _ hI hr⟩
  | succ fuel ih =>
    intro listed a w hc hI
    refine ⟨fun h => hd _ _ _ hI h, fun i hi => ?_⟩
    obtain ⟨h1, o, ho, hall⟩ := mem_ready.1 hi
    refine wpOpIn_mono (fun a' w' h => ih _ a' w' ?_ h) (hstep listed a w i hI h1 (fun o' ho' => by rw [ho] at ho'; cases ho'; exact hall) (Array.getElem?_eq_some_iff.1 ho).1)
    have := count_set _ _ (listed_false h1)
    rw [Array.toList_setIfInBounds]
    omega

end Go.Proofs.Ytdhmicpoigoleab

/- The contract of the program's 'WordPut'. -/

namespace Go.Proofs.Ytdhmicpoigoleab
open Go.RowKit Go.Shelf

attribute [local go_sem] Oper.semAt_some

abbrev FV : Nat := 67

/-- What a round keeps, where the iterator is that of a word. -/
def KeepP (n₀ N : Nat) (W W' : World) : Prop := Below n₀ W W' ∧ KeepsFrom N W W'

/-- The loop's law at the letters of a word, for bodies that write where they will behind what was there. -/
theorem range_values {n : Nat} {g : Operand} {p : Tmp} {assign body : Code} {Q : Exit → Act → World → Prop} {a : Act} {w : World} {Bs : Nat} (hn : 14 ≤ n)
    (hg : a.eval g = .func (.func FV) #[] #[.pointer (some ⟨Bs, 0, none⟩)])
    {n₀ : Nat} {L : List UInt8} {sv : Value} (hBs : Bs < w.heap.size) (hc : w.cell? ⟨Bs, 0, none⟩ = some sv) (hw : IsWord n₀ w sv L) (hn₀ : n₀ ≤ w.heap.size)
    (I : List UInt8 → World → Prop) (hI : OwnFrom w.heap.size I) (h0 : I [] w) (a₁ : UInt8 → Act)
    (hassign : ∀ (l : Nat) (x : UInt8) (W : World) (K : Act → World → Prop), K (a₁ x) W →
      assign.wpIn (Fence.wide.inRound l) (n - 1 - 1) Try.prog (Exit.then K (fun _ _ _ => False)) { tmps := (#[p].zip (encB x)).foldl (fun t (q, v) => t.setIfInBounds q v) a.tmps, defers := [] } W)
    (hbody : ∀ (l : Nat) (pre : List UInt8) (x : UInt8) (W : World), I pre W → pre ++ [x] <+: L →
      body.wpIn (Fence.wide.inRound l) (n - 1 - 1) Try.prog (goesOn w.heap.size (KeepP n₀) I (pre ++ [x]) W) (a₁ x) W)
    (hdone : ∀ (D : Nat) (W : World), w.heap.size ≤ D → I L W → W.heap[D]? = some (.deferred (some [])) → Q .normal { a with defers := { target := .collected D, args := #[] } :: a.defers } W) :
    (Code.rangeFunc g #[p] assign body).wpIn Fence.wide n Try.prog Q a w :=
  range_law (by omega) hg (enters_of Try.func67 (by kernel_rfl) rfl) (fun _ => rfl) (KeepP n₀) (fun h k => ⟨h.1.trans k.1, h.2.trans k.2⟩)
    (fun N W l o o' hl hwl hW ho hwk => ⟨belowK_b hn₀ W l o o' hwl hW ho hwk, KeepsFrom.of_grownBy (grownBy_putObj' W l o') (fun j e => by cases e; exact hl)⟩)
    (fun h => ⟨h.1, keepsFrom_mono h.2 (by omega)⟩)
    (fun l J V hV hlt hJ hY h0 => (values1_in (n - 1) (by omega) l Bs n₀ L sv J (fun _ _ => False) (fun pre x W1 hj hl => (hY pre x W1 hj hl).mono (fun _ _ ⟨a, b, c⟩ => .inl ⟨a, b, c.1⟩)) V
      ((hV.cell (p := ⟨Bs, 0, none⟩) hBs).trans hc) (hw.below (hV.mono hn₀)) h0).mono (by
        rintro e W' ⟨hv, ⟨ys, rfl, hJ'⟩ | ⟨_, _, hf⟩⟩
        · exact ⟨hv, hJ'⟩
        · exact hf.elim)) I hI h0 a₁ hassign hbody hdone

/-- A part's box, and what it gives. -/
def PartAt (N : Nat) (w W : World) (p : Part) : Prop :=
  ∃ B sv L, p.lb = #[.pointer (some ⟨B, 0, none⟩)] ∧ N ≤ B ∧ Boxed W B WT sv ∧ Gives ⟨p.gf, sv, L, p.xs⟩ ∧ IsWord N w sv L
theorem PartAt.own (N : Nat) (w : World) (p : Part) : Own (fun (_ : Unit) W => PartAt N w W p) := by
  rintro s X Y row ⟨B, sv, L, h1, h2, h3, h4⟩ hg hrow
  exact ⟨B, sv, L, h1, h2, boxed_own B WT (fun _ : Unit => sv) () X Y row h3 hg hrow, h4⟩

def funcV (p : Part) : Value := .func (.func p.gf) #[] p.lb
/-- The parts that the loop has gathered. -/
def Gathered (N BP : Nat) (w : World) (img : UInt8 → List UInt8) (pre : List UInt8) (W : World) : Prop :=
  ∃ ps : List Part, ps.length = pre.length ∧ cat ps = (pre.map img).flatten ∧ (∃ v, Boxed W BP 76 v ∧ W.ownsRow N IT 1 v ps.length (ps.map funcV) ∧ True) ∧ ∀ p ∈ ps, PartAt N w W p
theorem Gathered.own (N BP : Nat) (w : World) (img : UInt8 → List UInt8) : Own (Gathered N BP w img) := by
  rintro s X Y row ⟨ps, h1, h2, h3, h4⟩ hg hrow
  exact ⟨ps, h1, h2, holdsRow_own N BP _ IT 1 (fun _ : Unit => ps.length) (fun _ => ps.map funcV) (fun _ _ => True) () X Y row h3 hg hrow, fun p hp => PartAt.own N w p () X Y row (h4 p hp) hg hrow⟩

/-- The letters of a letter's image, as its iterator gives them. -/
def imgX (zs : List ByteArray) (x : UInt8) : List UInt8 := if 97 ≤ x.toNat then (zs.getD (idxB x) ByteArray.empty).data.toList else (zs.getD (idxB x) ByteArray.empty).data.toList.reverse.map invB
/-- All images, one behind the other. -/
def putX (zs : List ByteArray) (L : List UInt8) : List UInt8 := (L.map (imgX zs)).flatten
theorem imgX_len (zs : List ByteArray) (hz : ∀ z ∈ zs, wordB z.data.toList = true) (x : UInt8) : (imgX zs x).length ≤ 60 := by
  have hz' : (zs.getD (idxB x) ByteArray.empty).data.toList.length ≤ 60 := by
    rw [List.getD_eq_getElem?_getD]
    cases h : zs[idxB x]? with
    | none => simp
    | some z => exact ((wordB_iff _).1 (hz z (List.mem_of_getElem? h))).1
  unfold imgX
  split
  · exact hz'
  · rw [List.length_map, List.length_reverse]; exact hz'
theorem putX_len (zs : List ByteArray) (L : List UInt8) (hz : ∀ z ∈ zs, wordB z.data.toList = true) : (putX zs L).length ≤ L.length * 60 := by
  unfold putX
  induction L with
  | nil => simp
  | cons x r ih =>
    rw [List.map_cons, List.flatten_cons, List.length_append, List.length_cons]
    have := imgX_len zs hz x
    omega
theorem imgX_eq (zs : List ByteArray) (hz : ∀ z ∈ zs, wordB z.data.toList = true) (x : UInt8) : imgX zs x = imgL zs x ∧ letL (imgL zs x) = true := by
  have hl : letL (zs.getD (idxB x) ByteArray.empty).data.toList = true := by
    rw [List.getD_eq_getElem?_getD]
    cases h : zs[idxB x]? with
    | none => rfl
    | some z => exact ((wordB_iff _).1 (hz z (List.mem_of_getElem? h))).2.1
  unfold imgX imgL
  by_cases h : 97 ≤ x.toNat
  · rw [if_pos h, if_neg (by omega)]; exact ⟨rfl, hl⟩
  · rw [if_neg h, if_pos (by omega)]; exact ⟨inv_back _ hl, letL_back _ hl⟩
theorem putX_eq (zs : List ByteArray) (L : List UInt8) (hz : ∀ z ∈ zs, wordB z.data.toList = true) : putX zs L = putL zs L ∧ letL (putL zs L) = true := by
  unfold putX putL
  induction L with
  | nil => exact ⟨rfl, rfl⟩
  | cons x r ih =>
    obtain ⟨h1, h2⟩ := imgX_eq zs hz x
    rw [List.map_cons, List.map_cons, List.flatten_cons, List.flatten_cons, h1, ih.1, letL_append, h2, ih.2]
    exact ⟨rfl, rfl⟩
theorem letL_putX (zs : List ByteArray) (L : List UInt8) (hz : ∀ z ∈ zs, wordB z.data.toList = true) : letL (putX zs L) = true := by
  rw [(putX_eq zs L hz).1]; exact (putX_eq zs L hz).2
abbrev LTi : TypeId := 76

theorem infoSeqI : (Try.prog.info? IT).map (fun i => (i.zero, i.size, i.bytes)) = some (some .nilFunc, 1, 8) := by kernel_rfl

/-- An append in whatever place of a region. -/
theorem wpIn_append_op {F : Fence} {n : Nat} {P : Program} (w : World) {o : Oper} {a : Act} {K : Act → World → Prop} {Q : Exit → Act → World → Prop}
    (s x : Operand) (t : TypeId) (hop : o.op = Op.call { callee := Callee.builtin Builtin.append, args := #[s, x], argTypes := #[t, t] })
    (base : Nat) (e : TypeId) (i : TypeInfo) (z : Value) (size bytes : Nat) (h1 : P.underlying t = some (.slice e)) (h2 : P.info? e = some i) (h3 : i.zero = some z) (h4 : i.size = size) (h5 : i.bytes = bytes) (h6 : z.cells.size = size) (h7 : 0 < size)
    (v : Value) (k : Nat) (xs : List Value) (hs : a.eval s = v) (hown : w.ownsRow base e size v k xs) (ad : Addr) (m c : Nat) (news : List Value) (hx : a.eval x = .slice (some ad) m c) (hn : news.length = m * size)
    (hc : ∀ j u, news[j]? = some u → w.cell? (ad.add j) = some u) (h1c : ∀ u ∈ news, u.oneCell' = true) (b1 : k + m ≤ maxLen) (b2 : (k + m) * bytes ≤ 140737488355328) (b3 : base ≤ w.heap.size)
    (hK : ∀ v' w', w'.ownsRow base e size v' (k + m) (xs ++ news) → w.grownBy w' v.ownBlock → True → K (a.put o.dst v') w') : o.wpIn F n P a w K Q := by
  obtain ⟨v', w', hrun, r1, r2, _⟩ := run_append_own (P := P) w base t o.type e i z size bytes h1 h2 h3 h4 h5 h6 h7 v k xs hown ad m c news hn hc h1c b1 b2 b3
  unfold Oper.wpIn
  refine ⟨by simp [Oper.about, hop, resolve, Target.leads, Sem.run_pure], ?_⟩
  rw [Oper.semAt_plain F _ _ (by rw [hop]; intro c hc'; cases hc')]
  simp [execOp, hop, resolve, invoke, builtin, hs, hx, hrun, Result.andThen]
  exact hK v' w' r1 r2 trivial

theorem wordsOf_four (g : Nat) (zs : List ByteArray) (w : World) (hl : zs.length = 4) (hg : g < w.heap.size) (hc : ∀ i (h : i < zs.length), w.cell? ⟨g, i, none⟩ = some (.string zs[i])) (hf : ∀ z ∈ zs, wordB z.data.toList = true) (cap : Nat) :
    Calls Try.prog 30 #[.slice (some ⟨g, 0, none⟩) 4 cap] w fun e w' =>
      ∃ (gi : Nat) (vals : List Value), e = .returned (.tuple #[.slice (some ⟨gi, 0, none⟩) 4 4, .bool true]) ∧ gi < w'.heap.size ∧ (∀ j (h : j < zs.length), ∃ v, w'.cell? ⟨gi, j, none⟩ = some v ∧ vals[j]? = some v ∧ WordAt w.heap.size w' v zs[j].data.toList) ∧ Below w.heap.size w w' := by
  refine (wordsOf_any (some ⟨g, 0, none⟩) g 0 cap 4 zs w hl (by decide) (fun _ => rfl) hg (fun i h => by rw [Nat.zero_add]; exact hc i h) (fun s hs => by have := ((wordB_iff _).1 (hf s hs)).1; simp at this; unfold maxLen; omega)).mono ?_
  rintro e w' ⟨⟨_, s, hs, hb⟩ | ⟨gi, vals, rfl, _, hown, hv⟩, hB⟩
  · rw [hf s hs] at hb; cases hb
  · have hlen := hown.1
    refine ⟨gi, vals, rfl, (ownsRow_cap hown).2.2.2, fun j h => ?_, hB⟩
    have hj : j < vals.length := by omega
    exact ⟨vals[j], by rw [hown.cellAt j (by omega)]; exact List.getElem?_eq_getElem hj, List.getElem?_eq_getElem hj, hv j h _ (List.getElem?_eq_getElem hj)⟩

theorem owns_slice {W : World} {base : Nat} {e : TypeId} {v : Value} {n : Nat} {xs : List Value} (h : W.ownsRow base e 1 v n xs) (h0 : 0 < W.heap.size) :
    ∃ a cap b, v = .slice a n cap ∧ (0 < n → a = some ⟨b, 0, none⟩) ∧ b < W.heap.size ∧ ∀ i (h : i < xs.length), W.cell? ⟨b, i, none⟩ = some xs[i] := by
  have hl := h.1
  rw [Nat.mul_one] at hl
  have hc := fun g cap (e : v = .slice (some ⟨g, 0, none⟩) n cap) => e
  rcases h.2 with ⟨rfl, e⟩ | ⟨g, cap, cur, rfl, e2⟩
  · have e0 : n = 0 := e
    subst e0
    exact ⟨none, 0, 0, rfl, fun h => absurd h (Nat.lt_irrefl _), h0, fun i hi => absurd hi (by omega)⟩
  · refine ⟨_, cap, g, rfl, fun _ => rfl, (ownsRow_cap h).2.2.2, fun i hi => ?_⟩
    rw [h.cellAt i (by omega)]
    exact List.getElem?_eq_getElem hi

/-- Four words in memory. -/
def FourAt (gi : Nat) (lo : Nat) (w : World) (zs : List ByteArray) : Prop :=
  gi < w.heap.size ∧ ∀ j (h : j < zs.length), ∃ v, w.cell? ⟨gi, j, none⟩ = some v ∧ WordAt lo w v zs[j].data.toList
theorem FourAt.below {gi lo : Nat} {w w' : World} {zs : List ByteArray} (h : FourAt gi lo w zs) (hb : Below w.heap.size w w') : FourAt gi lo w' zs :=
  ⟨Nat.lt_of_lt_of_le h.1 hb.size, fun j hj => by
    obtain ⟨v, h1, h2⟩ := h.2 j hj
    exact ⟨v, (hb.cell (p := ⟨gi, j, none⟩) h.1).trans h1, h2.below hb⟩⟩

end Go.Proofs.Ytdhmicpoigoleab

/- The contracts of the program's 'imagesOf' and 'WordPut'. -/

namespace Go.Proofs.Ytdhmicpoigoleab
open Go.RowKit Go.Shelf

/-- A list of strings from a cell 0 on, as a law copies it. -/
structure StrsIn (w : World) (a : Option Addr) (g : Nat) (n : Nat) (zs : List ByteArray) : Prop where
  len : zs.length = n
  at0 : 0 < n → a = some ⟨g, 0, none⟩
  blk : g < w.heap.size
  cells : ∀ i (h : i < zs.length), w.cell? ⟨g, i, none⟩ = some (.string zs[i])
  small : ∀ s ∈ zs, s.size ≤ maxLen
theorem StrsIn.below {w w' : World} {a : Option Addr} {g n : Nat} {zs : List ByteArray} (h : StrsIn w a g n zs) (hb : Below w.heap.size w w') : StrsIn w' a g n zs :=
  ⟨h.len, h.at0, Nat.lt_of_lt_of_le h.blk hb.size, fun i hi => (hb.cell (p := ⟨g, i, none⟩) h.blk).trans (h.cells i hi), h.small⟩

end Go.Proofs.Ytdhmicpoigoleab

/- Letters as a free group: reducing goes along, inverses cancel, sums of letters, powers, commutators, putting. -/

namespace Go.Proofs.Ytdhmicpoigoleab
open Go.RowKit

theorem toList_size (s : ByteArray) : s.data.toList.length = s.size := by simp
theorem letL_step {l : List UInt8} {c : UInt8} (hl : letL l = true) (hc : letB c = true) : letL (redStep l c) = true := by
  unfold redStep
  split
  · exact letL_of_mem l _ hl fun _ h => List.dropLast_subset _ h
  · rw [letL_append, hl, letL_cons, hc]; rfl
theorem letL_red2 : ∀ (s acc : List UInt8), letL s = true → letL acc = true → letL (redL acc s) = true
  | [], _, _, h => h
  | c :: s, acc, h, ha => by
    rw [letL_cons, Bool.and_eq_true] at h
    exact letL_red2 s (redStep acc c) h.2 (letL_step ha h.1)
theorem step_cancel {l : List UInt8} (hn : noC l) {x : UInt8} (hx : letB x = true) : redStep (redStep l x) (turnB x) = l := by
  obtain ⟨ht, hx2⟩ := turn_turn x hx
  by_cases h : l.getLast? = some (turnB x)
  · obtain ⟨p, y, rfl⟩ := last_split l (by cases l with | nil => simp at h | cons a l => simp)
    have hy : y = turnB x := by simpa using h
    subst hy
    rw [redStep_pop p (turnB x) x rfl]
    by_cases h2 : p.getLast? = some (turnB (turnB x))
    · exfalso
      obtain ⟨q, z, rfl⟩ := last_split p (by cases p with | nil => simp at h2 | cons a l => simp)
      have hz : z = turnB (turnB x) := by simpa using h2
      exact hn q z (turnB x) [] (by simp) hz
    · unfold redStep; rw [if_neg h2]
  · have e : redStep l x = l ++ [x] := by unfold redStep; rw [if_neg h]
    rw [e, redStep_pop l x (turnB x) ht.symm]
theorem red_through : ∀ (y acc : List UInt8), noC acc → letL y = true → redL acc (redL [] y) = redL acc y := by
  intro y
  generalize hn : y.length = n
  induction n generalizing y with
  | zero => intro acc _ _; rw [List.length_eq_zero_iff.1 hn]; rfl
  | succ n ih =>
    intro acc ha hl
    obtain ⟨p, c, rfl⟩ := last_split y (by omega)
    have hp : p.length = n := by rw [List.length_append] at hn; simp at hn; exact hn
    rw [letL_append, Bool.and_eq_true] at hl
    have hc : letB c = true := by have := hl.2; simp [letL] at this; exact this
    have h1 := ih p hp acc ha hl.1
    rw [redL_snoc, redL_snoc]
    by_cases h : (redL [] p).getLast? = some (turnB c)
    · obtain ⟨q, z, hq⟩ := last_split (redL [] p) (by cases hr : redL [] p with | nil => rw [hr] at h; simp at h | cons a l => simp)
      rw [hq] at h h1 ⊢
      have hz : z = turnB c := by simpa using h
      subst hz
      rw [redStep_pop q (turnB c) c rfl, ← h1, redL_snoc]
      have := step_cancel (noC_red q acc ha) (turn_turn c hc).2
      rw [(turn_turn c hc).1] at this
      exact this.symm
    · have e : redStep (redL [] p) c = redL [] p ++ [c] := by unfold redStep; rw [if_neg h]
      rw [e, redL_snoc, h1]
/-- Reducing parts first. -/
theorem red_both {a b : List UInt8} (hb : letL b = true) : redL [] (redL [] a ++ redL [] b) = redL [] (a ++ b) := by
  rw [red_append, redL_append, redL_append, red_through b _ (noC_red a [] noC_nil) hb]
theorem red_right {a b : List UInt8} (hb : letL b = true) : redL [] (a ++ redL [] b) = redL [] (a ++ b) := by
  rw [redL_append, redL_append, red_through b _ (noC_red a [] noC_nil) hb]
/-- A word and its inverse. -/
theorem red_cancel : ∀ (s acc : List UInt8), noC acc → letL s = true → redL (redL acc s) (backL s) = acc := by
  intro s
  induction s with
  | nil => intro acc _ _; rfl
  | cons c s ih =>
    intro acc ha hl
    rw [letL_cons, Bool.and_eq_true] at hl
    have e : backL (c :: s) = backL s ++ [turnB c] := by simp [backL]
    have e2 : redL acc (c :: s) = redL (redStep acc c) s := rfl
    rw [e, redL_append, e2, ih _ (noC_step acc c ha) hl.2]
    exact step_cancel ha hl.1
theorem red_inv {s : List UInt8} (hl : letL s = true) (a : List UInt8) : redL [] (a ++ s ++ backL s) = redL [] a := by
  rw [redL_append, redL_append]
  exact red_cancel s _ (noC_red a [] noC_nil) hl
theorem red_inv2 {s : List UInt8} (hl : letL s = true) (a : List UInt8) : redL [] (a ++ backL s ++ s) = redL [] a := by
  have := red_inv (letL_back s hl) a
  rwa [back_back s hl] at this
/-- Words that are the same behind each other's inverse. -/
theorem red_unique {a b : List UInt8} (hb : letL b = true) (h : redL [] (a ++ backL b) = []) : redL [] a = redL [] b := by
  have h1 : redL [] (a ++ backL b ++ b) = redL [] a := red_inv2 hb a
  rw [← h1, redL_append, h]
theorem back_red {s : List UInt8} (hl : letL s = true) : backL (redL [] s) = redL [] (backL s) := by
  have hr := letL_red2 s [] hl rfl
  have h1 : redL [] (backL (redL [] s)) = backL (redL [] s) := red_back _ hr (red_red s)
  rw [← h1]
  refine red_unique (letL_back s hl) ?_
  rw [back_back s hl, ← red_right hl]
  have := red_inv2 hr []
  rw [List.nil_append] at this
  exact this
/-! ### Sums of letters -/
theorem sgnB_bnd2 (x : UInt8) : -1 ≤ sgnB x ∧ sgnB x ≤ 1 := by unfold sgnB; split <;> omega
def sgL (i : Nat) : List UInt8 → Int
  | [] => 0
  | c :: r => (if idxB c = i then sgnB c else 0) + sgL i r
theorem sgL_append (i : Nat) : ∀ a b : List UInt8, sgL i (a ++ b) = sgL i a + sgL i b
  | [], b => by simp [sgL]
  | c :: r, b => by rw [List.cons_append, sgL, sgL, sgL_append i r b]; omega
theorem sg_turn {c : UInt8} (hc : letB c = true) : idxB (turnB c) = idxB c ∧ sgnB (turnB c) = - sgnB c := by
  have h := (letB_iff c).1 hc
  unfold idxB sgnB
  rcases h with h | h
  · have := turnB_hi c h.1
    rw [if_neg (by omega), if_pos (by omega), if_neg (by omega), if_pos (by omega)]; omega
  · have := turnB_lo c (by omega)
    rw [if_pos (by omega), if_neg (by omega), if_pos (by omega), if_neg (by omega)]; omega
theorem sgL_turn (i : Nat) {c : UInt8} (hc : letB c = true) : sgL i [turnB c] = - sgL i [c] := by
  obtain ⟨h1, h2⟩ := sg_turn hc
  simp only [sgL]
  rw [h1, h2]; split <;> omega
theorem sgL_back (i : Nat) : ∀ s : List UInt8, letL s = true → sgL i (backL s) = - sgL i s
  | [], _ => by simp [sgL, backL]
  | c :: s, h => by
    rw [letL_cons, Bool.and_eq_true] at h
    have e : backL (c :: s) = backL s ++ [turnB c] := by simp [backL]
    rw [e, sgL_append, sgL_back i s h.2, sgL_turn i h.1, show c :: s = [c] ++ s from rfl, sgL_append]; omega
theorem sgL_step (i : Nat) {l : List UInt8} {c : UInt8} (hc : letB c = true) : sgL i (redStep l c) = sgL i l + sgL i [c] := by
  by_cases h : l.getLast? = some (turnB c)
  · obtain ⟨p, y, rfl⟩ := last_split l (by cases l with | nil => simp at h | cons a l => simp)
    have hy : y = turnB c := by simpa using h
    subst hy
    rw [redStep_pop p (turnB c) c rfl, sgL_append, sgL_turn i hc]; omega
  · have e : redStep l c = l ++ [c] := by unfold redStep; rw [if_neg h]
    rw [e, sgL_append]
theorem sgL_red (i : Nat) : ∀ (s acc : List UInt8), letL s = true → sgL i (redL acc s) = sgL i acc + sgL i s
  | [], acc, _ => by simp [redL_nil, sgL]
  | c :: s, acc, h => by
    rw [letL_cons, Bool.and_eq_true] at h
    have e : redL acc (c :: s) = redL (redStep acc c) s := rfl
    rw [e, sgL_red i s _ h.2, sgL_step i h.1, show c :: s = [c] ++ s from rfl, sgL_append]; omega
theorem sums_get : ∀ (s : List UInt8), letL s = true → ∀ i (h : i < (sumsL s).length), (sumsL s)[i] = sgL i s := by
  intro s
  generalize hn : s.length = n
  induction n generalizing s with
  | zero =>
    intro _ i h
    obtain rfl := List.length_eq_zero_iff.1 hn
    have h4 : i < 4 := h
    rcases (show i = 0 ∨ i = 1 ∨ i = 2 ∨ i = 3 by omega) with rfl | rfl | rfl | rfl <;> rfl
  | succ n ih =>
    intro hl i h
    obtain ⟨p, c, rfl⟩ := last_split s (by omega)
    have hp : p.length = n := by rw [List.length_append] at hn; simp at hn; exact hn
    rw [letL_append, Bool.and_eq_true] at hl
    have hc : letB c = true := by have := hl.2; simp [letL] at this; exact this
    have h4 := (sumsL_inv p hl.1).1
    have hi := idxB_lt c hc
    have h4s := (sumsL_inv (p ++ [c]) (by rw [letL_append, hl.1, hl.2]; rfl)).1
    have hi4 : i < (sumsL p).length := by omega
    have h1 := ih p hp hl.1 i hi4
    have e : sumsL (p ++ [c]) = (sumsL p).set (idxB c) ((sumsL p)[idxB c]?.getD 0 + sgnB c) := sumsL_snoc p c
    simp only [e]
    rw [List.getElem_set, sgL_append, ← h1]
    simp only [sgL]
    by_cases hic : idxB c = i
    · subst hic
      rw [if_pos rfl, if_pos rfl, List.getElem?_eq_getElem hi4]
      simp
    · rw [if_neg hic, if_neg hic]; omega
theorem sums_eq {s t : List UInt8} (hs : letL s = true) (ht : letL t = true) (h : ∀ i, i < 4 → sgL i s = sgL i t) : sumsL s = sumsL t := by
  have h1 := (sumsL_inv s hs).1
  have h2 := (sumsL_inv t ht).1
  refine List.ext_getElem (by omega) fun i hi hj => ?_
  rw [sums_get s hs, sums_get t ht]
  exact h i (by omega)
/-! ### Powers -/
theorem powL_next {s : List UInt8} (hl : letL s = true) (n : Int) : redL [] (powL (n + 1) s) = redL [] (powL n s ++ s) := by
  unfold powL
  by_cases h : n < 0
  · rw [if_pos h]
    obtain ⟨m, hm⟩ : ∃ m : Nat, n.natAbs = m + 1 := ⟨n.natAbs - 1, by omega⟩
    have e1 : repL n.natAbs (backL s) = repL m (backL s) ++ backL s := by rw [hm, ← repL_add m 1, repL_one]
    rw [e1, red_inv2 hl]
    by_cases h2 : n + 1 < 0
    · rw [if_pos h2, show (n + 1).natAbs = m by omega]
    · rw [if_neg h2, show (n + 1).natAbs = 0 by omega, show m = 0 by omega]; rfl
  · rw [if_neg h, if_neg (show ¬ n + 1 < 0 by omega), show (n + 1).natAbs = n.natAbs + 1 by omega, ← repL_add n.natAbs 1, repL_one]

end Go.Proofs.Ytdhmicpoigoleab

/- Commutators, parity, cores and putting, over lists of letters. -/

namespace Go.Proofs.Ytdhmicpoigoleab
open Go.RowKit

/-! ### Commutators -/
theorem comm_back {a b : List UInt8} (ha : letL a = true) (hb : letL b = true) : backL (commL a b) = commL b a := by
  unfold commL
  rw [backL_append, backL_append, backL_append, back_back a ha, back_back b hb]
  simp
theorem comm_let {a b : List UInt8} (ha : letL a = true) (hb : letL b = true) : letL (commL a b) = true := by
  unfold commL
  rw [letL_append, letL_append, letL_append, ha, hb, letL_back a ha, letL_back b hb]; rfl
theorem comm_sg (i : Nat) {a b : List UInt8} (ha : letL a = true) (hb : letL b = true) : sgL i (commL a b) = 0 := by
  unfold commL
  rw [sgL_append, sgL_append, sgL_append, sgL_back i a ha, sgL_back i b hb]; omega
/-- A commutator ahead of the product the other way. -/
theorem comm_times {a b : List UInt8} (ha : letL a = true) (hb : letL b = true) : redL [] (commL a b ++ (b ++ a)) = redL [] (a ++ b) := by
  unfold commL
  rw [show a ++ b ++ backL a ++ backL b ++ (b ++ a) = (a ++ b ++ backL a ++ backL b ++ b) ++ a by simp, redL_append, red_inv2 hb, ← redL_append, red_inv2 ha]
theorem sums_comm {a b : List UInt8} (ha : letL a = true) (hb : letL b = true) : sumsL (redL [] (commL a b)) = [0, 0, 0, 0] := by
  have hl := letL_red2 _ [] (comm_let ha hb) rfl
  have h4 := (sumsL_inv _ hl).1
  refine List.ext_getElem (by rw [h4]; rfl) fun i hi hj => ?_
  rw [sums_get _ hl, sgL_red i _ [] (comm_let ha hb), comm_sg i ha hb]
  have hj4 : i < 4 := hj
  rcases (show i = 0 ∨ i = 1 ∨ i = 2 ∨ i = 3 by omega) with rfl | rfl | rfl | rfl <;> rfl
/-! ### Parity -/
theorem step_parity (l : List UInt8) (c : UInt8) : ∃ k, (redStep l c).length + 2 * k = l.length + 1 := by
  unfold redStep
  split
  · refine ⟨1, ?_⟩
    rename_i h
    cases l with
    | nil => simp at h
    | cons a r => simp
  · exact ⟨0, by simp⟩
theorem red_parity : ∀ (s l : List UInt8), ∃ k, (redL l s).length + 2 * k = l.length + s.length
  | [], l => ⟨0, by simp [redL_nil]⟩
  | c :: s, l => by
    obtain ⟨k, hk⟩ := step_parity l c
    obtain ⟨j, hj⟩ := red_parity s (redStep l c)
    refine ⟨k + j, ?_⟩
    have e : redL l (c :: s) = redL (redStep l c) s := rfl
    rw [e, List.length_cons]; omega
/-! ### Cores -/
theorem coreF_core : ∀ (m : Nat) (l : List UInt8), l.length ≤ m → coreC (coreF m l) = false
  | 0, l, h => by
    have : l = [] := List.length_eq_zero_iff.1 (by omega)
    subst this
    rfl
  | m + 1, l, h => by
    rw [coreF]
    split
    · rename_i hc
      have h1 : 1 < l.length := by unfold coreC at hc; simp only [Bool.and_eq_true, decide_eq_true_eq] at hc; exact hc.1
      exact coreF_core m _ (by rw [core_len]; omega)
    · rename_i hc; simpa using hc
theorem core_core (l : List UInt8) : coreL (coreL l) = coreL l := coreF_false (coreF_core l.length l (Nat.le_refl _)) _
theorem core_le (l : List UInt8) : (coreL l).length ≤ l.length := coreF_len _ _
theorem core_ends {l : List UInt8} (hl : letL l = true) (hc : coreC l = true) : ∃ c, letB c = true ∧ l = [turnB c] ++ l.tail.dropLast ++ [c] := by
  have h1 : 1 < l.length := by unfold coreC at hc; simp only [Bool.and_eq_true, decide_eq_true_eq] at hc; exact hc.1
  obtain ⟨p, c, rfl⟩ := last_split l (by omega)
  cases p with
  | nil => simp at h1
  | cons x q =>
    have hx : x = turnB c := by
      unfold coreC at hc
      simp only [Bool.and_eq_true, decide_eq_true_eq] at hc
      have h2 := hc.2
      have e : (x :: q ++ [c]).getLast? = some c := List.getLast?_concat
      rw [e] at h2
      simpa using h2
    refine ⟨c, letL_get _ hl ((x :: q ++ [c]).length - 1) (by simp) |> fun h => by simpa using h, ?_⟩
    subst hx
    simp
theorem coreF_word : ∀ (m : Nat) (l : List UInt8), letL l = true → noC l → letL (coreF m l) = true ∧ noC (coreF m l)
  | 0, l, h1, h2 => ⟨h1, h2⟩
  | m + 1, l, h1, h2 => by
    rw [coreF]
    split
    · rename_i hc
      obtain ⟨c, _, e⟩ := core_ends h1 hc
      refine coreF_word m _ (letL_core l h1) ?_
      rw [e] at h2
      intro p x y q h3
      refine h2 (turnB c :: p) x y (q ++ [c]) ?_
      rw [h3]; simp
    · exact ⟨h1, h2⟩
theorem core_word {l : List UInt8} (h : wordB l = true) : wordB (coreL l) = true := by
  obtain ⟨h1, h2, h3⟩ := (wordB_iff _).1 h
  obtain ⟨h4, h5⟩ := coreF_word l.length l h2 ((red_iff _).1 h3)
  refine (wordB_iff _).2 ⟨by have := core_le l; omega, h4, (red_iff _).2 h5⟩
theorem coreF_sg (i : Nat) : ∀ (m : Nat) (l : List UInt8), letL l = true → sgL i (coreF m l) = sgL i l
  | 0, l, h1 => rfl
  | m + 1, l, h1 => by
    rw [coreF]
    split
    · rename_i hc
      obtain ⟨c, hcl, e⟩ := core_ends h1 hc
      have h2 := coreF_sg i m _ (letL_core l h1)
      rw [h2]
      have h3 : sgL i l = sgL i ([turnB c] ++ l.tail.dropLast ++ [c]) := congrArg _ e
      rw [sgL_append, sgL_append, sgL_turn i hcl] at h3
      omega
    · rfl
theorem sums_core {l : List UInt8} (h : letL l = true) (h2 : letL (coreL l) = true) : sumsL (coreL l) = sumsL l := sums_eq h2 h fun i _ => coreF_sg i _ l h
/-! ### Putting -/
theorem img_turn (zs : List ByteArray) (hz : ∀ z ∈ zs, wordB z.data.toList = true) {c : UInt8} (hc : letB c = true) : imgL zs (turnB c) = backL (imgL zs c) := by
  have hl : letL (zs.getD (idxB c) ByteArray.empty).data.toList = true := by
    rw [List.getD_eq_getElem?_getD]
    cases h : zs[idxB c]? with
    | none => rfl
    | some z => exact ((wordB_iff _).1 (hz z (List.mem_of_getElem? h))).2.1
  have hi := (sg_turn hc).1
  unfold imgL
  rw [hi]
  have h := (letB_iff c).1 hc
  rcases h with h | h
  · have := turnB_hi c h.1
    rw [if_pos (by omega), if_neg (by omega)]
  · have := turnB_lo c (by omega)
    rw [if_neg (by omega), if_pos (by omega), back_back _ hl]
theorem putL_append (zs : List ByteArray) (a b : List UInt8) : putL zs (a ++ b) = putL zs a ++ putL zs b := by simp [putL]
theorem put_back (zs : List ByteArray) (hz : ∀ z ∈ zs, wordB z.data.toList = true) : ∀ s : List UInt8, letL s = true → putL zs (backL s) = backL (putL zs s)
  | [], _ => rfl
  | c :: s, h => by
    rw [letL_cons, Bool.and_eq_true] at h
    have e : backL (c :: s) = backL s ++ [turnB c] := by simp [backL]
    have e1 : putL zs [turnB c] = imgL zs (turnB c) := by simp [putL]
    have e2 : putL zs (c :: s) = imgL zs c ++ putL zs s := by simp [putL]
    rw [e, putL_append, put_back zs hz s h.2, e1, img_turn zs hz h.1, e2, backL_append]
def abcd : List ByteArray := [{ data := #[97] }, { data := #[98] }, { data := #[99] }, { data := #[100] }]
theorem abcd_four : fourB abcd = true := by decide +kernel
theorem abcd_tab : ∀ n : Fin 256, letB (UInt8.ofNat n.val) = true → imgL abcd (UInt8.ofNat n.val) = [UInt8.ofNat n.val] := by decide +kernel
theorem abcd_img {c : UInt8} (h : letB c = true) : imgL abcd c = [c] := by
  have := abcd_tab ⟨c.toNat, c.toNat_lt⟩
  simp only [UInt8.ofNat_toNat] at this
  exact this h
theorem abcd_put : ∀ s : List UInt8, letL s = true → putL abcd s = s
  | [], _ => rfl
  | c :: s, h => by
    rw [letL_cons, Bool.and_eq_true] at h
    have e2 : putL abcd (c :: s) = imgL abcd c ++ putL abcd s := by simp [putL]
    rw [e2, abcd_img h.1, abcd_put s h.2]; rfl
theorem put_let (zs : List ByteArray) (hz : ∀ z ∈ zs, wordB z.data.toList = true) (s : List UInt8) : letL (putL zs s) = true := (putX_eq zs s hz).2

/-! ### Words of letters that reduce to few -/
theorem word_of_red {s : List UInt8} (hl : letL s = true) (h : (redL [] s).length ≤ 60) : wordB (redL [] s) = true := (wordB_iff _).2 ⟨h, letL_red2 s [] hl rfl, red_red s⟩
theorem word_back {s : List UInt8} (h : wordB s = true) : wordB (backL s) = true := by
  obtain ⟨h1, h2, h3⟩ := (wordB_iff _).1 h
  exact (wordB_iff _).2 ⟨by rw [backL_length]; exact h1, letL_back s h2, red_back s h2 h3⟩

end Go.Proofs.Ytdhmicpoigoleab

/- The contracts of the model's 'l91Four' and 'DrawWordPut'. -/

namespace Go.Proofs.Ytdhmicpoigoleab
open Go.RowKit Go.Shelf

theorem Rd.past {base N : Nat} {w w' : World} {rb : Nat} {a : Option Addr} {n cap : Nat} {zs : List Int} {p : Nat} (h : Rd base w rb a n cap zs p) (hb : Below N w w') (hN : rb < N) : Rd base w' rb a n cap zs p :=
  ⟨h.lo, (hb.block rb hN).trans h.box, h.data.below (hb.mono (Nat.le_of_lt (Nat.lt_of_le_of_lt h.lo hN))), h.short⟩
theorem ownS_made2 (w : World) : OwnS w.heap.size (w.alloc (.cells #[] 9)) (.slice (some ⟨w.heap.size, 0, none⟩) 0 0) [] :=
  World.ownsRow_made w #[] 0 (Nat.le_refl _) (Nat.zero_le _) rfl
theorem OwnS.kept {base : Nat} {w w' : World} {v : Value} {zs : List ByteArray} (h : OwnS base w v zs) {rb : Nat} (hg : w.grownBy w' (some rb)) (hr : rb < base) : OwnS base w' v zs :=
  World.ownsRow.kept h hg (by
    cases hv : v.ownBlock with
    | none => exact .inl rfl
    | some k => exact .inr fun e => by have := (h.lt k hv).1; cases e; omega)

theorem StrsIn.taken {w : World} {g n : Nat} {zs : List ByteArray} (h : StrsIn w (some ⟨g, 0, none⟩) g n zs) (k : Nat) (hk : k ≤ n) : StrsIn w (some ⟨g, 0, none⟩) g k (zs.take k) :=
  ⟨by rw [List.length_take, h.len]; omega, fun _ => rfl, h.blk, fun i hi => by rw [List.getElem_take]; exact h.cells i (by rw [List.length_take] at hi; omega), fun s hs => h.small s (List.mem_of_mem_take hs)⟩
theorem StrsIn.at_ {w : World} {g n : Nat} {zs : List ByteArray} (h : StrsIn w (some ⟨g, 0, none⟩) g n zs) : StrsAt w (some ⟨g, 0, none⟩) zs :=
  ⟨fun _ => ⟨_, rfl, h.blk, fun i hi => by
    have e : (⟨g, 0, none⟩ : Addr).add i = ⟨g, i, none⟩ := by unfold Addr.add; split <;> simp_all
    rw [e]; exact h.cells i hi⟩, h.small⟩
theorem strsIn_abcd (w : World) : StrsIn (w.alloc (.cells #[.string { data := #[97] }, .string { data := #[98] }, .string { data := #[99] }, .string { data := #[100] }] 9)) (some ⟨w.heap.size, 0, none⟩) w.heap.size 4 abcd :=
  ⟨rfl, fun _ => rfl, by simp, fun j hj => by
    have hj4 : j < 4 := hj
    rcases (show j = 0 ∨ j = 1 ∨ j = 2 ∨ j = 3 by omega) with rfl | rfl | rfl | rfl <;> exact (World.cell?_alloc_at _ _ _ _ (by simp)).trans rfl, by
    have : ∀ s ∈ abcd, s.size = 1 := by decide
    intro s hs
    rw [this s hs]; unfold maxLen; omega⟩

/-- Few texts that lie in a block of the call's own. -/
def FourS (base : Nat) (w' : World) (v : Value) : Prop := ∃ g c n zs, v = .slice (some ⟨g, 0, none⟩) n c ∧ base ≤ g ∧ StrsIn w' (some ⟨g, 0, none⟩) g n zs ∧ n ≤ 4 ∧ ∀ z ∈ zs, z.size ≤ 4

theorem _root_.Go.World.grownBy.past {w w1 w2 : World} {rb N : Nat} (hg : w.grownBy w1 (some rb)) (hb : Below N w1 w2) (hN : w.heap.size ≤ N := by omega) : w.grownBy w2 (some rb) :=
  ⟨hb.os.trans hg.os, hb.tape.trans hg.tape, hb.output.trans hg.output, Nat.le_trans hg.size hb.size, fun k hk hne => (hb.block k (by omega)).trans (hg.block k hk hne)⟩
theorem FourS.mono {b1 b2 : Nat} {w : World} {v : Value} (h : FourS b1 w v) (hb : b2 ≤ b1) : FourS b2 w v := by
  obtain ⟨g, c, n, ts, rfl, h1, h2⟩ := h
  exact ⟨g, c, n, ts, rfl, Nat.le_trans hb h1, h2⟩

end Go.Proofs.Ytdhmicpoigoleab

/- The contract of the model's 'DrawNestOf'. -/

namespace Go.Proofs.Ytdhmicpoigoleab
open Go.RowKit Go.Shelf

set_option maxRecDepth 100000 in
set_option maxHeartbeats 4000000 in
theorem drawNestOf_any (a : Option Addr) (n cap : Nat) (zs : List Int) (w : World) (h : BsAt w.heap.size w a n cap zs) :
    Calls Try.prog 5 #[.slice a n cap] w fun e w' => (∃ (g c k : Nat) (ys : List ByteArray), e = .returned (.slice (some ⟨g, 0, none⟩) k c) ∧ k ≤ c ∧ k ≤ 3 ∧ ys.length = k ∧ StrsAt w' (some ⟨g, 0, none⟩) ys ∧ ∀ y ∈ ys, y.size ≤ 4) ∧ Below w.heap.size w w' := by
  obtain ⟨i0, hi, hz0, hz1, hz2⟩ := info_parts infoStr
  have HO := Lib.hid (open_any a n cap zs w h)
  clear h
  go_enter Try.func5, Try.ntmps5
  go_wp2_with fail
  refine HO.out.mono ?_
  rintro e w1 ⟨n', zs', rfl, hR1, hB1⟩
  have hlo := hR1.lo
  have hrl := hR1.lt
  have hs1 := hB1.size
  have hb0 : Below w1.heap.size w1 (w1.alloc (.cells #[] 9)) := (Below.refl w1.heap.size w1).alloc (Nat.le_refl _) _
  have HR1 := Lib.hid (hR1.past hb0 hrl)
  have HB1 := Lib.hid (hB1.trans (hb0.mono hs1))
  clear hR1 hB1 hb0
  have hsz1 : (w1.alloc (.cells #[] 9)).heap.size = w1.heap.size + 1 := by simp
  obtain ⟨W1, hW1⟩ : ∃ W1, w1.alloc (.cells #[] 9) = W1 := ⟨_, rfl⟩
  have HM : Hid (OwnS w1.heap.size W1 (.slice (some ⟨w1.heap.size, 0, none⟩) 0 0) []) := Lib.hid (by rw [← hW1]; exact ownS_made2 w1)
  rw [hW1] at HR1 HB1 hsz1
  go_wp2_with fail
  refine (pick_any w.heap.size w.heap.size a n' cap zs' 0 3 W1 HR1.out (by omega) (by omega) (by omega)).mono ?_
  rintro e w2 ⟨⟨x, rfl, hx⟩, hR2, hB2, hG2⟩
  have HR2 := Lib.hid hR2
  have HB2 := Lib.hid (HB1.out.trans hB2)
  have HM2 := Lib.hid (HM.out.kept hG2 (by omega))
  have hs2 := hG2.size
  clear hR2 hB2 hG2 hW1
  go_wp2_with fail
  refine (pick_any w.heap.size w.heap.size a n' cap zs' 1 20 w2 HR2.out (by omega) (by omega) (by omega)).mono ?_
  rintro e w3 ⟨⟨y, rfl, hy⟩, hR3, hB3, hG3⟩
  have HR3 := Lib.hid hR3
  have HB3 := Lib.hid (HB2.out.trans hB3)
  have HM3 := Lib.hid (HM2.out.kept hG3 (by omega))
  have hs3 := hG3.size
  clear hR3 hB3 hG3
  obtain ⟨d, hd⟩ : ∃ d : Int, (y : Int) / 19 = d := ⟨_, rfl⟩
  have hd01 : d = 0 ∨ d = 1 := by omega
  have hdw1 : IntKind.i64.wrap (d * 4) = d * 4 := IntWalk.i64_in _ (by omega)
  have hdw2 : IntKind.i64.wrap (1 + (x : Int) - d * 4) = 1 + (x : Int) - d * 4 := IntWalk.i64_in _ (by omega)
  obtain ⟨N, hN⟩ : ∃ N : Int, 1 + (x : Int) - d * 4 = N := ⟨_, rfl⟩
  have hN3 : N ≤ 3 := by omega
  rw [hN] at hdw2
  go_wp2
  clear hd hdw1 hdw2 hN
  go_loopw [4, 6] (fun v i wr => ∃ (k q g c : Nat) (ys : List ByteArray), v = .slice (some ⟨g, 0, none⟩) k c ∧ k ≤ 3 ∧ i = .int .i64 (k : Int) ∧ q ≤ 2 + 61 * k ∧ w1.heap.size ≤ g ∧ Hid (ys.length = k ∧ OwnS w1.heap.size wr (.slice (some ⟨g, 0, none⟩) k c) ys ∧ (∀ y ∈ ys, y.size ≤ 4) ∧ Rd w.heap.size wr w.heap.size a n' cap zs' q ∧ Below w.heap.size w wr) ∧ w1.heap.size < wr.heap.size) (fun _ i _ => (N - intOf i).toNat)
  case atStart => exact ⟨0, 2, w1.heap.size, 0, [], rfl, by omega, rfl, by omega, Nat.le_refl _, Lib.hid ⟨rfl, HM3.out, by simp, HR3.out, HB3.out⟩, by omega⟩
  case round =>
    obtain ⟨k, q, g, c, ys, rfl, hk, rfl, hq, hg, HH, hsz⟩ := hrel
    by_cases hlt : (k : Int) < N
    · go_wp2_with fail
      refine (l91Word_grown w.heap.size w.heap.size a n' cap zs' q 2 3 wr HH.out.2.2.2.1 (by omega) (by omega) (by omega) (by omega)).mono ?_
      rintro e w5 ⟨⟨t, rfl, ht⟩, ⟨q5, hq5, hR5⟩, hB5, hG5⟩
      have HO := Lib.hid (HH.out.2.1.kept hG5 (by omega))
      have HR5 := Lib.hid hR5
      have HB5 := Lib.hid (HH.out.2.2.2.2.trans hB5)
      have HYL := Lib.hid HH.out.1
      have HYS := Lib.hid HH.out.2.2.1
      have hs5 := hG5.size
      have hrb5 := hR5.lt
      have hown := HO.out
      unfold OwnS at hown
      rw [HYL.out] at hown
      have HOW := Lib.hid hown
      clear hR5 hB5 hG5 hown
      go_wp2_with (at_builtin; refine wpList_append_lies _ rfl _ _ _ rfl w1.heap.size 9 i0 _ 1 16 Try.underlying23 hi hz0 hz1 hz2 rfl (by omega) (.slice (some ⟨g, 0, none⟩) k c) k (strsV ys) rfl (HOW.out.alloc _) ⟨w5.heap.size, 0, none⟩ 1 1 [.string t] rfl rfl (World.news_of_block (cs := #[.string t]) (t := 9) (fr := (0, 0)) (heap_alloc_new w5 _)) (by simp [Value.oneCell']) (by omega) (by unfold maxLen; omega) (by omega) (by simp; omega) (w5.heap.size + 1) (by simp) ?_; intro gg cap1 w7 hown7 hgrow7 hat hlt7)
      have hgg : w1.heap.size ≤ gg := (hown7.lt gg rfl).1
      have hB57 : Below w1.heap.size w5 w7 := ((Below.refl w1.heap.size w5).alloc (by omega) _).grown hgrow7 (by simp; omega) (ownsRow_low HOW.out)
      have HB7 := Lib.hid (HB5.out.trans (hB57.mono (by omega)))
      have HR7 := Lib.hid (HR5.out.past hB57 (by omega))
      have HO7 := Lib.hid hown7
      have hs7 := hB57.size
      clear hown7 hgrow7 hat hlt7 hB57
      go_wp2
      go_roundw
      case rel =>
        refine ⟨k + 1, q5, gg, cap1, ys ++ [t], rfl, by omega, by go_num, by omega, hgg, Lib.hid ⟨by rw [List.length_append, HYL.out]; rfl, ?_, ?_, HR7.out, HB7.out⟩, by omega⟩
        · unfold OwnS
          rw [List.length_append, HYL.out, show strsV (ys ++ [t]) = strsV ys ++ [.string t] by simp [strsV]]
          exact HO7.out
        · intro y hy
          rcases List.mem_append.1 hy with h | h
          · exact HYS.out y h
          · rw [List.mem_singleton.1 h]; omega
      case measure => simp [intOf]; omega
    · have HYL := Lib.hid HH.out.1
      have hown := HH.out.2.1
      unfold OwnS at hown
      rw [HYL.out] at hown
      have hcap := (ownsRow_cap hown).1
      have HQ := Lib.hid (strsAt_of_owns HYL.out hown (fun z hz => by have := HH.out.2.2.1 z hz; unfold maxLen; omega)).1
      have HYS := Lib.hid HH.out.2.2.1
      have HB := Lib.hid HH.out.2.2.2.2
      clear hown
      go_wp2
      go_ret
      exact ⟨⟨g, c, k, rfl, hcap, hk, ys, HYL.out, HQ.out, HYS.out⟩, HB.out⟩

end Go.Proofs.Ytdhmicpoigoleab

/- The contract of the model's 'NestOf'. -/

namespace Go.Proofs.Ytdhmicpoigoleab
open Go.RowKit

/-- The commutator of two texts, if both are words and it is none too long. -/
def commO (x y : ByteArray) : Option ByteArray :=
  if wordB x.data.toList = true ∧ wordB y.data.toList = true ∧ (redL [] (commL x.data.toList y.data.toList)).length ≤ 60 then some (bstr (redL [] (commL x.data.toList y.data.toList))) else none
theorem sComm_any (x y : ByteArray) (o : Option ByteArray) (w : World) (hx : x.size ≤ maxLen) (hy : y.size ≤ maxLen) (h : commO x y = o) :
    Calls Try.prog 20 #[.string x, .string y] w fun e w' => e = .returned (.tuple #[.string (o.getD { data := #[] }), .bool o.isSome]) ∧ Below w.heap.size w w' := by
  subst h
  by_cases hw : wordB x.data.toList = true ∧ wordB y.data.toList = true
  · have hc := sComm_yes x y w hw.1 hw.2
    by_cases hl : (redL [] (commL x.data.toList y.data.toList)).length ≤ 60
    · have e : commO x y = some (bstr (redL [] (commL x.data.toList y.data.toList))) := if_pos ⟨hw.1, hw.2, hl⟩
      rw [e]
      rw [toldV_yes hl] at hc
      exact hc
    · have e : commO x y = none := if_neg fun h => hl h.2.2
      rw [e]
      rw [toldV_no hl] at hc
      exact hc
  · have e : commO x y = none := if_neg fun h => hw ⟨h.1, h.2.1⟩
    rw [e]
    exact sComm_no x y w hx hy hw
theorem commO_size {x y t : ByteArray} (h : commO x y = some t) : t.size ≤ 60 := by
  unfold commO at h
  split at h
  · rename_i hc
    cases h
    rw [bstr_size]; exact hc.2.2
  · cases h

/-- The nested commutator of the first k texts. -/
def nestN (zs : List ByteArray) : Nat → Option ByteArray
  | 0 => none
  | 1 => if wordB (zs.getD 0 { data := #[] }).data.toList then some (zs.getD 0 { data := #[] }) else none
  | k + 2 => (nestN zs (k + 1)).bind fun x => commO x (zs.getD (k + 1) { data := #[] })
theorem nest_none {zs : List ByteArray} {k n : Nat} (h : nestN zs (k + 1) = none) (hn : k + 1 ≤ n) : nestN zs n = none := by
  induction hn with
  | refl => exact h
  | @step m hm ih =>
    obtain ⟨j, rfl⟩ : ∃ j, m = j + 1 := ⟨m - 1, by have : k + 1 ≤ m := hm; omega⟩
    rw [nestN, ih]; rfl
/-- What NestOf answers. -/
def nestO (zs : List ByteArray) : Option ByteArray := if 1 ≤ zs.length ∧ zs.length ≤ 8 then nestN zs zs.length else none

set_option maxRecDepth 100000 in
set_option maxHeartbeats 2000000 in
theorem sNestOf_many (a : Option Addr) (cap n : Nat) (w : World) (hb : ¬ (1 ≤ n ∧ n ≤ 8)) :
    Calls Try.prog 7 #[.slice a n cap] w fun e w' => e = .returned (.tuple #[.string { data := #[] }, .bool false]) ∧ Below w.heap.size w w' := by
  have hr : inR 1 8 (n : Int) = false := by
    unfold inR
    by_cases h : (1 : Int) ≤ n
    · rw [decide_eq_true h, Bool.true_and]; exact decide_eq_false (by omega)
    · rw [decide_eq_false h]; rfl
  have HR := Lib.hid hr
  clear hr hb
  go_enter Try.func7, Try.ntmps7
  go_wp2_with fail
  refine (l6In_is _ _ _ false _ HR.out).mono ?_
  rintro e w1 ⟨rfl, hb1⟩
  go_wp2
  go_ret2
  exact ⟨rfl, hb1⟩

set_option maxRecDepth 100000 in
set_option maxHeartbeats 4000000 in
theorem sNestOf_few (a : Option Addr) (cap n : Nat) (zs : List ByteArray) (o : Option ByteArray) (w : World) (hz : zs.length = n) (hn1 : 1 ≤ n) (hn8 : n ≤ 8) (hs : StrsAt w a zs) (ho : nestN zs n = o) :
    Calls Try.prog 7 #[.slice a n cap] w fun e w' => e = .returned (.tuple #[.string (o.getD { data := #[] }), .bool o.isSome]) ∧ Below w.heap.size w w' := by
  have hr : inR 1 8 (n : Int) = true := by unfold inR; rw [decide_eq_true (by omega), decide_eq_true (by omega)]; rfl
  obtain ⟨x, rfl, hb, hc⟩ := hs.cells (by omega)
  have hsm := hs.small
  have h0 : 0 < zs.length := by omega
  have HR := Lib.hid hr
  have HZ := Lib.hid hz
  have HC := Lib.hid hc
  have HS := Lib.hid hsm
  have HO := Lib.hid ho
  obtain ⟨z, hz0⟩ : ∃ z, zs[0] = z := ⟨_, rfl⟩
  have hc0 := hc 0 h0
  rw [hz0, show x.add 0 = x by unfold Addr.add; simp] at hc0
  have hgd : zs.getD 0 { data := #[] } = z := by rw [List.getD_eq_getElem?_getD, List.getElem?_eq_getElem h0, ← hz0]; rfl
  have hzm : z.size ≤ maxLen := by rw [← hz0]; exact hsm _ (List.getElem_mem h0)
  have HGd := Lib.hid hgd
  clear hr hz hc hsm ho hz0 hs hgd
  go_enter Try.func7, Try.ntmps7
  go_wp2_with fail
  refine (l6In_is _ _ _ true _ HR.out).mono ?_
  rintro e w1 ⟨rfl, hb1⟩
  have hc1 := (hb1.cell (p := x) hb).trans hc0
  have HB1 := Lib.hid hb1
  clear hc0 hb1
  cases hw : wordB z.data.toList with
  | false =>
    have HN : Hid (nestN zs 1 = none) := Lib.hid (by rw [nestN, HGd.out, hw]; rfl)
    have hon : o = none := by rw [← HO.out]; exact nest_none HN.out hn1
    subst hon
    have HW := Lib.hid hw
    clear hw
    go_wp2_with fail
    refine (sWordIn_is z false _ hzm HW.out).mono ?_
    rintro e w2 ⟨rfl, hb2⟩
    have HB2 := Lib.hid (HB1.out.trans (hb2.mono HB1.out.size))
    clear hb2
    go_wp2
    go_ret2
    exact ⟨rfl, HB2.out⟩
  | true =>
    have HN : Hid (nestN zs 1 = some z) := Lib.hid (by rw [nestN, HGd.out, hw]; rfl)
    have HW := Lib.hid hw
    have hzs : z.size ≤ 60 := by have := ((wordB_iff _).1 hw).1; simpa using this
    clear hw
    go_wp2_with fail
    refine (sWordIn_is z true _ hzm HW.out).mono ?_
    rintro e w2 ⟨rfl, hb2⟩
    have hb1s := HB1.out.size
    have hc2 := (hb2.cell (p := x) (Nat.lt_of_lt_of_le hb hb1s)).trans hc1
    have HB2 := Lib.hid (HB1.out.trans (hb2.mono HB1.out.size))
    clear hb2 hc1
    go_wp2
    clear hc2
    go_loopw [4, 5] (fun t i wr => ∃ (k : Nat) (y : ByteArray), k + 1 ≤ n ∧ i = .int .i64 ((k + 1 : Nat) : Int) ∧ t = .string y ∧ y.size ≤ 60 ∧ Hid (nestN zs (k + 1) = some y) ∧ Below w.heap.size w wr) (fun _ i _ => n - (intOf i).toNat)
    case atStart => exact ⟨0, z, hn1, rfl, rfl, hzs, HN, HB2.out⟩
    case round =>
      obtain ⟨k, y, hk, rfl, rfl, hys, HY, hB⟩ := hrel
      by_cases hlt : k + 1 < n
      · have hkz : k + 1 < zs.length := by rw [HZ.out]; exact hlt
        obtain ⟨u, hu⟩ : ∃ u, zs[k + 1] = u := ⟨_, rfl⟩
        have hcu := (hB.cell (p := x.add (k + 1)) (by rw [addr_add_block]; exact hb)).trans (HC.out (k + 1) hkz)
        have hum : u.size ≤ maxLen := by rw [← hu]; exact HS.out _ (List.getElem_mem hkz)
        have hgu : zs.getD (k + 1) { data := #[] } = u := by rw [List.getD_eq_getElem?_getD, List.getElem?_eq_getElem hkz, ← hu]; rfl
        rw [hu, show x.add (k + 1) = ⟨x.block, x.off + (k + 1), none⟩ by unfold Addr.add; simp] at hcu
        obtain ⟨q, hq⟩ : ∃ q, commO y u = q := ⟨_, rfl⟩
        have hnx : nestN zs (k + 1 + 1) = q := by rw [nestN, HY.out, hgu]; exact hq
        have HNx := Lib.hid hnx
        have HQ := Lib.hid hq
        have hlt1 : (k : Int) + 1 < n := by omega
        have hge1 : 0 ≤ (k : Int) + 1 := by omega
        have hym : y.size ≤ maxLen := by unfold maxLen; omega
        clear hu hgu hq hnx
        go_wp2_with fail
        refine (sComm_any y u q _ hym hum HQ.out).mono ?_
        rintro e w3 ⟨rfl, hb3⟩
        have hB3 : Below w.heap.size w w3 := hB.trans (hb3.mono hB.size)
        clear hcu
        cases q with
        | none =>
          have hon : o = none := by rw [← HO.out]; exact nest_none HNx.out (by omega)
          subst hon
          go_wp2
          go_ret2
          exact ⟨rfl, hB3⟩
        | some t =>
          have hts := commO_size HQ.out
          go_wp2
          go_roundw
          case rel => exact ⟨k + 1, t, by omega, by go_num, rfl, hts, HNx, hB3⟩
          case measure => simp [intOf]; omega
      · obtain rfl : n = k + 1 := by omega
        have hos : o = some y := by rw [← HO.out]; exact HY.out
        subst hos
        have hlt1 : ¬ (((k + 1 : Nat) : Int) < ((k + 1 : Nat) : Int)) := by omega
        go_wp2
        go_ret2
        exact ⟨rfl, hB⟩

theorem sNestOf_any (a : Option Addr) (cap n : Nat) (zs : List ByteArray) (o : Option ByteArray) (w : World) (hz : zs.length = n) (hs : StrsAt w a zs) (ho : nestO zs = o) :
    Calls Try.prog 7 #[.slice a n cap] w fun e w' => e = .returned (.tuple #[.string (o.getD { data := #[] }), .bool o.isSome]) ∧ Below w.heap.size w w' := by
  unfold nestO at ho
  rw [hz] at ho
  by_cases h : 1 ≤ n ∧ n ≤ 8
  · rw [if_pos h] at ho
    exact sNestOf_few a cap n zs o w hz h.1 h.2 hs ho
  · rw [if_neg h] at ho
    subst ho
    exact sNestOf_many a cap n w h

end Go.Proofs.Ytdhmicpoigoleab

/- The contract of the program's 'NestOf'. -/

namespace Go.Proofs.Ytdhmicpoigoleab
open Go.RowKit

theorem iComm_any (x y : ByteArray) (o : Option ByteArray) (w : World) (hx : x.size ≤ maxLen) (hy : y.size ≤ maxLen) (h : commO x y = o) :
    Calls Try.prog 17 #[.string x, .string y] w fun e w' => e = .returned (.tuple #[.string (o.getD { data := #[] }), .bool o.isSome]) ∧ Below w.heap.size w w' := by
  subst h
  by_cases hw : wordB x.data.toList = true ∧ wordB y.data.toList = true
  · have hc := iComm_yes x y w hw.1 hw.2
    by_cases hl : (redL [] (commL x.data.toList y.data.toList)).length ≤ 60
    · have e : commO x y = some (bstr (redL [] (commL x.data.toList y.data.toList))) := if_pos ⟨hw.1, hw.2, hl⟩
      rw [e]
      rw [toldV_yes hl] at hc
      exact hc
    · have e : commO x y = none := if_neg fun h => hl h.2.2
      rw [e]
      rw [toldV_no hl] at hc
      exact hc
  · have e : commO x y = none := if_neg fun h => hw ⟨h.1, h.2.1⟩
    rw [e]
    exact iComm_no x y w hx hy hw
theorem iWordIn_is (s : ByteArray) (b : Bool) (w : World) (hs : s.size ≤ maxLen) (h : wordB s.data.toList = b) :
    Calls Try.prog 12 #[.string s] w fun e w' => e = .returned (.bool b) ∧ Below w.heap.size w w' := by
  rw [← h]; exact iWordIn_any s w hs

set_option maxRecDepth 100000 in
set_option maxHeartbeats 2000000 in
theorem iNestOf_many (a : Option Addr) (cap n : Nat) (w : World) (hb : ¬ (1 ≤ n ∧ n ≤ 8)) :
    Calls Try.prog 6 #[.slice a n cap] w fun e w' => e = .returned (.tuple #[.string { data := #[] }, .bool false]) ∧ Below w.heap.size w w' := by
  by_cases h0 : n = 0
  · subst h0
    go_enter Try.func6, Try.ntmps6
    go_wp2
    go_ret2
    exact ⟨rfl, Below.refl _ _⟩
  · have hi0 : ¬ (n : Int) = 0 := by omega
    have hbe : ((n : Int) == 0) = false := by simpa using h0
    have h8 : (8 : Int) < n := by omega
    have hd8 : decide ((8 : Int) < n) = true := decide_eq_true h8
    go_enter Try.func6, Try.ntmps6
    go_wp2
    go_ret2
    exact ⟨rfl, Below.refl _ _⟩

set_option maxRecDepth 100000 in
set_option maxHeartbeats 4000000 in
theorem iNestOf_few (a : Option Addr) (cap n : Nat) (zs : List ByteArray) (o : Option ByteArray) (w : World) (hz : zs.length = n) (hcap : n ≤ cap) (hn1 : 1 ≤ n) (hn8 : n ≤ 8) (hs : StrsAt w a zs) (ho : nestN zs n = o) :
    Calls Try.prog 6 #[.slice a n cap] w fun e w' => e = .returned (.tuple #[.string (o.getD { data := #[] }), .bool o.isSome]) ∧ Below w.heap.size w w' := by
  have hi0 : ¬ (n : Int) = 0 := by omega
  have hbe : ((n : Int) == 0) = false := by simpa using (by omega : ¬ n = 0)
  have h8 : ¬ (8 : Int) < n := by omega
  have hd8 : decide ((8 : Int) < n) = false := decide_eq_false h8
  have hpos : (0 : Int) < n := by omega
  have hone : (1 : Int) ≤ n := by omega
  obtain ⟨x, rfl, hb, hc⟩ := hs.cells (by omega)
  have hsm := hs.small
  have h0 : 0 < zs.length := by omega
  have HZ := Lib.hid hz
  have HC := Lib.hid hc
  have HS := Lib.hid hsm
  have HO := Lib.hid ho
  obtain ⟨z, hz0⟩ : ∃ z, zs[0] = z := ⟨_, rfl⟩
  have hc0 := hc 0 h0
  rw [hz0, show x.add 0 = x by unfold Addr.add; simp] at hc0
  have hgd : zs.getD 0 { data := #[] } = z := by rw [List.getD_eq_getElem?_getD, List.getElem?_eq_getElem h0, ← hz0]; rfl
  have hzm : z.size ≤ maxLen := by rw [← hz0]; exact hsm _ (List.getElem_mem h0)
  have HGd := Lib.hid hgd
  clear hz hc hsm ho hz0 hs hgd
  cases hw : wordB z.data.toList with
  | false =>
    have HN : Hid (nestN zs 1 = none) := Lib.hid (by rw [nestN, HGd.out, hw]; rfl)
    have hon : o = none := by rw [← HO.out]; exact nest_none HN.out hn1
    subst hon
    have HW := Lib.hid hw
    clear hw
    go_enter Try.func6, Try.ntmps6
    go_wp2_with fail
    refine (iWordIn_is z false _ hzm HW.out).mono ?_
    rintro e w2 ⟨rfl, hb2⟩
    clear hc0
    go_wp2
    go_ret2
    exact ⟨rfl, hb2⟩
  | true =>
    have HN : Hid (nestN zs 1 = some z) := Lib.hid (by rw [nestN, HGd.out, hw]; rfl)
    have HW := Lib.hid hw
    have hzs : z.size ≤ 60 := by have := ((wordB_iff _).1 hw).1; simpa using this
    clear hw
    by_cases hc1 : cap = 1
    · subst hc1
      obtain rfl : n = 1 := by omega
      have hos : o = some z := by rw [← HO.out]; exact HN.out
      subst hos
      go_enter Try.func6, Try.ntmps6
      go_wp2_with fail
      refine (iWordIn_is z true _ hzm HW.out).mono ?_
      rintro e w2 ⟨rfl, hb2⟩
      have hc2 := (hb2.cell (p := x) hb).trans hc0
      have HB2 := Lib.hid hb2
      clear hb2 hc0
      go_wp2
      clear hc2
      go_loopw [4, 30] (fun t i wr => t = .string z ∧ i = .int .i64 0 ∧ Below w.heap.size w wr) (fun _ _ _ => 0)
      case atStart => exact ⟨rfl, rfl, HB2.out⟩
      case round =>
        obtain ⟨rfl, rfl, hB⟩ := hrel
        go_wp2
        go_ret2
        exact ⟨rfl, hB⟩
    go_enter Try.func6, Try.ntmps6
    go_wp2_with fail
    refine (iWordIn_is z true _ hzm HW.out).mono ?_
    rintro e w2 ⟨rfl, hb2⟩
    have hc2 := (hb2.cell (p := x) hb).trans hc0
    have HB2 := Lib.hid hb2
    clear hb2 hc0
    go_wp2
    clear hc2
    go_loopw [4, 30] (fun t i wr => ∃ (k : Nat) (y : ByteArray), k + 1 ≤ n ∧ i = .int .i64 (k : Int) ∧ t = .string y ∧ y.size ≤ 60 ∧ Hid (nestN zs (k + 1) = some y) ∧ Below w.heap.size w wr) (fun _ i _ => n - (intOf i).toNat)
    case atStart => exact ⟨0, z, hn1, rfl, rfl, hzs, HN, HB2.out⟩
    case round =>
      obtain ⟨k, y, hk, rfl, rfl, hys, HY, hB⟩ := hrel
      by_cases hlt : k + 1 < n
      · have hkz : k + 1 < zs.length := by rw [HZ.out]; exact hlt
        obtain ⟨u, hu⟩ : ∃ u, zs[k + 1] = u := ⟨_, rfl⟩
        have hcu := (hB.cell (p := x.add (k + 1)) (by rw [addr_add_block]; exact hb)).trans (HC.out (k + 1) hkz)
        have hum : u.size ≤ maxLen := by rw [← hu]; exact HS.out _ (List.getElem_mem hkz)
        have hgu : zs.getD (k + 1) { data := #[] } = u := by rw [List.getD_eq_getElem?_getD, List.getElem?_eq_getElem hkz, ← hu]; rfl
        rw [hu, show x.add (k + 1) = ⟨x.block, x.off + 1 + k, none⟩ by unfold Addr.add; simp; omega] at hcu
        obtain ⟨q, hq⟩ : ∃ q, commO y u = q := ⟨_, rfl⟩
        have hnx : nestN zs (k + 1 + 1) = q := by rw [nestN, HY.out, hgu]; exact hq
        have HNx := Lib.hid hnx
        have HQ := Lib.hid hq
        have hlt1 : (k : Int) < (n : Int) - 1 := by omega
        have hlt2 : k < n - 1 := by omega
        have hym : y.size ≤ maxLen := by unfold maxLen; omega
        clear hu hgu hq hnx
        go_wp2_with fail
        refine (iComm_any y u q _ hym hum HQ.out).mono ?_
        rintro e w3 ⟨rfl, hb3⟩
        have hB3 : Below w.heap.size w w3 := hB.trans (hb3.mono hB.size)
        clear hcu
        cases q with
        | none =>
          have hon : o = none := by rw [← HO.out]; exact nest_none HNx.out (by omega)
          subst hon
          go_wp2
          go_ret2
          exact ⟨rfl, hB3⟩
        | some t =>
          have hts := commO_size HQ.out
          go_wp2
          go_roundw
          case rel => exact ⟨k + 1, t, by omega, by go_num, rfl, hts, HNx, hB3⟩
          case measure => simp [intOf]; omega
      · obtain rfl : n = k + 1 := by omega
        have hos : o = some y := by rw [← HO.out]; exact HY.out
        subst hos
        go_wp2
        go_ret2
        exact ⟨rfl, hB⟩

theorem iNestOf_any (a : Option Addr) (cap n : Nat) (zs : List ByteArray) (o : Option ByteArray) (w : World) (hz : zs.length = n) (hcap : n ≤ cap) (hs : StrsAt w a zs) (ho : nestO zs = o) :
    Calls Try.prog 6 #[.slice a n cap] w fun e w' => e = .returned (.tuple #[.string (o.getD { data := #[] }), .bool o.isSome]) ∧ Below w.heap.size w w' := by
  unfold nestO at ho
  rw [hz] at ho
  by_cases h : 1 ≤ n ∧ n ≤ 8
  · rw [if_pos h] at ho
    exact iNestOf_few a cap n zs o w hz hcap h.1 h.2 hs ho
  · rw [if_neg h] at ho
    subst ho
    exact iNestOf_many a cap n w h

end Go.Proofs.Ytdhmicpoigoleab

/- Maps from texts to numbers, read as lists of terms whose texts are all different, in whatever order; looked up, written, ranged over, copied, cleared. -/

namespace Go.Proofs.Ytdhmicpoigoleab
open Go.RowKit Go.Maps Go.ChangeMaps
open Go.WideMaps Go.WideShapes
open Go.WideElems (Fit rd rg rd_val rd_key rg_of)

abbrev SerT : TypeId := 67
abbrev MonT : TypeId := 52
abbrev NumT : TypeId := 3
theorem lawMon : Keyed Try.prog MonT := string_keyed Try.underlying52
theorem undSer : Try.prog.underlying SerT = some (.map MonT NumT) := Try.underlying67
theorem zeroNum (w : World) : (zeroValue NumT).run Try.prog w = .ok (.int .i64 0) w := by kernel_rfl
def lk (s : ByteArray) : Lit := .string s.data.toList
def tmOf (p : Lit × DataW Unit) : Tm := ⟨match p.2 with | .lit (.int _ a) => a | _ => 0, match p.1 with | .string l => bstr l | _ => { data := #[] }⟩
def Shape (p : Lit × DataW Unit) : Prop := ∃ (s : ByteArray) (c : Int), p = (lk s, .lit (.int .i64 c)) ∧ s.size ≤ maxLen ∧ (Lit.int .i64 c).wf = true
theorem tmOf_mk (s : ByteArray) (c : Int) : tmOf (lk s, .lit (.int .i64 c)) = ⟨c, s⟩ := by
  unfold tmOf lk
  simp only [bstr_of]
theorem wf64 {c : Int} (h : (Lit.int .i64 c).wf = true) : -9223372036854775808 ≤ c ∧ c ≤ 9223372036854775807 := by
  simp only [Lit.wf, Bool.and_eq_true, decide_eq_true_eq] at h
  have e1 : IntKind.i64.min = -9223372036854775808 := by decide
  have e2 : IntKind.i64.max = 9223372036854775807 := by decide
  omega
theorem lk_same (a b : ByteArray) : (lk a).sameKey (lk b) = decide (a = b) := by
  unfold lk
  simp only [Lit.sameKey]
  by_cases h : a = b
  · rw [h]; simp
  · have : a.data ≠ b.data := fun e => h (by cases a; cases b; exact congrArg _ e)
    simp [h, this]
theorem lk_inj {a b : ByteArray} (h : lk a = lk b) : a = b := by
  have := lk_same a b
  rw [h, WideAt.sameKey_self (by unfold lk; trivial)] at this
  exact of_decide_eq_true this.symm
theorem key_str {key : Value} {kl : Lit} (h : keyOf Try.prog MonT key = some kl) : ∃ s : ByteArray, key = .string s ∧ kl = lk s ∧ s.size ≤ maxLen := by
  obtain ⟨x, rfl, rfl, hx⟩ := Maps.keyOf_str Try.underlying52 h
  exact ⟨⟨x.toArray⟩, rfl, rfl, by simpa [ByteArray.size] using hx⟩
theorem key_mk {s : ByteArray} (h : s.size ≤ maxLen) : keyOf Try.prog MonT (.string s) = some (lk s) := keyOf_string_mk Try.underlying52 h

abbrev OwnsS (w : World) (b n : Nat) (D : DataW Unit) : Prop := w.ownsMap Try.prog MonT (plainElem Try.prog NumT) b n D
set_option maxRecDepth 100000 in
theorem owns_shape {w : World} {b n : Nat} {es : List (Lit × DataW Unit)} (h : OwnsS w b n (.map es)) : (∀ p ∈ es, Shape p) ∧ es.Pairwise (fun p q => p.1 ≠ q.1) ∧ es.length ≤ n ∧ es.length ≤ maxLen := by
  have hE := h.entries lawMon
  obtain ⟨es', clock, _, F, hs, hD⟩ := h
  injection hD with hD
  obtain ⟨es2, e2, hp, _⟩ := hE
  injection e2 with e2
  subst e2
  refine ⟨fun p hp => ?_, hp, ?_, ?_⟩
  · rw [hD] at hp
    obtain ⟨x, hx, rfl⟩ := List.mem_map.1 (mem_sorted.1 hp)
    obtain ⟨y, hy⟩ := F.reads x hx
    have er := rg_of hy
    rw [er]
    obtain ⟨s, _, hk, hs⟩ := key_str (rd_key hy)
    obtain ⟨z, hz, hzd⟩ := rd_val hy
    obtain ⟨c, _, rfl, hw⟩ := plainElem_int_inv Try.underlying3 hz
    exact ⟨s, c, Prod.ext hk hzd, hs, hw⟩
  · rw [hD, length_sorted]; simpa using hs
  · rw [hD, length_sorted]; simpa using F.size
theorem owns_tight {w : World} {b n : Nat} {es : List (Lit × DataW Unit)} (h : OwnsS w b n (.map es)) : OwnsS w b es.length (.map es) := by
  obtain ⟨es', clock, hb, F, hs, hD⟩ := h
  refine ⟨es', clock, hb, F, ?_, hD⟩
  injection hD with hD
  rw [hD, length_sorted]; simp

/-- Block b is a map with these entries, in whatever order. -/
def MapT (w : World) (b : Nat) (ts : List Tm) : Prop := ∃ es, OwnsS w b ts.length (.map es) ∧ (es.map tmOf).Perm ts
theorem MapT.lt {w : World} {b : Nat} {ts : List Tm} (h : MapT w b ts) : b < w.heap.size := by obtain ⟨es, h, _⟩ := h; exact World.ownsMap.lt h
theorem MapT.perm {w : World} {b : Nat} {ts us : List Tm} (h : MapT w b ts) (hp : ts.Perm us) : MapT w b us := by
  obtain ⟨es, h, hq⟩ := h
  exact ⟨es, hp.length_eq ▸ h, hq.trans hp⟩
theorem MapT.kept {w w' : World} {row : Option Nat} {b : Nat} {ts : List Tm} (h : MapT w b ts) (hg : w.grownBy w' row) (hne : some b ≠ row) : MapT w' b ts := by
  obtain ⟨es, h, hq⟩ := h
  exact ⟨es, World.ownsMap.kept h hg hne, hq⟩
theorem grown_of_below {w w' : World} (h : Below w.heap.size w w') : w.grownBy w' none := ⟨h.os, h.tape, h.output, h.size, fun k hk _ => h.block k hk⟩
theorem MapT.below {w w' : World} {b : Nat} {ts : List Tm} (h : MapT w b ts) (hb : Below w.heap.size w w') : MapT w' b ts := h.kept (grown_of_below hb) (by simp)
def Apart (ts : List Tm) : Prop := ts.Pairwise fun t u => t.s ≠ u.s
theorem apart_es {es : List (Lit × DataW Unit)} (hs : ∀ p ∈ es, Shape p) (hp : es.Pairwise (fun p q => p.1 ≠ q.1)) : Apart (es.map tmOf) := by
  unfold Apart
  rw [List.pairwise_map]
  refine hp.imp_of_mem fun {p q} hpm hqm hne => ?_
  obtain ⟨s, c, rfl, _⟩ := hs p hpm
  obtain ⟨s', c', rfl, _⟩ := hs q hqm
  rw [tmOf_mk, tmOf_mk]
  exact fun e => hne (by show lk s = lk s'; rw [show s = s' from e])
theorem Apart.perm {ts us : List Tm} (h : Apart ts) (hp : ts.Perm us) : Apart us := (hp.pairwise_iff (fun {_ _} hne => Ne.symm hne)).1 h
theorem MapT.apart {w : World} {b : Nat} {ts : List Tm} (h : MapT w b ts) : Apart ts := by
  obtain ⟨es, h, hq⟩ := h
  obtain ⟨hs, hp, _⟩ := owns_shape h
  exact (apart_es hs hp).perm hq
theorem MapT.small {w : World} {b : Nat} {ts : List Tm} (h : MapT w b ts) : ts.length ≤ maxLen ∧ ∀ t ∈ ts, t.s.size ≤ maxLen ∧ -9223372036854775808 ≤ t.c ∧ t.c ≤ 9223372036854775807 := by
  obtain ⟨es, h, hq⟩ := h
  obtain ⟨hs, hp, _, hl⟩ := owns_shape h
  refine ⟨by rw [← hq.length_eq]; simpa using hl, fun t ht => ?_⟩
  obtain ⟨p, hp, rfl⟩ := List.mem_map.1 (hq.mem_iff.2 ht)
  obtain ⟨s, c, rfl, h1, h2⟩ := hs p hp
  rw [tmOf_mk]
  exact ⟨h1, wf64 h2⟩
theorem apart_unique {ts : List Tm} (h : Apart ts) {t : Tm} (ht : t ∈ ts) : coefAt t.s ts = t.c := by
  induction ts with
  | nil => cases ht
  | cons u r ih =>
    obtain ⟨h1, h2⟩ := List.pairwise_cons.1 h
    unfold coefAt
    rcases List.mem_cons.1 ht with rfl | ht
    · rw [if_pos rfl, coefAt_none (fun v hv => Ne.symm (h1 v hv))]; omega
    · rw [if_neg (h1 t ht), ih h2 ht]; omega
theorem atKey_coef (s : ByteArray) : ∀ {es : List (Lit × DataW Unit)}, (∀ p ∈ es, Shape p) → es.Pairwise (fun p q => p.1 ≠ q.1) → (DataW.map es).atKey (lk s) (.lit (.int .i64 0)) = .lit (.int .i64 (coefAt s (es.map tmOf)))
  | [], _, _ => rfl
  | p :: r, hs, hp => by
    obtain ⟨s', c, rfl, _⟩ := hs p (by simp)
    obtain ⟨h1, h2⟩ := List.pairwise_cons.1 hp
    have ih := atKey_coef s (fun q hq => hs q (List.mem_cons_of_mem _ hq)) h2
    unfold DataW.atKey at ih ⊢
    rw [List.map_cons, tmOf_mk]
    unfold coefAt
    simp only [List.find?_cons, lk_same]
    by_cases he : s' = s
    · subst he
      simp only [decide_true, if_true]
      rw [coefAt_none (fun t ht => ?_), Int.add_zero]
      obtain ⟨q, hq, rfl⟩ := List.mem_map.1 ht
      have hne := h1 q hq
      obtain ⟨s2, c2, rfl, _⟩ := hs q (List.mem_cons_of_mem _ hq)
      rw [tmOf_mk]
      exact fun e => hne (by show lk s' = lk s2; rw [show s2 = s' from e])
    · simp only [he, decide_false, if_false, Int.zero_add]
      exact ih
theorem MapT.look {w : World} {b : Nat} {ts : List Tm} (h : MapT w b ts) : ∃ n D, OwnsS w b n D ∧ ∀ s, D.atKey (lk s) (.lit (.int .i64 0)) = .lit (.int .i64 (coefAt s ts)) := by
  obtain ⟨es, h, hq⟩ := h
  obtain ⟨hs, hp, _⟩ := owns_shape h
  exact ⟨_, _, h, fun s => by rw [atKey_coef s hs hp, coefAt_perm s hq]⟩
def putT (ts : List Tm) (s : ByteArray) (v : Int) : List Tm := ⟨v, s⟩ :: ts.filter fun t => !decide (t.s = s)
theorem filter_tm (s : ByteArray) : ∀ {es : List (Lit × DataW Unit)}, (∀ p ∈ es, Shape p) → (es.filter (notKey (lk s))).map tmOf = (es.map tmOf).filter fun t => !decide (t.s = s)
  | [], _ => rfl
  | p :: r, hs => by
    obtain ⟨s', c, rfl, _⟩ := hs p (by simp)
    have ih := filter_tm s (fun q hq => hs q (List.mem_cons_of_mem _ hq))
    rw [List.map_cons, tmOf_mk, List.filter_cons, List.filter_cons]
    have e : notKey (lk s) (lk s', (DataW.lit (.int .i64 c) : DataW Unit)) = !decide (s' = s) := by unfold notKey; rw [lk_same]
    rw [e]
    by_cases h : s' = s
    · simp only [h, decide_true, Bool.not_true, Bool.false_eq_true, if_false]; exact ih
    · simp only [h, decide_false, Bool.not_false, if_true, List.map_cons, tmOf_mk]; rw [ih]
theorem put_perm {es : List (Lit × DataW Unit)} {ts : List Tm} (hs : ∀ p ∈ es, Shape p) (hq : (es.map tmOf).Perm ts) (s : ByteArray) (v : Int) : ∃ es', (DataW.map es).put (lk s) (.lit (.int .i64 v)) = .map es' ∧ (es'.map tmOf).Perm (putT ts s v) := by
  refine ⟨_, DataW.put_eq _ _ _, ?_⟩
  unfold putKey
  refine ((insert_perm _ _).map tmOf).trans ?_
  rw [List.map_cons, tmOf_mk, filter_tm s hs]
  exact (hq.filter _).cons _
/-- A store is possible, and what it makes. -/
theorem MapT.store {w : World} {b : Nat} {ts : List Tm} (h : MapT w b ts) : ∃ D, OwnsS w b ts.length D ∧ ∀ s v w', OwnsS w' b (ts.length + 1) (D.put (lk s) (.lit (.int .i64 v))) → MapT w' b (putT ts s v) := by
  obtain ⟨es, h, hq⟩ := h
  obtain ⟨hs, hp, _⟩ := owns_shape h
  refine ⟨_, h, fun s v w' h' => ?_⟩
  obtain ⟨es', e, hp'⟩ := put_perm hs hq s v
  rw [e] at h'
  refine ⟨es', ?_, hp'⟩
  have := owns_tight h'
  rwa [show es'.length = (putT ts s v).length by rw [← hp'.length_eq, List.length_map]] at this
theorem coefAt_put (ts : List Tm) (s : ByteArray) (v : Int) (k : ByteArray) : coefAt k (putT ts s v) = if k = s then v else coefAt k ts := by
  unfold putT
  have hf : ∀ us : List Tm, coefAt k (us.filter fun t => !decide (t.s = s)) = if k = s then 0 else coefAt k us := by
    intro us
    induction us with
    | nil => simp [coefAt]
    | cons u r ih =>
      rw [List.filter_cons]
      by_cases hu : u.s = s
      · simp only [hu, decide_true, Bool.not_true, Bool.false_eq_true, if_false]
        rw [ih]
        by_cases hk : k = s
        · simp [hk]
        · simp only [hk, if_false]
          unfold coefAt
          rw [hu, if_neg (Ne.symm hk), Int.zero_add]
          cases r <;> rfl
      · simp only [hu, decide_false, Bool.not_false, if_true]
        have ec : ∀ x : List Tm, coefAt k (u :: x) = (if u.s = k then u.c else 0) + coefAt k x := fun x => rfl
        rw [ec, ec, ih]
        by_cases hk : k = s
        · rw [hk]; simp [hu]
        · simp [hk]
  have ec : ∀ (u : Tm) (x : List Tm), coefAt k (u :: x) = (if u.s = k then u.c else 0) + coefAt k x := fun _ _ => rfl
  rw [ec, hf]
  by_cases hk : k = s
  · simp [hk]
  · simp [hk, Ne.symm hk]
theorem mem_put {ts : List Tm} {s : ByteArray} {v : Int} {t : Tm} (h : t ∈ putT ts s v) : t = ⟨v, s⟩ ∨ t ∈ ts := by
  unfold putT at h
  rcases List.mem_cons.1 h with h | h
  · exact .inl h
  · exact .inr (List.mem_filter.1 h).1
theorem put_len (ts : List Tm) (s : ByteArray) (v : Int) : (putT ts s v).length ≤ ts.length + 1 := by
  unfold putT
  have := List.length_filter_le (fun t : Tm => !decide (t.s = s)) ts
  simp only [List.length_cons]; omega
theorem mapT_made (w : World) : MapT (w.alloc (.map #[] 0)) w.heap.size [] := ⟨[], World.ownsMap_made w _ _ _, .refl _⟩

/-! ### A range over a map under way -/
def RangeT (w : World) (b r : Nat) (ts done : List Tm) (cnt : Nat) : Prop :=
  ∃ es left, w.ranges Try.prog MonT (plainElem (H := Unit) Try.prog NumT) b r ts.length (.map es) left cnt ∧ (es.map tmOf).Perm ts ∧ done.Perm ((es.filter fun p => !left p.1).map tmOf)
theorem RangeT.map {w : World} {b r : Nat} {ts done : List Tm} {cnt : Nat} (h : RangeT w b r ts done cnt) : MapT w b ts := by
  obtain ⟨es, left, h, hq, _⟩ := h
  exact ⟨es, World.ranges.owns h, hq⟩
theorem RangeT.kept {w w' : World} {row : Option Nat} {b r : Nat} {ts done : List Tm} {cnt : Nat} (h : RangeT w b r ts done cnt) (hg : w.grownBy w' row) (hb : some b ≠ row) (hr : some r ≠ row) : RangeT w' b r ts done cnt := by
  obtain ⟨es, left, h, hq⟩ := h
  exact ⟨es, left, World.ranges.kept h hg hb hr, hq⟩
theorem RangeT.ne {w : World} {b r : Nat} {ts done : List Tm} {cnt : Nat} (h : RangeT w b r ts done cnt) : r ≠ b := by obtain ⟨es, left, h, _⟩ := h; exact World.ranges.ne h
theorem RangeT.lt {w : World} {b r : Nat} {ts done : List Tm} {cnt : Nat} (h : RangeT w b r ts done cnt) : r < w.heap.size := by obtain ⟨es, left, h, _⟩ := h; exact World.ranges.lt h
theorem RangeT.cnt {w : World} {b r : Nat} {ts done : List Tm} {cnt : Nat} (h : RangeT w b r ts done cnt) : w.rangeLeft b r = cnt := by obtain ⟨es, left, h, _⟩ := h; exact World.ranges.left_eq h
theorem RangeT.donelen {w : World} {b r : Nat} {ts done : List Tm} {cnt : Nat} (h : RangeT w b r ts done cnt) : done.length ≤ ts.length := by
  obtain ⟨es, left, _, hq, hd⟩ := h
  rw [hd.length_eq, List.length_map, ← hq.length_eq, List.length_map]
  exact List.length_filter_le _ _
theorem RangeT.sub {w : World} {b r : Nat} {ts done : List Tm} {cnt : Nat} (h : RangeT w b r ts done cnt) : ∀ t ∈ done, t ∈ ts := by
  obtain ⟨es, left, _, hq, hd⟩ := h
  intro t ht
  obtain ⟨p, hp, rfl⟩ := List.mem_map.1 (hd.mem_iff.1 ht)
  exact hq.mem_iff.1 (List.mem_map.2 ⟨p, (List.mem_filter.1 hp).1, rfl⟩)
theorem shape_key {p : Lit × DataW Unit} (h : Shape p) : WideAt.IsKeyLit p.1 := by obtain ⟨s, c, rfl, _⟩ := h; unfold lk; trivial
theorem filter_none {α : Type} {f : α → Bool} : ∀ {l : List α}, (∀ x ∈ l, f x = false) → l.filter f = []
  | [], _ => rfl
  | x :: r, h => by rw [List.filter_cons, h x (by simp)]; simp only [Bool.false_eq_true, if_false]; exact filter_none fun y hy => h y (List.mem_cons_of_mem _ hy)
theorem filter_every {α : Type} {f : α → Bool} : ∀ {l : List α}, (∀ x ∈ l, f x = true) → l.filter f = l
  | [], _ => rfl
  | x :: r, h => by rw [List.filter_cons, h x (by simp)]; simp only [if_true]; rw [filter_every fun y hy => h y (List.mem_cons_of_mem _ hy)]
theorem strike_perm {left : Lit → Bool} {p : Lit × DataW Unit} (hl : left p.1 = true) (hk : WideAt.IsKeyLit p.1) : ∀ {es : List (Lit × DataW Unit)}, es.Pairwise (fun p q => p.1 ≠ q.1) → p ∈ es →
    (es.filter fun q => !(left q.1 && !q.1.sameKey p.1)).Perm (es.filter (fun q => !left q.1) ++ [p])
  | [], _, h => by cases h
  | q :: r, hp, h => by
    obtain ⟨h1, h2⟩ := List.pairwise_cons.1 hp
    rw [List.filter_cons, List.filter_cons]
    rcases List.mem_cons.1 h with rfl | h
    · rw [WideAt.sameKey_self hk, hl]
      simp only [Bool.not_true, Bool.and_false, Bool.not_false, if_true, Bool.false_eq_true, if_false]
      have e : (r.filter fun q => !(left q.1 && !q.1.sameKey p.1)) = r.filter fun q => !left q.1 := by
        refine List.filter_congr fun q hq => ?_
        have : q.1.sameKey p.1 = false := by
          cases hs : q.1.sameKey p.1
          · rfl
          · exact absurd (WideAt.sameKey_eq hs).symm (h1 q hq)
        rw [this]; simp
      rw [e]
      exact (List.perm_append_comm (l₁ := [p])).trans (.refl _)
    · have : q.1.sameKey p.1 = false := by
        cases hs : q.1.sameKey p.1
        · rfl
        · exact absurd (WideAt.sameKey_eq hs) (h1 p h)
      rw [this]
      have ih := strike_perm hl hk h2 h
      simp only [Bool.not_false, Bool.and_true]
      cases left q.1
      · simp only [Bool.not_false, if_true]; exact ih.cons q
      · simp only [Bool.not_true, Bool.false_eq_true, if_false]; exact ih

section
variable {ops : Array Oper} {rest : List Oper} {o : Oper} {a : Act} {Q : Exit → Act → World → Prop}
theorem wpList_range_map (w : World) (hg : o.guard = none) (m : Operand) (hop : o.op = Op.range SerT m) (b : Nat) (ts : List Tm) (hm : a.eval m = .map (some b)) (h : MapT w b ts)
    (hK : ∀ w', RangeT w' b w.heap.size ts [] ts.length → w.grownBy w' none → w'.heap.size = w.heap.size + 1 → wpList Try.prog ops Q rest (a.put o.dst (.pointer (some ⟨w.heap.size, 0, none⟩))) w') :
    wpList Try.prog ops Q (o :: rest) a w := by
  obtain ⟨es, h, hq⟩ := h
  obtain ⟨hs, hp, _⟩ := owns_shape h
  refine wpList_range_own w hg m SerT hop MonT NumT lawMon undSer (plainElem Try.prog NumT) b ts.length (.map es) hm h fun w' hr hgr hsz => hK w' ⟨es, Maps.has (DataW.map es), ?_, hq, ?_⟩ hgr hsz
  · have e : Maps.size (DataW.map es) = ts.length := by rw [Maps.size_eq, ← hq.length_eq, List.length_map]
    rw [e] at hr; exact hr
  · rw [filter_none (fun p hp => ?_)]
    · exact .refl _
    · rw [Maps.has_eq, List.any_eq_true.2 ⟨p, hp, WideAt.sameKey_self (shape_key (hs p hp))⟩]; rfl
set_option maxRecDepth 100000 in
theorem wpList_next_map (w : World) (hg : o.guard = none) (it : Operand) (hop : o.op = Op.next it false) (b r : Nat) (ts done : List Tm) (cnt : Nat) (hit : a.eval it = .pointer (some ⟨r, 0, none⟩)) (h : RangeT w b r ts done cnt)
    (hDone : done.Perm ts → wpList Try.prog ops Q rest (a.put o.dst (.tuple #[.bool false])) w)
    (hMore : ∀ (c : Int) (s : ByteArray) (w' : World) (cnt' : Nat), (⟨c, s⟩ : Tm) ∈ ts → RangeT w' b r ts (done ++ [⟨c, s⟩]) cnt' → cnt' < cnt → w.grownBy w' (some r) → w'.heap.size = w.heap.size →
      (Instr.entry (.pointer (some ⟨r, 0, none⟩))).run Try.prog w' = .ok (.tuple #[.string s, .int .i64 c]) w' → wpList Try.prog ops Q rest (a.put o.dst (.tuple #[.bool true, .string s, .int .i64 c])) w') :
    wpList Try.prog ops Q (o :: rest) a w := by
  obtain ⟨es, left, h, hq, hd⟩ := h
  have hown := World.ranges.owns h
  obtain ⟨hs, hp, _⟩ := owns_shape hown
  have hex : ∀ kl, left kl = true → ∃ p ∈ es, p.1 = kl := by
    obtain ⟨es', clock, since, seen, c0, _, _, _, hD, _, _, _, _, hl2, _⟩ := id h
    injection hD with hD
    intro kl hkl
    obtain ⟨x, hx, e⟩ := hl2 kl hkl
    exact ⟨_, by rw [hD]; exact mem_sorted.2 (List.mem_map.2 ⟨x, hx, rfl⟩), e⟩
  refine wpList_next_ranges w hg it hop MonT lawMon (plainElem Try.prog NumT) Value.string (Value.int .i64) (fun key kl hk => by obtain ⟨s, rfl, _⟩ := key_str hk; exact ⟨s, rfl⟩)
    (fun v y hv => by obtain ⟨c, rfl, _⟩ := plainElem_int_inv Try.underlying3 hv; exact ⟨c, rfl⟩) b r ts.length (.map es) left cnt hit h (fun _ hl => hDone ?_) ?_
  · refine hd.trans ?_
    rw [filter_every (fun p _ => by rw [hl]; rfl)]
    exact hq
  · intro s c kl y w' cnt' hkey hlk hv hat hrg hlt hgr hsz hen
    obtain ⟨s', e', rfl, hsz'⟩ := key_str hkey
    injection e' with e'
    subst e'
    obtain ⟨c', e', rfl, hw⟩ := plainElem_int_inv Try.underlying3 hv
    injection e' with _ e'
    subst e'
    obtain ⟨p, hpm, hpk⟩ := hex _ hlk
    obtain ⟨s2, c2, rfl, _, _⟩ := hs p hpm
    obtain rfl := lk_inj hpk
    have hmem : (⟨c2, s2⟩ : Tm) ∈ es.map tmOf := List.mem_map.2 ⟨_, hpm, tmOf_mk s2 c2⟩
    have hc2 : c2 = c := by
      have h1 := atKey_coef s2 hs hp
      rw [hat] at h1
      injection h1 with h1
      injection h1 with _ h1
      have h2 := apart_unique (apart_es hs hp) hmem
      rw [h1]; exact h2.symm
    subst hc2
    refine hMore c2 s2 w' cnt' (hq.mem_iff.1 hmem) ⟨es, _, hrg, hq, ?_⟩ hlt hgr hsz hen
    have hst := (strike_perm (left := left) hlk (shape_key (hs _ hpm)) hp hpm).map tmOf
    rw [List.map_append, List.map_cons, List.map_nil, tmOf_mk] at hst
    exact ((hd.append_right _).trans hst.symm)
theorem wpList_lookup_map (w : World) (hg : o.guard = none) (m x : Operand) (hop : o.op = Op.lookup SerT m x false) (b : Nat) (ts : List Tm) (hm : a.eval m = .map (some b)) (h : MapT w b ts) (s : ByteArray) (hx : a.eval x = .string s) (hs : s.size ≤ maxLen)
    (hK : wpList Try.prog ops Q rest (a.put o.dst (.int .i64 (coefAt s ts))) w) : wpList Try.prog ops Q (o :: rest) a w := by
  obtain ⟨n, D, hown, hat⟩ := h.look
  refine wpList_lookup_own_int w hg m x SerT hop MonT NumT .i64 lawMon undSer Try.underlying3 (zeroNum w) b n D hm hown (.string s) (lk s) hx (key_mk hs) fun c hc _ => ?_
  rw [hat] at hc
  injection hc with hc
  injection hc with _ hc
  rw [← hc]; exact hK
theorem wpList_update_map (w : World) (hg : o.guard = none) (m x v : Operand) (hop : o.op = Op.mapUpdate SerT m x v) (b : Nat) (ts : List Tm) (hm : a.eval m = .map (some b)) (h : MapT w b ts) (hn : ts.length < maxLen) (s : ByteArray) (c : Int)
    (hx : a.eval x = .string s) (hv : a.eval v = .int .i64 c) (hs : s.size ≤ maxLen) (hc : (Lit.int .i64 c).wf = true)
    (hK : ∀ w', MapT w' b (putT ts s c) → w.grownBy w' (some b) → wpList Try.prog ops Q rest (a.put o.dst undef) w') : wpList Try.prog ops Q (o :: rest) a w := by
  obtain ⟨D, hown, hput⟩ := h.store
  exact wpList_mapUpdate_own w hg m x v SerT hop MonT NumT lawMon undSer (plainElem Try.prog NumT) b ts.length D hm hown hn (.string s) (.int .i64 c) (lk s) hx hv (key_mk hs) _ [] (plainElem_int Try.underlying3 hc) fun w' h' hgr => hK w' (hput s c w' h') hgr
end

end Go.Proofs.Ytdhmicpoigoleab

/- The contracts of the model's 'SeriesCoef' and 'SeriesDepth'. -/

namespace Go.Proofs.Ytdhmicpoigoleab
open Go.RowKit Go.Shelf

theorem coefAt_get : ∀ {ts : List Tm} {t : Tm}, Canon ts → t ∈ ts → coefAt t.s ts = t.c
  | x :: r, t, h, ht => by
    obtain ⟨h1, h2⟩ := List.pairwise_cons.1 h.1
    rw [coefAt]
    rcases List.mem_cons.1 ht with rfl | ht
    · rw [if_pos rfl, coefAt_none fun u hu => (lessW_ne (h1 u hu)).symm]; omega
    · rw [if_neg (lessW_ne (h1 t ht)), coefAt_get ⟨h2, fun u hu => h.2 u (by simp [hu])⟩ ht]; omega
/-- The degree of the first monomial that is not 1. -/
def depthT : List Tm → Nat
  | [] => 0
  | t :: r => if t.s.size = 0 then depthT r else t.s.size
theorem depthT_skip : ∀ (ts : List Tm) (k : Nat), (∀ j (h : j < ts.length), j < k → ts[j].s.size = 0) → depthT ts = depthT (ts.drop k)
  | ts, 0, _ => by simp
  | [], k + 1, _ => by simp
  | t :: r, k + 1, h => by
    rw [depthT, if_pos (show t.s.size = 0 from h 0 (by simp) (by omega)), List.drop_succ_cons]
    exact depthT_skip r k fun j hj hk => by have := h (j + 1) (by simp; omega) (by omega); simpa using this

end Go.Proofs.Ytdhmicpoigoleab

/- Sums over products in whatever order; how great they get, how many monomials there are. -/

namespace Go.Proofs.Ytdhmicpoigoleab
open Go.RowKit

/-- The products of all entries of X with one; with all of Y, in Y's order. -/
def rowQ (u : Tm) (X : List Tm) : List Tm := (X.map fun t => pairS t u).filter short
def pairsQ (Y X : List Tm) : List Tm := Y.flatMap fun u => rowQ u X
theorem rowQ_snoc (u : Tm) (X : List Tm) (t : Tm) : rowQ u (X ++ [t]) = rowQ u X ++ (if (t.s ++ u.s).size ≤ 4 then [⟨t.c * u.c, t.s ++ u.s⟩] else []) := by
  unfold rowQ
  rw [List.map_append, List.filter_append, List.map_cons, List.map_nil, List.filter_cons, List.filter_nil]
  congr 1
  by_cases hs : (t.s ++ u.s).size ≤ 4
  · rw [if_pos (show short (pairS t u) = true from decide_eq_true hs), if_pos hs]; rfl
  · rw [if_neg (show ¬ short (pairS t u) = true by unfold short pairS; simpa using hs), if_neg hs]
theorem rowQ_perm (u : Tm) {X X' : List Tm} (h : X.Perm X') : (rowQ u X).Perm (rowQ u X') := (h.map _).filter _
theorem pairsQ_snoc (Y X : List Tm) (u : Tm) : pairsQ (Y ++ [u]) X = pairsQ Y X ++ rowQ u X := by unfold pairsQ; rw [List.flatMap_append]; simp
theorem rowQ_cons (u t : Tm) (X : List Tm) : rowQ u (t :: X) = [pairS t u].filter short ++ rowQ u X := by
  unfold rowQ
  rw [List.map_cons, List.filter_cons, List.filter_cons, List.filter_nil]
  split <;> simp
theorem rowS_cons (t u : Tm) (Y : List Tm) : rowS t (u :: Y) = [pairS t u].filter short ++ rowS t Y := by
  unfold rowS
  rw [List.map_cons, List.filter_cons, List.filter_cons, List.filter_nil]
  split <;> simp
theorem pairsQ_cons (k : ByteArray) (t : Tm) (X : List Tm) : ∀ Y, coefAt k (pairsQ Y (t :: X)) = coefAt k (rowS t Y) + coefAt k (pairsQ Y X)
  | [] => by simp [pairsQ, rowS, coefAt]
  | u :: r => by
    have ih := pairsQ_cons k t X r
    have e1 : ∀ Z, pairsQ (u :: r) Z = rowQ u Z ++ pairsQ r Z := fun Z => by unfold pairsQ; rw [List.flatMap_cons]
    rw [e1, e1, rowQ_cons, rowS_cons, coefAt_append, coefAt_append, coefAt_append, coefAt_append, ih]
    omega
theorem pairsQ_swap (k : ByteArray) (Y : List Tm) : ∀ X, coefAt k (pairsQ Y X) = coefAt k (pairsS X Y)
  | [] => by
    have : pairsQ Y [] = [] := by
      unfold pairsQ
      rw [List.flatMap_eq_nil_iff]
      intro u _; rfl
    rw [this]; rfl
  | t :: X => by
    have e : pairsS (t :: X) Y = rowS t Y ++ pairsS X Y := by unfold pairsS rowS; rw [List.flatMap_cons]
    rw [pairsQ_cons, e, coefAt_append, pairsQ_swap k Y X]
theorem pairsQ_perm {Y Y' : List Tm} (X : List Tm) (h : Y.Perm Y') : (pairsQ Y X).Perm (pairsQ Y' X) := h.flatMap_right _
theorem rowQ_len (u : Tm) (X : List Tm) : (rowQ u X).length ≤ X.length := by
  unfold rowQ
  exact Nat.le_trans (List.length_filter_le _ _) (by rw [List.length_map]; exact Nat.le_refl _)
theorem pairsQ_len (X : List Tm) : ∀ Y, (pairsQ Y X).length ≤ Y.length * X.length
  | [] => by simp [pairsQ]
  | u :: r => by
    have ih := pairsQ_len X r
    have h1 := rowQ_len u X
    have e : pairsQ (u :: r) X = rowQ u X ++ pairsQ r X := by unfold pairsQ; rw [List.flatMap_cons]
    rw [e, List.length_append, List.length_cons, Nat.succ_mul]
    omega
/-- Coefficients of at most M. -/
def BndT (M : Int) (ts : List Tm) : Prop := ∀ t ∈ ts, -M ≤ t.c ∧ t.c ≤ M
def MonoT (ts : List Tm) : Prop := ∀ t ∈ ts, monoB t.s = true
theorem BndT.perm {M : Int} {a b : List Tm} (h : BndT M a) (hp : a.Perm b) : BndT M b := fun t ht => h t (hp.mem_iff.2 ht)
theorem MonoT.perm {a b : List Tm} (h : MonoT a) (hp : a.Perm b) : MonoT b := fun t ht => h t (hp.mem_iff.2 ht)
theorem bndQ {X : List Tm} {u : Tm} (hX : BndT 1000000 X) (hu : -1000000 ≤ u.c ∧ u.c ≤ 1000000) : BndT 1000000000000 (rowQ u X) := fun t ht => by
  obtain ⟨v, hv, rfl⟩ := List.mem_map.1 (List.mem_filter.1 ht).1
  exact mul_bnd (hX v hv) hu
theorem bndQQ {X Y : List Tm} (hX : BndT 1000000 X) (hY : BndT 1000000 Y) : BndT 1000000000000 (pairsQ Y X) := fun t ht => by
  obtain ⟨u, hu, ht⟩ := List.mem_flatMap.1 ht
  exact bndQ hX (hY u hu) t ht
theorem coef_bnd {M : Int} (hM : 0 ≤ M) (k : ByteArray) : ∀ {ts : List Tm}, BndT M ts → -(M * ts.length) ≤ coefAt k ts ∧ coefAt k ts ≤ M * ts.length
  | [], _ => by simp [coefAt]
  | t :: r, h => by
    have ih := coef_bnd hM k (fun u hu => h u (List.mem_cons_of_mem _ hu))
    have ht := h t (by simp)
    have ec : coefAt k (t :: r) = (if t.s = k then t.c else 0) + coefAt k r := rfl
    have em : M * ((t :: r).length : Int) = M * (r.length : Int) + M := by rw [List.length_cons]; push_cast; rw [Int.mul_add, Int.mul_one]
    rw [ec, em]
    split <;> omega
theorem apart_len341 {ts : List Tm} (ha : Apart ts) (h : MonoT ts) : ts.length ≤ 341 := by
  have := nodup_len (ts.map fun t => t.s.data.toList) monosAll (by
    rw [List.nodup_iff_pairwise_ne, List.pairwise_map]
    exact ha.imp fun hl e => hl (bytes_ext e)) (fun l hl => by
    obtain ⟨t, ht, rfl⟩ := List.mem_map.1 hl
    exact mono_mem (h t ht))
  rwa [List.length_map, monosAll_len] at this
theorem mono_put {ts : List Tm} {s : ByteArray} {v : Int} (h : MonoT ts) (hs : monoB s = true) : MonoT (putT ts s v) := fun t ht => by
  rcases mem_put ht with rfl | ht
  · exact hs
  · exact h t ht
/-- One product more: what the map reads as, behind it. -/
theorem put_add {ts L : List Tm} (s : ByteArray) (d : Int) (h : ∀ k, coefAt k ts = coefAt k L) (k : ByteArray) : coefAt k (putT ts s (coefAt s ts + d)) = coefAt k (L ++ [⟨d, s⟩]) := by
  have ec : coefAt k [(⟨d, s⟩ : Tm)] = (if s = k then d else 0) + 0 := rfl
  rw [coefAt_put, coefAt_append, ec, Int.add_zero]
  by_cases hk : k = s
  · subst hk; simp [h]
  · simp [hk, Ne.symm hk, h]
theorem canon_same {ts us : List Tm} (h : ∀ k, coefAt k ts = coefAt k us) : canonT ts = canonT us := canonT_unique (canon_of ts) fun s => by rw [(canonT_spec ts).2, h]
theorem apart_bnd {M : Int} {ts : List Tm} (ha : Apart ts) (h : ∀ t ∈ canonT ts, -M ≤ t.c ∧ t.c ≤ M) (hM : 0 ≤ M) : BndT M ts := fun t ht => by
  by_cases h0 : t.c = 0
  · rw [h0]; omega
  · have hc : coefAt t.s (canonT ts) = t.c := by rw [(canonT_spec ts).2, apart_unique ha ht]
    by_cases hm : ∃ u ∈ canonT ts, u.s = t.s
    · obtain ⟨u, hu, e⟩ := hm
      rw [← e, coefAt_get (canon_of ts) hu] at hc
      rw [← hc]; exact h u hu
    · rw [coefAt_none fun u hu e => hm ⟨u, hu, e⟩] at hc
      exact absurd hc.symm h0

end Go.Proofs.Ytdhmicpoigoleab

/- The coefficient of 1 in products and in the series of a word; the depth out of the second term. -/

namespace Go.Proofs.Ytdhmicpoigoleab
open Go.RowKit

abbrev noS : ByteArray := { data := #[] }
theorem no_iff {s : ByteArray} : s = noS ↔ s.size = 0 := ⟨fun h => by rw [h]; rfl, fun h => bytes_ext (by rw [List.eq_nil_of_length_eq_zero (show s.data.toList.length = 0 by simpa using h)])⟩
theorem no_row (t : Tm) : ∀ y : List Tm, coefAt noS (rowS t y) = if t.s = noS then t.c * coefAt noS y else 0
  | [] => by simp [rowS, coefAt]
  | u :: r => by
    have e1 : coefAt noS ([pairS t u].filter short) = if t.s = noS ∧ u.s = noS then t.c * u.c else 0 := by
      have hz : (pairS t u).s = noS ↔ t.s = noS ∧ u.s = noS := by
        rw [no_iff, no_iff, no_iff]; unfold pairS; rw [append_size]; omega
      rw [List.filter_cons, List.filter_nil]
      by_cases hs : t.s = noS ∧ u.s = noS
      · rw [if_pos hs, if_pos (show short (pairS t u) = true from decide_eq_true (by rw [no_iff.1 (hz.2 hs)]; omega)), coefAt, if_pos (hz.2 hs)]; simp [coefAt, pairS]
      · rw [if_neg hs]
        split
        · rw [coefAt, if_neg (fun h => hs (hz.1 h))]; rfl
        · rfl
    rw [rowS_cons, coefAt_append, e1, no_row t r, coefAt]
    by_cases ht : t.s = noS <;> by_cases hu : u.s = noS <;> simp [ht, hu, Int.mul_add]
theorem no_pairs : ∀ x y : List Tm, coefAt noS (pairsS x y) = coefAt noS x * coefAt noS y
  | [], y => by simp [pairsS, coefAt]
  | t :: r, y => by
    have e : pairsS (t :: r) y = rowS t y ++ pairsS r y := by unfold pairsS rowS; rw [List.flatMap_cons]
    rw [e, coefAt_append, no_row, no_pairs r y, coefAt, Int.add_mul]
    by_cases ht : t.s = noS <;> simp [ht]
theorem letS_no_facts : ∀ n : Fin 8, coefAt noS (letS (UInt8.ofNat (if n.val < 4 then 97 + n.val else 61 + n.val))) = 1 := by decide +kernel
theorem letS_no {c : UInt8} (hc : letB c = true) : coefAt noS (letS c) = 1 := let_cases (P := fun c => coefAt noS (letS c) = 1) letS_no_facts hc
theorem serW_no (l : List UInt8) : letL l = true → coefAt noS (serW l) = 1 := by
  generalize hn : l.length = n
  induction n generalizing l with
  | zero => intro _; rw [List.length_eq_zero_iff.1 hn]; decide
  | succ n ih =>
    intro hl
    obtain ⟨p, c, rfl⟩ := last_split l (by omega)
    rw [letL_append, Bool.and_eq_true] at hl
    have hp : p.length = n := by rw [List.length_append] at hn; simp at hn; exact hn
    rw [serW_snoc, (canonT_spec _).2, no_pairs, ih p hp hl.1, letS_no (by have := hl.2; simp [letL] at this; exact this)]; rfl
theorem less_no {a : ByteArray} : lessW a noS = false := by
  by_cases h : a = noS
  · rw [h]; exact lessW_irrefl _
  · have h0 : ¬ a.size = 0 := fun e => h (no_iff.2 e)
    unfold lessW
    rw [if_neg (show ¬ a.size = noS.size from h0)]
    exact decide_eq_false (by show ¬ a.size < 0; omega)
theorem canon_first {ts : List Tm} (hc : Canon ts) (h1 : coefAt noS ts = 1) : ∃ u r, ts = u :: r ∧ u.s = noS ∧ u.c = 1 ∧ ∀ t ∈ r, t.s.size ≠ 0 := by
  cases ts with
  | nil => simp [coefAt] at h1
  | cons u r =>
    obtain ⟨h2, h3⟩ := List.pairwise_cons.1 hc.1
    have hr : ∀ t ∈ r, t.s.size ≠ 0 := fun t ht h0 => by
      have := h2 t ht
      rw [no_iff.2 h0, less_no] at this
      cases this
    have hu : u.s = noS := by
      by_cases h : u.s = noS
      · exact h
      · rw [coefAt_none (fun t ht e => by
          rcases List.mem_cons.1 ht with rfl | ht
          · exact h e
          · exact hr t ht (no_iff.1 e))] at h1
        cases h1
    refine ⟨u, r, rfl, hu, ?_, hr⟩
    rw [coefAt, if_pos hu, coefAt_none (fun t ht e => hr t ht (no_iff.1 e))] at h1
    omega
theorem depth_one {ts : List Tm} (hc : Canon ts) (h1 : coefAt noS ts = 1) (hl : ts.length = 1) : depthT ts = 0 := by
  obtain ⟨u, r, rfl, hu, _, _⟩ := canon_first hc h1
  have : r = [] := List.eq_nil_of_length_eq_zero (by simpa using hl)
  subst this
  rw [depthT, if_pos (no_iff.1 hu)]; rfl
theorem depth_two {ts : List Tm} (hc : Canon ts) (h1 : coefAt noS ts = 1) (hl : 1 < ts.length) : depthT ts = ts[1].s.size := by
  obtain ⟨u, r, rfl, hu, _, hr⟩ := canon_first hc h1
  cases r with
  | nil => simp at hl
  | cons t r =>
    rw [depthT, if_pos (no_iff.1 hu), depthT, if_neg (hr t (by simp))]
    rfl
theorem first_pos {ts : List Tm} (hc : Canon ts) (h1 : coefAt noS ts = 1) : 0 < ts.length := by
  obtain ⟨u, r, rfl, _⟩ := canon_first hc h1
  simp

end Go.Proofs.Ytdhmicpoigoleab

/- Products of series depend on the coefficients alone. -/

namespace Go.Proofs.Ytdhmicpoigoleab
open Go.RowKit

/-- The sum of coefficients times what a function says of their texts. -/
def linT (f : ByteArray → Int) : List Tm → Int
  | [] => 0
  | t :: r => t.c * f t.s + linT f r
theorem linT_append (f : ByteArray → Int) (a b : List Tm) : linT f (a ++ b) = linT f a + linT f b := by
  induction a with
  | nil => simp [linT]
  | cons t r ih => rw [List.cons_append, linT, linT, ih]; omega
theorem linT_nz (f : ByteArray → Int) (t : Tm) : linT f (nz t) = t.c * f t.s := by
  unfold nz
  by_cases h : t.c = 0
  · rw [if_pos h, h]; simp [linT]
  · rw [if_neg h]; simp [linT]
theorem linT_add (f : ByteArray → Int) (t : Tm) : ∀ ts, linT f (addT ts t) = linT f ts + t.c * f t.s
  | [] => by rw [addT, linT_nz, linT]; omega
  | x :: r => by
    rw [addT]
    by_cases h : lessW x.s t.s = true
    · rw [if_pos h, linT, linT, linT_add f t r]; omega
    · rw [if_neg h]
      by_cases h2 : x.s = t.s
      · rw [if_pos h2, linT_append, linT_nz, linT, h2]
        show (t.c + x.c) * f t.s + linT f r = x.c * f t.s + linT f r + t.c * f t.s
        rw [Int.add_mul]; omega
      · rw [if_neg h2, linT_append, linT_nz, linT]; omega
theorem linT_fold (f : ByteArray → Int) : ∀ ts acc, linT f (ts.foldl addT acc) = linT f acc + linT f ts
  | [], acc => by simp [linT]
  | t :: r, acc => by rw [List.foldl_cons, linT_fold f r, linT_add, linT]; omega
theorem linT_canon (f : ByteArray → Int) (ts : List Tm) : linT f (canonT ts) = linT f ts := by unfold canonT; rw [linT_fold]; simp [linT]
theorem linT_same {x y : List Tm} (h : ∀ q, coefAt q x = coefAt q y) (f : ByteArray → Int) : linT f x = linT f y := by rw [← linT_canon f x, ← linT_canon f y, canon_same h]
theorem row_one (q : ByteArray) (t : Tm) : ∀ y, coefAt q (rowS t y) = t.c * coefAt q (rowS ⟨1, t.s⟩ y)
  | [] => by simp [rowS, coefAt]
  | u :: r => by
    rw [rowS_cons, rowS_cons, coefAt_append, coefAt_append, row_one q t r, Int.mul_add]
    congr 1
    rw [List.filter_cons, List.filter_nil, List.filter_cons, List.filter_nil]
    by_cases hs : (t.s ++ u.s).size ≤ 4
    · rw [if_pos (show short (pairS t u) = true from decide_eq_true hs), if_pos (show short (pairS ⟨1, t.s⟩ u) = true from decide_eq_true hs), coefAt, coefAt, coefAt]
      show (if t.s ++ u.s = q then t.c * u.c else 0) + 0 = t.c * ((if t.s ++ u.s = q then 1 * u.c else 0) + 0)
      split <;> simp
    · rw [if_neg (show ¬ short (pairS t u) = true by unfold short pairS; simpa using hs), if_neg (show ¬ short (pairS ⟨1, t.s⟩ u) = true by unfold short pairS; simpa using hs)]
      simp [coefAt]
theorem row_lin (q : ByteArray) (t : Tm) : ∀ y, coefAt q (rowS t y) = linT (fun s => if (t.s ++ s).size ≤ 4 ∧ t.s ++ s = q then t.c else 0) y
  | [] => by simp [rowS, coefAt, linT]
  | u :: r => by
    rw [rowS_cons, coefAt_append, row_lin q t r, linT]
    congr 1
    rw [List.filter_cons, List.filter_nil]
    by_cases hs : (t.s ++ u.s).size ≤ 4
    · rw [if_pos (show short (pairS t u) = true from decide_eq_true hs), coefAt, coefAt]
      show (if t.s ++ u.s = q then t.c * u.c else 0) + 0 = u.c * (if (t.s ++ u.s).size ≤ 4 ∧ t.s ++ u.s = q then t.c else 0)
      by_cases hq : t.s ++ u.s = q
      · rw [if_pos hq, if_pos ⟨hs, hq⟩, Int.mul_comm]; omega
      · rw [if_neg hq, if_neg fun h => hq h.2]; simp
    · rw [if_neg (show ¬ short (pairS t u) = true by unfold short pairS; simpa using hs), if_neg fun h => hs h.1]
      simp [coefAt]
theorem pairs_lin (q : ByteArray) (y : List Tm) : ∀ x, coefAt q (pairsS x y) = linT (fun s => coefAt q (rowS ⟨1, s⟩ y)) x
  | [] => rfl
  | t :: r => by
    have e : pairsS (t :: r) y = rowS t y ++ pairsS r y := by unfold pairsS rowS; rw [List.flatMap_cons]
    rw [e, coefAt_append, row_one, pairs_lin q y r, linT]
theorem pairs_same1 {x x' : List Tm} (h : ∀ q, coefAt q x = coefAt q x') (y : List Tm) (q : ByteArray) : coefAt q (pairsS x y) = coefAt q (pairsS x' y) := by
  rw [pairs_lin, pairs_lin]; exact linT_same h _
theorem pairs_same2 {y y' : List Tm} (h : ∀ q, coefAt q y = coefAt q y') (q : ByteArray) : ∀ x, coefAt q (pairsS x y) = coefAt q (pairsS x y')
  | [] => rfl
  | t :: r => by
    have e : ∀ z, pairsS (t :: r) z = rowS t z ++ pairsS r z := fun z => by unfold pairsS rowS; rw [List.flatMap_cons]
    rw [e, e, coefAt_append, coefAt_append, pairs_same2 h q r, row_lin, row_lin, linT_same h]
theorem canon_id {ts : List Tm} (h : Canon ts) : canonT ts = ts := (canonT_unique h fun _ => rfl).symm

end Go.Proofs.Ytdhmicpoigoleab

/- Series as functions of texts: products, inverses, reduced words; the depth of a commutator. -/

namespace Go.Proofs.Ytdhmicpoigoleab
open Go.RowKit

abbrev Fs := List UInt8 → Int
/-- The product of two series, at a text. -/
def conv : Fs → Fs → Fs
  | f, g, [] => f [] * g []
  | f, g, c :: r => f [] * g (c :: r) + conv (fun u => f (c :: u)) g r
def oneF : Fs := fun l => if l = [] then 1 else 0
theorem conv_congr : ∀ (w : List UInt8) {f f' g g' : Fs}, (∀ l, l.length ≤ w.length → f l = f' l) → (∀ l, l.length ≤ w.length → g l = g' l) → conv f g w = conv f' g' w
  | [], f, f', g, g', h1, h2 => by rw [conv, conv, h1 [] (by simp), h2 [] (by simp)]
  | c :: r, f, f', g, g', h1, h2 => by
    rw [conv, conv, h1 [] (by simp), h2 (c :: r) (Nat.le_refl _), conv_congr r (fun l hl => h1 (c :: l) (by simp; omega)) (fun l hl => h2 l (by simp; omega))]
theorem conv_add1 : ∀ (w : List UInt8) (f f' g : Fs), conv (fun l => f l + f' l) g w = conv f g w + conv f' g w
  | [], f, f', g => by rw [conv, conv, conv, Int.add_mul]
  | c :: r, f, f', g => by rw [conv, conv, conv, conv_add1 r, Int.add_mul]; omega
theorem conv_add2 : ∀ (w : List UInt8) (f g g' : Fs), conv f (fun l => g l + g' l) w = conv f g w + conv f g' w
  | [], f, g, g' => by rw [conv, conv, conv, Int.mul_add]
  | c :: r, f, g, g' => by rw [conv, conv, conv, conv_add2 r, Int.mul_add]; omega
theorem conv_sub1 : ∀ (w : List UInt8) (f f' g : Fs), conv (fun l => f l - f' l) g w = conv f g w - conv f' g w
  | [], f, f', g => by rw [conv, conv, conv, Int.sub_mul]
  | c :: r, f, f', g => by rw [conv, conv, conv, conv_sub1 r, Int.sub_mul]; omega
theorem conv_mul1 (k : Int) : ∀ (w : List UInt8) (f g : Fs), conv (fun l => k * f l) g w = k * conv f g w
  | [], f, g => by rw [conv, conv, Int.mul_assoc]
  | c :: r, f, g => by rw [conv, conv, conv_mul1 k r, Int.mul_add, Int.mul_assoc]
theorem conv_zero1 : ∀ (w : List UInt8) (g : Fs), conv (fun _ => 0) g w = 0
  | [], g => by rw [conv, Int.zero_mul]
  | c :: r, g => by rw [conv, conv_zero1 r, Int.zero_mul]; rfl
theorem conv_zero2 : ∀ (w : List UInt8) (f : Fs), conv f (fun _ => 0) w = 0
  | [], g => by rw [conv, Int.mul_zero]
  | c :: r, g => by rw [conv, conv_zero2 r, Int.mul_zero]; rfl
theorem conv_assoc : ∀ (w : List UInt8) (f g h : Fs), conv (conv f g) h w = conv f (conv g h) w
  | [], f, g, h => by rw [conv, conv, conv, conv, Int.mul_assoc]
  | c :: r, f, g, h => by
    have e : (fun u => conv f g (c :: u)) = fun u => f [] * g (c :: u) + conv (fun v => f (c :: v)) g u := by funext u; rw [conv]
    have h1 := conv_assoc r (fun v => f (c :: v)) g h
    rw [conv, e, conv_add1 r (fun u => f [] * g (c :: u)) (conv (fun v => f (c :: v)) g) h, conv_mul1, h1, conv, conv, conv, Int.mul_add, Int.mul_assoc]
    omega
theorem conv_one1 (w : List UInt8) (g : Fs) : conv oneF g w = g w := by
  cases w with
  | nil => rw [conv]; simp [oneF]
  | cons c r =>
    have e : (fun u => oneF (c :: u)) = fun _ => 0 := by funext u; simp [oneF]
    rw [conv, e, conv_zero1]; simp [oneF]
theorem conv_one2 : ∀ (w : List UInt8) (f : Fs), conv f oneF w = f w
  | [], f => by rw [conv]; simp [oneF]
  | c :: r, f => by rw [conv, conv_one2 r]; simp [oneF]
/-- Products of what is 0 below two degrees are 0 below their sum. -/
theorem conv_low : ∀ (w : List UInt8) (f g : Fs) (p q : Nat), (∀ l, l.length < p → f l = 0) → (∀ l, l.length < q → g l = 0) → w.length < p + q → conv f g w = 0
  | [], f, g, p, q, hf, hg, hw => by
    rw [conv]
    simp only [List.length_nil] at hw
    by_cases hp : 0 < p
    · rw [hf [] hp, Int.zero_mul]
    · rw [hg [] (by simp; omega), Int.mul_zero]
  | c :: r, f, g, p, q, hf, hg, hw => by
    rw [conv]
    simp only [List.length_cons] at hw
    have h1 : conv (fun u => f (c :: u)) g r = 0 := conv_low r _ g (p - 1) q (fun l hl => hf (c :: l) (by simp; omega)) hg (by omega)
    rw [h1]
    by_cases hp : 0 < p
    · rw [hf [] hp, Int.zero_mul]; rfl
    · rw [hg (c :: r) (by simp; omega), Int.mul_zero]; rfl

/-! ### Lists of terms as functions -/
def cf (x : List Tm) : Fs := fun l => coefAt (bstr l) x
def dl (a : List UInt8) (c : Int) : Fs := fun l => if a = l then c else 0
theorem conv_dl : ∀ (a : List UInt8) (c : Int) (b : List UInt8) (d : Int) (w : List UInt8), conv (dl a c) (dl b d) w = if a ++ b = w then c * d else 0
  | [], c, b, d, w => by
    cases w with
    | nil => rw [conv]; simp only [dl, List.nil_append]; by_cases h : b = [] <;> simp [h]
    | cons x r =>
      have e : (fun u => dl [] c (x :: u)) = fun _ => 0 := by funext u; simp [dl]
      rw [conv, e, conv_zero1]
      simp only [dl, List.nil_append]
      by_cases h : b = x :: r <;> simp [h]
  | y :: a, c, b, d, w => by
    cases w with
    | nil => rw [conv]; simp [dl]
    | cons x r =>
      have e0 : dl (y :: a) c [] = 0 := by simp [dl]
      rw [conv, e0, Int.zero_mul, Int.zero_add]
      by_cases h : y = x
      · subst h
        have e : (fun u => dl (y :: a) c (y :: u)) = dl a c := by funext u; simp [dl]
        rw [e, conv_dl a c b d r]
        simp
      · have e : (fun u => dl (y :: a) c (x :: u)) = fun _ => 0 := by funext u; simp [dl, h]
        rw [e, conv_zero1]
        simp [h]
theorem cf_nil : cf [] = fun _ => 0 := rfl
theorem bstr_eq {s : ByteArray} {l : List UInt8} : s = bstr l ↔ s.data.toList = l := ⟨fun h => by rw [h, bstr_toList], fun h => by rw [← h]; exact bytes_ext (by rw [bstr_toList])⟩
theorem cf_cons (t : Tm) (x : List Tm) : cf (t :: x) = fun l => dl t.s.data.toList t.c l + cf x l := by
  funext l
  unfold cf dl
  rw [coefAt]
  by_cases h : t.s.data.toList = l
  · rw [if_pos (bstr_eq.2 h), if_pos h]
  · rw [if_neg (fun e => h (bstr_eq.1 e)), if_neg h]
theorem conv_row (t : Tm) : ∀ (y : List Tm) (w : List UInt8), w.length ≤ 4 → cf (rowS t y) w = conv (dl t.s.data.toList t.c) (cf y) w
  | [], w, _ => by
    have e : cf (rowS t []) w = 0 := rfl
    rw [e, cf_nil, conv_zero2]
  | u :: r, w, hw => by
    have ih := conv_row t r w hw
    have e1 : cf ([pairS t u].filter short) w = if t.s.data.toList ++ u.s.data.toList = w then t.c * u.c else 0 := by
      rw [List.filter_cons, List.filter_nil]
      have hlen : (t.s ++ u.s).size = (t.s.data.toList ++ u.s.data.toList).length := by rw [append_size, List.length_append]; simp
      have hdat : (t.s ++ u.s).data.toList = t.s.data.toList ++ u.s.data.toList := by simp
      by_cases hs : (t.s ++ u.s).size ≤ 4
      · rw [if_pos (show short (pairS t u) = true from decide_eq_true hs), cf_cons, cf_nil]
        show dl (t.s ++ u.s).data.toList (t.c * u.c) w + 0 = _
        rw [hdat]; unfold dl; omega
      · rw [if_neg (show ¬ short (pairS t u) = true by unfold short pairS; simpa using hs), if_neg (fun e => hs (by rw [hlen, e]; exact hw))]; rfl
    have e2 : cf (rowS t (u :: r)) w = cf ([pairS t u].filter short) w + cf (rowS t r) w := by
      unfold cf; rw [rowS_cons, coefAt_append]
    rw [e2, e1, ih, cf_cons, conv_add2, conv_dl]
theorem conv_pairs : ∀ (x y : List Tm) (w : List UInt8), w.length ≤ 4 → cf (pairsS x y) w = conv (cf x) (cf y) w
  | [], y, w, _ => by rw [cf_nil, conv_zero1]; rfl
  | t :: r, y, w, hw => by
    have e : pairsS (t :: r) y = rowS t y ++ pairsS r y := by unfold pairsS rowS; rw [List.flatMap_cons]
    have e2 : cf (pairsS (t :: r) y) w = cf (rowS t y) w + cf (pairsS r y) w := by unfold cf; rw [e, coefAt_append]
    rw [e2, conv_row t y w hw, conv_pairs r y w hw, cf_cons, conv_add1]

/-! ### Words -/
def Eq4 (f g : Fs) : Prop := ∀ w, w.length ≤ 4 → f w = g w
theorem Eq4.refl (f : Fs) : Eq4 f f := fun _ _ => rfl
theorem Eq4.symm {f g : Fs} (h : Eq4 f g) : Eq4 g f := fun w hw => (h w hw).symm
theorem Eq4.trans {f g h : Fs} (h1 : Eq4 f g) (h2 : Eq4 g h) : Eq4 f h := fun w hw => (h1 w hw).trans (h2 w hw)
theorem Eq4.mul {f f' g g' : Fs} (h1 : Eq4 f f') (h2 : Eq4 g g') : Eq4 (conv f g) (conv f' g') := fun w hw => conv_congr w (fun l hl => h1 l (by omega)) (fun l hl => h2 l (by omega))
theorem eq4_assoc (f g h : Fs) : Eq4 (conv (conv f g) h) (conv f (conv g h)) := fun w _ => conv_assoc w f g h
theorem eq4_one1 (g : Fs) : Eq4 (conv oneF g) g := fun w _ => conv_one1 w g
theorem eq4_one2 (f : Fs) : Eq4 (conv f oneF) f := fun w _ => conv_one2 w f
def cs (l : List UInt8) : Fs := cf (serW l)
theorem cf_one : Eq4 (cf oneT) oneF := fun w _ => by
  unfold oneT
  rw [cf_cons, cf_nil]
  show dl [] 1 w + 0 = _
  unfold dl oneF
  by_cases h : w = []
  · simp [h]
  · rw [if_neg (Ne.symm h), if_neg h]; rfl
theorem cs_nil : Eq4 (cs []) oneF := cf_one
theorem cs_snoc (l : List UInt8) (c : UInt8) : Eq4 (cs (l ++ [c])) (conv (cs l) (cf (letS c))) := fun w hw => by
  unfold cs
  rw [← conv_pairs _ _ w hw, serW_snoc]
  exact (canonT_spec _).2 _
theorem cs_append (a b : List UInt8) : Eq4 (cs (a ++ b)) (conv (cs a) (cs b)) := by
  generalize hn : b.length = n
  induction n generalizing b with
  | zero =>
    rw [List.length_eq_zero_iff.1 hn, List.append_nil]
    exact ((Eq4.refl _).mul cs_nil |>.trans (eq4_one2 _)).symm
  | succ n ih =>
    obtain ⟨p, c, rfl⟩ := last_split b (by omega)
    have hp : p.length = n := by rw [List.length_append] at hn; simp at hn; exact hn
    rw [← List.append_assoc]
    refine (cs_snoc (a ++ p) c).trans ?_
    refine ((ih p hp).mul (Eq4.refl _)).trans ?_
    refine (eq4_assoc _ _ _).trans ?_
    exact (Eq4.refl _).mul (cs_snoc p c).symm
theorem cs_one (c : UInt8) : Eq4 (cs [c]) (cf (letS c)) := (cs_snoc [] c).trans ((cs_nil.mul (Eq4.refl _)).trans (eq4_one1 _))
instance : DecidableEq Tm := fun a b => if h : a.c = b.c ∧ a.s = b.s then isTrue (by cases a; cases b; simp at h; rw [h.1, h.2]) else isFalse (fun e => h (by rw [e]; exact ⟨rfl, rfl⟩))
theorem turn_facts : ∀ n : Fin 8, canonT (pairsS (letS (UInt8.ofNat (if n.val < 4 then 97 + n.val else 61 + n.val))) (letS (turnB (UInt8.ofNat (if n.val < 4 then 97 + n.val else 61 + n.val))))) = oneT := by decide +kernel
theorem turn_one {c : UInt8} (hc : letB c = true) : Eq4 (conv (cf (letS c)) (cf (letS (turnB c)))) oneF := fun w hw => by
  have h := let_cases (P := fun c => canonT (pairsS (letS c) (letS (turnB c))) = oneT) turn_facts hc
  rw [← conv_pairs _ _ w hw, ← cf_one w hw, ← h]
  exact ((canonT_spec _).2 _).symm
theorem turn_one2 {c : UInt8} (hc : letB c = true) : Eq4 (conv (cf (letS (turnB c))) (cf (letS c))) oneF := by
  obtain ⟨h1, h2⟩ := turn_turn c hc
  have := turn_one h2
  rwa [h1] at this
/-- A word and its inverse. -/
theorem cs_back (a : List UInt8) (ha : letL a = true) : Eq4 (conv (cs a) (cs (backL a))) oneF := by
  generalize hn : a.length = n
  induction n generalizing a with
  | zero =>
    rw [List.length_eq_zero_iff.1 hn]
    exact (cs_nil.mul cs_nil).trans (eq4_one1 _)
  | succ n ih =>
    obtain ⟨p, c, rfl⟩ := last_split a (by omega)
    have hp : p.length = n := by rw [List.length_append] at hn; simp at hn; exact hn
    rw [letL_append, Bool.and_eq_true] at ha
    have hc : letB c = true := by have := ha.2; simp [letL] at this; exact this
    have e : backL (p ++ [c]) = [turnB c] ++ backL p := by rw [backL_append]; rfl
    rw [e]
    refine ((cs_snoc p c).mul ((cs_append _ _).trans ((cs_one _).mul (Eq4.refl _)))).trans ?_
    refine (eq4_assoc _ _ _).trans ?_
    refine ((Eq4.refl _).mul ?_).trans (ih p ha.1 hp)
    refine (eq4_assoc _ _ _).symm.trans ?_
    exact ((turn_one hc).mul (Eq4.refl _)).trans (eq4_one1 _)
/-- Reducing changes nothing. -/
theorem cs_red : ∀ (s acc : List UInt8), letL s = true → Eq4 (cs (redL acc s)) (cs (acc ++ s))
  | [], acc, _ => by rw [redL_nil, List.append_nil]; exact Eq4.refl _
  | c :: s, acc, h => by
    rw [letL_cons, Bool.and_eq_true] at h
    have e : redL acc (c :: s) = redL (redStep acc c) s := rfl
    rw [e]
    refine (cs_red s (redStep acc c) h.2).trans ?_
    by_cases hl : acc.getLast? = some (turnB c)
    · obtain ⟨p, x, rfl⟩ := last_split acc (by cases acc with | nil => simp at hl | cons a l => simp)
      have hx : x = turnB c := by simpa using hl
      subst hx
      rw [redStep_pop p (turnB c) c rfl]
      have e2 : p ++ [turnB c] ++ c :: s = p ++ ([turnB c] ++ ([c] ++ s)) := by simp
      rw [e2]
      refine (cs_append p s).trans ?_
      refine Eq4.trans ?_ (cs_append p _).symm
      refine (Eq4.refl _).mul ?_
      refine Eq4.trans ?_ ((cs_append _ _).trans ((cs_one _).mul ((cs_append _ _).trans ((cs_one _).mul (Eq4.refl _))))).symm
      refine Eq4.trans ?_ (eq4_assoc _ _ _)
      exact (((turn_one2 h.1).mul (Eq4.refl _)).trans (eq4_one1 _)).symm
    · have e2 : redStep acc c = acc ++ [c] := by unfold redStep; rw [if_neg hl]
      rw [e2, List.append_assoc]
      exact Eq4.refl _
/-- What the series of a commutator lacks to 1 begins as late as those of its two words together. -/
theorem comm_low {a b : List UInt8} (ha : letL a = true) (hb : letL b = true) {p q : Nat} (hA0 : cs a [] = 1) (hB0 : cs b [] = 1) (hA : ∀ l, 0 < l.length → l.length < p → cs a l = 0) (hB : ∀ l, 0 < l.length → l.length < q → cs b l = 0)
    (w : List UInt8) (hw4 : w.length ≤ 4) (hw : w.length < p + q) : cs (a ++ b ++ backL a ++ backL b) w = oneF w := by
  obtain ⟨u, hu⟩ : ∃ u : Fs, u = fun l => cs a l - oneF l := ⟨_, rfl⟩
  obtain ⟨v, hv⟩ : ∃ v : Fs, v = fun l => cs b l - oneF l := ⟨_, rfl⟩
  have hu0 : ∀ l, l.length < p → u l = 0 := fun l hl => by
    rw [hu]
    cases l with
    | nil => simp [oneF, hA0]
    | cons c r => simp only [hA (c :: r) (by simp) hl]; simp [oneF]
  have hv0 : ∀ l, l.length < q → v l = 0 := fun l hl => by
    rw [hv]
    cases l with
    | nil => simp [oneF, hB0]
    | cons c r => simp only [hB (c :: r) (by simp) hl]; simp [oneF]
  have ea : cs a = fun l => oneF l + u l := by funext l; rw [hu]; show _ = oneF l + (cs a l - oneF l); omega
  have eb : cs b = fun l => oneF l + v l := by funext l; rw [hv]; show _ = oneF l + (cs b l - oneF l); omega
  have hR : ∀ l, l.length < p + q → conv (cs a) (cs b) l - conv (cs b) (cs a) l = 0 := fun l hl => by
    have h1 : conv (cs a) (cs b) l = oneF l + v l + (u l + conv u v l) := by
      rw [ea, conv_add1 l oneF u, conv_one1]
      rw [eb, conv_add2 l u oneF v, conv_one2]
    have h2 : conv (cs b) (cs a) l = oneF l + u l + (v l + conv v u l) := by
      rw [eb, conv_add1 l oneF v, conv_one1]
      rw [ea, conv_add2 l v oneF u, conv_one2]
    rw [h1, h2, conv_low l u v p q hu0 hv0 hl, conv_low l v u q p hv0 hu0 (by omega)]
    omega
  have hZ : Eq4 (cs (backL a ++ backL b)) (conv (cs (backL a)) (cs (backL b))) := cs_append _ _
  have h1 : cs (a ++ b ++ backL a ++ backL b) w = conv (conv (cs a) (cs b)) (conv (cs (backL a)) (cs (backL b))) w := by
    rw [List.append_assoc (a ++ b)]
    exact (((cs_append _ _).trans ((cs_append a b).mul hZ)) w hw4)
  have h2 : conv (conv (cs b) (cs a)) (conv (cs (backL a)) (cs (backL b))) w = oneF w := by
    have : Eq4 (conv (conv (cs b) (cs a)) (conv (cs (backL a)) (cs (backL b)))) oneF := by
      refine (eq4_assoc _ _ _).trans ?_
      refine ((Eq4.refl _).mul ((eq4_assoc _ _ _).symm.trans (((cs_back a ha).mul (Eq4.refl _)).trans (eq4_one1 _)))).trans ?_
      exact cs_back b hb
    exact this w hw4
  have h3 : conv (fun l => conv (cs a) (cs b) l - conv (cs b) (cs a) l) (conv (cs (backL a)) (cs (backL b))) w = 0 := conv_low w _ _ (p + q) 0 hR (fun l hl => absurd hl (Nat.not_lt_zero _)) (by omega)
  rw [conv_sub1 w (conv (cs a) (cs b)) (conv (cs b) (cs a))] at h3
  rw [h1]
  omega

theorem letL_redL : ∀ (s acc : List UInt8), letL s = true → letL acc = true → letL (redL acc s) = true
  | [], _, _, h => h
  | c :: s, acc, h, ha => by
    rw [letL_cons, Bool.and_eq_true] at h
    refine letL_redL s (redStep acc c) h.2 ?_
    unfold redStep
    split
    · exact List.all_eq_true.2 fun x hx => List.all_eq_true.1 ha x (List.dropLast_subset _ hx)
    · rw [letL_append, ha, letL_cons, h.1]; rfl

/-! ### Depths -/
theorem depth_below {ts : List Tm} (hc : Canon ts) (h1 : coefAt noS ts = 1) {q : ByteArray} (h0 : 0 < q.size) (hq : q.size < depthT ts) : coefAt q ts = 0 := by
  obtain ⟨u, r, rfl, hu, _, hr⟩ := canon_first hc h1
  obtain ⟨h2, h3⟩ := List.pairwise_cons.1 hc.1
  cases r with
  | nil =>
    rw [depthT, if_pos (no_iff.1 hu)] at hq
    exact absurd hq (Nat.not_lt_zero _)
  | cons t r =>
    rw [depthT, if_pos (no_iff.1 hu), depthT, if_neg (hr t (by simp))] at hq
    obtain ⟨h4, h5⟩ := List.pairwise_cons.1 h3
    refine coefAt_none fun v hv e => ?_
    rcases List.mem_cons.1 hv with rfl | hv
    · rw [hu] at e; rw [← e] at h0; exact absurd h0 (Nat.not_lt_zero _)
    · rcases List.mem_cons.1 hv with rfl | hv
      · rw [e] at hq; omega
      · have := h4 v hv
        rw [e] at this
        unfold lessW at this
        split at this
        · omega
        · have := of_decide_eq_true this; omega
theorem depth_at {ts : List Tm} (hc : Canon ts) (h1 : coefAt noS ts = 1) (hd : depthT ts ≠ 0) : ∃ t ∈ ts, t.s.size = depthT ts ∧ coefAt t.s ts ≠ 0 := by
  obtain ⟨u, r, rfl, hu, _, hr⟩ := canon_first hc h1
  cases r with
  | nil =>
    rw [depthT, if_pos (no_iff.1 hu)] at hd
    exact absurd rfl hd
  | cons t r =>
    refine ⟨t, by simp, ?_, ?_⟩
    · rw [depthT, if_pos (no_iff.1 hu), depthT, if_neg (hr t (by simp))]
    · rw [coefAt_get hc (by simp)]; exact hc.2 t (by simp)
theorem cs_at (l : List UInt8) (q : ByteArray) : cs l q.data.toList = coefAt q (serW l) := by
  unfold cs cf
  rw [show bstr q.data.toList = q from (bstr_eq.2 rfl).symm]
/-- The depth of a commutator is not less than those of its two words together. -/
theorem depth_comm {a b : List UInt8} (ha : letL a = true) (hb : letL b = true) (hn : depthT (serW (redL [] (commL a b))) ≠ 0) (hp : depthT (serW a) ≠ 0) (hq : depthT (serW b) ≠ 0) (hl : letL (redL [] (commL a b)) = true) :
    depthT (serW a) + depthT (serW b) ≤ depthT (serW (redL [] (commL a b))) := by
  have hlc : letL (commL a b) = true := by unfold commL; rw [letL_append, letL_append, letL_append, ha, hb, letL_back a ha, letL_back b hb]; rfl
  have hok := serW_ok _ hl
  obtain ⟨t, ht, hts, htc⟩ := depth_at hok.canon (serW_no _ hl) hn
  by_cases hlt : depthT (serW a) + depthT (serW b) ≤ depthT (serW (redL [] (commL a b)))
  · exact hlt
  · exfalso
    apply htc
    have h4 : t.s.size ≤ 4 := mono_size (hok.mono t ht)
    have hlen : t.s.data.toList.length = t.s.size := by simp
    have h1 := cs_red (commL a b) [] hlc t.s.data.toList (by omega)
    rw [List.nil_append] at h1
    have h2 := comm_low ha hb (p := depthT (serW a)) (q := depthT (serW b)) (by have := serW_no a ha; exact this) (by have := serW_no b hb; exact this)
      (fun l h0 h5 => by
        have := depth_below (serW_ok a ha).canon (serW_no a ha) (q := bstr l) (by have : (bstr l).data.toList.length = l.length := by rw [bstr_toList]
                                                                                  have e : (bstr l).size = (bstr l).data.toList.length := by simp
                                                                                  omega) (by
          have : (bstr l).data.toList.length = l.length := by rw [bstr_toList]
          have e : (bstr l).size = (bstr l).data.toList.length := by simp
          omega)
        exact this)
      (fun l h0 h5 => by
        have := depth_below (serW_ok b hb).canon (serW_no b hb) (q := bstr l) (by have : (bstr l).data.toList.length = l.length := by rw [bstr_toList]
                                                                                  have e : (bstr l).size = (bstr l).data.toList.length := by simp
                                                                                  omega) (by
          have : (bstr l).data.toList.length = l.length := by rw [bstr_toList]
          have e : (bstr l).size = (bstr l).data.toList.length := by simp
          omega)
        exact this) t.s.data.toList (by omega) (by omega)
    rw [← cs_at, h1]
    have h3 : cs (commL a b) t.s.data.toList = oneF t.s.data.toList := h2
    rw [h3]
    unfold oneF
    rw [if_neg (fun e => by rw [e] at hlen; simp at hlen; omega)]

end Go.Proofs.Ytdhmicpoigoleab

/- The contracts of the model's 'l5Text', 'l5Lyndon' and 'LyndonIn'. -/

namespace Go.Proofs.Ytdhmicpoigoleab
open Go.RowKit

/-- At most twelve generators. -/
def text12 (s : ByteArray) : Bool := s.data.toList.all genB && decide (s.size ≤ 12)
/-- Less than each of its ends. -/
def lynL (l : List UInt8) : Bool := decide (0 < l.length) && (List.range (l.length - 1)).all fun i => Op.bytesLess l (l.drop (i + 1))
def lynB (s : ByteArray) : Bool := text12 s && lynL s.data.toList
theorem text12_false (s : ByteArray) (k : Nat) (hk : k < s.data.toList.length) (h : genB s.data.toList[k] = false) : text12 s = false := by
  unfold text12; rw [List.all_eq_false.2 ⟨_, List.getElem_mem hk, by rw [h]; exact Bool.false_ne_true⟩]; rfl

set_option maxRecDepth 100000 in
set_option maxHeartbeats 1000000 in
theorem sText_is (s : ByteArray) (b : Bool) (w : World) (hs : s.size ≤ maxLen) (hb : text12 s = b) :
    Calls Try.prog 45 #[.string s] w fun e w' => e = .returned (.bool b) ∧ w = w' := by
  have HB := Lib.hid hb
  unfold maxLen at hs
  clear hb
  go_enter Try.func45, Try.ntmps45
  go_wp2
  go_loopw [3] (fun i wr => ∃ k : Nat, k ≤ s.size ∧ i = .int .i64 k ∧ Hid ((s.data.toList.take k).all genB = true) ∧ w = wr) (fun i _ => s.size - (intOf i).toNat)
  case atStart => exact ⟨0, Nat.zero_le _, rfl, Lib.hid rfl, rfl⟩
  case round =>
    obtain ⟨k, hk, rfl, HG, rfl⟩ := hrel
    by_cases hlt : k < s.size
    · have hl : k < s.data.toList.length := by simpa using hlt
      have hstep : (s.data.toList.take (k + 1)).all genB = genB s[k] := by rw [take_snoc _ k hl, List.all_append, HG.out, Bool.true_and]; simp; rfl
      have HS := Lib.hid hstep
      have HF : Hid (genB s[k] = false → b = false) := Lib.hid fun h => by rw [← HB.out]; exact text12_false s k hl h
      clear hstep
      by_cases h1 : 97 ≤ s[k].toNat
      · by_cases h2 : s[k].toNat ≤ 100
        · have hg : genB s[k] = true := by unfold genB; rw [decide_eq_true h1, decide_eq_true h2]; rfl
          have HGT := Lib.hid hg
          clear hg
          go_wp2_with fail
          go_roundw
          case rel => exact ⟨k + 1, by omega, by go_num, Lib.hid (by rw [HS.out]; exact HGT.out), trivial⟩
          case measure => simp [intOf]; omega
        · have hg : genB s[k] = false := by unfold genB; rw [decide_eq_false h2, Bool.and_false]
          have hbf := HF.out hg
          clear hg
          subst hbf
          go_wp2_with fail
          go_ret
          exact ⟨rfl, rfl⟩
      · have hg : genB s[k] = false := by unfold genB; rw [decide_eq_false h1]; rfl
        have hbf := HF.out hg
        clear hg
        subst hbf
        go_wp2_with fail
        go_ret
        exact ⟨rfl, rfl⟩
    · have hall : s.data.toList.all genB = true := by rw [← HG.out, List.take_of_length_le (by simp; omega)]
      have hbb : decide (s.size ≤ 12) = b := by rw [← HB.out]; unfold text12; rw [hall, Bool.true_and]
      have HBB := Lib.hid hbb
      clear hbb hall
      go_wp2_with fail
      go_ret
      exact ⟨ret_bool (by rw [← HBB.out]; exact decide_eq_decide.2 (by omega)), rfl⟩

theorem extract_drop (s : ByteArray) (i : Nat) : (s.extract i s.size).toList = s.data.toList.drop i := by
  rw [ByteArray.toList_eq, Lib.extract_data]
  apply List.take_of_length_le
  rw [List.length_drop]
  have : s.data.toList.length = s.size := by simp
  omega

/-- How the end from i on compares. -/
theorem end_cmp {s : ByteArray} {i : Nat} (hi : 0 < i) (hs : 0 < s.size) {r : Bool} (h : Op.bytesLess s.data.toList (s.data.toList.drop i) = r) :
    Op.bytesLess (s.extract i s.size).toList s.toList = !r ∧ ((s.extract i s.size).toList == s.toList) = false := by
  rw [extract_drop, ByteArray.toList_eq]
  have hne : s.data.toList.drop i ≠ s.data.toList := fun e => by
    have h1 := congrArg List.length e
    have h2 : s.data.toList.length = s.size := by simp
    rw [List.length_drop] at h1
    omega
  refine ⟨?_, by simpa using hne⟩
  cases r with
  | true =>
    cases h2 : Op.bytesLess (s.data.toList.drop i) s.data.toList with
    | false => rfl
    | true => have := bl_trans _ _ _ h h2; rw [bl_irrefl] at this; cases this
  | false =>
    cases h2 : Op.bytesLess (s.data.toList.drop i) s.data.toList with
    | true => rfl
    | false => exact absurd (bl_tri _ _ h2 h) hne

set_option maxRecDepth 100000 in
set_option maxHeartbeats 1000000 in
theorem sLyn_is (s : ByteArray) (b : Bool) (w : World) (hs : s.size ≤ maxLen) (hb : lynL s.data.toList = b) :
    Calls Try.prog 46 #[.string s] w fun e w' => e = .returned (.bool b) ∧ w = w' := by
  have HB := Lib.hid hb
  have hln : s.data.toList.length = s.size := by simp
  have HL := Lib.hid hln
  unfold maxLen at hs
  clear hb hln
  go_enter Try.func46, Try.ntmps46
  go_wp2
  go_loopw [3] (fun i wr => ∃ k : Nat, (k ≤ s.size - 1) ∧ i = .int .i64 ((k + 1 : Nat) : Int) ∧ Hid ((List.range k).all (fun i => Op.bytesLess s.data.toList (s.data.toList.drop (i + 1))) = true) ∧ w = wr) (fun i _ => s.size - (intOf i).toNat)
  case atStart => exact ⟨0, Nat.zero_le _, rfl, Lib.hid rfl, rfl⟩
  case round =>
    obtain ⟨k, hk, rfl, HG, rfl⟩ := hrel
    by_cases hlt : k + 1 < s.size
    · have hlt1 : (k : Int) + 1 < s.size := by omega
      have hge1 : 0 ≤ (k : Int) + 1 := by omega
      have hle1 : (k : Int) + 1 ≤ s.size := by omega
      cases hq : Op.bytesLess s.data.toList (s.data.toList.drop (k + 1)) with
      | true =>
        obtain ⟨hq2, hq3⟩ := end_cmp (by omega) (by omega) hq
        have HQ := Lib.hid hq
        clear hq
        go_wp2_with fail
        go_roundw
        case rel => exact ⟨k + 1, by omega, by go_num, Lib.hid (by rw [List.range_succ, List.all_append, HG.out, Bool.true_and]; simp [HQ.out]), trivial⟩
        case measure => simp [intOf]; omega
      | false =>
        obtain ⟨hq2, hq3⟩ := end_cmp (by omega) (by omega) hq
        have hbf : b = false := by
          rw [← HB.out]
          unfold lynL
          rw [List.all_eq_false.2 ⟨k, List.mem_range.2 (by rw [HL.out]; omega), by rw [hq]; exact Bool.false_ne_true⟩, Bool.and_false]
        subst hbf
        clear hq
        go_wp2_with fail
        go_ret
        exact ⟨rfl, rfl⟩
    · have hall : (List.range (s.data.toList.length - 1)).all (fun i => Op.bytesLess s.data.toList (s.data.toList.drop (i + 1))) = true := by
        rw [HL.out, show s.size - 1 = k by omega]; exact HG.out
      have hbb : decide (0 < s.size) = b := by rw [← HB.out]; unfold lynL; rw [hall, Bool.and_true, HL.out]
      have HBB := Lib.hid hbb
      have hlt1 : ¬ (k : Int) + 1 < s.size := by omega
      clear hbb hall
      go_wp2_with fail
      go_ret
      exact ⟨ret_bool (by rw [← HBB.out]), rfl⟩

theorem sLyndonIn_is (s : ByteArray) (b : Bool) (w : World) (hs : s.size ≤ maxLen) (hb : lynB s = b) :
    Calls Try.prog 25 #[.string s] w fun e w' => e = .returned (.bool b) ∧ w = w' := by
  obtain ⟨b1, h1⟩ : ∃ b1, text12 s = b1 := ⟨_, rfl⟩
  obtain ⟨b2, h2⟩ : ∃ b2, lynL s.data.toList = b2 := ⟨_, rfl⟩
  have hbb : (b1 && b2) = b := by rw [← h1, ← h2]; exact hb
  have H1 := Lib.hid h1
  have H2 := Lib.hid h2
  have HB := Lib.hid hbb
  clear h1 h2 hb hbb
  cases b1 with
  | false =>
    obtain rfl : false = b := HB.out
    go_enter Try.func25, Try.ntmps25
    go_wp2_with fail
    refine (sText_is s false _ hs H1.out).mono ?_
    rintro e w1 ⟨rfl, rfl⟩
    go_wp2
    go_ret
    exact ⟨rfl, rfl⟩
  | true =>
    obtain rfl : b2 = b := HB.out
    go_enter Try.func25, Try.ntmps25
    go_wp2_with fail
    refine (sText_is s true _ hs H1.out).mono ?_
    rintro e w1 ⟨rfl, rfl⟩
    go_wp2_with fail
    refine (sLyn_is s b2 _ hs H2.out).mono ?_
    rintro e w1 ⟨rfl, rfl⟩
    go_wp2
    go_ret
    exact ⟨rfl, rfl⟩

end Go.Proofs.Ytdhmicpoigoleab

/- The contract of the model's 'LyndonSplit'. -/

namespace Go.Proofs.Ytdhmicpoigoleab
open Go.RowKit

/-- The place, from i on, of the first end that is a Lyndon word. -/
def splitF (l : List UInt8) : Nat → Nat → Nat
  | 0, i => i
  | f + 1, i => if lynL (l.drop i) then i else splitF l f (i + 1)
def splitI (l : List UInt8) : Nat := splitF l l.length 1
theorem splitF_at {l : List UInt8} : ∀ {f i0 i : Nat}, i0 ≤ i → i < i0 + f → (∀ j, i0 ≤ j → j < i → lynL (l.drop j) = false) → lynL (l.drop i) = true → splitF l f i0 = i
  | 0, i0, i, h1, h2, _, _ => by omega
  | f + 1, i0, i, h1, h2, h3, h4 => by
    rw [splitF]
    by_cases e : i0 = i
    · subst e; rw [if_pos h4]
    · rw [if_neg (by rw [h3 i0 (Nat.le_refl _) (by omega)]; exact Bool.false_ne_true)]
      exact splitF_at (by omega) (by omega) (fun j h5 h6 => h3 j (by omega) h6) h4
theorem lyn_one (l : List UInt8) (h : l.length = 1) : lynL l = true := by
  unfold lynL; rw [h]; rfl
/-- What LyndonSplit answers. -/
def split12 (s : ByteArray) : Bool := lynB s && !(decide (s.size < 2))

set_option maxRecDepth 100000 in
set_option maxHeartbeats 2000000 in
theorem sLyndonSplit_no (s : ByteArray) (w : World) (hs : s.size ≤ maxLen) (hb : split12 s = false) :
    Calls Try.prog 26 #[.string s] w fun e w' => e = .returned (.tuple #[.string { data := #[] }, .string { data := #[] }, .bool false]) ∧ w = w' := by
  unfold split12 at hb
  cases h1 : lynB s with
  | false =>
    have H1 := Lib.hid h1
    clear h1 hb
    go_enter Try.func26, Try.ntmps26
    go_wp2_with fail
    refine (sLyndonIn_is s false _ hs H1.out).mono ?_
    rintro e w1 ⟨rfl, rfl⟩
    go_wp2
    go_ret3
    exact ⟨rfl, rfl⟩
  | true =>
    rw [h1, Bool.true_and] at hb
    have h0 : s.size < 2 := by simpa using hb
    have hi0 : (s.size : Int) < 2 := by omega
    have H1 := Lib.hid h1
    clear h1 hb h0
    go_enter Try.func26, Try.ntmps26
    go_wp2_with fail
    refine (sLyndonIn_is s true _ hs H1.out).mono ?_
    rintro e w1 ⟨rfl, rfl⟩
    go_wp2
    go_ret3
    exact ⟨rfl, rfl⟩

set_option maxRecDepth 100000 in
set_option maxHeartbeats 4000000 in
theorem sLyndonSplit_yes (s : ByteArray) (w : World) (hs : s.size ≤ maxLen) (hb : split12 s = true) :
    Calls Try.prog 26 #[.string s] w fun e w' => e = .returned (.tuple #[.string (s.extract 0 (splitI s.data.toList)), .string (s.extract (splitI s.data.toList) s.size), .bool true]) ∧ Below w.heap.size w w' := by
  unfold split12 at hb
  simp only [Bool.and_eq_true, Bool.not_eq_true', decide_eq_false_iff_not] at hb
  obtain ⟨h1, h0⟩ := hb
  have hs12 : s.size ≤ 12 := by
    unfold lynB text12 at h1
    simp only [Bool.and_eq_true, decide_eq_true_eq] at h1
    exact h1.1.2
  have hi0 : ¬ (s.size : Int) < 2 := by omega
  have hdi : decide ((s.size : Int) < 2) = false := decide_eq_false hi0
  have hln : s.data.toList.length = s.size := by simp
  have HLn := Lib.hid hln
  have hmx : Try.prog.follows .mixedOrders = true := by kernel_rfl
  have H1 := Lib.hid h1
  clear h1 hln
  go_enter Try.func26, Try.ntmps26
  go_wp2_with fail
  refine (sLyndonIn_is s true _ hs H1.out).mono ?_
  rintro e w1 ⟨rfl, rfl⟩
  go_wp2
  go_loopw [5] (fun i wr => ∃ k : Nat, 1 ≤ k ∧ k < s.size ∧ i = .int .i64 k ∧ Hid (∀ j, 1 ≤ j → j < k → lynL (s.data.toList.drop j) = false) ∧ w = wr) (fun i _ => s.size - (intOf i).toNat)
  case atStart => exact ⟨1, Nat.le_refl _, by omega, rfl, Lib.hid (fun j h1 h2 => by omega), rfl⟩
  case round =>
    obtain ⟨k, hk1, hk, rfl, HJ, rfl⟩ := hrel
    have hle : (k : Int) ≤ s.size := by omega
    have hge : 0 ≤ (k : Int) := by omega
    obtain ⟨x, hx⟩ : ∃ x, s.extract k s.size = x := ⟨_, rfl⟩
    have hxl : x.data.toList = s.data.toList.drop k := by rw [← hx, ← extract_drop, ByteArray.toList_eq]
    have hxs : x.size ≤ maxLen := by
      have : x.data.toList.length = x.size := by simp
      rw [hxl, List.length_drop, HLn.out] at this
      unfold maxLen; omega
    cases hl : lynL (s.data.toList.drop k) with
    | true =>
      have HSp : Hid (splitI s.data.toList = k) := Lib.hid (splitF_at hk1 (by rw [HLn.out]; omega) HJ.out hl)
      have HL : Hid (lynL x.data.toList = true) := Lib.hid (by rw [hxl]; exact hl)
      have HX := Lib.hid hx
      clear hl hxl
      go_wp2_with fail
      refine (sLyn_is x true _ hxs HL.out).mono ?_
      rintro e w1 ⟨rfl, rfl⟩
      go_wp2
      refine wp_region_below hmx (by kernel_rfl) ?_
      repeat (((with_reducible refine wpQuiet_step (fun K hK => ?_)); go_simp; first | ((with_reducible refine hK _ ?_); clear hK K) | (refine (if_neg (by decide)).mpr ?_; (with_reducible refine hK _ ?_); clear hK K)))
      with_reducible refine wpQuiet_nil ?_
      rintro W ⟨⟨W, hW⟩, rfl⟩
      go_wp2
      go_ret3
      exact ⟨by rw [HSp.out, HX.out]; rfl, hW⟩
    | false =>
      have hk2 : k + 1 < s.size := by
        by_cases h : k + 1 = s.size
        · have := lyn_one (s.data.toList.drop k) (by rw [List.length_drop, HLn.out]; omega)
          rw [this] at hl; cases hl
        · omega
      have HL : Hid (lynL x.data.toList = false) := Lib.hid (by rw [hxl]; exact hl)
      have HLk := Lib.hid hl
      clear hl hxl
      go_wp2_with fail
      refine (sLyn_is x false _ hxs HL.out).mono ?_
      rintro e w1 ⟨rfl, rfl⟩
      go_wp2
      go_roundw
      case rel =>
        refine ⟨k + 1, by omega, hk2, by go_num, Lib.hid fun j h1 h2 => ?_, by trivial⟩
        by_cases e : j = k
        · subst e; exact HLk.out
        · exact HJ.out j h1 (by omega)
      case measure => simp [intOf]; omega

end Go.Proofs.Ytdhmicpoigoleab

/- The contract of the model's 'LyndonBracket'. -/

namespace Go.Proofs.Ytdhmicpoigoleab
open Go.RowKit

theorem splitF_low (l : List UInt8) : ∀ f i, i ≤ splitF l f i
  | 0, _ => Nat.le_refl _
  | f + 1, i => by
    rw [splitF]
    split
    · exact Nat.le_refl _
    · exact Nat.le_trans (Nat.le_succ i) (splitF_low l f (i + 1))
theorem splitF_high {l : List UInt8} : ∀ {f i0 i : Nat}, i0 ≤ i → i < i0 + f → lynL (l.drop i) = true → splitF l f i0 ≤ i
  | 0, i0, i, h1, h2, _ => by omega
  | f + 1, i0, i, h1, h2, h3 => by
    rw [splitF]
    split
    · exact h1
    · rename_i hn
      by_cases e : i0 = i
      · subst e; exact absurd h3 hn
      · exact splitF_high (by omega) (by omega) h3
theorem splitI_in {l : List UInt8} (h : 2 ≤ l.length) : 1 ≤ splitI l ∧ splitI l < l.length := by
  refine ⟨splitF_low l _ 1, ?_⟩
  have := splitF_high (l := l) (f := l.length) (i0 := 1) (i := l.length - 1) (by omega) (by omega) (lyn_one _ (by rw [List.length_drop]; omega))
  unfold splitI
  omega
/-- The bracket, at most so deep. -/
def bracketF : Nat → ByteArray → Option ByteArray
  | 0, _ => none
  | f + 1, s => if lynB s = false then none else if s.size = 1 then some s else
    (bracketF f (s.extract 0 (splitI s.data.toList))).bind fun x => (bracketF f (s.extract (splitI s.data.toList) s.size)).bind fun y => commO x y
/-- What LyndonBracket answers. -/
def bracketO (s : ByteArray) : Option ByteArray := bracketF 12 s
theorem bracket_size : ∀ {f : Nat} {s t : ByteArray}, bracketF f s = some t → t.size ≤ 60
  | 0, _, _, h => by cases h
  | f + 1, s, t, h => by
    rw [bracketF] at h
    split at h
    · cases h
    · split at h
      · rename_i h1
        cases h; omega
      · cases hx : bracketF f (s.extract 0 (splitI s.data.toList)) with
        | none => rw [hx] at h; cases h
        | some x =>
          rw [hx, Option.bind_some] at h
          cases hy : bracketF f (s.extract (splitI s.data.toList) s.size) with
          | none => rw [hy] at h; cases h
          | some y => rw [hy, Option.bind_some] at h; exact commO_size h
theorem lynB_size {s : ByteArray} (h : lynB s = true) : s.size ≤ 12 ∧ 0 < s.size := by
  unfold lynB text12 lynL at h
  simp only [Bool.and_eq_true, decide_eq_true_eq] at h
  exact ⟨h.1.2, by have := h.2.1; simpa using this⟩

set_option maxRecDepth 100000 in
theorem sBracket_no (s : ByteArray) (w : World) (hs : s.size ≤ maxLen) (hb : lynB s = false) :
    Calls Try.prog 11 #[.string s] w fun e w' => e = .returned (.tuple #[.string { data := #[] }, .bool false]) ∧ Below w.heap.size w w' := by
  have H := Lib.hid hb
  clear hb
  go_enter Try.func11, Try.ntmps11
  go_wp2_with fail
  refine (sLyndonIn_is s false _ hs H.out).mono ?_
  rintro e w1 ⟨rfl, rfl⟩
  go_wp2
  go_ret2
  exact ⟨rfl, Below.refl _ _⟩

set_option maxRecDepth 100000 in
set_option maxHeartbeats 4000000 in
theorem sBracket_in (k : Nat) : ∀ (s : ByteArray) (w : World), s.size ≤ k → s.size ≤ maxLen →
    Calls Try.prog 11 #[.string s] w fun e w' => e = .returned (.tuple #[.string ((bracketF k s).getD { data := #[] }), .bool (bracketF k s).isSome]) ∧ Below w.heap.size w w' := by
  induction k with
  | zero =>
    intro s w hk hs
    have h : lynB s = false := by
      cases h : lynB s with
      | false => rfl
      | true => have := (lynB_size h).2; omega
    exact sBracket_no s w hs h
  | succ k ih =>
    intro s w hk hs
    cases hl : lynB s with
    | false =>
      have e : bracketF (k + 1) s = none := by rw [bracketF, if_pos hl]
      rw [e]
      exact sBracket_no s w hs hl
    | true =>
      obtain ⟨h12, h0⟩ := lynB_size hl
      have hnl : ¬ lynB s = false := by rw [hl]; exact Bool.noConfusion
      by_cases h1 : s.size = 1
      · have e : bracketF (k + 1) s = some s := by rw [bracketF, if_neg hnl, if_pos h1]
        rw [e]
        have hi1 : (s.size : Int) = 1 := by omega
        have hbe : ((s.size : Int) == 1) = true := by simp [h1]
        have H := Lib.hid hl
        clear hl hnl e ih h1
        go_enter Try.func11, Try.ntmps11
        go_wp2_with fail
        refine (sLyndonIn_is s true _ hs H.out).mono ?_
        rintro e w1 ⟨rfl, rfl⟩
        go_wp2
        go_ret2
        exact ⟨rfl, Below.refl _ _⟩
      · have hln : s.data.toList.length = s.size := by simp
        obtain ⟨hi1, hi2⟩ := splitI_in (l := s.data.toList) (by rw [hln]; omega)
        have e : bracketF (k + 1) s = (bracketF k (s.extract 0 (splitI s.data.toList))).bind fun x => (bracketF k (s.extract (splitI s.data.toList) s.size)).bind fun y => commO x y := by rw [bracketF, if_neg hnl, if_neg h1]
        rw [e]
        have hsp := sLyndonSplit_yes s w hs (by unfold split12; rw [hl, Bool.true_and]; simpa using (by omega : 2 ≤ s.size))
        obtain ⟨i, hi⟩ : ∃ i, splitI s.data.toList = i := ⟨_, rfl⟩
        rw [hi] at hsp hi1 hi2 ⊢
        rw [hln] at hi2
        obtain ⟨p, hp⟩ : ∃ p, s.extract 0 i = p := ⟨_, rfl⟩
        obtain ⟨q, hq⟩ : ∃ q, s.extract i s.size = q := ⟨_, rfl⟩
        have sp : p.size = i := by rw [← hp, ByteArray.size_extract]; omega
        have sq : q.size = s.size - i := by rw [← hq, ByteArray.size_extract]; omega
        rw [hp, hq] at hsp ⊢
        obtain ⟨op, hop⟩ : ∃ o, bracketF k p = o := ⟨_, rfl⟩
        obtain ⟨oq, hoq⟩ : ∃ o, bracketF k q = o := ⟨_, rfl⟩
        have H1 : Hid (∀ W, Calls Try.prog 11 #[.string p] W fun e w' => e = .returned (.tuple #[.string (op.getD { data := #[] }), .bool op.isSome]) ∧ Below W.heap.size W w') := Lib.hid fun W => by
          rw [← hop]; exact ih p W (by omega) (by unfold maxLen; omega)
        have H2 : Hid (∀ W, Calls Try.prog 11 #[.string q] W fun e w' => e = .returned (.tuple #[.string (oq.getD { data := #[] }), .bool oq.isSome]) ∧ Below W.heap.size W w') := Lib.hid fun W => by
          rw [← hoq]; exact ih q W (by omega) (by unfold maxLen; omega)
        rw [hop, hoq]
        have hpm : ∀ x, op = some x → x.size ≤ maxLen := fun x hx => by have := bracket_size (hop.trans hx); unfold maxLen; omega
        have hqm : ∀ x, oq = some x → x.size ≤ maxLen := fun x hx => by have := bracket_size (hoq.trans hx); unfold maxLen; omega
        have HPM := Lib.hid hpm
        have HQM := Lib.hid hqm
        have HSP := Lib.hid hsp
        have HL := Lib.hid hl
        have hn1 : ¬ (s.size : Int) = 1 := by omega
        have hbe : ((s.size : Int) == 1) = false := by simp; omega
        clear hl hnl e ih hsp hop hoq hp hq sp sq hln hi hpm hqm
        go_enter Try.func11, Try.ntmps11
        go_wp2_with fail
        refine (sLyndonIn_is s true _ hs HL.out).mono ?_
        rintro e w1 ⟨rfl, rfl⟩
        go_wp2_with fail
        refine HSP.out.mono ?_
        rintro e w1 ⟨rfl, hb1⟩
        have HB1 := Lib.hid hb1
        clear hb1
        go_wp2_with fail
        refine (H1.out _).mono ?_
        rintro e w2 ⟨rfl, hb2⟩
        have HB2 := Lib.hid (HB1.out.trans (hb2.mono HB1.out.size))
        clear hb2
        go_wp2_with fail
        refine (H2.out _).mono ?_
        rintro e w3 ⟨rfl, hb3⟩
        have HB3 := Lib.hid (HB2.out.trans (hb3.mono HB2.out.size))
        clear hb3
        cases op with
        | none =>
          go_wp2
          go_ret2
          exact ⟨rfl, HB3.out⟩
        | some x =>
          cases oq with
          | none =>
            go_wp2
            go_ret2
            exact ⟨rfl, HB3.out⟩
          | some y =>
            obtain ⟨o, ho⟩ : ∃ o, commO x y = o := ⟨_, rfl⟩
            have HO := Lib.hid ho
            have hxm := HPM.out x rfl
            have hym := HQM.out y rfl
            clear ho
            go_wp2_with fail
            refine (sComm_any x y o _ hxm hym HO.out).mono ?_
            rintro e w4 ⟨rfl, hb4⟩
            have HB4 := Lib.hid (HB3.out.trans (hb4.mono HB3.out.size))
            clear hb4
            go_wp2
            go_ret2
            exact ⟨by rw [show ((some x).bind fun x => (some y).bind fun y => commO x y) = o from HO.out]; rfl, HB4.out⟩

theorem sLyndonBracket_any (s : ByteArray) (o : Option ByteArray) (w : World) (hs : s.size ≤ maxLen) (ho : bracketO s = o) :
    Calls Try.prog 11 #[.string s] w fun e w' => e = .returned (.tuple #[.string (o.getD { data := #[] }), .bool o.isSome]) ∧ Below w.heap.size w w' := by
  subst ho
  unfold bracketO
  cases hl : lynB s with
  | false =>
    have e : bracketF 12 s = none := by rw [bracketF, if_pos hl]
    rw [e]
    exact sBracket_no s w hs hl
  | true => exact sBracket_in 12 s w (lynB_size hl).1 hs

end Go.Proofs.Ytdhmicpoigoleab

/- The contract of the model's 'LyndonFactors'. -/

namespace Go.Proofs.Ytdhmicpoigoleab
open Go.RowKit Go.Shelf

/-- The length of the longest beginning, at most n letters, that is a Lyndon word. -/
def prefN (l : List UInt8) : Nat → Nat
  | 0 => 0
  | n + 1 => if lynL (l.take (n + 1)) then n + 1 else prefN l n
theorem prefN_at {l : List UInt8} : ∀ {m n : Nat}, n ≤ m → 0 < n → (∀ j, n < j → j ≤ m → lynL (l.take j) = false) → lynL (l.take n) = true → prefN l m = n
  | 0, n, h1, h2, _, _ => by omega
  | m + 1, n, h1, h2, h3, h4 => by
    rw [prefN]
    by_cases e : n = m + 1
    · subst e; rw [if_pos h4]
    · rw [if_neg (by rw [h3 (m + 1) (by omega) (Nat.le_refl _)]; exact Bool.false_ne_true)]
      exact prefN_at (by omega) h2 (fun j h5 h6 => h3 j h5 (by omega)) h4
/-- The factors, at most so many. -/
def factF : Nat → ByteArray → List ByteArray
  | 0, _ => []
  | f + 1, s => if s.size = 0 then [] else s.extract 0 (prefN s.data.toList s.size) :: factF f (s.extract (prefN s.data.toList s.size) s.size)
theorem lyn_one' (l : List UInt8) (h : l.length = 1) : lynL l = true := by
  unfold lynL; rw [h]; rfl
theorem factF_len : ∀ (f : Nat) (s : ByteArray), (factF f s).length ≤ f
  | 0, _ => Nat.le_refl _
  | f + 1, s => by
    rw [factF]
    split
    · simp
    · have := factF_len f (s.extract (prefN s.data.toList s.size) s.size)
      rw [List.length_cons]; omega
def factL (s : ByteArray) : List ByteArray := factF 12 s

/-- What a function of the model hands back: a list of texts. -/
def SStrs (w : World) (b : Bool) (zs : List ByteArray) (e : Ending) (w' : World) : Prop := (∃ v', e = .returned (.tuple #[v', .bool b]) ∧ OwnS w.heap.size w' v' (cond b zs [])) ∧ Below w.heap.size w w'
theorem ownS_made (w : World) : OwnS w.heap.size (w.alloc (.cells #[] 9)) (.slice (some ⟨w.heap.size, 0, none⟩) 0 0) [] :=
  World.ownsRow_made w #[] 0 (Nat.le_refl _) (Nat.zero_le _) rfl
theorem OwnS.mono {b1 b2 : Nat} {w : World} {v : Value} {zs : List ByteArray} (h : OwnS b1 w v zs) (hb : b2 ≤ b1) : OwnS b2 w v zs := ownsRow_base h hb

set_option maxRecDepth 100000 in
theorem sFactors_no (s : ByteArray) (w : World) (hs : s.size ≤ maxLen) (hb : text12 s = false) :
    Calls Try.prog 40 #[.string s] w (SStrs w false []) := by
  have H := Lib.hid hb
  clear hb
  go_enter Try.func40, Try.ntmps40
  go_wp2_with fail
  refine (sText_is s false _ hs H.out).mono ?_
  rintro e w1 ⟨rfl, rfl⟩
  go_wp2
  go_ret2
  exact ⟨⟨_, rfl, ownS_made w⟩, (Below.refl _ _).alloc (Nat.le_refl _) _⟩

set_option maxRecDepth 100000 in
set_option maxHeartbeats 4000000 in
theorem sFactors_yes (s : ByteArray) (w : World) (hs : s.size ≤ maxLen) (hb : text12 s = true) :
    Calls Try.prog 40 #[.string s] w (SStrs w true (factL s)) := by
  obtain ⟨i0, hi, hz0, hz1, hz2⟩ := info_parts infoStr
  have hs12 : s.size ≤ 12 := by unfold text12 at hb; simp only [Bool.and_eq_true, decide_eq_true_eq] at hb; exact hb.2
  have H := Lib.hid hb
  clear hb
  go_enter Try.func40, Try.ntmps40
  go_wp2_with fail
  refine (sText_is s true _ hs H.out).mono ?_
  rintro e w1 ⟨rfl, rfl⟩
  go_wp2
  go_loopw [0, 4] (fun t v wr => ∃ (r : ByteArray) (zs : List ByteArray) (f : Nat), t = .string r ∧ r.size ≤ f ∧ f ≤ 12 ∧ zs.length + f ≤ 12 ∧ Hid (zs ++ factF f r = factL s) ∧ Hid (OwnS w.heap.size wr v zs) ∧ Below w.heap.size w wr) (fun t _ _ => match t with | .string r => r.size | _ => 0)
  case atStart => exact ⟨s, [], 12, rfl, hs12, Nat.le_refl _, by simp, Lib.hid rfl, Lib.hid (ownS_made w), (Below.refl _ _).alloc (Nat.le_refl _) _⟩
  case round =>
    obtain ⟨r, zs, f, rfl, hrf, hf, hzf, HF, HO, hB⟩ := hrel
    by_cases h0 : r.size = 0
    · have hd0 : ¬ (0 : Int) < r.size := by omega
      have hfe : factF f r = [] := by
        cases f with
        | zero => rfl
        | succ f => rw [factF, if_pos h0]
      have hz : zs = factL s := by rw [← HF.out, hfe, List.append_nil]
      have HZ := Lib.hid hz
      have HH := HO
      clear hfe hz
      go_wp2
      go_ret2
      exact ⟨⟨_, rfl, by rw [← HZ.out]; exact HH.out⟩, hB⟩
    · have hd0 : (0 : Int) < r.size := by omega
      have hd00 : 0 < r.size := by omega
      have hdd : decide ((0 : Int) < r.size) = true := decide_eq_true hd0
      have hdd0 : decide (0 < r.size) = true := decide_eq_true hd00
      obtain ⟨wo, rfl⟩ : ∃ wo : World, wo = wr := ⟨_, rfl⟩
      have hln : r.data.toList.length = r.size := by simp
      have HLn := Lib.hid hln
      obtain ⟨g, rfl⟩ : ∃ g, f = g + 1 := ⟨f - 1, by omega⟩
      have hr12 : r.size ≤ 12 := by omega
      clear hln
      go_wp2
      go_loopw [5] (fun i wr => ∃ n : Nat, 1 ≤ n ∧ n ≤ r.size ∧ i = .int .i64 n ∧ Hid (∀ j, n < j → j ≤ r.size → lynL (r.data.toList.take j) = false) ∧ wo = wr) (fun i _ => (intOf i).toNat)
      case atStart => exact ⟨r.size, by omega, Nat.le_refl _, rfl, Lib.hid (fun j h1 h2 => by omega), rfl⟩
      case round =>
        obtain ⟨n, hn1, hn, rfl, HJ, rfl⟩ := hrel
        have hle : (n : Int) ≤ r.size := by omega
        have hge : 0 ≤ (n : Int) := by omega
        obtain ⟨x, hx⟩ : ∃ x, r.extract 0 n = x := ⟨_, rfl⟩
        have hxl : x.data.toList = r.data.toList.take n := by rw [← hx, extract_take, bstr_toList]
        have hxs : x.size ≤ maxLen := by rw [← hx, ByteArray.size_extract]; unfold maxLen; omega
        cases hl : lynL (r.data.toList.take n) with
        | true =>
          have HPn : Hid (prefN r.data.toList r.size = n) := Lib.hid (prefN_at hn (by omega) HJ.out hl)
          have HL : Hid (lynL x.data.toList = true) := Lib.hid (by rw [hxl]; exact hl)
          obtain ⟨y, hy⟩ : ∃ y, r.extract n r.size = y := ⟨_, rfl⟩
          have hys : y.size = r.size - n := by rw [← hy, ByteArray.size_extract]; omega
          have HFa : Hid (factF (g + 1) r = x :: factF g y) := Lib.hid (by rw [factF, if_neg h0, HPn.out, hx, hy])
          have HYS := Lib.hid hys
          have hown := HO.out
          unfold OwnS at hown
          obtain ⟨N, hN⟩ : ∃ N, zs.length = N := ⟨_, rfl⟩
          rw [hN] at hown hzf
          have HOW := Lib.hid hown
          have HN := Lib.hid hN
          have hbs := hB.size
          clear hl hxl hown hN hys
          go_wp2_with fail
          refine (sLyn_is x true _ hxs HL.out).mono ?_
          rintro e w1 ⟨rfl, rfl⟩
          go_wp2_with (at_builtin; refine wpList_append_lies _ rfl _ _ _ rfl w.heap.size 9 i0 _ 1 16 Try.underlying23 hi hz0 hz1 hz2 rfl (by omega) u4 N (strsV zs) rfl (HOW.out.alloc _) ⟨wo.heap.size, 0, none⟩ 1 1 [.string x] rfl rfl (World.news_of_block (cs := #[.string x]) (t := 9) (fr := (0, 0)) (heap_alloc_new wo _)) (by simp [Value.oneCell']) (by omega) (by unfold maxLen; omega) (by omega) (by simp; omega) (wo.heap.size + 1) (by simp) ?_; intro gg cap1 w7 hown7 hgrow7 hat hlt7)
          have hB7 : Below w.heap.size w w7 := hB.trans (((Below.refl w.heap.size wo).alloc hbs _).grown hgrow7 (by simp; omega) (ownsRow_low HOW.out))
          have HO7 := Lib.hid hown7
          clear hown7 hgrow7 hat hlt7
          go_wp2
          go_roundw
          case rel =>
            refine ⟨y, zs ++ [x], g, rfl, by have := HYS.out; omega, by omega, by rw [List.length_append, HN.out, List.length_singleton]; omega, Lib.hid ?_, Lib.hid ?_, hB7⟩
            · rw [List.append_assoc, List.singleton_append, ← HFa.out]; exact HF.out
            · unfold OwnS
              rw [List.length_append, HN.out, show strsV (zs ++ [x]) = strsV zs ++ [.string x] by simp [strsV]]
              exact HO7.out
          case measure =>
            have := HYS.out
            show y.size < r.size
            omega
        | false =>
          have hn2 : 2 ≤ n := by
            by_cases h : n = 1
            · subst h
              have := lyn_one' (r.data.toList.take 1) (by rw [List.length_take, HLn.out]; omega)
              rw [this] at hl; cases hl
            · omega
          have HL : Hid (lynL x.data.toList = false) := Lib.hid (by rw [hxl]; exact hl)
          have HLk := Lib.hid hl
          clear hl hxl
          go_wp2_with fail
          refine (sLyn_is x false _ hxs HL.out).mono ?_
          rintro e w1 ⟨rfl, rfl⟩
          go_wp2
          go_roundw
          case rel =>
            refine ⟨n - 1, by omega, by omega, by go_num, Lib.hid fun j h1 h2 => ?_, by trivial⟩
            by_cases e : j = n
            · subst e; exact HLk.out
            · exact HJ.out j (by omega) h2
          case measure => simp [intOf]; omega

theorem sLyndonFactors_any (s : ByteArray) (b : Bool) (w : World) (hs : s.size ≤ maxLen) (hb : text12 s = b) :
    Calls Try.prog 40 #[.string s] w (SStrs w b (factL s)) := by
  cases b with
  | false => exact sFactors_no s w hs hb
  | true => exact sFactors_yes s w hs hb

end Go.Proofs.Ytdhmicpoigoleab

/- Texts and Lyndon words: how texts compare, which ones put together are Lyndon words, that both parts of a split are, and that factors do not rise. -/

namespace Go.Proofs.Ytdhmicpoigoleab
open Go.RowKit

theorem bl_pre : ∀ (p a b : List UInt8), Op.bytesLess (p ++ a) (p ++ b) = Op.bytesLess a b
  | [], _, _ => rfl
  | c :: p, a, b => by
    rw [List.cons_append, List.cons_append, Op.bytesLess, bl_pre p a b]
    simp [UInt8.lt_irrefl]
/-- At some place the first one's byte is less, and all ahead of it are equal. -/
def Apart1 (a b : List UInt8) : Prop := ∃ p x y r s, a = p ++ x :: r ∧ b = p ++ y :: s ∧ x < y
theorem bl_cases : ∀ a b : List UInt8, Op.bytesLess a b = true → (∃ r, r ≠ [] ∧ b = a ++ r) ∨ Apart1 a b
  | _, [], h => by unfold Op.bytesLess at h; cases h
  | [], y :: s, _ => .inl ⟨y :: s, by simp, rfl⟩
  | x :: r, y :: s, h => by
    unfold Op.bytesLess at h
    simp only [Bool.or_eq_true, Bool.and_eq_true, decide_eq_true_eq, beq_iff_eq] at h
    rcases h with h | ⟨rfl, h⟩
    · exact .inr ⟨[], x, y, r, s, rfl, rfl, h⟩
    · rcases bl_cases r s h with ⟨t, ht, rfl⟩ | ⟨p, u, v, r', s', rfl, rfl, huv⟩
      · exact .inl ⟨t, ht, rfl⟩
      · exact .inr ⟨x :: p, u, v, r', s', rfl, rfl, huv⟩
theorem Apart1.less {a b : List UInt8} (h : Apart1 a b) (r s : List UInt8) : Op.bytesLess (a ++ r) (b ++ s) = true := by
  obtain ⟨p, x, y, r', s', rfl, rfl, hxy⟩ := h
  rw [List.append_assoc, List.append_assoc, bl_pre, List.cons_append, List.cons_append]
  unfold Op.bytesLess
  simp [hxy]
theorem bl_longer {a r : List UInt8} (h : r ≠ []) : Op.bytesLess a (a ++ r) = true := by
  have e := bl_pre a [] r
  rw [List.append_nil] at e
  rw [e]
  cases r with
  | nil => exact absurd rfl h
  | cons x y => rfl
theorem apart_of_short {a b : List UInt8} (h : Op.bytesLess a b = true) (hl : b.length ≤ a.length) : Apart1 a b := by
  rcases bl_cases a b h with ⟨r, hr, rfl⟩ | h
  · rw [List.length_append] at hl
    have := List.length_pos_iff.2 hr
    omega
  · exact h
theorem bl_asymm {a b : List UInt8} (h : Op.bytesLess a b = true) : Op.bytesLess b a = false := by
  cases h2 : Op.bytesLess b a with
  | false => rfl
  | true => have := bl_trans _ _ _ h h2; rw [bl_irrefl] at this; cases this

def Lyn (l : List UInt8) : Prop := l ≠ [] ∧ ∀ x y, l = x ++ y → x ≠ [] → y ≠ [] → Op.bytesLess l y = true
theorem lynL_iff (l : List UInt8) : lynL l = true ↔ Lyn l := by
  unfold lynL Lyn
  simp only [Bool.and_eq_true, decide_eq_true_eq, List.all_eq_true, List.mem_range]
  constructor
  · rintro ⟨h0, h⟩
    refine ⟨fun e => by rw [e] at h0; exact Nat.lt_irrefl _ h0, ?_⟩
    rintro x y rfl hx hy
    have h1 := List.length_pos_iff.2 hx
    have h2 := List.length_pos_iff.2 hy
    have h3 := h (x.length - 1) (by rw [List.length_append]; omega)
    rwa [show x.length - 1 + 1 = x.length by omega, List.drop_left] at h3
  · rintro ⟨h0, h⟩
    refine ⟨List.length_pos_iff.2 h0, fun i hi => ?_⟩
    refine h (l.take (i + 1)) _ (List.take_append_drop _ _).symm ?_ ?_
    · intro e
      have h1 := congrArg List.length e
      rw [List.length_take, List.length_nil] at h1
      omega
    · intro e
      have h1 := congrArg List.length e
      rw [List.length_drop, List.length_nil] at h1
      omega
theorem Lyn.before {x v : List UInt8} (hx : x ≠ []) (hv : Lyn v) (h : Op.bytesLess x v = true) : Op.bytesLess (x ++ v) v = true := by
  rcases bl_cases x v h with ⟨r, hr, rfl⟩ | h
  · rw [bl_pre]; exact hv.2 x r rfl hx hr
  · have h1 := h.less v []
    rwa [List.append_nil] at h1
/-- Two Lyndon words in order make one. -/
theorem Lyn.cat {x v : List UInt8} (hx : Lyn x) (hv : Lyn v) (h : Op.bytesLess x v = true) : Lyn (x ++ v) := by
  have hxv := Lyn.before hx.1 hv h
  refine ⟨by simp [hx.1], fun p q e hp hq => ?_⟩
  rcases List.append_eq_append_iff.1 e with ⟨a, rfl, hva⟩ | ⟨c, rfl, rfl⟩
  · by_cases ha : a = []
    · subst ha
      rw [List.nil_append] at hva
      rw [← hva]; exact hxv
    · exact bl_trans _ _ _ hxv (hv.2 a q hva ha hq)
  · by_cases hc : c = []
    · subst hc
      rw [List.nil_append]; exact hxv
    · exact (apart_of_short (hx.2 p c rfl hp hc) (by rw [List.length_append]; omega)).less v v
theorem least_end : ∀ u : List UInt8, u ≠ [] → ∃ a x, u = a ++ x ∧ x ≠ [] ∧ ∀ b y, u = b ++ y → y ≠ [] → y = x ∨ Op.bytesLess x y = true
  | [], h => absurd rfl h
  | [c], _ => ⟨[], [c], rfl, by simp, fun b y e hy => by
      cases b with
      | nil => exact .inl e.symm
      | cons d b =>
        have h1 := congrArg List.length e
        have h2 := List.length_pos_iff.2 hy
        simp only [List.length_append, List.length_cons, List.length_nil] at h1
        omega⟩
  | c :: d :: r, _ => by
    obtain ⟨a, x, hax, hx, hm⟩ := least_end (d :: r) (by simp)
    cases hq : Op.bytesLess (c :: d :: r) x with
    | true =>
      refine ⟨[], c :: d :: r, rfl, by simp, fun b y e hy => ?_⟩
      cases b with
      | nil => exact .inl e.symm
      | cons f b =>
        have e2 : d :: r = b ++ y := by rw [List.cons_append] at e; exact (List.cons.inj e).2
        rcases hm b y e2 hy with rfl | h
        · exact .inr hq
        · exact .inr (bl_trans _ _ _ hq h)
    | false =>
      refine ⟨c :: a, x, by rw [hax]; rfl, hx, fun b y e hy => ?_⟩
      cases b with
      | nil =>
        have e2 : c :: d :: r = y := e
        cases h2 : Op.bytesLess x (c :: d :: r) with
        | true => exact .inr (by rw [← e2]; exact h2)
        | false => exact .inl (by rw [← e2]; exact bl_tri _ _ hq h2)
      | cons f b =>
        have e2 : d :: r = b ++ y := by rw [List.cons_append] at e; exact (List.cons.inj e).2
        exact hm b y e2 hy
theorem least_lyn {u a x : List UInt8} (hu : u = a ++ x) (hx : x ≠ []) (h : ∀ b y, u = b ++ y → y ≠ [] → y = x ∨ Op.bytesLess x y = true) : Lyn x := by
  refine ⟨hx, fun p q e hp hq => ?_⟩
  rcases h (a ++ p) q (by rw [hu, e, List.append_assoc]) hq with rfl | h
  · have h1 := congrArg List.length e
    have h2 := List.length_pos_iff.2 hp
    rw [List.length_append] at h1
    omega
  · exact h
theorem split_less {u v : List UInt8} (hs : Lyn (u ++ v)) (hu : u ≠ []) (hv : v ≠ []) : Op.bytesLess u v = true :=
  bl_trans _ _ _ (bl_longer hv) (hs.2 u v rfl hu hv)
/-- What is ahead of the longest end that is a Lyndon word is one, too. -/
theorem split_first {u v : List UInt8} (hs : Lyn (u ++ v)) (hu : u ≠ []) (hv : Lyn v) (hmax : ∀ a b, u = a ++ b → a ≠ [] → b ≠ [] → ¬ Lyn (b ++ v)) : Lyn u := by
  obtain ⟨a, x, hax, hx, hm⟩ := least_end u hu
  have hl := least_lyn hax hx hm
  by_cases ha : a = []
  · subst ha
    rw [List.nil_append] at hax
    rw [hax]; exact hl
  · exfalso
    have huv := split_less hs hu hv.1
    have hxv : Op.bytesLess x v = true := by
      rcases hm [] u rfl hu with e | h
      · rw [← e]; exact huv
      · exact bl_trans _ _ _ h huv
    exact hmax a x hax ha hx (hl.cat hv hxv)
theorem splitF_spec {l : List UInt8} : ∀ (f i0 i : Nat), i0 ≤ i → i < i0 + f → lynL (l.drop i) = true → lynL (l.drop (splitF l f i0)) = true ∧ ∀ j, i0 ≤ j → j < splitF l f i0 → lynL (l.drop j) = false
  | 0, i0, i, h1, h2, _ => by omega
  | f + 1, i0, i, h1, h2, h3 => by
    rw [splitF]
    cases hq : lynL (l.drop i0) with
    | true =>
      rw [if_pos rfl]
      exact ⟨hq, fun j h4 h5 => by omega⟩
    | false =>
      rw [if_neg Bool.false_ne_true]
      have hne : i0 ≠ i := fun e => by rw [e, h3] at hq; cases hq
      obtain ⟨h4, h5⟩ := splitF_spec f (i0 + 1) i (by omega) (by omega) h3
      refine ⟨h4, fun j h6 h7 => ?_⟩
      by_cases e : j = i0
      · rw [e]; exact hq
      · exact h5 j (by omega) h7
theorem splitI_spec {l : List UInt8} (h : 2 ≤ l.length) : lynL (l.drop (splitI l)) = true ∧ ∀ j, 1 ≤ j → j < splitI l → lynL (l.drop j) = false :=
  splitF_spec l.length 1 (l.length - 1) (by omega) (by omega) (lyn_one _ (by rw [List.length_drop]; omega))
/-- Both parts of the split are Lyndon words, in order. -/
theorem splitI_lyn {l : List UInt8} (hl : lynL l = true) (h : 2 ≤ l.length) : lynL (l.take (splitI l)) = true ∧ lynL (l.drop (splitI l)) = true ∧ Op.bytesLess (l.take (splitI l)) (l.drop (splitI l)) = true := by
  obtain ⟨h1, h2⟩ := splitI_in h
  obtain ⟨h3, h4⟩ := splitI_spec h
  have hL := (lynL_iff l).1 hl
  have e : l = l.take (splitI l) ++ l.drop (splitI l) := (List.take_append_drop _ _).symm
  have hL' : Lyn (l.take (splitI l) ++ l.drop (splitI l)) := by rw [← e]; exact hL
  have hne : l.take (splitI l) ≠ [] := fun e => by
    have := congrArg List.length e
    rw [List.length_take, List.length_nil] at this
    omega
  have hv := (lynL_iff _).1 h3
  refine ⟨(lynL_iff _).2 (split_first hL' hne hv fun a b hab ha hb hLb => ?_), h3, split_less hL' hne hv.1⟩
  have hla := List.length_pos_iff.2 ha
  have hlb := List.length_pos_iff.2 hb
  have hlen := congrArg List.length hab
  rw [List.length_take, List.length_append] at hlen
  have hd : l.drop a.length = b ++ l.drop (splitI l) := by
    have : l = a ++ (b ++ l.drop (splitI l)) := by rw [← List.append_assoc, ← hab]; exact e
    have h5 := congrArg (List.drop a.length) this
    rwa [List.drop_left] at h5
  have h6 := h4 a.length (by omega) (by omega)
  rw [hd, (lynL_iff _).2 hLb] at h6
  cases h6

/-- No end is less than the beginning with as many letters. -/
def mayL (l : List UInt8) : Bool := (List.range l.length).all fun i => !(Op.bytesLess (l.drop i) (l.take (l.length - i)))
theorem may_none {p : List UInt8} (h : mayL p = false) : ∃ i, 0 < i ∧ i < p.length ∧ Op.bytesLess (p.drop i) (p.take (p.length - i)) = true := by
  unfold mayL at h
  obtain ⟨i, hi, hb⟩ := List.all_eq_false.1 h
  rw [List.mem_range] at hi
  have hb : Op.bytesLess (p.drop i) (p.take (p.length - i)) = true := by
    cases hq : Op.bytesLess (p.drop i) (p.take (p.length - i)) with
    | true => rfl
    | false => rw [hq] at hb; exact absurd rfl hb
  refine ⟨i, ?_, hi, hb⟩
  by_cases e : i = 0
  · subst e
    rw [List.drop_zero, Nat.sub_zero, List.take_length, bl_irrefl] at hb
    cases hb
  · omega
/-- Lyndon words have no such beginning. -/
theorem may_lyn {p : List UInt8} (h : mayL p = false) (e : List UInt8) : lynL (p ++ e) = false := by
  cases hq : lynL (p ++ e) with
  | false => rfl
  | true =>
    exfalso
    obtain ⟨i, h0, hi, hb⟩ := may_none h
    have hL := (lynL_iff _).1 hq
    have ha := apart_of_short hb (by rw [List.length_take, List.length_drop]; omega)
    have h1 := ha.less e (p.drop (p.length - i) ++ e)
    rw [← List.append_assoc, List.take_append_drop] at h1
    have h2 := hL.2 (p.take i) (p.drop i ++ e) (by rw [← List.append_assoc, List.take_append_drop]) (fun e => by
      have := congrArg List.length e
      rw [List.length_take, List.length_nil] at this
      omega) (fun e => by
      have := congrArg List.length e
      rw [List.length_append, List.length_drop, List.length_nil] at this
      omega)
    have := bl_trans _ _ _ h1 h2
    rw [bl_irrefl] at this
    cases this
/-- What cannot stand behind a text rules out all lesser letters. -/
theorem may_less {b : List UInt8} {c d : UInt8} (h : mayL (b ++ [c]) = false) (hd : d < c) : mayL (b ++ [d]) = false := by
  obtain ⟨i, h0, hi, hb⟩ := may_none h
  rw [List.length_append, List.length_singleton] at hi
  have hx : ∀ z : UInt8, (b ++ [z]).drop i = b.drop i ++ [z] ∧ (b ++ [z]).take ((b ++ [z]).length - i) = b.take (b.length + 1 - i) := fun z => by
    rw [List.length_append, List.length_singleton]
    exact ⟨List.drop_append_of_le_length (by omega), List.take_append_of_le_length (by omega)⟩
  unfold mayL
  refine List.all_eq_false.2 ⟨i, by rw [List.mem_range, List.length_append, List.length_singleton]; exact hi, ?_⟩
  rw [(hx c).1, (hx c).2] at hb
  have hdc : Op.bytesLess (b.drop i ++ [d]) (b.drop i ++ [c]) = true := by
    rw [bl_pre]; unfold Op.bytesLess; simp [hd]
  rw [(hx d).1, (hx d).2, bl_trans _ _ _ hdc hb]
  exact Bool.false_ne_true

theorem prefN_spec {l : List UInt8} : ∀ (m n : Nat), 0 < n → n ≤ m → lynL (l.take n) = true → n ≤ prefN l m ∧ prefN l m ≤ m ∧ lynL (l.take (prefN l m)) = true ∧ ∀ j, prefN l m < j → j ≤ m → lynL (l.take j) = false
  | 0, n, h1, h2, _ => by omega
  | m + 1, n, h1, h2, h3 => by
    rw [prefN]
    cases hq : lynL (l.take (m + 1)) with
    | true =>
      rw [if_pos rfl]
      exact ⟨h2, Nat.le_refl _, hq, fun j h4 h5 => by omega⟩
    | false =>
      rw [if_neg Bool.false_ne_true]
      have hne : n ≠ m + 1 := fun e => by rw [e, hq] at h3; cases h3
      obtain ⟨h4, h5, h6, h7⟩ := prefN_spec m n h1 (by omega) h3
      refine ⟨h4, by omega, h6, fun j h8 h9 => ?_⟩
      by_cases e : j = m + 1
      · rw [e]; exact hq
      · exact h7 j h8 (by omega)
theorem prefN_full {l : List UInt8} (h : 0 < l.length) : 1 ≤ prefN l l.length ∧ prefN l l.length ≤ l.length ∧ lynL (l.take (prefN l l.length)) = true ∧ ∀ j, prefN l l.length < j → j ≤ l.length → lynL (l.take j) = false :=
  prefN_spec l.length 1 (by omega) (by omega) (lyn_one' _ (by rw [List.length_take]; omega))
/-- The factors of a list of letters, at most so many. -/
def factsL : Nat → List UInt8 → List (List UInt8)
  | 0, _ => []
  | f + 1, l => if l.length = 0 then [] else l.take (prefN l l.length) :: factsL f (l.drop (prefN l l.length))
theorem factF_lists : ∀ (f : Nat) (s : ByteArray), (factF f s).map (fun t => t.data.toList) = factsL f s.data.toList
  | 0, _ => rfl
  | f + 1, s => by
    have hln : s.data.toList.length = s.size := by simp
    rw [factF, factsL, hln]
    by_cases h : s.size = 0
    · rw [if_pos h, if_pos h]; rfl
    · rw [if_neg h, if_neg h, List.map_cons, factF_lists f, extract_take, bstr_toList, ← extract_drop, ByteArray.toList_eq]
/-- Factors make the text, are Lyndon words and do not rise. -/
theorem facts_make : ∀ (f : Nat) (l : List UInt8), l.length ≤ f → (factsL f l).flatten = l
  | 0, l, h => by rw [List.length_eq_zero_iff.1 (Nat.le_zero.1 h)]; rfl
  | f + 1, l, h => by
    rw [factsL]
    by_cases h0 : l.length = 0
    · rw [if_pos h0, List.length_eq_zero_iff.1 h0]; rfl
    · rw [if_neg h0, List.flatten_cons, facts_make f _ (by have := prefN_full (l := l) (by omega); rw [List.length_drop]; omega), List.take_append_drop]
theorem facts_lyn : ∀ (f : Nat) (l : List UInt8), ∀ x ∈ factsL f l, lynL x = true
  | 0, _, x, hx => by cases hx
  | f + 1, l, x, hx => by
    rw [factsL] at hx
    by_cases h0 : l.length = 0
    · rw [if_pos h0] at hx; cases hx
    · rw [if_neg h0] at hx
      rcases List.mem_cons.1 hx with rfl | hx
      · exact (prefN_full (by omega)).2.2.1
      · exact facts_lyn f _ x hx
theorem facts_fall : ∀ (f : Nat) (l : List UInt8) (k : Nat) (h : k + 1 < (factsL f l).length), Op.bytesLess ((factsL f l)[k]) ((factsL f l)[k + 1]) = false
  | 0, _, k, h => by simp [factsL] at h
  | f + 1, l, k, h => by
    by_cases h0 : l.length = 0
    · have e : factsL (f + 1) l = [] := by rw [factsL, if_pos h0]
      rw [e] at h; simp at h
    · have e : factsL (f + 1) l = l.take (prefN l l.length) :: factsL f (l.drop (prefN l l.length)) := by rw [factsL, if_neg h0]
      have hlen := congrArg List.length e
      rw [List.length_cons] at hlen
      have hget : ∀ j (hj : j < (factsL (f + 1) l).length), (factsL (f + 1) l)[j] = (l.take (prefN l l.length) :: factsL f (l.drop (prefN l l.length)))[j]'(by rw [← e]; exact hj) := fun j hj => by simp only [e]
      rw [hget, hget]
      cases k with
      | succ k =>
        rw [List.getElem_cons_succ, List.getElem_cons_succ]
        exact facts_fall f _ k (by omega)
      | zero =>
        rw [List.getElem_cons_zero, List.getElem_cons_succ]
        obtain ⟨h1, h2, h3, h4⟩ := prefN_full (l := l) (by omega)
        obtain ⟨n, hn⟩ : ∃ n, prefN l l.length = n := ⟨_, rfl⟩
        simp only [hn] at h1 h2 h3 h4 h hlen ⊢
        cases f with
        | zero =>
          rw [show factsL 0 (l.drop n) = [] from rfl, List.length_nil] at hlen
          omega
        | succ f =>
          have h0' : ¬ (l.drop n).length = 0 := fun e0 => by
            have : factsL (f + 1) (l.drop n) = [] := by rw [factsL, if_pos e0]
            rw [this] at hlen; simp at hlen; omega
          have e' : factsL (f + 1) (l.drop n) = (l.drop n).take (prefN (l.drop n) (l.drop n).length) :: factsL f ((l.drop n).drop (prefN (l.drop n) (l.drop n).length)) := by rw [factsL, if_neg h0']
          have hget0 : ∀ hj : 0 < (factsL (f + 1) (l.drop n)).length, (factsL (f + 1) (l.drop n))[0] = (l.drop n).take (prefN (l.drop n) (l.drop n).length) := fun hj => by simp only [e', List.getElem_cons_zero]
          rw [hget0]
          obtain ⟨g1, g2, g3, _⟩ := prefN_full (l := l.drop n) (by omega)
          obtain ⟨m, hm⟩ : ∃ m, prefN (l.drop n) (l.drop n).length = m := ⟨_, rfl⟩
          rw [hm] at g1 g2 g3 ⊢
          rw [List.length_drop] at g2
          cases hq : Op.bytesLess (l.take n) ((l.drop n).take m) with
          | false => rfl
          | true =>
            have hc := ((lynL_iff _).1 h3).cat ((lynL_iff _).1 g3) hq
            have ht : l.take n ++ (l.drop n).take m = l.take (n + m) := by rw [List.take_add]
            rw [ht] at hc
            have := h4 (n + m) (by omega) (by omega)
            rw [(lynL_iff _).2 hc] at this
            cases this
theorem facts_one {l : List UInt8} (h : lynL l = true) (f : Nat) : factsL (f + 1) l = [l] := by
  have h0 := ((lynL_iff _).1 h).1
  have hl := List.length_pos_iff.2 h0
  have hp : prefN l l.length = l.length := prefN_at (Nat.le_refl _) hl (fun j h1 h2 => by omega) (by rw [List.take_length]; exact h)
  rw [factsL, if_neg (by omega), hp, List.take_length, List.drop_length]
  cases f with
  | zero => rfl
  | succ f => rw [factsL, if_pos List.length_nil]

/-- Turned lists. -/
def rotL (l : List UInt8) (i : Nat) : List UInt8 := l.drop i ++ l.take i
def turnL (l : List UInt8) : Nat → List UInt8
  | 0 => l
  | k + 1 => if Op.bytesLess (rotL l (k + 1)) (turnL l k) then rotL l (k + 1) else turnL l k
theorem turn_min (l : List UInt8) : ∀ k i, i ≤ k → Op.bytesLess (rotL l i) (turnL l k) = false
  | 0, i, h => by rw [Nat.le_zero.1 h]; simp only [rotL, turnL, List.drop_zero, List.take_zero, List.append_nil]; exact bl_irrefl l
  | k + 1, i, h => by
    rw [turnL]
    cases hq : Op.bytesLess (rotL l (k + 1)) (turnL l k) with
    | true =>
      rw [if_pos rfl]
      by_cases e : i = k + 1
      · rw [e]; exact bl_irrefl _
      · cases h2 : Op.bytesLess (rotL l i) (rotL l (k + 1)) with
        | false => rfl
        | true =>
          have := bl_trans _ _ _ h2 hq
          rw [turn_min l k i (by omega)] at this; cases this
    | false =>
      rw [if_neg Bool.false_ne_true]
      by_cases e : i = k + 1
      · rw [e]; exact hq
      · exact turn_min l k i (by omega)
theorem turn_is (l : List UInt8) : ∀ k, ∃ i, i ≤ k ∧ turnL l k = rotL l i
  | 0 => ⟨0, Nat.le_refl _, by simp [rotL, turnL]⟩
  | k + 1 => by
    rw [turnL]
    split
    · exact ⟨k + 1, Nat.le_refl _, rfl⟩
    · obtain ⟨i, h, e⟩ := turn_is l k
      exact ⟨i, by omega, e⟩
theorem rot_rot {l : List UInt8} (i : Nat) (h : i + 1 ≤ l.length) : rotL (rotL l 1) i = rotL l (i + 1) := by
  unfold rotL
  cases l with
  | nil => simp at h
  | cons c r =>
    rw [List.length_cons] at h
    simp only [List.drop_succ_cons, List.drop_zero, List.take_succ_cons, List.take_zero]
    rw [List.drop_append_of_le_length (by omega), List.take_append_of_le_length (by omega), List.append_assoc]
    rfl
theorem rot_full (l : List UInt8) : rotL l l.length = l := by unfold rotL; rw [List.drop_length, List.take_length]; rfl
theorem rot_zero (l : List UInt8) : rotL l 0 = l := by unfold rotL; simp
theorem rot_len (l : List UInt8) (i : Nat) : (rotL l i).length = l.length := by unfold rotL; rw [List.length_append, List.length_drop, List.length_take]; omega
theorem turn_len (l : List UInt8) (k : Nat) : (turnL l k).length = l.length := by obtain ⟨i, _, e⟩ := turn_is l k; rw [e, rot_len]
/-- The least turn is the same for the text turned by one letter. -/
theorem turn_turned {l : List UInt8} (h : 0 < l.length) : turnL (rotL l 1) (l.length - 1) = turnL l (l.length - 1) := by
  obtain ⟨i, hi, ei⟩ := turn_is l (l.length - 1)
  obtain ⟨j, hj, ej⟩ := turn_is (rotL l 1) (l.length - 1)
  refine bl_tri _ _ ?_ ?_
  · rw [ej, rot_rot j (by omega)]
    by_cases e : j + 1 = l.length
    · rw [e, rot_full]
      have := turn_min l (l.length - 1) 0 (Nat.zero_le _)
      rwa [rot_zero] at this
    · exact turn_min l (l.length - 1) (j + 1) (by omega)
  · rw [ei]
    by_cases e : i = 0
    · rw [e, rot_zero]
      have := turn_min (rotL l 1) (l.length - 1) (l.length - 1) (Nat.le_refl _)
      rwa [rot_rot _ (by omega), show l.length - 1 + 1 = l.length by omega, rot_full] at this
    · have := turn_min (rotL l 1) (l.length - 1) (i - 1) (by omega)
      rwa [rot_rot _ (by omega), show i - 1 + 1 = i by omega] at this
theorem turn_lyn {l : List UInt8} (h : lynL l = true) : ∀ k, k < l.length → turnL l k = l
  | 0, _ => rfl
  | k + 1, hk => by
    have hL := (lynL_iff _).1 h
    have h1 := hL.2 (l.take (k + 1)) (l.drop (k + 1)) (List.take_append_drop _ _).symm (fun e => by
      have := congrArg List.length e
      rw [List.length_take, List.length_nil] at this
      omega) (fun e => by
      have := congrArg List.length e
      rw [List.length_drop, List.length_nil] at this
      omega)
    have h2 := (apart_of_short h1 (by rw [List.length_drop]; omega)).less [] (l.take (k + 1))
    rw [List.append_nil] at h2
    rw [turnL, turn_lyn h k (by omega)]
    unfold rotL
    rw [bl_asymm h2, if_neg Bool.false_ne_true]

end Go.Proofs.Ytdhmicpoigoleab

/- What the laws' proofs stand on, part 6 of several. -/
import Derived.Laws.AppendOwnNone
import Derived.Lib.AppendZerosOnto
import Derived.Lib.SliceRun
import Derived.Deep.AppendLies
import Derived.Shelf.Bits.Mul64
import Derived.Laws.CopyOwn
import Derived.RegionTactic
import Derived.Test.YtaaeiogdhmiaaaaBwa
import Derived.Test.YtaaeiogdhmiaaaaBwb
import Derived.Test.YtaaeiogdhmiaaaaBwc
import Derived.Test.YtaaeiogdhmiaaaaBwd
import Derived.Test.YtaaeiogdhmiaaaaBwe

/- How great the coefficients of the series of a word get, and how many terms it has. -/

namespace Go.Proofs.Ytaaeiogdhmiaaaa
open Go.RowKit

/-- The sum of the sizes of the coefficients of degree d; of those up to degree d. -/
def nrm (d : Nat) : List Tm → Nat
  | [] => 0
  | t :: r => (if t.s.size = d then t.c.natAbs else 0) + nrm d r
def cum (d : Nat) : List Tm → Nat
  | [] => 0
  | t :: r => (if t.s.size ≤ d then t.c.natAbs else 0) + cum d r
theorem nrm_append (d : Nat) (a b : List Tm) : nrm d (a ++ b) = nrm d a + nrm d b := by
  induction a with
  | nil => simp [nrm]
  | cons t r ih => rw [List.cons_append, nrm, nrm, ih]; omega
theorem nrm_nz (d : Nat) (t : Tm) : nrm d (nz t) = if t.s.size = d then t.c.natAbs else 0 := by
  unfold nz
  by_cases h : t.c = 0
  · rw [if_pos h, h]; simp [nrm]
  · rw [if_neg h]; simp [nrm]
theorem nrm_add (d : Nat) (t : Tm) : ∀ ts, nrm d (addT ts t) ≤ nrm d ts + if t.s.size = d then t.c.natAbs else 0
  | [] => by rw [addT, nrm_nz, nrm]; omega
  | x :: r => by
    rw [addT]
    by_cases h : lessW x.s t.s = true
    · rw [if_pos h, nrm, nrm]
      have := nrm_add d t r
      omega
    · rw [if_neg h]
      by_cases h2 : x.s = t.s
      · rw [if_pos h2, nrm_append, nrm_nz, nrm, h2]
        by_cases h3 : t.s.size = d
        · simp only [h3, if_true]; omega
        · simp only [h3, if_false]; omega
      · rw [if_neg h2, nrm_append, nrm_nz]; omega
theorem nrm_fold (d : Nat) : ∀ (ts acc : List Tm), nrm d (ts.foldl addT acc) ≤ nrm d acc + nrm d ts
  | [], acc => by simp [nrm]
  | t :: r, acc => by
    have h1 := nrm_fold d r (addT acc t)
    have h2 := nrm_add d t acc
    rw [List.foldl_cons, nrm]
    omega
theorem nrm_canon (d : Nat) (ts : List Tm) : nrm d (canonT ts) ≤ nrm d ts := by
  have h := nrm_fold d ts []
  rw [show nrm d [] = 0 from rfl, Nat.zero_add] at h
  exact h
theorem cum_zero : ∀ ts, cum 0 ts = nrm 0 ts
  | [] => rfl
  | t :: r => by rw [cum, nrm, cum_zero r]; simp only [Nat.le_zero_eq]
theorem cum_succ (d : Nat) : ∀ ts, cum (d + 1) ts = cum d ts + nrm (d + 1) ts
  | [] => rfl
  | t :: r => by
    rw [cum, cum, nrm, cum_succ d r]
    by_cases h : t.s.size ≤ d
    · rw [if_pos (by omega), if_pos h, if_neg (by omega)]; omega
    · by_cases h2 : t.s.size = d + 1
      · rw [if_pos (by omega), if_neg h, if_pos h2]; omega
      · rw [if_neg (by omega), if_neg h, if_neg h2]; omega
theorem cum_le (d : Nat) : ∀ {ts : List Tm} {t : Tm}, t ∈ ts → t.s.size ≤ d → t.c.natAbs ≤ cum d ts
  | u :: r, t, h, hd => by
    rw [cum]
    rcases List.mem_cons.1 h with rfl | h
    · rw [if_pos hd]; omega
    · have := cum_le d h hd; omega
theorem nrm_row (d : Nat) (t : Tm) {y : List Tm} (hy : ∀ e, nrm e y ≤ 1) : nrm d (rowS t y) ≤ if t.s.size ≤ d then t.c.natAbs else 0 := by
  have key : ∀ z : List Tm, nrm d (rowS t z) ≤ if t.s.size ≤ d then t.c.natAbs * nrm (d - t.s.size) z else 0 := by
    intro z
    induction z with
    | nil => simp [rowS, nrm]
    | cons u r ih =>
      have e : rowS t (u :: r) = (if short (pairS t u) = true then [pairS t u] else []) ++ rowS t r := by
        unfold rowS
        rw [List.map_cons, List.filter_cons]
        split <;> simp
      have h1 : nrm d (if short (pairS t u) = true then [pairS t u] else []) ≤ if t.s.size + u.s.size = d then t.c.natAbs * u.c.natAbs else 0 := by
        have hs : (pairS t u).s.size = t.s.size + u.s.size := by unfold pairS; exact ByteArray.size_append
        split
        · rw [nrm, nrm, hs]
          split
          · unfold pairS; rw [Int.natAbs_mul]; omega
          · omega
        · simp [nrm]
      rw [e, nrm_append, nrm]
      by_cases h : t.s.size ≤ d
      · rw [if_pos h] at ih ⊢
        rw [Nat.mul_add]
        have h2 : (if t.s.size + u.s.size = d then t.c.natAbs * u.c.natAbs else 0) ≤ t.c.natAbs * (if u.s.size = d - t.s.size then u.c.natAbs else 0) := by
          by_cases h3 : t.s.size + u.s.size = d
          · rw [if_pos h3, if_pos (by omega)]; exact Nat.le_refl _
          · rw [if_neg h3]; exact Nat.zero_le _
        omega
      · rw [if_neg h] at ih ⊢
        have h3 : ¬ t.s.size + u.s.size = d := by omega
        rw [if_neg h3] at h1
        omega
  have h := key y
  by_cases hd : t.s.size ≤ d
  · rw [if_pos hd] at h ⊢
    have := Nat.mul_le_mul_left t.c.natAbs (hy (d - t.s.size))
    omega
  · rw [if_neg hd] at h ⊢; exact h
theorem nrm_pairs (d : Nat) {y : List Tm} (hy : ∀ e, nrm e y ≤ 1) : ∀ x, nrm d (pairsS x y) ≤ cum d x
  | [] => by simp [pairsS, nrm]
  | t :: r => by
    have h1 := nrm_pairs d hy r
    have h2 := nrm_row d t hy
    have e : pairsS (t :: r) y = rowS t y ++ pairsS r y := by unfold pairsS rowS; rw [List.flatMap_cons]
    rw [e, nrm_append, cum]
    omega

/-- How many ways there are to choose: of degree 0 to 4. -/
def stepW (p : Nat × Nat × Nat × Nat × Nat) : Nat × Nat × Nat × Nat × Nat := (p.1, p.1 + p.2.1, p.1 + p.2.1 + p.2.2.1, p.1 + p.2.1 + p.2.2.1 + p.2.2.2.1, p.1 + p.2.1 + p.2.2.1 + p.2.2.2.1 + p.2.2.2.2)
def waysT : Nat → Nat × Nat × Nat × Nat × Nat
  | 0 => (1, 1, 1, 1, 1)
  | k + 1 => stepW (waysT k)
theorem ways_le {k n : Nat} (h : k ≤ n) : (waysT k).2.2.2.2 ≤ (waysT n).2.2.2.2 := by
  induction h with
  | refl => exact Nat.le_refl _
  | step _ ih => exact Nat.le_trans ih (by rw [waysT, stepW]; simp only []; omega)
theorem ways_max : (waysT 60).2.2.2.2 = 635376 := by decide +kernel
def WaysIn (k : Nat) (x : List Tm) : Prop := cum 0 x ≤ (waysT k).1 ∧ cum 1 x ≤ (waysT k).2.1 ∧ cum 2 x ≤ (waysT k).2.2.1 ∧ cum 3 x ≤ (waysT k).2.2.2.1 ∧ cum 4 x ≤ (waysT k).2.2.2.2
theorem ways_step {k : Nat} {x y : List Tm} (hy : ∀ e, nrm e y ≤ 1) (h : WaysIn k x) : WaysIn (k + 1) (canonT (pairsS x y)) := by
  obtain ⟨h0, h1, h2, h3, h4⟩ := h
  have hn : ∀ d, nrm d (canonT (pairsS x y)) ≤ cum d x := fun d => Nat.le_trans (nrm_canon d _) (nrm_pairs d hy x)
  have n0 := hn 0
  have n1 := hn 1
  have n2 := hn 2
  have n3 := hn 3
  have n4 := hn 4
  have e0 := cum_zero (canonT (pairsS x y))
  have e1 := cum_succ 0 (canonT (pairsS x y))
  have e2 := cum_succ 1 (canonT (pairsS x y))
  have e3 := cum_succ 2 (canonT (pairsS x y))
  have e4 := cum_succ 3 (canonT (pairsS x y))
  simp only [Nat.zero_add, Nat.reduceAdd] at e1 e2 e3 e4
  unfold WaysIn
  rw [waysT, stepW]
  simp only []
  omega
theorem ways_coef {k : Nat} {x : List Tm} (h : WaysIn k x) (hk : k ≤ 60) {t : Tm} (ht : t ∈ x) (hs : t.s.size ≤ 4) : -1000000 ≤ t.c ∧ t.c ≤ 1000000 := by
  have h1 := cum_le 4 ht hs
  have h2 := h.2.2.2.2
  have h3 := ways_le hk
  rw [ways_max] at h3
  omega

/-! ### How many terms -/
theorem nodup_len {α : Type} [BEq α] [LawfulBEq α] : ∀ (l m : List α), l.Nodup → (∀ x ∈ l, x ∈ m) → l.length ≤ m.length
  | [], _, _, _ => Nat.zero_le _
  | x :: r, m, h, hs => by
    obtain ⟨h1, h2⟩ := List.nodup_cons.1 h
    have hx := hs x (by simp)
    have := nodup_len r (m.erase x) h2 fun y hy => (List.mem_erase_of_ne (fun e => h1 (by rw [← e]; exact hy))).2 (hs y (by simp [hy]))
    rw [List.length_erase_of_mem hx] at this
    have : 0 < m.length := List.length_pos_of_mem hx
    rw [List.length_cons]; omega
def monosN : Nat → List (List UInt8)
  | 0 => [[]]
  | n + 1 => (monosN n).flatMap fun l => [97 :: l, 98 :: l, 99 :: l, 100 :: l]
theorem mem_monos : ∀ (l : List UInt8), l.all genB = true → l ∈ monosN l.length
  | [], _ => by simp [monosN]
  | c :: r, h => by
    rw [List.all_cons, Bool.and_eq_true] at h
    obtain ⟨hc, hr⟩ := h
    have ih := mem_monos r hr
    have h4 : c = 97 ∨ c = 98 ∨ c = 99 ∨ c = 100 := by
      unfold genB at hc
      simp only [Bool.and_eq_true, decide_eq_true_eq] at hc
      have : c.toNat = 97 ∨ c.toNat = 98 ∨ c.toNat = 99 ∨ c.toNat = 100 := by omega
      rcases this with h | h | h | h
      · exact .inl (UInt8.toNat_inj.1 h)
      · exact .inr (.inl (UInt8.toNat_inj.1 h))
      · exact .inr (.inr (.inl (UInt8.toNat_inj.1 h)))
      · exact .inr (.inr (.inr (UInt8.toNat_inj.1 h)))
    rw [List.length_cons, monosN]
    refine List.mem_flatMap.2 ⟨r, ih, ?_⟩
    rcases h4 with rfl | rfl | rfl | rfl <;> simp
def monosAll : List (List UInt8) := (List.range 5).flatMap monosN
theorem monosAll_len : monosAll.length = 341 := by decide +kernel
theorem mono_mem {s : ByteArray} (h : monoB s = true) : s.data.toList ∈ monosAll := by
  unfold monoB at h
  simp only [Bool.and_eq_true, decide_eq_true_eq] at h
  have hl : s.data.toList.length ≤ 4 := by simpa using h.2
  exact List.mem_flatMap.2 ⟨_, List.mem_range.2 (by omega), mem_monos _ h.1⟩
theorem canon_len341 {ts : List Tm} (hc : Canon ts) (h : ∀ t ∈ ts, monoB t.s = true) : ts.length ≤ 341 := by
  have := nodup_len (ts.map fun t => t.s.data.toList) monosAll (by
    rw [List.nodup_iff_pairwise_ne, List.pairwise_map]
    exact hc.1.imp fun hl e => lessW_ne hl (bytes_ext e)) (fun l hl => by
    obtain ⟨t, ht, rfl⟩ := List.mem_map.1 hl
    exact mono_mem (h t ht))
  rwa [List.length_map, monosAll_len] at this
theorem mono_append {a b : ByteArray} (ha : monoB a = true) (hb : monoB b = true) (h : (a ++ b).size ≤ 4) : monoB (a ++ b) = true := by
  unfold monoB at *
  simp only [Bool.and_eq_true, decide_eq_true_eq] at *
  refine ⟨?_, h⟩
  rw [append_toList, List.all_append, ha.1, hb.1]; rfl
theorem pairsS_mono {x y : List Tm} (hx : ∀ t ∈ x, monoB t.s = true) (hy : ∀ t ∈ y, monoB t.s = true) : ∀ t ∈ pairsS x y, monoB t.s = true := fun t ht => by
  obtain ⟨u, hu, ht⟩ := List.mem_flatMap.1 ht
  obtain ⟨h1, h2⟩ := List.mem_filter.1 ht
  obtain ⟨v, hv, rfl⟩ := List.mem_map.1 h1
  exact mono_append (hx u hu) (hy v hv) (of_decide_eq_true h2)

end Go.Proofs.Ytaaeiogdhmiaaaa

/- The contracts of slices.Grow and slices.Concat at terms. -/

namespace Go.Proofs.Ytaaeiogdhmiaaaa
open Go.RowKit Go.Shelf

theorem ownsRow_low {W : World} {base : Nat} {e : TypeId} {size : Nat} {v : Value} {n : Nat} {xs : List Value} (h : W.ownsRow base e size v n xs) : ∀ j, v.ownBlock = some j → base ≤ j := fun j ej => (h.lt j ej).1

/-- A slice of terms that may be nil. -/
def PartT (w : World) (v : Value) (ts : List Tm) : Prop := (v = .slice none 0 0 ∧ ts = []) ∨ ∃ x cap, v = .slice (some x) ts.length cap ∧ ∀ j u, (termsV ts)[j]? = some u → w.cell? (x.add j) = some u ∧ x.block < w.heap.size
theorem PartT.below {w w' : World} {v : Value} {ts : List Tm} (h : PartT w v ts) (hb : Below w.heap.size w w') : PartT w' v ts := by
  rcases h with h | ⟨x, cap, e, h⟩
  · exact .inl h
  · exact .inr ⟨x, cap, e, fun j u hu => by
      obtain ⟨h1, h2⟩ := h j u hu
      exact ⟨(hb.cell (p := x.add j) (by rw [addr_add_block]; exact h2)).trans h1, Nat.lt_of_lt_of_le h2 hb.size⟩⟩
theorem partT_of {w : World} {ad : Addr} {n cap : Nat} {ts : List Tm} (h : IsTerms w (some ad) n ts) : PartT w (.slice (some ad) n cap) ts := by
  refine .inr ⟨ad, cap, by rw [h.len], fun j u hu => ?_⟩
  rcases Nat.eq_zero_or_pos n with h0 | h0
  · have : ts = [] := List.length_eq_zero_iff.1 (h.len.trans h0)
    subst this
    simp [termsV] at hu
  · obtain ⟨z, e, h2⟩ := h.at_ h0
    cases e
    exact ⟨h2.cells j u hu, h2.1⟩
theorem PartT.len {w : World} {v : Value} {ts : List Tm} (h : PartT w v ts) : ∃ a cap, v = .slice a ts.length cap := by
  rcases h with ⟨rfl, rfl⟩ | ⟨x, cap, e, _⟩
  · exact ⟨_, _, rfl⟩
  · exact ⟨_, _, e⟩

def lens (ps : List (Value × List Tm)) : Nat := (ps.map fun p => p.2.length).sum
def flatT (ps : List (Value × List Tm)) : List Tm := (ps.map Prod.snd).flatten
theorem lens_succ (ps : List (Value × List Tm)) (k : Nat) (h : k < ps.length) : lens (ps.take (k + 1)) = lens (ps.take k) + ps[k].2.length := by
  unfold lens
  rw [List.take_succ_eq_append_getElem h, List.map_append, List.sum_append]; simp
theorem flatT_succ (ps : List (Value × List Tm)) (k : Nat) (h : k < ps.length) : flatT (ps.take (k + 1)) = flatT (ps.take k) ++ ps[k].2 := by
  unfold flatT
  rw [List.take_succ_eq_append_getElem h, List.map_append, List.flatten_append]; simp
theorem flatT_len (ps : List (Value × List Tm)) : (flatT ps).length = lens ps := by
  unfold flatT lens
  rw [List.length_flatten, List.map_map]; rfl
theorem lens_take (ps : List (Value × List Tm)) (k : Nat) : lens (ps.take k) ≤ lens ps := by
  have h : lens ps = lens (ps.take k) + lens (ps.drop k) := by
    conv => lhs; rw [← List.take_append_drop k ps]
    unfold lens
    rw [List.map_append, List.sum_append]
  omega

end Go.Proofs.Ytaaeiogdhmiaaaa

/- The contracts of the model's 'l4Letter' and 'SeriesOf'. -/

namespace Go.Proofs.Ytaaeiogdhmiaaaa
open Go.RowKit Go.Shelf

def letX (c : UInt8) : List UInt8 := [UInt8.ofNat (97 + idxB c)]
/-- The sign of a power of an inverse letter. -/
def altZ (i : Nat) : Int := if i % 2 = 0 then 1 else -1
def powT (c : UInt8) (i : Nat) : Tm := ⟨altZ i, bstr (repL i (letX c))⟩
/-- The series of a letter. -/
def letS (c : UInt8) : List Tm := if 97 ≤ c.toNat then [⟨1, { data := #[] }⟩, ⟨1, bstr (letX c)⟩] else (List.range 5).map (powT c)
theorem let_cases {P : UInt8 → Prop} (h : ∀ n : Fin 8, P (UInt8.ofNat (if n.val < 4 then 97 + n.val else 61 + n.val))) {c : UInt8} (hc : letB c = true) : P c := by
  have h2 := (letB_iff c).1 hc
  have : ∃ n : Fin 8, c = UInt8.ofNat (if n.val < 4 then 97 + n.val else 61 + n.val) := by
    rcases h2 with h2 | h2
    · exact ⟨⟨c.toNat - 97, by omega⟩, UInt8.toNat_inj.1 (by rw [if_pos (by show c.toNat - 97 < 4; omega)]; rw [UInt8.toNat_ofNat', Nat.mod_eq_of_lt (by show 97 + (c.toNat - 97) < _; omega)]; show c.toNat = 97 + (c.toNat - 97); omega)⟩
    · exact ⟨⟨c.toNat - 61, by omega⟩, UInt8.toNat_inj.1 (by rw [if_neg (by show ¬ c.toNat - 61 < 4; omega)]; rw [UInt8.toNat_ofNat', Nat.mod_eq_of_lt (by show 61 + (c.toNat - 61) < _; omega)]; show c.toNat = 61 + (c.toNat - 61); omega)⟩
  obtain ⟨n, rfl⟩ := this
  exact h n
theorem letS_facts : ∀ n : Fin 8, (letS (UInt8.ofNat (if n.val < 4 then 97 + n.val else 61 + n.val))).all (fun t => monoB t.s && (inR (-1) 1 t.c)) = true ∧ (letS (UInt8.ofNat (if n.val < 4 then 97 + n.val else 61 + n.val))).length ≤ 5 ∧
    (List.range 5).all (fun e => decide (nrm e (letS (UInt8.ofNat (if n.val < 4 then 97 + n.val else 61 + n.val))) ≤ 1)) = true := by decide +kernel
theorem nrm_far {d : Nat} : ∀ {ts : List Tm}, (∀ t ∈ ts, t.s.size ≠ d) → nrm d ts = 0
  | [], _ => rfl
  | t :: r, h => by rw [nrm, if_neg (h t (by simp)), nrm_far fun u hu => h u (by simp [hu])]
theorem letS_ok {c : UInt8} (hc : letB c = true) : (∀ t ∈ letS c, monoB t.s = true ∧ -1 ≤ t.c ∧ t.c ≤ 1) ∧ (letS c).length ≤ 5 ∧ ∀ e, nrm e (letS c) ≤ 1 := by
  obtain ⟨h1, h2, h3⟩ := let_cases (P := fun c => (letS c).all (fun t => monoB t.s && (inR (-1) 1 t.c)) = true ∧ (letS c).length ≤ 5 ∧ (List.range 5).all (fun e => decide (nrm e (letS c) ≤ 1)) = true) letS_facts hc
  have h4 : ∀ t ∈ letS c, monoB t.s = true ∧ -1 ≤ t.c ∧ t.c ≤ 1 := fun t ht => by
    have := List.all_eq_true.1 h1 t ht
    unfold inR at this
    simp only [Bool.and_eq_true, decide_eq_true_eq] at this
    exact this
  refine ⟨h4, h2, fun e => ?_⟩
  by_cases he : e < 5
  · exact of_decide_eq_true (List.all_eq_true.1 h3 e (List.mem_range.2 he))
  · rw [nrm_far fun t ht => by have := mono_size (h4 t ht).1; omega]; omega
theorem letS_ser {c : UInt8} (hc : letB c = true) : SerL (letS c) := by
  obtain ⟨h1, h2, _⟩ := letS_ok hc
  exact ⟨by omega, fun t ht => by have := h1 t ht; have := mono_size this.1; omega⟩

/-- The series of a word. -/
def oneT : List Tm := [⟨1, { data := #[] }⟩]
def serW (l : List UInt8) : List Tm := l.foldl (fun out c => canonT (pairsS out (letS c))) oneT
theorem serW_snoc (l : List UInt8) (c : UInt8) : serW (l ++ [c]) = canonT (pairsS (serW l) (letS c)) := by unfold serW; rw [List.foldl_append]; rfl
structure SerOK (k : Nat) (x : List Tm) : Prop where
  ways : WaysIn k x
  canon : Canon x
  mono : ∀ t ∈ x, monoB t.s = true
theorem serOK_one : SerOK 0 oneT :=
  ⟨by unfold WaysIn; decide, ⟨by simp [oneT], fun t ht => by rw [List.mem_singleton.1 ht]; exact Int.one_ne_zero⟩, fun t ht => by rw [List.mem_singleton.1 ht]; decide⟩
theorem SerOK.step {k : Nat} {x : List Tm} {c : UInt8} (h : SerOK k x) (hc : letB c = true) : SerOK (k + 1) (canonT (pairsS x (letS c))) :=
  ⟨ways_step (letS_ok hc).2.2 h.ways, canon_of _, fun t ht => by
    obtain ⟨v, hv, e⟩ := canon_words ht
    rw [← e]
    exact pairsS_mono h.mono (fun u hu => ((letS_ok hc).1 u hu).1) v hv⟩
theorem SerOK.ser {k : Nat} {x : List Tm} (h : SerOK k x) (hk : k ≤ 60) : SerL x :=
  ⟨by have := canon_len341 h.canon h.mono; omega, fun t ht => by
    have h1 := mono_size (h.mono t ht)
    exact ⟨h1, ways_coef h.ways hk ht h1⟩⟩
theorem SerOK.told {k : Nat} {x : List Tm} (h : SerOK k x) (hk : k ≤ 60) : twS x = true := by
  obtain ⟨h1, h2⟩ := h.ser hk
  unfold twS inR
  rw [decide_eq_true h1, Bool.true_and]
  refine List.all_eq_true.2 fun t ht => ?_
  have := h2 t ht
  rw [h.mono t ht, decide_eq_true this.2.1, decide_eq_true this.2.2]; rfl
theorem serW_ok : ∀ (l : List UInt8), letL l = true → SerOK l.length (serW l) := by
  intro l
  generalize hn : l.length = n
  induction n generalizing l with
  | zero => intro _; rw [List.length_eq_zero_iff.1 hn]; exact serOK_one
  | succ n ih =>
    intro hl
    obtain ⟨p, c, rfl⟩ := last_split l (by omega)
    rw [letL_append, Bool.and_eq_true] at hl
    rw [serW_snoc]
    have hp : p.length = n := by rw [List.length_append] at hn; simp at hn; exact hn
    exact (ih p hp hl.1).step (by have := hl.2; simp [letL] at this; exact this)

theorem isTerms_ser {w : World} {ad : Option Addr} {n : Nat} {x : List Tm} (h : IsTerms w ad n x) : x.length = n := h.len

theorem serL_small {x : List Tm} (h : SerL x) : SmallT x := ⟨by have := h.1; unfold maxLen; omega, fun t ht => by have := h.2 t ht; unfold maxLen; omega⟩

theorem serW_tw {s : ByteArray} {b : Bool} (h : wordB s.data.toList = b) : b = true → twS (serW s.data.toList) = true := by
  intro hb
  subst hb
  obtain ⟨h1, h2, _⟩ := (wordB_iff _).1 h
  exact (serW_ok _ h2).told h1
end Go.Proofs.Ytaaeiogdhmiaaaa

/- The contracts of the model's 'l91Word', 'l91Two' and 'DrawWordComm'. -/

namespace Go.Proofs.Ytaaeiogdhmiaaaa
open Go.RowKit Go.Shelf

theorem grownAny_of_below {w w' : World} (hb : Below w.heap.size w w') (row : Option Nat) : w.grownBy w' row := ⟨hb.os, hb.tape, hb.output, hb.size, fun j hj _ => hb.block j hj⟩

set_option maxRecDepth 100000 in
set_option maxHeartbeats 2000000 in
theorem l91Word_grown (base rb : Nat) (a : Option Addr) (n cap : Nat) (zs : List Int) (p most gens : Nat) (w : World) (h : Rd base w rb a n cap zs p) (hp : p ≤ 90000) (hm : most ≤ 20) (hg1 : 1 ≤ gens) (hg2 : gens ≤ 4) :
    Calls Try.prog 101 #[.pointer (some ⟨rb, 0, none⟩), .int .i64 most, .int .i64 gens] w fun e w' => (∃ s : ByteArray, e = .returned (.string s) ∧ s.size ≤ most + 1) ∧ (∃ p', p' ≤ p + 60 ∧ Rd base w' rb a n cap zs p') ∧ Below base w w' ∧ w.grownBy w' (some rb) := by
  have hw1 : IntKind.i64.wrap ((most : Int) + 1) = ((most + 1 : Nat) : Int) := by rw [IntWalk.i64_in _ (by omega)]; push_cast; rfl
  have hlo := h.lo
  have hrl := h.lt
  have HP := Lib.hid (pick_any base rb a n cap zs p (most + 1) w h (by omega) (by omega) (by omega))
  clear h
  go_enter Try.func101, Try.ntmps101
  go_wp2_with fail
  refine HP.out.mono ?_
  rintro e w1 ⟨⟨N, rfl, hN⟩, hR1, hB1, hG1⟩
  have HR1 := Lib.hid hR1
  have HB1 := Lib.hid hB1
  have HG1 := Lib.hid hG1
  clear hR1 hB1 hG1
  go_wp2_with fail
  go_loopw [7, 9] (fun v i wr => ∃ (k : Nat) (s : ByteArray), k ≤ N ∧ v = .string s ∧ i = .int .i64 k ∧ s.size ≤ k ∧ Rd base wr rb a n cap zs (p + 1 + 2 * k) ∧ Below base w wr ∧ w.grownBy wr (some rb)) (fun _ i _ => N - (intOf i).toNat)
  case atStart => exact ⟨0, _, Nat.zero_le _, rfl, rfl, Nat.le_refl _, HR1.out, HB1.out, HG1.out⟩
  case round =>
    obtain ⟨k, s, hk, rfl, rfl, hsz, hR, hB, hG⟩ := hrel
    have HR := Lib.hid hR
    have HB := Lib.hid hB
    have HG := Lib.hid hG
    have hbl := hR.lt
    clear hR hB hG
    by_cases hlt : k < N
    · have hli : (k : Int) < (N : Int) := by omega
      have HP2 := Lib.hid (pick_any base rb a n cap zs (p + 1 + 2 * k) gens wr HR.out (by omega) hg1 (by omega))
      go_wp2_with fail
      refine HP2.out.mono ?_
      rintro e w5 ⟨⟨z, rfl, hz⟩, hR5, hB5, hG5⟩
      have HP3 := Lib.hid (pick_any base rb a n cap zs (p + 1 + 2 * k + 1) 2 w5 hR5 (by omega) (by omega) (by omega))
      have HB5 := Lib.hid (HB.out.trans hB5)
      have HG5 := Lib.hid (HG.out.trans hG5)
      have hwz : IntKind.i64.wrap (97 + (z : Int)) = 97 + (z : Int) := IntWalk.i64_in _ (by omega)
      have hwu : IntKind.u8.wrap (97 + (z : Int)) = 97 + (z : Int) := IntWalk.u8_in _ (by omega)
      clear hR5 hB5 hG5
      go_wp2_with fail
      refine HP3.out.mono ?_
      rintro e w6 ⟨⟨y, rfl, hy⟩, hR6, hB6, hG6⟩
      have HB6 := Lib.hid (HB5.out.trans hB6)
      have HG6 := Lib.hid (HG5.out.trans hG6)
      have hb6l := hR6.lt
      have hnot : ¬ 9223372036854775807 < s.size + 1 := by omega
      have HR6 := Lib.hid hR6
      clear hR6 hB6 hG6
      by_cases hy0 : y = 0
      · subst hy0
        have hws : IntKind.u8.wrap (97 + (z : Int) - 32) = 65 + (z : Int) := by rw [show (97 : Int) + (z : Int) - 32 = 65 + (z : Int) by omega]; exact IntWalk.u8_in _ (by omega)
        obtain ⟨t, ht⟩ : ∃ t, bstr [UInt8.ofNat (65 + z)] = t := ⟨_, rfl⟩
        have hts : t.size = 1 := by rw [← ht]; rfl
        have hcv := conv_byte (UInt8.ofNat (65 + z)) (65 + (z : Int)) (by rw [UInt8.toNat_ofNat', Nat.mod_eq_of_lt (by omega)]; push_cast; rfl) w6
        rw [ht] at hcv
        have hnot2 : ¬ 9223372036854775807 < s.size + t.size := by omega
        have HR7 := Lib.hid (HR6.out.below ((Below.refl _ w6).alloc (Nat.le_refl _) (.cells #[.int .u8 (65 + (z : Int))] 5)))
        have HB7 := Lib.hid (HB6.out.alloc (by omega) (.cells #[.int .u8 (65 + (z : Int))] 5))
        have HG7 := Lib.hid (HG6.out.trans (World.grownBy_alloc w6 (.cells #[.int .u8 (65 + (z : Int))] 5) _))
        clear ht
        go_wp2
        go_roundw
        case rel => exact ⟨k + 1, _, by omega, rfl, by go_num, by rw [ByteArray.size_append]; omega, (show p + 1 + 2 * (k + 1) = p + 1 + 2 * k + 1 + 1 by omega) ▸ HR7.out, HB7.out, HG7.out⟩
        case measure => simp [intOf]; omega
      · have hyi : ((y : Int) == 0) = false := by simpa using hy0
        have hyn : ¬ (y : Int) = 0 := by omega
        obtain ⟨t, ht⟩ : ∃ t, bstr [UInt8.ofNat (97 + z)] = t := ⟨_, rfl⟩
        have hts : t.size = 1 := by rw [← ht]; rfl
        have hcv := conv_byte (UInt8.ofNat (97 + z)) (97 + (z : Int)) (by rw [UInt8.toNat_ofNat', Nat.mod_eq_of_lt (by omega)]; push_cast; rfl) w6
        rw [ht] at hcv
        have hnot2 : ¬ 9223372036854775807 < s.size + t.size := by omega
        have HR7 := Lib.hid (HR6.out.below ((Below.refl _ w6).alloc (Nat.le_refl _) (.cells #[.int .u8 (97 + (z : Int))] 5)))
        have HB7 := Lib.hid (HB6.out.alloc (by omega) (.cells #[.int .u8 (97 + (z : Int))] 5))
        have HG7 := Lib.hid (HG6.out.trans (World.grownBy_alloc w6 (.cells #[.int .u8 (97 + (z : Int))] 5) _))
        clear ht
        go_wp2
        go_roundw
        case rel => exact ⟨k + 1, _, by omega, rfl, by go_num, by rw [ByteArray.size_append]; omega, (show p + 1 + 2 * (k + 1) = p + 1 + 2 * k + 1 + 1 by omega) ▸ HR7.out, HB7.out, HG7.out⟩
        case measure => simp [intOf]; omega
    · obtain rfl : N = k := by omega
      have HP2 := Lib.hid (pick_any base rb a n cap zs (p + 1 + 2 * N) 30 wr HR.out (by omega) (by omega) (by omega))
      go_wp2_with fail
      refine HP2.out.mono ?_
      rintro e w6 ⟨⟨z, rfl, hz⟩, hR6, hB6, hG6⟩
      have hb6l := hR6.lt
      have HR6 := Lib.hid hR6
      have HB6 := Lib.hid (HB.out.trans hB6)
      have HG6 := Lib.hid (HG.out.trans hG6)
      have hnot : ¬ 9223372036854775807 < s.size + 1 := by omega
      clear hR6 hB6 hG6
      by_cases hz0 : z = 0
      · subst hz0
        go_wp2
        go_ret
        exact ⟨⟨_, rfl, by rw [ByteArray.size_append]; show s.size + 1 ≤ _; omega⟩, ⟨_, by omega, HR6.out⟩, HB6.out, HG6.out⟩
      · have hzi : ((z : Int) == 0) = false := by simpa using hz0
        have hzn : ¬ (z : Int) = 0 := by omega
        have hrl2 := redL_len s.data.toList []
        obtain ⟨q, hq⟩ : ∃ q, bstr (redL [] s.data.toList) = q := ⟨_, rfl⟩
        have hqs : q.size ≤ s.size := by
          have e1 : q.size = (redL [] s.data.toList).length := by rw [← hq]; have : (bstr (redL [] s.data.toList)).size = (bstr (redL [] s.data.toList)).data.toList.length := by simp
                                                                  rw [this, bstr_toList]
          have e2 : s.data.toList.length = s.size := by simp
          simp only [List.length_nil] at hrl2
          omega
        have HRe := Lib.hid (reduce_is s q w6 (by omega) hq)
        clear hq hrl2
        go_wp2_with fail
        refine HRe.out.mono ?_
        rintro e w7 ⟨rfl, hb7⟩
        have HR7 := Lib.hid (HR6.out.below hb7)
        have HB7 := Lib.hid (HB6.out.trans (hb7.mono (by omega)))
        have HG7 := Lib.hid (HG6.out.trans (grownAny_of_below hb7 _))
        clear hb7
        go_wp2
        go_ret
        exact ⟨⟨_, rfl, by omega⟩, ⟨_, by omega, HR7.out⟩, HB7.out, HG7.out⟩

theorem l91Word_any (base rb : Nat) (a : Option Addr) (n cap : Nat) (zs : List Int) (p most gens : Nat) (w : World) (h : Rd base w rb a n cap zs p) (hp : p ≤ 90000) (hm : most ≤ 20) (hg1 : 1 ≤ gens) (hg2 : gens ≤ 4) :
    Calls Try.prog 101 #[.pointer (some ⟨rb, 0, none⟩), .int .i64 most, .int .i64 gens] w fun e w' => (∃ s : ByteArray, e = .returned (.string s) ∧ s.size ≤ most + 1) ∧ (∃ p', p' ≤ p + 60 ∧ Rd base w' rb a n cap zs p') ∧ Below base w w' := 
  (l91Word_grown base rb a n cap zs p most gens w h hp hm hg1 hg2).mono fun _ _ ⟨h1, h2, h3, _⟩ => ⟨h1, h2, h3⟩

end Go.Proofs.Ytaaeiogdhmiaaaa

/- The draw of a braid and a word. -/

namespace Go.Proofs.Ytaaeiogdhmiaaaa
open Go.RowKit Go.Shelf

attribute [local go_sem] Oper.semAt_some

set_option maxHeartbeats 1000000 in
theorem open_low (base : Nat) (a : Option Addr) (n cap : Nat) (zs : List Int) (w : World) (h : BsAt base w a n cap zs) (hbase : base ≤ w.heap.size) :
    Calls Try.prog 99 #[.slice a n cap] w fun e w' => ∃ n' zs', e = .returned (.pointer (some ⟨w.heap.size, 0, none⟩)) ∧ Rd base w' w.heap.size a n' cap zs' 0 ∧ Below w.heap.size w w' := by
  have hf := h.fit
  have hl := h.len
  unfold maxLen at hf
  have hB : ∀ m : Nat, Below w.heap.size w (w.alloc (.cells #[.slice a m cap, .int .i64 0] RdT)) := fun m => (Below.refl _ w).alloc (Nat.le_refl _) _
  have hRd : ∀ (m : Nat) (ys : List Int), m ≤ 2000 → BsAt base w a m cap ys → Rd base (w.alloc (.cells #[.slice a m cap, .int .i64 0] RdT)) w.heap.size a m cap ys 0 := fun m ys hm hd => ⟨hbase, World.alloc_heap_new w _, hd.below ((hB m).mono hbase), hm⟩
  have HRD := Lib.hid hRd
  have HBD := Lib.hid hB
  have H := Lib.hid h
  clear h hRd hB
  by_cases hn : n ≤ 2000
  · have hd : decide ((2000 : Int) < (n : Int)) = false := decide_eq_false (by omega)
    go_enter Try.func99, Try.ntmps99
    go_wp2
    go_ret
    exact ⟨n, zs, rfl, HRD.out n zs hn H.out, HBD.out n⟩
  · have hd : decide ((2000 : Int) < (n : Int)) = true := decide_eq_true (by omega)
    obtain ⟨x, rfl, hxb, hc⟩ := H.out.at_ (by omega)
    have hcap : (2000 : Int) ≤ (cap : Int) := by omega
    have hcap2 : 2000 ≤ cap := by omega
    have H2 : Hid (BsAt base w (some x) 2000 cap (zs.take 2000)) := Lib.hid ⟨by rw [List.length_take]; omega, ⟨hcap2, H.out.fit.2⟩, fun _ => ⟨x, rfl, hxb, fun j hj => by rw [List.getElem_take]; exact hc j (by rw [List.length_take] at hj; omega)⟩, fun z hz => H.out.byte z (List.mem_of_mem_take hz)⟩
    clear hc
    go_enter Try.func99, Try.ntmps99
    go_wp2
    go_ret
    exact ⟨2000, zs.take 2000, rfl, HRD.out 2000 _ (Nat.le_refl _) H2.out, HBD.out 2000⟩

/-- What a draw of a braid and a word gives. -/
def DrawsBW (w : World) (e : Ending) (w' : World) : Prop := (∃ (m : Int) (s u : ByteArray), e = .returned (.tuple #[brV m s, .string u]) ∧ (2 ≤ m ∧ m ≤ 4) ∧ s.size ≤ 5 ∧ u.size ≤ 5) ∧ Below w.heap.size w w'

set_option maxRecDepth 100000 in
set_option maxHeartbeats 2000000 in
theorem drawBraidAct_in (l : Nat) (hl : 40 ≤ l) (a : Option Addr) (n cap : Nat) (zs : List Int) (w : World) (h : BsAt w.heap.size w a n cap zs) :
    CallsIn Fence.wide l Try.prog 60 #[.slice a n cap] w (DrawsBW w) := by
  obtain ⟨W, hW⟩ : ∃ W, w.alloc (.cells #[.int .i64 0, .string { data := #[] }] 26) = W := ⟨_, rfl⟩
  have HX := Lib.hid (oneBox hW)
  have HO := Lib.hid (open_low w.heap.size a n cap zs W (h.below HX.out.1) HX.out.1.size)
  have HW := Lib.hid hW
  clear h hW
  refine callsIn_of_wp_marks Try.func60 rfl trivial ?_ rfl
  simp only [Try.ntmps60, List.size_toArray, List.length_cons, List.length_nil, Nat.reduceAdd, Nat.reduceSub, Array.replicate_succ, Array.replicate_zero, List.push_toArray, List.append_toArray, List.nil_append, List.cons_append]
  gi_wp2_with fail
  rw [HW.out]
  refine ⟨trivial, fun _ => by omega, ?_⟩
  refine (callsIn_wide.2 HO.out).mono ?_
  rintro e w1 ⟨n', zs', rfl, hR1, hB1⟩
  have HK1 : Hid (w1.heap[w.heap.size]? = some (.cells #[.int .i64 0, .string { data := #[] }] 26 (0, 0))) := Lib.hid ((hB1.block w.heap.size (by have := HX.out.2.1; omega)).trans HX.out.2.2)
  have HBr := Lib.hid (l92Braid_grown w.heap.size W.heap.size a n' cap zs' 0 w1 hR1 (by omega) (by have := hB1.size; have := HX.out.2.1; omega))
  have HB1 := Lib.hid hB1
  have hs1 : w.heap.size + 1 < w1.heap.size := by have := hR1.lt; have := HX.out.2.1; omega
  clear hR1 hB1
  gi_wp2_with fail
  refine ⟨trivial, fun _ => by omega, ?_⟩
  refine (callsIn_wide.2 HBr.out).mono ?_
  rintro e w2 ⟨⟨m, s, rfl, hm, hs⟩, ⟨p2, hp2, hR2⟩, hB2, hk2⟩
  have hk := (hk2 w.heap.size (by omega) (by have := HX.out.2.1; omega)).trans HK1.out
  have hs2 : w1.heap.size ≤ w2.heap.size := hB2.size
  obtain ⟨Y, hY⟩ : ∃ Y, w2.alloc (.cells #[.int .i64 m, .string s] 26) = Y := ⟨_, rfl⟩
  have HY := Lib.hid (oneBox hY)
  have HYE := Lib.hid hY
  have HBY := Lib.hid (((HX.out.1.trans (HB1.out.mono HX.out.1.size)).trans hB2).trans (HY.out.1.mono (by omega)))
  have HRY := Lib.hid (show Rd w.heap.size Y W.heap.size a n' cap zs' p2 from hR2.below HY.out.1)
  have HKY := Lib.hid ((HY.out.1.block w.heap.size (by omega)).trans hk)
  clear hR2 hB2 hk2 hk hY
  gi_wp2
  rw [HYE.out]
  refine wpIn_region_any (by kernel_rfl) ?_
  change wpAnyIn _ _ _ _ _ _ _ _ _ (World.drew _)
  obtain ⟨Z, hZ⟩ : ∃ Z, Y.drew = Z := ⟨_, rfl⟩
  have HRZ := Lib.hid (show Rd w.heap.size Z W.heap.size a n' cap zs' p2 by rw [← hZ]; exact HRY.out.below ⟨rfl, rfl, rfl, Nat.le_refl _, fun _ _ => rfl⟩)
  have HKZ := Lib.hid (show Z.heap[w.heap.size]? = some (.cells #[.int .i64 0, .string { data := #[] }] 26 (0, 0)) by rw [← hZ]; exact HKY.out)
  have HTZ := Lib.hid (show Z.heap[w2.heap.size]? = some (.cells #[.int .i64 m, .string s] 26 (0, 0)) by rw [← hZ]; exact HY.out.2.2)
  have HBZ := Lib.hid (show Below w.heap.size w Z by rw [← hZ]; exact HBY.out.drew)
  have HSZ : Hid (Z.heap.size = w2.heap.size + 1) := Lib.hid (by rw [← hZ]; exact HY.out.2.1)
  rw [hZ]
  obtain ⟨⟨c0, c1⟩, _, _⟩ := boxOf2 HTZ.out (Below.refl _ Z)
  obtain ⟨⟨d0, d1⟩, f0, f1⟩ := boxOf2 HKZ.out (Below.refl _ Z)
  clear hZ
  refine wpAnyIn_ready (rs := [0, 1]) (by kernel_rfl) (by simp) ?_
  refine AllReadyIn.cons rfl (fun K hK => ?_) (AllReadyIn.cons rfl (fun K hK => ?_) (AllReadyIn.nil))
  · skip
    go_simp
    refine hK _ _ ?_
    clear hK K
    refine wpAnyIn_ready (rs := [1]) (by kernel_rfl) (by simp) ?_
    refine AllReadyIn.cons rfl (fun K hK => ?_) (AllReadyIn.nil)
    go_simp
    refine hK _ _ ?_
    clear hK K
    refine wpAnyIn_ready (rs := [2]) (by kernel_rfl) (by simp) ?_
    refine AllReadyIn.cons rfl (fun K hK => ?_) (AllReadyIn.nil)
    go_simp
    have hwd := l91Word_grown w.heap.size W.heap.size a n' cap zs' p2 4 4 Z HRZ.out (by omega) (by omega) (by omega) (by omega)
    gi_wp2_with ((first | refine ⟨trivial, fun _ => by omega, ?_⟩ | refine ⟨trivial, ?_⟩); gi_at_call 101; refine (callsIn_wide.2 hwd).mono ?_; rintro e w4 ⟨⟨u, rfl, hu⟩, _, hb4, hg4⟩; have q0 := cell_kept c0 (by have := HSZ.out; omega) hg4 (by have := HX.out.2.1; simp; omega); have q1 := cell_kept c1 (by have := HSZ.out; omega) hg4 (by have := HX.out.2.1; simp; omega); have hblk := hg4.block w.heap.size (by have := HSZ.out; omega) (by have := HX.out.2.1; simp; omega); obtain ⟨⟨r0, r1⟩, g0, g1⟩ := boxOf2 (hblk.trans HKZ.out) (Below.refl _ w4); have HB5 := Lib.hid (HBZ.out.trans (hb4)); clear hwd)
    refine wpAnyIn_ready (rs := [3]) (by kernel_rfl) (by simp) ?_
    refine AllReadyIn.cons rfl (fun K hK => ?_) (AllReadyIn.nil)
    go_simp
    refine hK _ _ ?_
    clear hK K
    refine wpAnyIn_ready (rs := [4]) (by kernel_rfl) (by simp) ?_
    refine AllReadyIn.cons rfl (fun K hK => ?_) (AllReadyIn.nil)
    go_simp
    refine hK _ _ ?_
    clear hK K
    refine wpAnyIn_done (by kernel_rfl) ?_ _
    gi_wp2
    exact ⟨.tuple #[brV m s, .string u], by simp [results, Try.f60, go_sem, r0, r1], ⟨m, s, u, rfl, hm, hs, by omega⟩, below_two HB5.out (Nat.le_refl _) _ _⟩
  · skip
    go_simp
    refine hK _ _ ?_
    clear hK K
    refine wpAnyIn_ready (rs := [0, 2]) (by kernel_rfl) (by simp) ?_
    refine AllReadyIn.cons rfl (fun K hK => ?_) (AllReadyIn.cons rfl (fun K hK => ?_) (AllReadyIn.nil))
    · skip
      go_simp
      refine hK _ _ ?_
      clear hK K
      refine wpAnyIn_ready (rs := [2]) (by kernel_rfl) (by simp) ?_
      refine AllReadyIn.cons rfl (fun K hK => ?_) (AllReadyIn.nil)
      go_simp
      have hwd := l91Word_grown w.heap.size W.heap.size a n' cap zs' p2 4 4 Z HRZ.out (by omega) (by omega) (by omega) (by omega)
      gi_wp2_with ((first | refine ⟨trivial, fun _ => by omega, ?_⟩ | refine ⟨trivial, ?_⟩); gi_at_call 101; refine (callsIn_wide.2 hwd).mono ?_; rintro e w4 ⟨⟨u, rfl, hu⟩, _, hb4, hg4⟩; have q0 := cell_kept c0 (by have := HSZ.out; omega) hg4 (by have := HX.out.2.1; simp; omega); have q1 := cell_kept c1 (by have := HSZ.out; omega) hg4 (by have := HX.out.2.1; simp; omega); have hblk := hg4.block w.heap.size (by have := HSZ.out; omega) (by have := HX.out.2.1; simp; omega); obtain ⟨⟨r0, r1⟩, g0, g1⟩ := boxOf2 (hblk.trans HKZ.out) (Below.refl _ w4); have HB5 := Lib.hid (HBZ.out.trans (hb4)); clear hwd)
      refine wpAnyIn_ready (rs := [3]) (by kernel_rfl) (by simp) ?_
      refine AllReadyIn.cons rfl (fun K hK => ?_) (AllReadyIn.nil)
      go_simp
      refine hK _ _ ?_
      clear hK K
      refine wpAnyIn_ready (rs := [4]) (by kernel_rfl) (by simp) ?_
      refine AllReadyIn.cons rfl (fun K hK => ?_) (AllReadyIn.nil)
      go_simp
      refine hK _ _ ?_
      clear hK K
      refine wpAnyIn_done (by kernel_rfl) ?_ _
      gi_wp2
      exact ⟨.tuple #[brV m s, .string u], by simp [results, Try.f60, go_sem, r0, r1], ⟨m, s, u, rfl, hm, hs, by omega⟩, below_two HB5.out (Nat.le_refl _) _ _⟩
    · skip
      go_simp
      have hwd := l91Word_grown w.heap.size W.heap.size a n' cap zs' p2 4 4 Z HRZ.out (by omega) (by omega) (by omega) (by omega)
      gi_wp2_with ((first | refine ⟨trivial, fun _ => by omega, ?_⟩ | refine ⟨trivial, ?_⟩); gi_at_call 101; refine (callsIn_wide.2 hwd).mono ?_; rintro e w4 ⟨⟨u, rfl, hu⟩, _, hb4, hg4⟩; have q0 := cell_kept c0 (by have := HSZ.out; omega) hg4 (by have := HX.out.2.1; simp; omega); have q1 := cell_kept c1 (by have := HSZ.out; omega) hg4 (by have := HX.out.2.1; simp; omega); have hblk := hg4.block w.heap.size (by have := HSZ.out; omega) (by have := HX.out.2.1; simp; omega); obtain ⟨⟨r0, r1⟩, g0, g1⟩ := boxOf2 (hblk.trans HKZ.out) (Below.refl _ w4); have HB5 := Lib.hid (HBZ.out.trans (hb4)); clear hwd)
      refine wpAnyIn_ready (rs := [0]) (by kernel_rfl) (by simp) ?_
      refine AllReadyIn.cons rfl (fun K hK => ?_) (AllReadyIn.nil)
      go_simp
      refine hK _ _ ?_
      clear hK K
      refine wpAnyIn_ready (rs := [3]) (by kernel_rfl) (by simp) ?_
      refine AllReadyIn.cons rfl (fun K hK => ?_) (AllReadyIn.nil)
      go_simp
      refine hK _ _ ?_
      clear hK K
      refine wpAnyIn_ready (rs := [4]) (by kernel_rfl) (by simp) ?_
      refine AllReadyIn.cons rfl (fun K hK => ?_) (AllReadyIn.nil)
      go_simp
      refine hK _ _ ?_
      clear hK K
      refine wpAnyIn_done (by kernel_rfl) ?_ _
      gi_wp2
      exact ⟨.tuple #[brV m s, .string u], by simp [results, Try.f60, go_sem, r0, r1], ⟨m, s, u, rfl, hm, hs, by omega⟩, below_two HB5.out (Nat.le_refl _) _ _⟩

theorem drawBraidAct_any (a : Option Addr) (n cap : Nat) (zs : List Int) (w : World) (h : BsAt w.heap.size w a n cap zs) :
    Calls Try.prog 60 #[.slice a n cap] w (DrawsBW w) := (callsIn_wide (n := 60)).1 (drawBraidAct_in 60 (by omega) a n cap zs w h)

end Go.Proofs.Ytaaeiogdhmiaaaa

/- The contract of the model's 'l9Letter'. -/

namespace Go.Proofs.Ytaaeiogdhmiaaaa
open Go.RowKit Go.Shelf

attribute [local go_sem] Oper.semAt_some

theorem letter_tab : ∀ p ∈ ([0, 1, 2] : List Nat), ((abcd.getD p ByteArray.empty ++ abcd.getD (p + 1) ByteArray.empty) ++ bstr (backL (abcd.getD p ByteArray.empty).data.toList) = { data := #[genC p, genC (p + 1), turnB (genC p)] } ∧ abcd.getD p ByteArray.empty = { data := #[genC p] }) ∧
    (bstr (backL (abcd.getD (p + 1) ByteArray.empty).data.toList) ++ abcd.getD p ByteArray.empty) ++ abcd.getD (p + 1) ByteArray.empty = { data := #[turnB (genC (p + 1)), genC p, genC (p + 1)] } ∧ abcd.getD (p + 1) ByteArray.empty = { data := #[genC (p + 1)] } ∧ (abcd.getD p ByteArray.empty).size ≤ 1 ∧ (abcd.getD (p + 1) ByteArray.empty).size ≤ 1 := by decide +kernel

theorem strs_of_row {w : World} {lo b cap n : Nat} {zs : List ByteArray} {vs : List Value} (h : w.ownsRow lo 9 1 (.slice (some ⟨b, 0, none⟩) n cap) n vs) (hv : vs = zs.map Value.string) (hz : ∀ z ∈ zs, z.size ≤ maxLen) : StrsAt w (some ⟨b, 0, none⟩) zs := by
  refine ⟨fun _ => ⟨⟨b, 0, none⟩, rfl, (typed_row h).lt, fun i hi => ?_⟩, hz⟩
  refine h.cells rfl i _ ?_
  rw [hv, List.getElem?_map, List.getElem?_eq_getElem hi]; rfl

set_option maxRecDepth 100000 in
set_option maxHeartbeats 4000000 in
theorem l9Letter_any (c : UInt8) (w : World) (hc : brB c = true) :
    Calls Try.prog 112 #[.int .u8 (c.toNat : Int)] w fun e w' => e = .returned (.slice (some ⟨w.heap.size, 0, none⟩) 4 4) ∧ StrsAt w' (some ⟨w.heap.size, 0, none⟩) (bImg c) ∧ Below w.heap.size w w' := by
  have hp3 := plN_lt c hc
  have HPL := Lib.hid (fun w => l9Index_any c w hc)
  have HBI : Hid (bImg c = if 97 ≤ c.toNat then (abcd.set (plN c) { data := #[genC (plN c), genC (plN c + 1), turnB (genC (plN c))] }).set (plN c + 1) { data := #[genC (plN c)] } else (abcd.set (plN c) { data := #[genC (plN c + 1)] }).set (plN c + 1) { data := #[turnB (genC (plN c + 1)), genC (plN c), genC (plN c + 1)] }) := Lib.hid rfl
  have HSM : Hid (∀ z ∈ bImg c, z.size ≤ maxLen) := Lib.hid (fun z hz => by have := ((bImg_ok hc).2 z hz).2; unfold maxLen; omega)
  have HL4 := Lib.hid (bImg_ok hc).1
  obtain ⟨p, hp⟩ : ∃ p, plN c = p := ⟨_, rfl⟩
  rw [hp] at hp3 HPL HBI
  obtain ⟨⟨t1, t2⟩, t3, t4, t5, t6⟩ := letter_tab p (by simp; omega)
  obtain ⟨W, hW⟩ : ∃ W, w.alloc (.cells #[.string { data := #[97] }, .string { data := #[98] }, .string { data := #[99] }, .string { data := #[100] }] 9) = W := ⟨_, rfl⟩
  have HW := Lib.hid hW
  have hWs : W.heap.size = w.heap.size + 1 := by rw [← hW]; simp
  have hown : W.ownsRow w.heap.size 9 1 (.slice (some ⟨w.heap.size, 0, none⟩) 4 4) 4 (abcd.map Value.string) := by
    rw [← hW]
    exact ⟨rfl, .inr ⟨_, 4, #[.string { data := #[97] }, .string { data := #[98] }, .string { data := #[99] }, .string { data := #[100] }], rfl, Nat.le_refl _, heap_alloc_new w _, Nat.le_refl _, by decide, rfl, rfl⟩⟩
  have hbel : Below w.heap.size w W := by rw [← hW]; exact (Below.refl _ w).alloc (Nat.le_refl _) _
  obtain ⟨za, hza⟩ : ∃ z, abcd.getD p ByteArray.empty = z := ⟨_, rfl⟩
  obtain ⟨zb, hzb⟩ : ∃ z, abcd.getD (p + 1) ByteArray.empty = z := ⟨_, rfl⟩
  rw [hza] at t1 t2 t3 t5
  rw [hzb] at t1 t3 t4 t6
  have hga : ∀ k z, k < 4 → abcd.getD k ByteArray.empty = z → (abcd.map Value.string)[k]? = some (.string z) := fun k z hk h => by
    have hk' : k < abcd.length := hk
    rw [List.getElem?_map, List.getElem?_eq_getElem hk']
    rw [List.getD_eq_getElem?_getD, List.getElem?_eq_getElem hk'] at h
    exact congrArg (fun z => some (Value.string z)) h
  have hga1 := hga p za (by omega) hza
  have hga2 := hga (p + 1) zb (by omega) hzb
  have hcx : W.cell? ⟨w.heap.size, p, none⟩ = some (.string za) := (hown.cellAt p (by omega)).trans hga1
  have hcx2 : W.cell? ⟨w.heap.size, p + 1, none⟩ = some (.string zb) := (hown.cellAt (p + 1) (by omega)).trans hga2
  have HGA1 := Lib.hid hga1
  have HGA2 := Lib.hid hga2
  have HO := Lib.hid hown
  have HB := Lib.hid hbel
  have T1 := Lib.hid t1
  have T2 := Lib.hid t2
  have T3 := Lib.hid t3
  have T4 := Lib.hid t4
  clear hp hc hW hown hbel hza hzb hga hga1 hga2 t1 t2 t3 t4
  by_cases h97 : 97 ≤ c.toNat
  · have h97' : (97 : Int) ≤ (c.toNat : Int) := by omega
    obtain ⟨ba, hba⟩ : ∃ z, bstr (backL za.data.toList) = z := ⟨_, rfl⟩
    have HBA : Hid (∀ V : World, Calls Try.prog 73 #[.string za] V fun e w' => e = .returned (.string ba) ∧ Below V.heap.size V w') := Lib.hid fun V => by rw [← hba]; exact back_any za V (by omega)
    have hbs : ba.size ≤ 1 := by rw [← hba, bstr_size, backL_length]; simpa using t5
    rw [hba] at T1
    clear hba
    obtain ⟨i, hi⟩ : ∃ i : Int, (c.toNat : Int) = i := ⟨_, rfl⟩
    rw [hi] at h97' HPL ⊢
    have HI := Lib.hid hi
    clear hi
    go_enter Try.func112, Try.ntmps112
    go_wp2_with fail
    rw [HW.out]
    refine (HPL.out _).mono ?_
    rintro e w2 ⟨rfl, rfl⟩
    go_wp2_with fail
    refine (HBA.out _).mono ?_
    rintro e w3 ⟨rfl, hb3⟩
    have hown3 := HO.out.kept (row := none) (grown_of_below hb3) (by simp [Value.ownBlock])
    have hcy := (hown3.cellAt p (by omega)).trans HGA1.out
    have hfy := hown3.frozenAt p
    have hcy2 := (hown3.cellAt (p + 1) (by omega)).trans HGA2.out
    have hfy2 := hown3.frozenAt (p + 1)
    have HO3 := Lib.hid hown3
    have HB3 := Lib.hid hb3
    clear hown3 hb3
    go_wp2_with fail
    have h1 := (HO3.out.stored p (.string (za ++ zb ++ ba))).1
    have h2 := (h1.stored (p + 1) (.string za)).1
    refine bodyPost_ret (v := .slice (some ⟨w.heap.size, 0, none⟩) 4 4) ?_ rfl ⟨rfl, strs_of_row h2 ?_ HSM.out, ?_⟩
    · simp [results, Try.results112, go_sem]
    · rw [HBI.out, if_pos h97, T1.out, T2.out, List.map_set, List.map_set]
    · exact ((HB.out.trans (HB3.out.mono HB.out.size)).setCell (p := ⟨w.heap.size, p, none⟩) (Nat.le_refl _) _).setCell (p := ⟨w.heap.size, p + 1, none⟩) (Nat.le_refl _) _
  · have h97' : ¬ (97 : Int) ≤ (c.toNat : Int) := by omega
    obtain ⟨ba, hba⟩ : ∃ z, bstr (backL zb.data.toList) = z := ⟨_, rfl⟩
    have HBA : Hid (∀ V : World, Calls Try.prog 73 #[.string zb] V fun e w' => e = .returned (.string ba) ∧ Below V.heap.size V w') := Lib.hid fun V => by rw [← hba]; exact back_any zb V (by omega)
    have hbs : ba.size ≤ 1 := by rw [← hba, bstr_size, backL_length]; simpa using t6
    rw [hba] at T3
    clear hba
    have hfx := HO.out.frozenAt p
    obtain ⟨i, hi⟩ : ∃ i : Int, (c.toNat : Int) = i := ⟨_, rfl⟩
    rw [hi] at h97' HPL ⊢
    have HI := Lib.hid hi
    clear hi
    go_enter Try.func112, Try.ntmps112
    go_wp2_with fail
    rw [HW.out]
    refine (HPL.out _).mono ?_
    rintro e w2 ⟨rfl, rfl⟩
    go_wp2_with fail
    refine (HBA.out _).mono ?_
    rintro e w3 ⟨rfl, hb3⟩
    have hownS := (HO.out.stored p (.string zb)).1
    have hown3 := hownS.kept (row := none) (grown_of_below hb3) (by simp [Value.ownBlock])
    have hcy2 := (hown3.cellAt (p + 1) (by omega)).trans ((List.getElem?_set_ne (by omega)).trans HGA2.out)
    have hfy2 := hown3.frozenAt (p + 1)
    have HO3 := Lib.hid hown3
    have HB3 := Lib.hid ((HB.out.setCell (p := ⟨w.heap.size, p, none⟩) (Nat.le_refl _) _).trans (hb3.mono (HB.out.setCell (p := ⟨w.heap.size, p, none⟩) (Nat.le_refl _) _).size))
    clear hown3 hb3 hownS
    go_wp2_with fail
    have h2 := (HO3.out.stored (p + 1) (.string (ba ++ za ++ zb))).1
    refine bodyPost_ret (v := .slice (some ⟨w.heap.size, 0, none⟩) 4 4) ?_ rfl ⟨rfl, strs_of_row h2 ?_ HSM.out, ?_⟩
    · simp [results, Try.results112, go_sem]
    · rw [HBI.out, if_neg h97, T3.out, T4.out, List.map_set, List.map_set]
    · exact HB3.out.setCell (p := ⟨w.heap.size, p + 1, none⟩) (Nat.le_refl _) _

end Go.Proofs.Ytaaeiogdhmiaaaa

/- The contracts of the model's 'l9Act' and BraidAct. -/

namespace Go.Proofs.Ytaaeiogdhmiaaaa
open Go.RowKit Go.Shelf

attribute [local go_sem] Oper.semAt_some

set_option maxRecDepth 100000 in
set_option maxHeartbeats 4000000 in
theorem l9Act_any (n : Int) (s u : ByteArray) (w : World) (hs : s.size ≤ 60) (hall : ∀ c ∈ s.data.toList, brB c = true) (hu : u.size ≤ 60) (hul : letL u.data.toList = true) :
    Calls Try.prog 77 #[brV n s, .string u] w fun e w' => e = .returned (actR true (actL s.data.toList u.data.toList)) ∧ Below w.heap.size w w' := by
  obtain ⟨W, hW⟩ : ∃ W, w.alloc (.cells #[.int .i64 n, .string s] 26) = W := ⟨_, rfl⟩
  have HX := Lib.hid (oneBox hW)
  have HW := Lib.hid hW
  clear hW
  have hsz := HX.out.2.1
  have HALL := Lib.hid hall
  have HUL := Lib.hid hul
  obtain ⟨o, ho⟩ : ∃ o, actL s.data.toList u.data.toList = o := ⟨_, rfl⟩
  rw [ho]
  have HOO := Lib.hid ho
  clear hall hul ho
  go_enter Try.func77, Try.ntmps77
  go_wp2
  rw [HW.out]
  go_loopw [1, 6] (fun x i wr => ∃ (k : Nat) (y : ByteArray), k ≤ s.size ∧ i = .int .i64 (k : Int) ∧ x = .string y ∧ y.size ≤ 60 ∧ letL y.data.toList = true ∧ Hid (actL (s.data.toList.drop k) y.data.toList = o) ∧ Below W.heap.size W wr) (fun _ i _ => s.size - (intOf i).toNat)
  case atStart => exact ⟨0, u, Nat.zero_le _, rfl, rfl, hu, HUL.out, Lib.hid HOO.out, Below.refl _ _⟩
  case round =>
    obtain ⟨k, y, hk, rfl, rfl, hy60, hyl, HR, hB⟩ := hrel
    obtain ⟨⟨c0, c1⟩, _, _⟩ := boxOf2 HX.out.2.2 hB
    have HB := Lib.hid hB
    have hwr := hB.size
    clear hB
    by_cases hlt : k < s.size
    · have hl : k < s.data.toList.length := by simpa using hlt
      have hcd : s.data.toList.drop k = s[k] :: s.data.toList.drop (k + 1) := by rw [List.drop_eq_getElem_cons hl]; rfl
      have hbr : brB s[k] = true := HALL.out _ (List.getElem_mem hl)
      have HLT := Lib.hid (l9Letter_any s[k] wr hbr)
      have HLen := actS_len s[k] hbr y.data.toList (by simpa using hy60)
      have HLet := actS_let hbr y.data.toList
      obtain ⟨r, hr⟩ : ∃ r, bstr (actS s[k] y.data.toList) = r := ⟨_, rfl⟩
      have hrl : r.data.toList = actS s[k] y.data.toList := by rw [← hr]; rfl
      have HRS : Hid (r.size = (actS s[k] y.data.toList).length) := Lib.hid (by rw [← hr, bstr_size])
      rw [← HRS.out] at HLen
      rw [← hrl] at HLet
      have HLE := Lib.hid HLet
      have HPUT := Lib.hid (fun (V : World) (hst : StrsAt V (some ⟨wr.heap.size, 0, none⟩) (bImg s[k])) => put_is r y (some ⟨wr.heap.size, 0, none⟩) 4 (bImg s[k]) V hy60 hyl (bImg_ok hbr).1 (fun z hz => by have := ((bImg_ok hbr).2 z hz).2; omega) hst hr)
      have HR2 : Hid ((if r.size ≤ 60 then actL (s.data.toList.drop (k + 1)) r.data.toList else none) = o) := Lib.hid (by
        have h := HR.out
        rw [hcd] at h
        rw [hrl, HRS.out]
        exact h)
      clear hr hrl HLet hbr hcd HR HRS hyl
      go_wp2_with fail
      refine HLT.out.mono ?_
      rintro e w1 ⟨rfl, hst, hb1⟩
      have HST := Lib.hid hst
      have HB1 := Lib.hid (HB.out.trans (hb1.mono hwr))
      have hs1 := HB1.out.size
      clear hst hb1
      go_wp2_with fail
      refine (HPUT.out _ HST.out).mono ?_
      rintro e w2 ⟨rfl, hb2⟩
      have HB2 := Lib.hid (HB1.out.trans (hb2.mono hs1))
      clear hb2 c0 c1
      by_cases h60 : r.size ≤ 60
      · have HR3 := Lib.hid (show actL (s.data.toList.drop (k + 1)) r.data.toList = o by have h := HR2.out; rw [if_pos h60] at h; exact h)
        go_wp2
        go_roundw
        case rel => exact ⟨k + 1, r, by omega, by go_num, rfl, h60, HLE.out, HR3, HB2.out⟩
        case measure => simp [intOf]; omega
      · have HR3 := Lib.hid (show none = o by have h := HR2.out; rw [if_neg h60] at h; exact h)
        go_wp2
        go_ret2
        refine ⟨?_, HX.out.1.trans (HB2.out.mono HX.out.1.size)⟩
        rw [← HR3.out]
        rfl
    · obtain rfl : k = s.size := by omega
      have HR3 := Lib.hid (show some y.data.toList = o by have h := HR.out; rw [List.drop_eq_nil_of_le (by simp)] at h; exact h)
      clear HR hyl
      go_wp2
      go_ret2
      refine ⟨?_, HX.out.1.trans (HB.out.mono HX.out.1.size)⟩
      rw [← HR3.out]
      rfl

set_option maxRecDepth 100000 in
set_option maxHeartbeats 1000000 in
theorem sBraidAct_any (n : Int) (s u : ByteArray) (w : World) (hs : s.size ≤ maxLen) (hu : u.size ≤ maxLen) :
    Calls Try.prog 31 #[brV n s, .string u] w fun e w' => e = .returned (actR (wordB u.data.toList && braidB n s) (actL s.data.toList u.data.toList)) ∧ Below w.heap.size w w' := by
  obtain ⟨W, hW⟩ : ∃ W, w.alloc (.cells #[.int .i64 n, .string s] 26) = W := ⟨_, rfl⟩
  have HX := Lib.hid (oneBox hW)
  have HW := Lib.hid hW
  clear hW
  have hsz := HX.out.2.1
  obtain ⟨b, hb⟩ : ∃ b, braidB n s = b := ⟨_, rfl⟩
  obtain ⟨bu, hbu⟩ : ∃ b, wordB u.data.toList = b := ⟨_, rfl⟩
  obtain ⟨o, ho⟩ : ∃ o, actL s.data.toList u.data.toList = o := ⟨_, rfl⟩
  have HA := Lib.hid (fun w => sBraidIn_any n s b w hs hb)
  have HWI : Hid (∀ w, Calls Try.prog 76 #[.string u] w fun e w' => e = .returned (.bool bu) ∧ Below w.heap.size w w') := Lib.hid (fun w => by rw [← hbu]; exact sWordIn_any u w hu)
  have HB := Lib.hid hb
  have HBU := Lib.hid hbu
  have HO := Lib.hid ho
  rw [hb, hbu, ho]
  clear hb hbu ho
  obtain ⟨⟨c0, c1⟩, _, _⟩ := boxOf2 HX.out.2.2 (Below.refl _ W)
  go_enter Try.func31, Try.ntmps31
  go_wp2_with fail
  rw [HW.out]
  refine (HA.out W).mono ?_
  rintro e w1 ⟨rfl, hb1⟩
  clear c0 c1
  have HB1 := Lib.hid hb1
  obtain ⟨⟨c0, c1⟩, _, _⟩ := boxOf2 HX.out.2.2 hb1
  clear hb1
  cases b with
  | false =>
    go_wp2_with fail
    go_ret2
    refine ⟨?_, HX.out.1.trans (HB1.out.mono HX.out.1.size)⟩
    rw [Bool.and_false]; rfl
  | true =>
    go_wp2_with fail
    refine (HWI.out _).mono ?_
    rintro e w2 ⟨rfl, hb2⟩
    clear c0 c1
    have hbW : Below W.heap.size W w2 := HB1.out.trans (hb2.mono HB1.out.size)
    have HBW := Lib.hid hbW
    obtain ⟨⟨c0, c1⟩, _, _⟩ := boxOf2 HX.out.2.2 hbW
    have hs2 := (HX.out.1.trans (hbW.mono HX.out.1.size)).size
    clear hb2 hbW
    cases bu with
    | false =>
      go_wp2_with fail
      go_ret2
      exact ⟨rfl, HX.out.1.trans (HBW.out.mono HX.out.1.size)⟩
    | true =>
      obtain ⟨_, p3, pA⟩ := braid_all HB.out
      have hw1 := (wordB_iff _).1 HBU.out
      have HAC := Lib.hid (l9Act_any n s u w2 (by first | omega | (simp at p3; omega)) (fun c hc => (pA c hc).1) (by simpa using hw1.1) hw1.2.1)
      clear p3 pA hw1
      rw [HO.out] at HAC
      go_wp2_with fail
      refine HAC.out.mono ?_
      rintro e w3 ⟨rfl, hb3⟩
      have hbe := HX.out.1.trans ((HBW.out.trans (hb3.mono HBW.out.size)).mono HX.out.1.size)
      cases o with
      | none =>
        dsimp only [actR]
        go_wp2_with fail
        go_ret2
        exact ⟨rfl, hbe⟩
      | some l =>
        dsimp only [actR]
        go_wp2_with fail
        go_ret2
        exact ⟨rfl, hbe⟩

end Go.Proofs.Ytaaeiogdhmiaaaa

/- The contracts of slices.Repeat at one iterator, and of the program's 'WordPower'. -/

namespace Go.Proofs.Ytaaeiogdhmiaaaa
open Go.RowKit Go.Shelf

abbrev LT : TypeId := 121

def layRen : Go.Shelf.Ren := ⟨fun | 212 => 128 | 263 => 140 | 264 => 141 | n => n, fun | 46 => 147 | 51 => 159 | 146 => 160 | 53 => 162 | 148 => 163 | n => n, fun | n => n⟩
theorem layMul : Go.Proofs.Lays.n212 Try.prog layRen := {
  mixed := by kernel_rfl
  f212 := Try.func128.trans (congrArg some (by kernel_rfl))
  f263 := Try.func140.trans (congrArg some (by kernel_rfl))
  f264 := Try.func141.trans (congrArg some (by kernel_rfl))
  t46 := Try.underlying147
  a46 := Try.isAgg147
  z46 := Try.sizeOf147
  v46 := Try.zeroValue147
  t51 := Try.underlying159
  a51 := Try.isAgg159
  z51 := Try.sizeOf159
  v51 := Try.zeroValue159
  t53 := Try.underlying162
  a53 := Try.isAgg162
  z53 := Try.sizeOf162
  v53 := Try.zeroValue162
  t146 := Try.underlying160
  a146 := Try.isAgg160
  z146 := Try.sizeOf160
  v146 := Try.zeroValue160
  t148 := Try.underlying163
  a148 := Try.isAgg163
  z148 := Try.sizeOf163
  v148 := Try.zeroValue163 }
theorem mul_one (y : Nat) (hy : y ≤ 1000000) (w : World) : Calls Try.prog 128 #[.int .u64 1, .int .u64 y] w fun e w' => e = .returned (.tuple #[.int .u64 0, .int .u64 y]) ∧ w' = w := by
  have h := Any.bits_Mul layMul 1 y (by omega) (by omega) w
  rw [show (1 * y / 18446744073709551616 : Nat) = 0 by omega, show (1 * y % 18446744073709551616 : Nat) = y by omega] at h
  exact h

theorem infoSeq : (Try.prog.info? 75).map (fun i => (i.zero, i.size, i.bytes)) = some (some .nilFunc, 1, 8) := by kernel_rfl

theorem splice_rep {f z : Value} (k m r : Nat) : splice (List.replicate k f ++ List.replicate r z) k (List.replicate m f) = List.replicate (k + m) f ++ List.replicate (r - m) z := by
  unfold splice
  rw [List.take_left' (by simp), List.length_replicate, ← List.drop_drop, List.drop_left' (by simp), List.drop_replicate, ← List.append_assoc, List.replicate_append_replicate]

theorem addr_add (b j : Nat) : (⟨b, 0, none⟩ : Addr).add j = ⟨b, j, none⟩ := by unfold Addr.add; split <;> simp_all
theorem row_cell {W : World} {g k r : Nat} {f z : Value} {t : TypeId} (h : W.heap[g]? = some (.cells (List.replicate k f ++ List.replicate r z).toArray t (0, 0))) (j : Nat) (hj : j < k) : W.cell? ⟨g, j, none⟩ = some f := by
  rw [cell_of_row W g j _ t (0, 0) h, List.getElem?_toArray, List.getElem?_append_left (by rw [List.length_replicate]; exact hj), List.getElem?_replicate, if_pos hj]

set_option maxRecDepth 100000 in
set_option maxHeartbeats 2000000 in
theorem repeat_any (g1 c : Nat) (f : Value) (hf : f.oneCell' = true) (w : World) (hc : c ≤ 60) (hcell : w.cell? ⟨g1, 0, none⟩ = some f) (hg1 : g1 < w.heap.size) :
    Calls Try.prog 105 #[.slice (some ⟨g1, 0, none⟩) 1 1, .int .i64 c] w fun e w' =>
      ∃ g, e = .returned (.slice (some ⟨g, 0, none⟩) c c) ∧ g < w'.heap.size ∧ Hid (∀ i, i < c → w'.cell? ⟨g, i, none⟩ = some f) ∧ Below w.heap.size w w' := by
  obtain ⟨i0, hi, hz0, hz1, hz2⟩ := info_parts infoSeq
  have HF := Lib.hid hf
  clear hf
  go_enter Try.func105, Try.ntmps105
  go_wp2_with fail
  refine (mul_one c (by omega) _).mono ?_
  rintro e w1 ⟨rfl, rfl⟩
  go_wp2_with (at_make; refine wpList_make_full _ rfl _ _ LT rfl w1.heap.size IT i0 .nilFunc 1 Try.underlying121 hi hz0 hz1 .i64 .i64 _ _ c rfl rfl rfl rfl (by rw [hz2]; omega) (by unfold maxLen; omega) (Nat.le_refl _) ?_; intro w2 hrow hgrow)
  have hone : (Try.prog.info? IT).map (·.size) = some 1 := by rw [hi]; exact congrArg some hz1
  have HOne := Lib.hid hone
  have hg : w2.heap[w1.heap.size]? = some (.cells (List.replicate c Value.nilFunc).toArray IT (0, 0)) := by
    rcases hrow.2 with ⟨h, _⟩ | ⟨g, cap, cur, h, _, hgb, _, _, hcs, htk⟩
    · cases h
    · cases h
      rw [hgb]
      have e1 : cur.toList = List.replicate c Value.nilFunc := by
        have e2 : cur.toList.take (c * 1) = cur.toList := List.take_of_length_le (by simp [hcs])
        rw [← e2, htk, show Value.cells Value.nilFunc = #[Value.nilFunc] from rfl, toList_madeCells_one, Nat.mul_one]
      rw [← e1]
  have hB2 : Below w1.heap.size w1 w2 := (Below.refl _ _).grown hgrow (Nat.le_refl _) (fun k e => by cases e)
  have hc2 : w2.cell? ⟨g1, 0, none⟩ = some f := (hB2.cell (p := ⟨g1, 0, none⟩) hg1).trans hcell
  by_cases hc0 : c = 0
  · have HC0 := Lib.hid hc0
    have hrun := run_copy_none (P := Try.prog) w2 LT LT 3 IT (some ⟨w1.heap.size, 0, none⟩) (some ⟨g1, 0, none⟩) c c 1 1 Try.underlying121 hone (by rw [hc0]; rfl)
    rw [hrun]
    have hcz : c ≤ 0 := by omega
    clear hrun hc0 hone
    go_wp2
    go_loopw [8] (fun i wr => i = .int .i64 0 ∧ w2 = wr) (fun _ _ => 0)
    case atStart => exact ⟨rfl, rfl⟩
    case round =>
      obtain ⟨rfl, rfl⟩ := hrel
      go_wp2
      go_ret
      exact ⟨_, rfl, (Array.getElem?_eq_some_iff.1 hg).1, Lib.hid (fun i h => by have := HC0.out; omega), hB2⟩
  · have hrun := run_copy_row (P := Try.prog) w2 LT LT 3 IT w1.heap.size 0 c c ⟨g1, 0, none⟩ 1 1 (List.replicate c Value.nilFunc).toArray IT [f] Try.underlying121 hone hg (by have : Nat.min 1 c = 1 := Nat.min_eq_left (by omega); rw [this]; rfl)
      (fun j v hj => by
        match j, hj with
        | 0, hj => cases hj; exact hc2
        | j + 1, hj => simp at hj) (by simp; omega) (fun v hv => by cases List.mem_singleton.1 hv; exact HF.out)
    rw [hrun]
    have hg3 : (w2.setRow w1.heap.size ((List.replicate c Value.nilFunc).toArray.toList.take 0 ++ [f] ++ (List.replicate c Value.nilFunc).toArray.toList.drop (0 + [f].length)).toArray).heap[w1.heap.size]? = some (.cells (List.replicate 1 f ++ List.replicate (c - 1) Value.nilFunc).toArray IT (0, 0)) := by
      rw [setRow_heap w2 _ _ _ _ _ hg]
      simp
    have hB3 : Below w1.heap.size w1 (w2.setRow w1.heap.size ((List.replicate c Value.nilFunc).toArray.toList.take 0 ++ [f] ++ (List.replicate c Value.nilFunc).toArray.toList.drop (0 + [f].length)).toArray) := below_setRow hB2 (Nat.le_refl _) _
    generalize (w2.setRow w1.heap.size ((List.replicate c Value.nilFunc).toArray.toList.take 0 ++ [f] ++ (List.replicate c Value.nilFunc).toArray.toList.drop (0 + [f].length)).toArray) = w3 at hg3 hB3 ⊢
    have HG3 := Lib.hid hg3
    have hc1 : 1 ≤ c := by omega
    clear hrun hg3 hg hc2 hcell hrow hgrow hB2 hc0 hone
    go_wp2_with fail
    go_loopw [8] (fun i wr => ∃ k : Nat, 1 ≤ k ∧ k ≤ c ∧ i = .int .i64 k ∧ Hid (wr.heap[w1.heap.size]? = some (.cells (List.replicate k f ++ List.replicate (c - k) Value.nilFunc).toArray IT (0, 0))) ∧ Below w1.heap.size w1 wr) (fun i _ => c - (intOf i).toNat)
    case atStart => exact ⟨1, Nat.le_refl _, hc1, by simp, HG3, hB3⟩
    case round =>
      obtain ⟨k, hk1, hk, rfl, HG, hB⟩ := hrel
      by_cases hlt : k < c
      · have hne : ¬ c = k := by omega
        have hm1 : Nat.min k (c - k) ≤ c - k := Nat.min_le_right _ _
        have hm2 : Nat.min k (c - k) ≤ k := Nat.min_le_left _ _
        have hm3 : 1 ≤ Nat.min k (c - k) := Nat.le_min.2 ⟨hk1, by omega⟩
        obtain ⟨m, hm⟩ : ∃ m, Nat.min k (c - k) = m := ⟨_, rfl⟩
        rw [hm] at hm1 hm2 hm3
        have hcell : ∀ j v, (List.replicate m f)[j]? = some v → wr.drew.cell? ((⟨w1.heap.size, 0, none⟩ : Addr).add j) = some v := fun j v hj => by
          have hjm : j < m := by
            have := (List.getElem?_eq_some_iff.1 hj).1; simpa using this
          have hv : v = f := List.eq_of_mem_replicate (List.mem_of_getElem? hj)
          have e : (⟨w1.heap.size, 0, none⟩ : Addr).add j = ⟨w1.heap.size, j, none⟩ := addr_add w1.heap.size j
          rw [e, hv]
          exact row_cell HG.out j (by omega)
        have hrun := run_copy_row (P := Try.prog) wr.drew LT LT 3 IT w1.heap.size k (c - k) (c - k) ⟨w1.heap.size, 0, none⟩ k c (List.replicate k f ++ List.replicate (c - k) Value.nilFunc).toArray IT (List.replicate m f) Try.underlying121 HOne.out HG.out (by rw [List.length_replicate, hm]) hcell (by simp; omega) (fun v hv => by rw [List.eq_of_mem_replicate hv]; exact HF.out)
        have hgs : wr.drew.heap[w1.heap.size]? = some (.cells (List.replicate k f ++ List.replicate (c - k) Value.nilFunc).toArray IT (0, 0)) := HG.out
        have hg4 := setRow_heap wr.drew w1.heap.size _ ((List.replicate k f ++ List.replicate (c - k) Value.nilFunc).toArray.toList.take k ++ List.replicate m f ++ (List.replicate k f ++ List.replicate (c - k) Value.nilFunc).toArray.toList.drop (k + (List.replicate m f).length)).toArray _ _ hgs
        have hB4 : Below w1.heap.size w1 (wr.drew.setRow w1.heap.size ((List.replicate k f ++ List.replicate (c - k) Value.nilFunc).toArray.toList.take k ++ List.replicate m f ++ (List.replicate k f ++ List.replicate (c - k) Value.nilFunc).toArray.toList.drop (k + (List.replicate m f).length)).toArray) := below_setRow hB.drew (Nat.le_refl _) _
        have hsp := splice_rep (f := f) (z := Value.nilFunc) k m (c - k)
        unfold splice at hsp
        rw [← List.append_assoc] at hsp
        rw [hsp] at hrun hg4 hB4
        rw [List.length_replicate] at hrun
        generalize (wr.drew.setRow w1.heap.size (List.replicate (k + m) f ++ List.replicate (c - k - m) Value.nilFunc).toArray) = w4 at hrun hg4 hB4
        have HG4 := Lib.hid hg4
        have HM := Lib.hid hm
        clear hgs hg4 hsp hcell hm
        go_wp2_with fail
        go_region
        go_wp2
        go_roundw
        case rel => exact ⟨k + m, by omega, by omega, by go_num, by rw [show c - (k + m) = c - k - m by omega]; exact HG4, hB4⟩
        case measure => simp [intOf]; omega
      · have hck : c ≤ k := by omega
        go_wp2
        go_ret
        refine ⟨_, rfl, (Array.getElem?_eq_some_iff.1 HG.out).1, Lib.hid (fun i h => ?_), hB⟩
        exact row_cell HG.out i (by omega)

end Go.Proofs.Ytaaeiogdhmiaaaa

/- The contract of the program's 'WordPower'. -/

namespace Go.Proofs.Ytaaeiogdhmiaaaa
open Go.RowKit Go.Shelf

theorem rep_int (g1 N : Nat) (c : Int) (f : Value) (hf : f.oneCell' = true) (w : World) (hc : c = (N : Int)) (hN : N ≤ 60) (hcell : w.cell? ⟨g1, 0, none⟩ = some f) (hg1 : g1 < w.heap.size) :
    Calls Try.prog 105 #[.slice (some ⟨g1, 0, none⟩) 1 1, .int .i64 c] w fun e w' =>
      ∃ g, e = .returned (.slice (some ⟨g, 0, none⟩) N N) ∧ g < w'.heap.size ∧ Hid (∀ i, i < N → w'.cell? ⟨g, i, none⟩ = some f) ∧ Below w.heap.size w w' := by
  subst hc; exact repeat_any g1 N f hf w hN hcell hg1

theorem pow_reduced (w : World) (g N : Nat) (it : Item) (B : Nat) (hN : N ≤ 60) (hg : g < w.heap.size) (hc : ∀ i, i < N → w.cell? ⟨g, i, none⟩ = some (.func (.func it.gf) #[] #[.pointer (some ⟨B, 0, none⟩)]))
    (hG : Gives it) (hbox : w.cell? ⟨B, 0, none⟩ = some it.sv) (hB : B < w.heap.size) (hw : IsWord w.heap.size w it.sv it.L) (hl : it.xs.length ≤ 60) :
    Calls Try.prog 104 #[.slice (some ⟨g, 0, none⟩) N N] w fun e w' =>
      ∃ g' m cap', e = .returned (.slice (some ⟨g', 0, none⟩) m cap') ∧ (redX [] (repL N it.xs)).length = m ∧ w'.ownsRow w.heap.size 77 1 (.slice (some ⟨g', 0, none⟩) m cap') m (bytesV (redX [] (repL N it.xs))) ∧ Below w.heap.size w w' := by
  have hcat : cat (List.replicate N (⟨it.gf, #[.pointer (some ⟨B, 0, none⟩)], it.xs⟩ : Part)) = repL N it.xs := by
    unfold cat repL; rw [List.map_replicate]
  have hr := reduced_in 40 (by omega) (some ⟨g, 0, none⟩) g 0 N (List.replicate N ⟨it.gf, #[.pointer (some ⟨B, 0, none⟩)], it.xs⟩) w (fun _ => rfl) hg
    (fun i h => by
      rw [List.length_replicate] at h
      rw [Nat.zero_add, List.getElem_replicate]
      exact hc i h)
    (fun p hp => by
      rw [List.eq_of_mem_replicate hp]
      exact ⟨hG.1 w B _ hB (Nat.le_refl _) hbox hw, hG.2⟩)
    (by rw [hcat, repL_len]; have : N * it.xs.length ≤ 60 * 60 := Nat.mul_le_mul hN hl; omega) (by rw [List.length_replicate]; omega)
  rw [hcat, List.length_replicate] at hr
  exact (callsIn_wide (n := 40)).1 hr

set_option maxRecDepth 100000 in
set_option maxHeartbeats 2000000 in
theorem iPower_yes (s : ByteArray) (k : Int) (w : World) (h0 : wordB s.data.toList = true) (hk1 : -60 ≤ k) (hk3 : k ≤ 60) :
    Calls Try.prog 62 #[.string s, .int .i64 k] w fun e w' => e = .returned (toldV (redL [] (powL k s.data.toList))) ∧ Below w.heap.size w w' := by
  obtain ⟨p1, p2, p3⟩ := (wordB_iff _).1 h0
  have hs : s.size ≤ 60 := by simpa using p1
  have HLr : Hid ((redL [] (powL k s.data.toList)).length ≤ 4000) := by
    have h1 := redL_len (powL k s.data.toList) []
    have h2 : (powL k s.data.toList).length = k.natAbs * s.data.toList.length := by
      unfold powL; rw [repL_len]; split <;> simp [backL_length]
    have h3 : k.natAbs * s.data.toList.length ≤ 60 * 60 := Nat.mul_le_mul (by omega) p1
    exact Lib.hid (by simp only [List.length_nil] at h1; omega)
  have H := Lib.hid h0
  clear h0
  by_cases hk : k < 0
  · have HR : Hid (redX [] (repL k.natAbs (s.data.toList.reverse.map invB)) = redL [] (powL k s.data.toList)) := by
      unfold powL
      rw [if_pos hk, inv_back _ p2, redX_eq _ _ (letL_rep _ _ (letL_back _ p2))]; exact Lib.hid rfl
    clear p1 p2 p3
    by_cases h : (redL [] (powL k s.data.toList)).length ≤ 60
    · have HT := Lib.hid (toldV_yes h)
      have HL := Lib.hid (h)
      clear h
      go_enter Try.func62, Try.ntmps62
      go_wp2_with fail
      refine (wordOf_yes s _ H.out).mono ?_
      rintro e w1 ⟨g0, cap0, rfl, hown, hb1⟩
      have hw := Lib.hid (isWord_of_owns (n₀ := w1.heap.size) (l := s.data.toList) (by simp) (by omega) hown (Nat.le_refl _))
      clear hown
      go_wp2_with fail
      refine (letters_bwd _ _ _ k _ hk).mono ?_
      rintro e w2 ⟨rfl, rfl⟩
      go_wp2_with fail
      refine (rep_int (w1.heap.size + 1) k.natAbs _ (.func (.func 137) #[] #[.pointer (some ⟨w1.heap.size, 0, none⟩)]) rfl _ (by omega) (by omega) ((World.cell?_alloc_at _ _ _ _ (by simp)).trans rfl) (by simp)).mono ?_
      rintro e w3 ⟨g, rfl, hg, hcl, hb3⟩
      have hb13 : Below w1.heap.size w1 w3 := (((Below.refl _ w1).alloc (Nat.le_refl _) _).alloc (by simp) _).trans (hb3.mono (by simp; omega))
      have hbox : w3.cell? ⟨w1.heap.size, 0, none⟩ = some (.slice (some ⟨g0, 0, none⟩) s.size cap0) := (hb3.cell (p := ⟨w1.heap.size, 0, none⟩) (by simp; omega)).trans (cell_past (Boxed.new w1 WT _).cell _)
      have hrd := pow_reduced w3 g k.natAbs ⟨137, .slice (some ⟨g0, 0, none⟩) s.size cap0, s.data.toList, s.data.toList.reverse.map invB⟩ w1.heap.size (by omega) hg hcl.out (gives_bwd _ _) hbox (by have := hb13.size; have := hb3.size; simp at this; omega) ((hw.out.below hb13).mono hb13.size) (by simp; omega)
      rw [HR.out] at hrd
      clear hbox
      have HRd := Lib.hid hrd
      clear hrd
      go_wp2_with fail
      refine HRd.out.mono ?_
      rintro e w4 ⟨g4, m, cap4, rfl, hm, hown, hb4⟩
      have HM := Lib.hid hm
      have HO := Lib.hid hown
      clear hm hown
      go_wp2_with fail
      refine (told_yes _ _ _ _ _ _ HM.out (by rw [← HM.out]; exact HL.out) HO.out).mono ?_
      rintro e w5 ⟨rfl, hb5⟩
      go_wp2_with fail
      go_ret2
      exact ⟨by rw [HT.out]; rfl, hb1.trans ((hb13.trans ((hb4.trans (hb5.mono hb4.size)).mono hb13.size)).mono hb1.size)⟩
    · have HT := Lib.hid (toldV_no h)
      have HL := Lib.hid (Nat.lt_of_not_le h)
      clear h
      go_enter Try.func62, Try.ntmps62
      go_wp2_with fail
      refine (wordOf_yes s _ H.out).mono ?_
      rintro e w1 ⟨g0, cap0, rfl, hown, hb1⟩
      have hw := Lib.hid (isWord_of_owns (n₀ := w1.heap.size) (l := s.data.toList) (by simp) (by omega) hown (Nat.le_refl _))
      clear hown
      go_wp2_with fail
      refine (letters_bwd _ _ _ k _ hk).mono ?_
      rintro e w2 ⟨rfl, rfl⟩
      go_wp2_with fail
      refine (rep_int (w1.heap.size + 1) k.natAbs _ (.func (.func 137) #[] #[.pointer (some ⟨w1.heap.size, 0, none⟩)]) rfl _ (by omega) (by omega) ((World.cell?_alloc_at _ _ _ _ (by simp)).trans rfl) (by simp)).mono ?_
      rintro e w3 ⟨g, rfl, hg, hcl, hb3⟩
      have hb13 : Below w1.heap.size w1 w3 := (((Below.refl _ w1).alloc (Nat.le_refl _) _).alloc (by simp) _).trans (hb3.mono (by simp; omega))
      have hbox : w3.cell? ⟨w1.heap.size, 0, none⟩ = some (.slice (some ⟨g0, 0, none⟩) s.size cap0) := (hb3.cell (p := ⟨w1.heap.size, 0, none⟩) (by simp; omega)).trans (cell_past (Boxed.new w1 WT _).cell _)
      have hrd := pow_reduced w3 g k.natAbs ⟨137, .slice (some ⟨g0, 0, none⟩) s.size cap0, s.data.toList, s.data.toList.reverse.map invB⟩ w1.heap.size (by omega) hg hcl.out (gives_bwd _ _) hbox (by have := hb13.size; have := hb3.size; simp at this; omega) ((hw.out.below hb13).mono hb13.size) (by simp; omega)
      rw [HR.out] at hrd
      clear hbox
      have HRd := Lib.hid hrd
      clear hrd
      go_wp2_with fail
      refine HRd.out.mono ?_
      rintro e w4 ⟨g4, m, cap4, rfl, hm, hown, hb4⟩
      have HM := Lib.hid hm
      have HO := Lib.hid hown
      clear hm hown
      go_wp2_with fail
      refine (told_no _ _ _ _ (by rw [← HM.out]; exact HL.out) (by have := HLr.out; rw [HM.out] at this; unfold maxLen; omega)).mono ?_
      rintro e w5 ⟨rfl, rfl⟩
      go_wp2_with fail
      go_ret2
      exact ⟨by rw [HT.out]; rfl, hb1.trans ((hb13.trans (hb4.mono hb13.size)).mono hb1.size)⟩
  · have HR : Hid (redX [] (repL k.natAbs s.data.toList) = redL [] (powL k s.data.toList)) := by
      unfold powL
      rw [if_neg hk, redX_eq _ _ (letL_rep _ _ p2)]; exact Lib.hid rfl
    clear p1 p2 p3
    by_cases h : (redL [] (powL k s.data.toList)).length ≤ 60
    · have HT := Lib.hid (toldV_yes h)
      have HL := Lib.hid (h)
      clear h
      go_enter Try.func62, Try.ntmps62
      go_wp2_with fail
      refine (wordOf_yes s _ H.out).mono ?_
      rintro e w1 ⟨g0, cap0, rfl, hown, hb1⟩
      have hw := Lib.hid (isWord_of_owns (n₀ := w1.heap.size) (l := s.data.toList) (by simp) (by omega) hown (Nat.le_refl _))
      clear hown
      go_wp2_with fail
      refine (letters_fwd _ _ _ k _ (by omega)).mono ?_
      rintro e w2 ⟨rfl, rfl⟩
      go_wp2_with fail
      refine (rep_int (w1.heap.size + 1) k.natAbs _ (.func (.func 139) #[] #[.pointer (some ⟨w1.heap.size, 0, none⟩)]) rfl _ (by omega) (by omega) ((World.cell?_alloc_at _ _ _ _ (by simp)).trans rfl) (by simp)).mono ?_
      rintro e w3 ⟨g, rfl, hg, hcl, hb3⟩
      have hb13 : Below w1.heap.size w1 w3 := (((Below.refl _ w1).alloc (Nat.le_refl _) _).alloc (by simp) _).trans (hb3.mono (by simp; omega))
      have hbox : w3.cell? ⟨w1.heap.size, 0, none⟩ = some (.slice (some ⟨g0, 0, none⟩) s.size cap0) := (hb3.cell (p := ⟨w1.heap.size, 0, none⟩) (by simp; omega)).trans (cell_past (Boxed.new w1 WT _).cell _)
      have hrd := pow_reduced w3 g k.natAbs ⟨139, .slice (some ⟨g0, 0, none⟩) s.size cap0, s.data.toList, s.data.toList⟩ w1.heap.size (by omega) hg hcl.out (gives_fwd _ _) hbox (by have := hb13.size; have := hb3.size; simp at this; omega) ((hw.out.below hb13).mono hb13.size) (by simp; omega)
      rw [HR.out] at hrd
      clear hbox
      have HRd := Lib.hid hrd
      clear hrd
      go_wp2_with fail
      refine HRd.out.mono ?_
      rintro e w4 ⟨g4, m, cap4, rfl, hm, hown, hb4⟩
      have HM := Lib.hid hm
      have HO := Lib.hid hown
      clear hm hown
      go_wp2_with fail
      refine (told_yes _ _ _ _ _ _ HM.out (by rw [← HM.out]; exact HL.out) HO.out).mono ?_
      rintro e w5 ⟨rfl, hb5⟩
      go_wp2_with fail
      go_ret2
      exact ⟨by rw [HT.out]; rfl, hb1.trans ((hb13.trans ((hb4.trans (hb5.mono hb4.size)).mono hb13.size)).mono hb1.size)⟩
    · have HT := Lib.hid (toldV_no h)
      have HL := Lib.hid (Nat.lt_of_not_le h)
      clear h
      go_enter Try.func62, Try.ntmps62
      go_wp2_with fail
      refine (wordOf_yes s _ H.out).mono ?_
      rintro e w1 ⟨g0, cap0, rfl, hown, hb1⟩
      have hw := Lib.hid (isWord_of_owns (n₀ := w1.heap.size) (l := s.data.toList) (by simp) (by omega) hown (Nat.le_refl _))
      clear hown
      go_wp2_with fail
      refine (letters_fwd _ _ _ k _ (by omega)).mono ?_
      rintro e w2 ⟨rfl, rfl⟩
      go_wp2_with fail
      refine (rep_int (w1.heap.size + 1) k.natAbs _ (.func (.func 139) #[] #[.pointer (some ⟨w1.heap.size, 0, none⟩)]) rfl _ (by omega) (by omega) ((World.cell?_alloc_at _ _ _ _ (by simp)).trans rfl) (by simp)).mono ?_
      rintro e w3 ⟨g, rfl, hg, hcl, hb3⟩
      have hb13 : Below w1.heap.size w1 w3 := (((Below.refl _ w1).alloc (Nat.le_refl _) _).alloc (by simp) _).trans (hb3.mono (by simp; omega))
      have hbox : w3.cell? ⟨w1.heap.size, 0, none⟩ = some (.slice (some ⟨g0, 0, none⟩) s.size cap0) := (hb3.cell (p := ⟨w1.heap.size, 0, none⟩) (by simp; omega)).trans (cell_past (Boxed.new w1 WT _).cell _)
      have hrd := pow_reduced w3 g k.natAbs ⟨139, .slice (some ⟨g0, 0, none⟩) s.size cap0, s.data.toList, s.data.toList⟩ w1.heap.size (by omega) hg hcl.out (gives_fwd _ _) hbox (by have := hb13.size; have := hb3.size; simp at this; omega) ((hw.out.below hb13).mono hb13.size) (by simp; omega)
      rw [HR.out] at hrd
      clear hbox
      have HRd := Lib.hid hrd
      clear hrd
      go_wp2_with fail
      refine HRd.out.mono ?_
      rintro e w4 ⟨g4, m, cap4, rfl, hm, hown, hb4⟩
      have HM := Lib.hid hm
      have HO := Lib.hid hown
      clear hm hown
      go_wp2_with fail
      refine (told_no _ _ _ _ (by rw [← HM.out]; exact HL.out) (by have := HLr.out; rw [HM.out] at this; unfold maxLen; omega)).mono ?_
      rintro e w5 ⟨rfl, rfl⟩
      go_wp2_with fail
      go_ret2
      exact ⟨by rw [HT.out]; rfl, hb1.trans ((hb13.trans (hb4.mono hb13.size)).mono hb1.size)⟩

theorem iPower_no (s : ByteArray) (k : Int) (w : World) (hs : s.size ≤ maxLen) (h : ¬ (wordB s.data.toList = true ∧ -60 ≤ k ∧ k ≤ 60)) :
    Calls Try.prog 62 #[.string s, .int .i64 k] w fun e w' => e = .returned (.tuple #[.string ByteArray.empty, .bool false]) ∧ Below w.heap.size w w' := by
  cases h0 : wordB s.data.toList with
  | false =>
    have H := Lib.hid h0
    clear h h0
    go_enter Try.func62, Try.ntmps62
    go_wp2_with fail
    refine (wordOf_no s _ hs H.out).mono ?_
    rintro e w1 ⟨rfl, hb1⟩
    go_wp2_with fail
    go_ret2
    exact ⟨rfl, hb1⟩
  | true =>
    have hor : k < -60 ∨ 60 < k := by
      rw [h0] at h
      simp only [true_and] at h
      omega
    have H := Lib.hid h0
    clear h h0
    rcases hor with hl | hl
    · go_enter Try.func62, Try.ntmps62
      go_wp2_with fail
      refine (wordOf_yes s _ H.out).mono ?_
      rintro e w1 ⟨g0, cap0, rfl, hown, hb1⟩
      clear hown
      go_wp2_with fail
      go_ret2
      exact ⟨rfl, hb1⟩
    · have hl2 : ¬ k < -60 := by omega
      go_enter Try.func62, Try.ntmps62
      go_wp2_with fail
      refine (wordOf_yes s _ H.out).mono ?_
      rintro e w1 ⟨g0, cap0, rfl, hown, hb1⟩
      clear hown
      go_wp2_with fail
      go_ret2
      exact ⟨rfl, hb1⟩

end Go.Proofs.Ytaaeiogdhmiaaaa

/- What the laws' proofs stand on, part 2 of 5. -/
import Derived.ChangeArms
import Derived.ChangeSame
import Derived.ProofKit
import Derived.WalkLawsBesides
import Derived.Laws.AppendOwn
import Derived.Lib.SmallJoins
import Derived.Deep.RegionHeld3
import Derived.Deep.AppendLies
import Derived.Deep.QuietTactic
import Derived.BigQuiet
import Derived.Lib.SliceRun
import Derived.Shelf.RegionOpenPlain
import Derived.Deep.DeepCutAuto
import Derived.Test.YtocklmiappppgaaBa

/- Derivatives of words as lists of terms in the order of letters; sums of such lists. -/

namespace Go.Proofs.Ytocklmiappppgaa
open Go.RowKit

/-- The term of one letter behind p. -/
def foxT (g c : Int) (p : List UInt8) (x : UInt8) : List Tm := if (idxB x : Int) = g then [⟨c * sgnB x, bstr (if 97 ≤ x.toNat then p else p ++ [x])⟩] else []
/-- The terms of the first k letters. -/
def foxN (g c : Int) (l : List UInt8) : Nat → List Tm
  | 0 => []
  | k + 1 => foxN g c l k ++ foxT g c (l.take k) (l.getD k 0)
def foxL (g c : Int) (l : List UInt8) : List Tm := foxN g c l l.length
theorem foxN_succ (g c : Int) (l : List UInt8) (k : Nat) (hk : k < l.length) : foxN g c l (k + 1) = foxN g c l k ++ foxT g c (l.take k) l[k] := by
  rw [foxN, List.getD_eq_getElem?_getD, List.getElem?_eq_getElem hk]; rfl
theorem foxT_no {g c : Int} {p : List UInt8} {x : UInt8} (h : (idxB x : Int) ≠ g) : foxT g c p x = [] := if_neg h
theorem foxT_hi {g c : Int} {p : List UInt8} {x : UInt8} (h : (idxB x : Int) = g) (hx : 97 ≤ x.toNat) : foxT g c p x = [⟨c * sgnB x, bstr p⟩] := by
  unfold foxT; rw [if_pos h, if_pos hx]
theorem foxT_lo {g c : Int} {p : List UInt8} {x : UInt8} (h : (idxB x : Int) = g) (hx : ¬ 97 ≤ x.toNat) : foxT g c p x = [⟨c * sgnB x, bstr (p ++ [x])⟩] := by
  unfold foxT; rw [if_pos h, if_neg hx]
theorem sgnB_bnd (x : UInt8) : -1 ≤ sgnB x ∧ sgnB x ≤ 1 := by unfold sgnB; split <;> omega
theorem mul_sgn {c C : Int} (hc : -C ≤ c ∧ c ≤ C) (x : UInt8) : -C ≤ c * sgnB x ∧ c * sgnB x ≤ C := by
  unfold sgnB; split <;> omega
theorem foxN_len (g c : Int) (l : List UInt8) : ∀ k, (foxN g c l k).length ≤ k
  | 0 => Nat.le_refl _
  | k + 1 => by
    have := foxN_len g c l k
    rw [foxN, List.length_append]
    have h2 : (foxT g c (l.take k) (l.getD k 0)).length ≤ 1 := by unfold foxT; split <;> simp
    omega
theorem foxN_mem {g c C : Int} (hc : -C ≤ c ∧ c ≤ C) {l : List UInt8} {t : Tm} : ∀ {k}, k ≤ l.length → t ∈ foxN g c l k → (-C ≤ t.c ∧ t.c ≤ C) ∧ ∃ j, j ≤ k ∧ t.s = bstr (l.take j)
  | 0, _, h => by cases h
  | k + 1, hk, h => by
    rw [foxN_succ g c l k (by omega)] at h
    rcases List.mem_append.1 h with h | h
    · obtain ⟨h1, j, hj, h2⟩ := foxN_mem hc (by omega) h
      exact ⟨h1, j, by omega, h2⟩
    · by_cases hi : (idxB l[k] : Int) = g
      · by_cases hx : 97 ≤ l[k].toNat
        · rw [foxT_hi hi hx] at h
          obtain rfl := List.mem_singleton.1 h
          exact ⟨mul_sgn hc _, k, by omega, rfl⟩
        · rw [foxT_lo hi hx] at h
          obtain rfl := List.mem_singleton.1 h
          refine ⟨mul_sgn hc _, k + 1, by omega, ?_⟩
          show bstr (l.take k ++ [l[k]]) = _
          rw [← take_snoc l k (by omega)]
      · rw [foxT_no hi] at h; cases h
theorem word_take {l : List UInt8} (h : wordB l = true) (j : Nat) : wordB (l.take j) = true := by
  obtain ⟨h1, h2, h3⟩ := (wordB_iff _).1 h
  refine (wordB_iff _).2 ⟨by rw [List.length_take]; omega, letL_of_mem _ _ h2 fun _ hc => List.mem_of_mem_take hc, (red_iff _).2 ?_⟩
  have := (red_iff _).1 h3
  rw [← List.take_append_drop j l] at this
  exact noC_left this

/-! ### Coefficients -/
def scaleT (c : Int) (ts : List Tm) : List Tm := ts.map fun t => ⟨c * t.c, t.s⟩
theorem coefAt_scale (s : ByteArray) (c : Int) : ∀ ts, coefAt s (scaleT c ts) = c * coefAt s ts
  | [] => by simp [scaleT, coefAt]
  | t :: r => by
    have ih := coefAt_scale s c r
    unfold scaleT at *
    rw [List.map_cons, coefAt, coefAt, ih, Int.mul_add]
    show (if t.s = s then c * t.c else 0) + _ = _
    split
    · rfl
    · simp
theorem foxT_scale (g c : Int) (p : List UInt8) (x : UInt8) : foxT g c p x = scaleT c (foxT g 1 p x) := by
  unfold foxT scaleT
  split
  · simp
  · rfl
theorem foxN_scale (g c : Int) (l : List UInt8) : ∀ k, foxN g c l k = scaleT c (foxN g 1 l k)
  | 0 => rfl
  | k + 1 => by
    rw [foxN, foxN, foxN_scale g c l k, foxT_scale]
    unfold scaleT; rw [List.map_append]
theorem foxL_scale (g c : Int) (l : List UInt8) : foxL g c l = scaleT c (foxL g 1 l) := foxN_scale g c l _
theorem coefAt_flat (s : ByteArray) {f h : Tm → List Tm} (hfh : ∀ t, coefAt s (f t) = coefAt s (h t)) : ∀ a : List Tm, coefAt s (a.flatMap f) = coefAt s (a.flatMap h)
  | [] => rfl
  | t :: r => by rw [List.flatMap_cons, List.flatMap_cons, coefAt_append, coefAt_append, hfh, coefAt_flat s hfh r]
theorem canonT_congr {a b : List Tm} (h : ∀ s, coefAt s a = coefAt s b) : canonT a = canonT b :=
  canonT_unique (canonT_spec a).1 fun s => by rw [(canonT_spec a).2, h]

/-- The terms of the derivative of a sum: as the program gathers them, and as the model does. -/
def foxI (g : Int) (a : List Tm) : List Tm := a.flatMap fun t => foxL g t.c t.s.data.toList
def foxM (g : Int) (a : List Tm) : List Tm := a.flatMap fun t => scaleT t.c (canonT (foxL g 1 t.s.data.toList))
theorem foxIM (g : Int) (a : List Tm) : canonT (foxM g a) = canonT (foxI g a) :=
  canonT_congr fun s => coefAt_flat s (fun t => by rw [coefAt_scale, (canonT_spec _).2, foxL_scale g t.c, coefAt_scale]) a

/-! ### Sizes -/
theorem fold_bound {C : Int} (hC : 0 ≤ C) : ∀ (ts acc : List Tm) (B : Int), 0 ≤ B → (∀ t ∈ ts, -C ≤ t.c ∧ t.c ≤ C) → (∀ u ∈ acc, -B ≤ u.c ∧ u.c ≤ B) → ∀ u ∈ ts.foldl addT acc, -(B + C * ts.length) ≤ u.c ∧ u.c ≤ B + C * ts.length
  | [], acc, B, _, _, h, u, hu => by have := h u hu; simpa using this
  | t :: r, acc, B, hB, ht, h, u, hu => by
    have h1 := fold_bound hC r (addT acc t) (B + C) (by omega) (fun v hv => ht v (by simp [hv])) (add_bound hC (ht t (by simp)) h hB) u hu
    rw [List.length_cons, show ((r.length + 1 : Nat) : Int) = (r.length : Int) + 1 by omega, Int.mul_add, Int.mul_one]
    omega
theorem fold_words : ∀ (ts acc : List Tm), ∀ u ∈ ts.foldl addT acc, (∃ v ∈ acc, v.s = u.s) ∨ ∃ v ∈ ts, v.s = u.s
  | [], acc, u, hu => .inl ⟨u, hu, rfl⟩
  | t :: r, acc, u, hu => by
    rcases fold_words r (addT acc t) u hu with ⟨v, hv, e⟩ | ⟨v, hv, e⟩
    · rcases add_words hv with h | ⟨x, hx, h⟩
      · exact .inr ⟨t, by simp, by rw [← h, e]⟩
      · exact .inl ⟨x, hx, by rw [h, e]⟩
    · exact .inr ⟨v, by simp [hv], e⟩
theorem canon_words {ts : List Tm} {u : Tm} (h : u ∈ canonT ts) : ∃ v ∈ ts, v.s = u.s := by
  rcases fold_words ts [] u h with ⟨v, hv, _⟩ | h
  · cases hv
  · exact h
theorem fold_len : ∀ (ts acc : List Tm), (ts.foldl addT acc).length ≤ acc.length + ts.length
  | [], acc => Nat.le_refl _
  | t :: r, acc => by
    have := fold_len r (addT acc t)
    have h2 := add_len t acc
    rw [List.length_cons]
    show (r.foldl addT (addT acc t)).length ≤ _
    omega
/-- A derivative of a word is a sum. -/
theorem fox_tw {g : Int} {l : List UInt8} (h : wordB l = true) : twB (canonT (foxL g 1 l)) = true := by
  have hl := ((wordB_iff _).1 h).1
  have hn := foxN_len g 1 l l.length
  have hlen : (canonT (foxL g 1 l)).length ≤ 60 := by
    have := fold_len (foxL g 1 l) []
    unfold foxL canonT at *
    simp only [List.length_nil] at this
    omega
  refine twB_of (by omega) fun j hj => ?_
  have hm := List.getElem_mem hj
  have hb := fold_bound (C := 1) (by omega) (foxL g 1 l) [] 0 (by omega) (fun t ht => (foxN_mem (C := 1) (by omega) (Nat.le_refl _) ht).1) (fun u hu => by cases hu) _ hm
  have hb2 : (foxL g 1 l).length ≤ 60 := by unfold foxL; omega
  obtain ⟨v, hv, e⟩ := canon_words hm
  obtain ⟨_, k, _, e2⟩ := foxN_mem (C := 1) (by omega) (Nat.le_refl _) hv
  unfold termB
  rw [← e, e2, bstr_toList, word_take h, Bool.true_and]
  unfold inR
  simp only [Bool.and_eq_true, decide_eq_true_eq]
  omega
theorem foxI_succ (g : Int) (a : List Tm) (k : Nat) (h : k < a.length) : foxI g (a.take (k + 1)) = foxI g (a.take k) ++ foxL g a[k].c a[k].s.data.toList := by
  unfold foxI; rw [List.take_succ_eq_append_getElem h, List.flatMap_append]; simp
theorem foxM_succ (g : Int) (a : List Tm) (k : Nat) (h : k < a.length) : foxM g (a.take (k + 1)) = foxM g (a.take k) ++ scaleT a[k].c (canonT (foxL g 1 a[k].s.data.toList)) := by
  unfold foxM; rw [List.take_succ_eq_append_getElem h, List.flatMap_append]; simp
theorem foxI_len (g : Int) : ∀ (a : List Tm), (∀ t ∈ a, t.s.size ≤ 60) → (foxI g a).length ≤ 60 * a.length
  | [], _ => by simp [foxI]
  | t :: r, h => by
    have ih := foxI_len g r fun u hu => h u (by simp [hu])
    have h1 := foxN_len g t.c t.s.data.toList t.s.data.toList.length
    have h2 := h t (by simp)
    unfold foxI foxL at *
    rw [List.flatMap_cons, List.length_append, List.length_cons]
    have h3 : t.s.data.toList.length = t.s.size := by simp
    omega
theorem foxI_mem {g : Int} {a : List Tm} (h : ∀ t ∈ a, t.s.size ≤ 60 ∧ -1000000 ≤ t.c ∧ t.c ≤ 1000000) {u : Tm} (hu : u ∈ foxI g a) : u.s.size ≤ 60 ∧ -1000000 ≤ u.c ∧ u.c ≤ 1000000 := by
  obtain ⟨t, ht, hu⟩ := List.mem_flatMap.1 hu
  obtain ⟨h1, h2⟩ := h t ht
  obtain ⟨h3, j, _, e⟩ := foxN_mem (C := 1000000) h2 (Nat.le_refl _) hu
  refine ⟨?_, h3⟩
  rw [e, bstr_size, List.length_take]
  have : t.s.data.toList.length = t.s.size := by simp
  omega

end Go.Proofs.Ytocklmiappppgaa

/- Monomials and series: what they are; the contracts of the model's 'l4Mono' and 'SeriesIn'. -/

namespace Go.Proofs.Ytocklmiappppgaa
open Go.RowKit

def genB (c : UInt8) : Bool := decide (97 ≤ c.toNat) && decide (c.toNat ≤ 100)
/-- Is this a monomial? -/
def monoB (s : ByteArray) : Bool := s.data.toList.all genB && decide (s.size ≤ 4)
theorem genB_false (s : ByteArray) (k : Nat) (hk : k < s.data.toList.length) (h : genB s.data.toList[k] = false) : monoB s = false := by
  unfold monoB; rw [List.all_eq_false.2 ⟨_, List.getElem_mem hk, by rw [h]; exact Bool.false_ne_true⟩]; rfl

/-- Is the term at j as a series wants it, beside the one ahead of it? -/
def serAt (ts : List Tm) (j : Nat) : Bool :=
  (ts.getD j default).c != 0 && inR (-1000000) 1000000 (ts.getD j default).c && monoB (ts.getD j default).s && (decide (j = 0) || lessW (ts.getD (j - 1) default).s (ts.getD j default).s)
def allSer (ts : List Tm) (n : Nat) : Bool := (List.range n).all (serAt ts)
theorem allSer_succ (ts : List Tm) (n : Nat) : allSer ts (n + 1) = (allSer ts n && serAt ts n) := by simp [allSer, List.range_succ]
theorem allSer_false (ts : List Tm) (n k : Nat) (hk : k < n) (h : serAt ts k = false) : allSer ts n = false :=
  List.all_eq_false.2 ⟨k, List.mem_range.2 hk, by simp [h]⟩
/-- Is this a series? -/
def serB (ts : List Tm) : Bool := allSer ts ts.length && decide (ts.length ≤ 400)

theorem serB_false (ts : List Tm) (k : Nat) (hk : k < ts.length) (h : serAt ts k = false) : serB ts = false := by
  unfold serB; rw [allSer_false ts _ k hk h, Bool.false_and]
theorem serAt_c (ts : List Tm) (k : Nat) (t : Tm) (ht : ts.getD k default = t) (h : t.c = 0) : serAt ts k = false := by
  unfold serAt; rw [ht, h]; rfl
theorem serAt_r (ts : List Tm) (k : Nat) (t : Tm) (ht : ts.getD k default = t) (h : inR (-1000000) 1000000 t.c = false) : serAt ts k = false := by
  unfold serAt; rw [ht, h]; simp
theorem serAt_w (ts : List Tm) (k : Nat) (t : Tm) (ht : ts.getD k default = t) (h : monoB t.s = false) : serAt ts k = false := by
  unfold serAt; rw [ht, h]; simp
theorem serAt_zero (ts : List Tm) (k : Nat) (t : Tm) (hk : k = 0) (ht : ts.getD k default = t) (h0 : ¬ t.c = 0) (h1 : inR (-1000000) 1000000 t.c = true) (h2 : monoB t.s = true) : serAt ts k = true := by
  unfold serAt; rw [ht, h1, h2]; simp [h0, hk]
theorem serAt_succ (ts : List Tm) (k : Nat) (t p : Tm) (hk : 0 < k) (ht : ts.getD k default = t) (hp : ts.getD (k - 1) default = p) (h0 : ¬ t.c = 0) (h1 : inR (-1000000) 1000000 t.c = true) (h2 : monoB t.s = true) : serAt ts k = lessW p.s t.s := by
  have h3 : ¬ k = 0 := by omega
  unfold serAt; rw [ht, hp, h1, h2]; simp [h0, h3]

end Go.Proofs.Ytocklmiappppgaa

/- Polynomials as lists of coefficients from a power on: trimmed ones, told by their coefficients. -/

namespace Go.Proofs.Ytocklmiappppgaa
open Go.RowKit

structure Pl where
  low : Int
  cs : List Int
/-- The coefficient of a power. -/
def pat (p : Pl) (k : Int) : Int := if p.low ≤ k then p.cs.getD (k - p.low).toNat 0 else 0
theorem pat_at (p : Pl) (i : Nat) : pat p (p.low + i) = p.cs.getD i 0 := by
  unfold pat
  rw [if_pos (by omega), show (p.low + (i : Int) - p.low).toNat = i by omega]
theorem pat_low (p : Pl) {k : Int} (h : k < p.low) : pat p k = 0 := by unfold pat; rw [if_neg (by omega)]
theorem getD_far {l : List Int} {i : Nat} (h : l.length ≤ i) : l.getD i 0 = 0 := by rw [List.getD_eq_getElem?_getD, List.getElem?_eq_none h]; rfl
theorem pat_high (p : Pl) {k : Int} (h : p.low + p.cs.length ≤ k) : pat p k = 0 := by
  unfold pat
  rw [if_pos (by omega)]
  exact getD_far (by omega)
theorem pat_nil (l k : Int) : pat ⟨l, []⟩ k = 0 := by unfold pat; split <;> rfl

/-- Neither end is 0; without coefficients the power is 0. -/
def Trim (p : Pl) : Prop := (p.cs = [] ∧ p.low = 0) ∨ (p.cs ≠ [] ∧ p.cs.getD 0 0 ≠ 0 ∧ p.cs.getD (p.cs.length - 1) 0 ≠ 0)
theorem getD_lt {l : List Int} {i : Nat} (h : l.getD i 0 ≠ 0) : i < l.length := by
  by_cases hi : i < l.length
  · exact hi
  · exact absurd (getD_far (by omega)) h
theorem pat_in {p : Pl} {k : Int} (h : pat p k ≠ 0) : p.low ≤ k ∧ k < p.low + p.cs.length := by
  by_cases h1 : k < p.low
  · exact absurd (pat_low p h1) h
  · by_cases h2 : p.low + p.cs.length ≤ k
    · exact absurd (pat_high p h2) h
    · omega
/-- There is just one trimmed polynomial with given coefficients. -/
theorem trim_unique {p q : Pl} (hp : Trim p) (hq : Trim q) (h : ∀ k, pat p k = pat q k) : p = q := by
  obtain ⟨lp, cp⟩ := p
  obtain ⟨lq, cq⟩ := q
  rcases hp with ⟨rfl, rfl⟩ | ⟨hp0, hp1, hp2⟩
  · rcases hq with ⟨rfl, rfl⟩ | ⟨hq0, hq1, hq2⟩
    · rfl
    · have h1 := h lq
      rw [pat_nil] at h1
      have h2 := pat_at ⟨lq, cq⟩ 0
      simp only [Int.natCast_zero, Int.add_zero] at h2
      exact absurd (h2.symm.trans h1.symm) hq1
  · rcases hq with ⟨rfl, rfl⟩ | ⟨hq0, hq1, hq2⟩
    · have h1 := h lp
      rw [pat_nil] at h1
      have h2 := pat_at ⟨lp, cp⟩ 0
      simp only [Int.natCast_zero, Int.add_zero] at h2
      exact absurd (h2.symm.trans h1) hp1
    · have a1 := pat_at ⟨lp, cp⟩ 0
      have a2 := pat_at ⟨lp, cp⟩ (cp.length - 1)
      have b1 := pat_at ⟨lq, cq⟩ 0
      have b2 := pat_at ⟨lq, cq⟩ (cq.length - 1)
      simp only [Int.natCast_zero, Int.add_zero] at a1 b1
      have lp0 := List.length_pos_iff.2 hp0
      have lq0 := List.length_pos_iff.2 hq0
      have c1 := pat_in (p := ⟨lq, cq⟩) (k := lp) (by rw [← h, a1]; exact hp1)
      have c2 := pat_in (p := ⟨lp, cp⟩) (k := lq) (by rw [h, b1]; exact hq1)
      have c3 := pat_in (p := ⟨lq, cq⟩) (k := lp + ((cp.length - 1 : Nat) : Int)) (by rw [← h, a2]; exact hp2)
      have c4 := pat_in (p := ⟨lp, cp⟩) (k := lq + ((cq.length - 1 : Nat) : Int)) (by rw [h, b2]; exact hq2)
      have c1 : lq ≤ lp := c1.1
      have c2 : lp ≤ lq := c2.1
      obtain rfl : lp = lq := by omega
      have c3 : lp + ((cp.length - 1 : Nat) : Int) < lp + cq.length := c3.2
      have c4 : lp + ((cq.length - 1 : Nat) : Int) < lp + cp.length := c4.2
      have hl : cp.length = cq.length := by omega
      congr 1
      refine List.ext_getElem hl fun i h1 h2 => ?_
      have e := h (lp + i)
      rw [pat_at ⟨lp, cp⟩ i, pat_at ⟨lp, cq⟩ i] at e
      simpa [List.getD_eq_getElem?_getD, List.getElem?_eq_getElem h1, List.getElem?_eq_getElem h2] using e

/-! ### Zeros at the ends -/
def zfrom : List Int → Nat
  | [] => 0
  | x :: r => if x = 0 then zfrom r + 1 else 0
theorem zfrom_le : ∀ l : List Int, zfrom l ≤ l.length
  | [] => Nat.le_refl _
  | x :: r => by rw [zfrom]; split <;> simp [zfrom_le r]
theorem zfrom_zero : ∀ (l : List Int) (i : Nat), i < zfrom l → l.getD i 0 = 0
  | [], _, h => absurd h (Nat.not_lt_zero _)
  | x :: r, i, h => by
    rw [zfrom] at h
    split at h
    · rename_i hx
      cases i with
      | zero => simpa using hx
      | succ i => simpa using zfrom_zero r i (by omega)
    · omega
theorem zfrom_head : ∀ l : List Int, zfrom l < l.length → l.getD (zfrom l) 0 ≠ 0
  | [], h => absurd h (Nat.not_lt_zero _)
  | x :: r, h => by
    rw [zfrom] at h ⊢
    split
    · rename_i hx
      rw [if_pos hx] at h
      simpa using zfrom_head r (by simpa using h)
    · rename_i hx
      simpa using hx
theorem zfrom_at {l : List Int} {k : Nat} (hk : k ≤ l.length) (hz : ∀ i, i < k → l.getD i 0 = 0) (hn : k < l.length → l.getD k 0 ≠ 0) : zfrom l = k := by
  have h1 := zfrom_le l
  by_cases h : zfrom l < k
  · exact absurd (hz _ h) (zfrom_head l (by omega))
  · by_cases h2 : k < zfrom l
    · exact absurd (zfrom_zero l k h2) (hn (by omega))
    · omega
def ztrim : List Int → List Int
  | [] => []
  | x :: r => match ztrim r with
    | [] => if x = 0 then [] else [x]
    | y :: s => x :: y :: s
theorem ztrim_get : ∀ (l : List Int) (i : Nat), (ztrim l).getD i 0 = l.getD i 0
  | [], _ => rfl
  | x :: r, i => by
    have ih := ztrim_get r
    rw [ztrim]
    cases h : ztrim r with
    | nil =>
      rw [h] at ih
      show (if x = 0 then ([] : List Int) else [x]).getD i 0 = _
      by_cases hx : x = 0
      · rw [if_pos hx]
        cases i with
        | zero => simp [hx]
        | succ i => have := ih i; simpa using this
      · rw [if_neg hx]
        cases i with
        | zero => simp
        | succ i => have := ih i; simpa using this
    | cons y s =>
      rw [h] at ih
      show (x :: y :: s).getD i 0 = _
      cases i with
      | zero => simp
      | succ i => have := ih i; simpa using this
theorem ztrim_last : ∀ l : List Int, ztrim l = [] ∨ (ztrim l).getD ((ztrim l).length - 1) 0 ≠ 0
  | [] => .inl rfl
  | x :: r => by
    rw [ztrim]
    rcases ztrim_last r with h | h
    · rw [h]
      show (if x = 0 then ([] : List Int) else [x]) = [] ∨ (if x = 0 then ([] : List Int) else [x]).getD ((if x = 0 then ([] : List Int) else [x]).length - 1) 0 ≠ 0
      by_cases hx : x = 0
      · rw [if_pos hx]; exact .inl rfl
      · rw [if_neg hx]; exact .inr (by simpa using hx)
    · cases hr : ztrim r with
      | nil => rw [hr] at h; exact absurd rfl h
      | cons y s =>
        rw [hr] at h
        right
        show (x :: y :: s).getD ((x :: y :: s).length - 1) 0 ≠ 0
        simpa using h
theorem ztrim_len : ∀ l : List Int, (ztrim l).length ≤ l.length
  | [] => Nat.le_refl _
  | x :: r => by
    have ih := ztrim_len r
    rw [ztrim]
    cases h : ztrim r with
    | nil =>
      show (if x = 0 then ([] : List Int) else [x]).length ≤ _
      split <;> simp
    | cons y s => rw [h] at ih; simpa using ih
theorem ztrim_snoc_zero : ∀ l : List Int, ztrim (l ++ [0]) = ztrim l
  | [] => rfl
  | x :: r => by rw [List.cons_append, ztrim, ztrim, ztrim_snoc_zero r]
theorem ztrim_snoc (x : Int) (hx : x ≠ 0) : ∀ l : List Int, ztrim (l ++ [x]) = l ++ [x]
  | [] => by show ztrim [x] = [x]; rw [ztrim]; show (if x = 0 then ([] : List Int) else [x]) = _; rw [if_neg hx]
  | y :: r => by
    rw [List.cons_append, ztrim, ztrim_snoc x hx r]
    cases r <;> rfl
/-- Without zeros at the ends. -/
def tidyP (low : Int) (l : List Int) : Pl := if ztrim (l.drop (zfrom l)) = [] then ⟨0, []⟩ else ⟨low + zfrom l, ztrim (l.drop (zfrom l))⟩
theorem tidy_trim (low : Int) (l : List Int) : Trim (tidyP low l) := by
  unfold tidyP
  split
  · exact .inl ⟨rfl, rfl⟩
  · rename_i h
    refine .inr ⟨h, ?_, ?_⟩
    · show (ztrim (l.drop (zfrom l))).getD 0 0 ≠ 0
      rw [ztrim_get]
      have hl : zfrom l < l.length := by
        by_cases hl : zfrom l < l.length
        · exact hl
        · rw [List.drop_of_length_le (by omega)] at h
          exact absurd rfl h
      have := zfrom_head l hl
      rw [List.getD_eq_getElem?_getD, List.getElem?_drop, Nat.add_zero, ← List.getD_eq_getElem?_getD]
      exact this
    · rcases ztrim_last (l.drop (zfrom l)) with h2 | h2
      · exact absurd h2 h
      · exact h2
theorem tidy_pat (low : Int) (l : List Int) (k : Int) : pat (tidyP low l) k = pat ⟨low, l⟩ k := by
  have hg : ∀ i, (ztrim (l.drop (zfrom l))).getD i 0 = l.getD (zfrom l + i) 0 := fun i => by
    rw [ztrim_get, List.getD_eq_getElem?_getD, List.getElem?_drop, ← List.getD_eq_getElem?_getD]
  have hlow : ∀ i, i < zfrom l → l.getD i 0 = 0 := zfrom_zero l
  unfold tidyP
  split
  · rename_i h
    rw [pat_nil]
    unfold pat
    split
    · show 0 = l.getD (k - low).toNat 0
      by_cases hi : (k - low).toNat < zfrom l
      · exact (hlow _ hi).symm
      · have e := hg ((k - low).toNat - zfrom l)
        rw [h, show zfrom l + ((k - low).toNat - zfrom l) = (k - low).toNat by omega] at e
        exact e
    · rfl
  · unfold pat
    show (if low + (zfrom l : Int) ≤ k then (ztrim (l.drop (zfrom l))).getD (k - (low + (zfrom l : Int))).toNat 0 else 0) = if low ≤ k then l.getD (k - low).toNat 0 else 0
    by_cases h1 : low + (zfrom l : Int) ≤ k
    · rw [if_pos h1, if_pos (by omega), hg, show zfrom l + (k - (low + (zfrom l : Int))).toNat = (k - low).toNat by omega]
    · rw [if_neg h1]
      by_cases h2 : low ≤ k
      · rw [if_pos h2, hlow _ (by omega)]
      · rw [if_neg h2]

/-! ### What is a polynomial -/
def coefIn (z : Int) : Bool := inR (-1000000000) 1000000000 z
def polyB (p : Pl) : Bool := p.cs.all coefIn && (if p.cs.length = 0 then decide (p.low = 0) else decide (p.cs.length ≤ 200) && (inR (-300) 300 p.low && (!(decide (p.cs.getD 0 0 = 0)) && !(decide (p.cs.getD (p.cs.length - 1) 0 = 0)))))
theorem polyB_trim {p : Pl} (h : polyB p = true) : Trim p ∧ p.cs.length ≤ 200 ∧ -300 ≤ p.low ∧ p.low ≤ 300 ∧ ∀ i, -1000000000 ≤ p.cs.getD i 0 ∧ p.cs.getD i 0 ≤ 1000000000 := by
  unfold polyB at h
  rw [Bool.and_eq_true] at h
  obtain ⟨h1, h2⟩ := h
  have hc : ∀ i, -1000000000 ≤ p.cs.getD i 0 ∧ p.cs.getD i 0 ≤ 1000000000 := fun i => by
    by_cases hi : i < p.cs.length
    · have := List.all_eq_true.1 h1 _ (List.getElem_mem hi)
      unfold coefIn inR at this
      simp only [Bool.and_eq_true, decide_eq_true_eq] at this
      rw [List.getD_eq_getElem?_getD, List.getElem?_eq_getElem hi]
      exact this
    · rw [getD_far (by omega)]; omega
  by_cases h0 : p.cs.length = 0
  · rw [if_pos h0, decide_eq_true_eq] at h2
    exact ⟨.inl ⟨List.length_eq_zero_iff.1 h0, h2⟩, by omega, by omega, by omega, hc⟩
  · rw [if_neg h0] at h2
    unfold inR at h2
    simp only [Bool.and_eq_true, decide_eq_true_eq, Bool.not_eq_true', decide_eq_false_iff_not] at h2
    exact ⟨.inr ⟨fun e => h0 (by rw [e]; rfl), h2.2.2.1, h2.2.2.2⟩, h2.1, h2.2.1.1, h2.2.1.2, hc⟩

end Go.Proofs.Ytocklmiappppgaa

/- Sums, products, turned and plain polynomials, told by their coefficients. -/

namespace Go.Proofs.Ytocklmiappppgaa
open Go.RowKit

/-- Coefficients from a power on, so many. -/
def listP (f : Int → Int) (low : Int) (n : Nat) : List Int := (List.range n).map fun i : Nat => f (low + (i : Int))
theorem listP_len (f : Int → Int) (low : Int) (n : Nat) : (listP f low n).length = n := by simp [listP]
theorem listP_get (f : Int → Int) (low : Int) (n i : Nat) (h : i < n) : (listP f low n).getD i 0 = f (low + i) := by
  rw [List.getD_eq_getElem?_getD, List.getElem?_eq_getElem (by rw [listP_len]; exact h)]
  simp [listP]
theorem listP_pat {f : Int → Int} {low : Int} {n : Nat} (h1 : ∀ k, k < low → f k = 0) (h2 : ∀ k, low + n ≤ k → f k = 0) (k : Int) : pat ⟨low, listP f low n⟩ k = f k := by
  unfold pat
  show (if low ≤ k then (listP f low n).getD (k - low).toNat 0 else 0) = f k
  by_cases h : low ≤ k
  · rw [if_pos h]
    by_cases hk : (k - low).toNat < n
    · rw [listP_get f low n _ hk, show low + (((k - low).toNat : Nat) : Int) = k by omega]
    · rw [getD_far (by rw [listP_len]; omega), h2 k (by omega)]
  · rw [if_neg h, h1 k (by omega)]

/-! ### Sums -/
def sumLow (a b : Pl) : Int := if a.cs.length = 0 then b.low else (if b.low ≤ a.low then b.low else a.low)
def sumHigh (a b : Pl) : Int := if a.cs.length = 0 then b.low + b.cs.length else (if a.low + a.cs.length ≤ b.low + b.cs.length then b.low + b.cs.length else a.low + a.cs.length)
def sumF (a : Pl) (n : Int) (b : Pl) (k : Int) : Int := pat a k + n * pat b k
/-- The first one and so many times the second one. -/
def sumP (a : Pl) (n : Int) (b : Pl) : Pl := if b.cs.length = 0 then a else tidyP (sumLow a b) (listP (sumF a n b) (sumLow a b) (sumHigh a b - sumLow a b).toNat)
theorem pat_none {p : Pl} (h : p.cs.length = 0) (k : Int) : pat p k = 0 := by
  unfold pat
  rw [List.length_eq_zero_iff.1 h]
  split <;> rfl
theorem sum_pat (a : Pl) (n : Int) (b : Pl) (k : Int) : pat (sumP a n b) k = pat a k + n * pat b k := by
  unfold sumP
  by_cases hb : b.cs.length = 0
  · rw [if_pos hb, pat_none hb, Int.mul_zero, Int.add_zero]
  · rw [if_neg hb, tidy_pat]
    have hlow : sumLow a b ≤ b.low ∧ (a.cs.length = 0 ∨ sumLow a b ≤ a.low) := by
      unfold sumLow
      split
      · exact ⟨Int.le_refl _, .inl (by assumption)⟩
      · split
        · exact ⟨Int.le_refl _, .inr (by assumption)⟩
        · exact ⟨by omega, .inr (Int.le_refl _)⟩
    have hhigh : b.low + b.cs.length ≤ sumHigh a b ∧ (a.cs.length = 0 ∨ a.low + a.cs.length ≤ sumHigh a b) := by
      unfold sumHigh
      split
      · exact ⟨Int.le_refl _, .inl (by assumption)⟩
      · split
        · exact ⟨Int.le_refl _, .inr (by assumption)⟩
        · exact ⟨by omega, .inr (Int.le_refl _)⟩
    refine listP_pat (f := sumF a n b) (fun k hk => ?_) (fun k hk => ?_) k
    · unfold sumF
      rw [pat_low b (by omega), Int.mul_zero, Int.add_zero]
      rcases hlow.2 with h | h
      · exact pat_none h k
      · exact pat_low a (by omega)
    · unfold sumF
      rw [pat_high b (by omega), Int.mul_zero, Int.add_zero]
      rcases hhigh.2 with h | h
      · exact pat_none h k
      · exact pat_high a (by omega)
theorem sum_trim {a : Pl} (n : Int) (b : Pl) (ha : Trim a) : Trim (sumP a n b) := by
  unfold sumP
  split
  · exact ha
  · exact tidy_trim _ _

/-! ### Products -/
/-- The sum of the products whose places add up to i, the first one's place below m. -/
def convN (x y : List Int) (i : Nat) : Nat → Int
  | 0 => 0
  | m + 1 => convN x y i m + (if m ≤ i then x.getD m 0 * y.getD (i - m) 0 else 0)
def convL (x y : List Int) : List Int := (List.range (x.length + y.length - 1)).map fun i => convN x y i x.length
theorem convL_len (x y : List Int) : (convL x y).length = x.length + y.length - 1 := by simp [convL]
theorem convL_get (x y : List Int) (i : Nat) (h : i < x.length + y.length - 1) : (convL x y).getD i 0 = convN x y i x.length := by
  rw [List.getD_eq_getElem?_getD, List.getElem?_eq_getElem (by rw [convL_len]; exact h)]
  simp [convL]
/-- Only places from one on count. -/
theorem convN_from (x y : List Int) (i : Nat) : ∀ m, m + y.length ≤ i + 1 → convN x y i m = 0
  | 0, _ => rfl
  | m + 1, h => by
    rw [convN, convN_from x y i m (by omega)]
    by_cases h2 : m ≤ i
    · rw [if_pos h2, getD_far (l := y) (by omega), Int.mul_zero]; rfl
    · rw [if_neg h2]; rfl
theorem convN_stop (x y : List Int) (i : Nat) : ∀ m, convN x y i (i + 1 + m) = convN x y i (i + 1)
  | 0 => rfl
  | m + 1 => by rw [show i + 1 + (m + 1) = i + 1 + m + 1 by omega, convN, if_neg (by omega), convN_stop x y i m, Int.add_zero]
theorem convN_far (x y : List Int) (i : Nat) : ∀ m, convN x y i (x.length + m) = convN x y i x.length
  | 0 => rfl
  | m + 1 => by
    rw [show x.length + (m + 1) = x.length + m + 1 by omega, convN, convN_far x y i m, getD_far (l := x) (by omega), Int.zero_mul]
    split <;> exact Int.add_zero _
/-- The product, its coefficients of whatever size. -/
def prodP (a b : Pl) : Pl := if a.cs.length = 0 ∨ b.cs.length = 0 then ⟨0, []⟩ else tidyP (a.low + b.low) (convL a.cs b.cs)
theorem prod_trim (a b : Pl) : Trim (prodP a b) := by
  unfold prodP
  split
  · exact .inl ⟨rfl, rfl⟩
  · exact tidy_trim _ _

/-! ### Turned and plain ones -/
def turnP (a : Pl) : Pl := tidyP (1 - a.low - a.cs.length) a.cs.reverse
theorem turn_pat (a : Pl) (k : Int) : pat (turnP a) k = pat a (-k) := by
  unfold turnP
  rw [tidy_pat]
  by_cases h1 : -k < a.low
  · rw [pat_low a h1]
    exact pat_high _ (by show 1 - a.low - a.cs.length + ((a.cs.reverse.length : Nat) : Int) ≤ k; rw [List.length_reverse]; omega)
  · by_cases h2 : a.low + a.cs.length ≤ -k
    · rw [pat_high a h2]
      exact pat_low _ (by show k < 1 - a.low - a.cs.length; omega)
    · have e1 := pat_at a (-k - a.low).toNat
      have e2 := pat_at ⟨1 - a.low - a.cs.length, a.cs.reverse⟩ (k - (1 - a.low - a.cs.length)).toNat
      rw [show a.low + ((-k - a.low).toNat : Int) = -k by omega] at e1
      rw [show (1 - a.low - (a.cs.length : Int)) + ((k - (1 - a.low - (a.cs.length : Int))).toNat : Int) = k by omega] at e2
      rw [e1, e2]
      show a.cs.reverse.getD _ 0 = a.cs.getD _ 0
      rw [List.getD_eq_getElem?_getD, List.getD_eq_getElem?_getD, List.getElem?_reverse (by omega), show a.cs.length - 1 - (k - (1 - a.low - (a.cs.length : Int))).toNat = (-k - a.low).toNat by omega]
def plainP (a : Pl) : Pl := if a.cs.length = 0 then a else ⟨0, a.cs.map fun z => (if a.cs.getD 0 0 < 0 then -1 else 1) * z⟩
/-- The value at 1. -/
def oneP (l : List Int) : Nat → Int
  | 0 => 0
  | k + 1 => oneP l k + l.getD k 0

end Go.Proofs.Ytocklmiappppgaa

/- Slices of ints that came in; polynomials in memory; a polynomial that came in, opened. -/

namespace Go.Proofs.Ytocklmiappppgaa
open Go.RowKit Go.ChangeShapes Go.WideShapes

/-- The first n ints of a slice at a, anywhere. -/
structure Ints (w : World) (a : Option Addr) (n : Nat) (zs : List Int) : Prop where
  len : zs.length = n
  max : n ≤ maxLen
  at_ : 0 < n → ∃ x, a = some x ∧ x.block < w.heap.size ∧ ∀ j (h : j < zs.length), w.cell? (x.add j) = some (.int .i64 zs[j])
  wf : ∀ z ∈ zs, -9223372036854775808 ≤ z ∧ z ≤ 9223372036854775807
theorem Ints.below {w w' : World} {a : Option Addr} {n : Nat} {zs : List Int} (h : Ints w a n zs) (hb : Below w.heap.size w w') : Ints w' a n zs :=
  ⟨h.len, h.max, fun h0 => by
    obtain ⟨x, e, hg, hc⟩ := h.at_ h0
    exact ⟨x, e, Nat.lt_of_lt_of_le hg hb.size, fun j hj => (hb.cell (p := x.add j) (by rw [addr_add_block]; exact hg)).trans (hc j hj)⟩, h.wf⟩
theorem IntRow.read {base : Nat} {w : World} {v : Value} {zs : List Int} (h : IntRow base w v zs) (hw : ∀ z ∈ zs, -9223372036854775808 ≤ z ∧ z ≤ 9223372036854775807) : ∃ a cap, v = .slice a zs.length cap ∧ Ints w a zs.length zs := by
  obtain ⟨a, g, cap, rfl, h1, h2, h3⟩ := h.shape
  refine ⟨a, cap, rfl, rfl, h2, fun h0 => ⟨⟨g, 0, none⟩, (h1 h0).1, (h1 h0).2.2, fun j hj => ?_⟩, hw⟩
  have e : (⟨g, 0, none⟩ : Addr).add j = ⟨g, j, none⟩ := by unfold Addr.add; split <;> simp_all
  rw [e]
  exact (h3 j hj).1
theorem ints_of {H : Type} {enc : TypeId × Value → H} {W : World} {base : Nat} {spare : Nat → Bool} {held : Bool} {fuel : Nat} {a : Option Addr} {len cap : Nat} {x : DataW H × List MemPlace}
    (h : DataW.trod enc Try.prog W base spare held fuel 23 [.slice a len cap] = some x) : ∃ zs, Ints W a len zs := by
  rcases Go.ChangeShapes.open_ints Try.underlying23 Try.underlying3 (by kernel_rfl) h with ⟨hcs, _⟩ | ⟨y, l, c, zs, hcs, hb, hl, hm, hz, _, hx, hwf⟩
  · simp at hcs
    obtain ⟨rfl, rfl, rfl⟩ := hcs
    exact ⟨[], rfl, Nat.zero_le _, fun h => absurd h (Nat.lt_irrefl _), fun z h => by cases h⟩
  · simp at hcs
    obtain ⟨rfl, rfl, rfl⟩ := hcs
    have hlz : len ≤ zs.length := by rw [hz]; split <;> omega
    refine ⟨zs.take len, by rw [List.length_take]; omega, by omega, fun h0 => ⟨y, rfl, ?_, fun j hj => ?_⟩, fun z hzm => ?_⟩
    · have := World.block_lt_of_cell? _ _ (hx 0 (by omega))
      rwa [addr_add_block] at this
    · rw [List.length_take] at hj
      rw [hx j (by omega), List.getD_eq_getElem?_getD, List.getElem?_eq_getElem (by omega), List.getElem_take]; rfl
    · have h2 := hwf z (List.mem_of_mem_take hzm)
      simp only [Lit.wf, Bool.and_eq_true, decide_eq_true_eq] at h2
      exact ⟨h2.1, h2.2⟩
/-- The value of a polynomial. -/
abbrev plV (low : Int) (v : Value) : Value := .agg #[.int .i64 low, v]
theorem poly_of {H : Type} {enc : TypeId × Value → H} {W : World} {base : Nat} {spare : Nat → Bool} {held : Bool} {fuel : Nat} {cs : Array Value} {x : DataW H × List MemPlace}
    (h : DataW.trod enc Try.prog W base spare held fuel 40 cs.toList = some x) : ∃ (low : Int) (a : Option Addr) (len cap : Nat) (zs : List Int), cs = #[.int .i64 low, .slice a len cap] ∧ (-9223372036854775808 ≤ low ∧ low ≤ 9223372036854775807) ∧ Ints W a len zs := by
  obtain ⟨y0, y1, n, rfl, hl, h0, h1⟩ := trod_struct2 Try.underlying40 h
  have hc : cs.toList.length = 2 := hl.trans (by kernel_rfl)
  match hcs : cs.toList, hc with
  | [u, v], _ =>
    rw [hcs] at h0 h1
    obtain ⟨k, hk, _, hwf⟩ := DataW.trod_int Try.underlying3 h0
    have hu : u = .int .i64 k := by simpa [show Try.prog.cellsOf 3 = 1 by kernel_rfl] using hk
    have h1' : DataW.trod enc Try.prog W base spare held n 23 [v] = some y1 := by simpa [show Try.prog.cellsOf 23 = 1 by kernel_rfl] using h1
    obtain ⟨a, len, cap, hv⟩ : ∃ a len cap, v = .slice a len cap := by
      rcases Go.ChangeShapes.open_ints Try.underlying23 Try.underlying3 (by kernel_rfl) h1' with ⟨hcs, _⟩ | ⟨y, l, c, zs, hcs, _⟩
      · exact ⟨none, 0, 0, by simpa using hcs⟩
      · exact ⟨some y, l, c, by simpa using hcs⟩
    subst hv
    obtain ⟨zs, hz⟩ := ints_of h1'
    simp only [Lit.wf, Bool.and_eq_true, decide_eq_true_eq] at hwf
    exact ⟨k, a, len, cap, zs, by rw [← hu]; exact Array.toList_inj.1 hcs, ⟨hwf.1, hwf.2⟩, hz⟩

end Go.Proofs.Ytocklmiappppgaa

/- The contracts of the model's 'l5Text', 'l5Lyndon' and 'LyndonIn'. -/

namespace Go.Proofs.Ytocklmiappppgaa
open Go.RowKit

/-- At most twelve generators. -/
def text12 (s : ByteArray) : Bool := s.data.toList.all genB && decide (s.size ≤ 12)
/-- Less than each of its ends. -/
def lynL (l : List UInt8) : Bool := decide (0 < l.length) && (List.range (l.length - 1)).all fun i => Op.bytesLess l (l.drop (i + 1))
def lynB (s : ByteArray) : Bool := text12 s && lynL s.data.toList
theorem text12_false (s : ByteArray) (k : Nat) (hk : k < s.data.toList.length) (h : genB s.data.toList[k] = false) : text12 s = false := by
  unfold text12; rw [List.all_eq_false.2 ⟨_, List.getElem_mem hk, by rw [h]; exact Bool.false_ne_true⟩]; rfl

theorem extract_drop (s : ByteArray) (i : Nat) : (s.extract i s.size).toList = s.data.toList.drop i := by
  rw [ByteArray.toList_eq, Lib.extract_data]
  apply List.take_of_length_le
  rw [List.length_drop]
  have : s.data.toList.length = s.size := by simp
  omega

/-- How the end from i on compares. -/
theorem end_cmp {s : ByteArray} {i : Nat} (hi : 0 < i) (hs : 0 < s.size) {r : Bool} (h : Op.bytesLess s.data.toList (s.data.toList.drop i) = r) :
    Op.bytesLess (s.extract i s.size).toList s.toList = !r ∧ ((s.extract i s.size).toList == s.toList) = false := by
  rw [extract_drop, ByteArray.toList_eq]
  have hne : s.data.toList.drop i ≠ s.data.toList := fun e => by
    have h1 := congrArg List.length e
    have h2 : s.data.toList.length = s.size := by simp
    rw [List.length_drop] at h1
    omega
  refine ⟨?_, by simpa using hne⟩
  cases r with
  | true =>
    cases h2 : Op.bytesLess (s.data.toList.drop i) s.data.toList with
    | false => rfl
    | true => have := bl_trans _ _ _ h h2; rw [bl_irrefl] at this; cases this
  | false =>
    cases h2 : Op.bytesLess (s.data.toList.drop i) s.data.toList with
    | true => rfl
    | false => exact absurd (bl_tri _ _ h2 h) hne

end Go.Proofs.Ytocklmiappppgaa

/- The contract of the model's 'LyndonCount'. -/

namespace Go.Proofs.Ytocklmiappppgaa
open Go.RowKit

/-- The function mu, with fuel: d is left, p is tried. -/
def muR : Nat → Nat → Nat → Int → Int
  | 0, _, _, o => o
  | f + 1, d, p, o => if d < p then o else if d % p = 0 then (if d / p % p = 0 then 0 else muR f (d / p) (p + 1) (0 - o)) else muR f d (p + 1) o
def muI (d : Nat) : Int := muR 13 d 2 1

/-- One factor's share, summed up to m; and what LyndonCount answers. -/
def sumMuC (k n : Nat) : Nat → Int
  | 0 => 0
  | m + 1 => if n % (m + 1) = 0 then sumMuC k n m + muI (m + 1) * ((k ^ (n / (m + 1)) : Nat) : Int) else sumMuC k n m
def countI (k n : Nat) : Int := (sumMuC k n n).tdiv n

theorem muR_le : ∀ (f d p : Nat) (o : Int), -1 ≤ o → o ≤ 1 → -1 ≤ muR f d p o ∧ muR f d p o ≤ 1
  | 0, _, _, o, h1, h2 => ⟨h1, h2⟩
  | f + 1, d, p, o, h1, h2 => by
    rw [muR]
    split
    · exact ⟨h1, h2⟩
    · split
      · split
        · exact ⟨by omega, by omega⟩
        · exact muR_le f _ _ _ (by omega) (by omega)
      · exact muR_le f _ _ _ h1 h2
theorem muI_le (d : Nat) : -1 ≤ muI d ∧ muI d ≤ 1 := muR_le _ _ _ _ (by omega) (by omega)
theorem pow_le (k e : Nat) (hk : k ≤ 4) (he : e ≤ 12) : k ^ e ≤ 16777216 :=
  Nat.le_trans (Nat.pow_le_pow_left hk e) (Nat.le_trans (Nat.pow_le_pow_right (by omega) he) (by decide))
theorem share_le (m x : Int) (h1 : -1 ≤ m) (h2 : m ≤ 1) (h3 : 0 ≤ x) (h4 : x ≤ 16777216) : -16777216 ≤ m * x ∧ m * x ≤ 16777216 := by
  rcases (by omega : m = -1 ∨ m = 0 ∨ m = 1) with rfl | rfl | rfl <;> omega
theorem sumC_le (k n : Nat) (hk : k ≤ 4) (hn : n ≤ 12) : ∀ m : Nat, -16777216 * (m : Int) ≤ sumMuC k n m ∧ sumMuC k n m ≤ 16777216 * (m : Int)
  | 0 => ⟨by simp [sumMuC], by simp [sumMuC]⟩
  | m + 1 => by
    have ih := sumC_le k n hk hn m
    rw [sumMuC]
    split
    · have h1 := muI_le (m + 1)
      have h2 := pow_le k (n / (m + 1)) hk (Nat.le_trans (Nat.div_le_self _ _) hn)
      have h3 := share_le _ ((k ^ (n / (m + 1)) : Nat) : Int) h1.1 h1.2 (by omega) (by omega)
      push_cast at h3 ⊢
      exact ⟨by omega, by omega⟩
    · exact ⟨by push_cast; omega, by push_cast; omega⟩
theorem l6In_eq (c a b : Int) (r : Bool) (w : World) (h : inR a b c = r) :
    Calls Try.prog 69 #[.int .i64 c, .int .i64 a, .int .i64 b] w fun e w' => e = .returned (.bool r) ∧ w = w' :=
  (l6In_any c a b w).mono fun _ _ ⟨h1, h2⟩ => ⟨by rw [h1, h], h2⟩

theorem countI_nat {k n : Int} (hb : (inR 1 4 k && inR 1 12 n) = true) : ∃ a b : Nat, k = a ∧ n = b ∧ 1 ≤ a ∧ a ≤ 4 ∧ 1 ≤ b ∧ b ≤ 12 := by
  unfold inR at hb
  simp only [Bool.and_eq_true, decide_eq_true_eq] at hb
  exact ⟨k.toNat, n.toNat, by omega, by omega, by omega, by omega, by omega, by omega⟩
end Go.Proofs.Ytocklmiappppgaa

/- The contract of the model's 'PolyIn'. -/

namespace Go.Proofs.Ytocklmiappppgaa
open Go.RowKit

theorem coef_take {zs : List Int} {k : Nat} (hk : k < zs.length) (h : (zs.take k).all coefIn = true) (hf : coefIn zs[k] = true) : (zs.take (k + 1)).all coefIn = true := by
  rw [List.take_succ_eq_append_getElem hk, List.all_append, h]
  simp [hf]
theorem polyB_bad {p : Pl} {k : Nat} (hk : k < p.cs.length) (h : coefIn p.cs[k] = false) : polyB p = false := by
  unfold polyB
  rw [List.all_eq_false.2 ⟨_, List.getElem_mem hk, by rw [h]; exact Bool.false_ne_true⟩]; rfl

set_option maxRecDepth 100000 in
set_option maxHeartbeats 4000000 in
theorem sPolyIn_any (low : Int) (zs : List Int) (a : Option Addr) (cap n : Nat) (b : Bool) (w : World) (hs : Ints w a n zs) (hb : polyB ⟨low, zs⟩ = b) :
    Calls Try.prog 25 #[plV low (.slice a n cap)] w fun e w' => e = .returned (.bool b) ∧ Below w.heap.size w w' := by
  have hm := hs.max
  unfold maxLen at hm
  have HN := Lib.hid hs.len
  have HB := Lib.hid hb
  obtain ⟨W, hW⟩ : ∃ W, w.alloc (.cells #[.int .i64 low, .slice a n cap] 25) = W := ⟨_, rfl⟩
  have hbW : Below w.heap.size w W := by rw [← hW]; exact (Below.refl _ w).alloc (Nat.le_refl _) _
  have hsz : w.heap.size < W.heap.size := by rw [← hW]; simp
  have hc0 : W.cell? ⟨w.heap.size, 0, none⟩ = some (.int .i64 low) := by rw [← hW]; exact (World.cell?_alloc_at _ _ _ _ (by simp)).trans rfl
  have hc1 : W.cell? ⟨w.heap.size, 1, none⟩ = some (.slice a n cap) := by rw [← hW]; exact (World.cell?_alloc_at _ _ _ _ (by simp)).trans rfl
  have HS := Lib.hid (hs.below hbW)
  have HBW := Lib.hid hbW
  have HC : Hid (∀ w1, Below W.heap.size W w1 → w1.cell? ⟨w.heap.size, 0, none⟩ = some (.int .i64 low) ∧ w1.cell? ⟨w.heap.size, 1, none⟩ = some (.slice a n cap)) := Lib.hid fun w1 h => ⟨(h.cell (p := ⟨w.heap.size, 0, none⟩) hsz).trans hc0, (h.cell (p := ⟨w.heap.size, 1, none⟩) hsz).trans hc1⟩
  have HW := Lib.hid hW
  clear hs hb hbW hW
  go_enter Try.func25, Try.ntmps25
  go_wp2
  rw [HW.out]
  clear HW hc0 hc1
  go_loopw [4] (fun i wr => ∃ k : Nat, k ≤ n ∧ i = .int .i64 (k : Int) ∧ Hid ((zs.take k).all coefIn = true) ∧ Below W.heap.size W wr) (fun i _ => n - (intOf i).toNat)
  case atStart => exact ⟨0, Nat.zero_le _, rfl, Lib.hid rfl, Below.refl _ _⟩
  case round =>
    obtain ⟨k, hk, rfl, HK, hB⟩ := hrel
    obtain ⟨c0, c1⟩ := HC.out _ hB
    have HBw := Lib.hid (HBW.out.trans (hB.mono HBW.out.size))
    by_cases hlt : k < n
    · have hkz : k < zs.length := by rw [HN.out]; exact hlt
      obtain ⟨x, rfl, hxb, hxc⟩ := HS.out.at_ (by omega)
      obtain ⟨z, hz⟩ : ∃ z, zs[k] = z := ⟨_, rfl⟩
      have hcz : wr.cell? (x.add k) = some (.int .i64 z) := by rw [← hz]; exact (hB.cell (p := x.add k) (by rw [addr_add_block]; exact hxb)).trans (hxc k hkz)
      cases hq : coefIn z with
      | true =>
        have HT := Lib.hid (coef_take hkz HK.out (by rw [hz]; exact hq))
        have HQ : Hid (inR (-1000000000) 1000000000 z = true) := Lib.hid hq
        clear hq hz hxc
        go_wp2_with fail
        refine (l6In_eq _ _ _ true _ HQ.out).mono ?_
        rintro e w1 ⟨rfl, rfl⟩
        go_wp2
        go_roundw
        case rel => exact ⟨k + 1, by omega, by go_num, HT, hB⟩
        case measure => simp [intOf]; omega
      | false =>
        have hbf : b = false := by rw [← HB.out]; exact polyB_bad (p := ⟨low, zs⟩) hkz (by show coefIn zs[k] = false; rw [hz]; exact hq)
        subst hbf
        have HQ : Hid (inR (-1000000000) 1000000000 z = false) := Lib.hid hq
        clear hq hz hxc
        go_wp2_with fail
        refine (l6In_eq _ _ _ false _ HQ.out).mono ?_
        rintro e w1 ⟨rfl, rfl⟩
        go_wp2
        go_ret
        exact ⟨rfl, HBw.out⟩
    · obtain rfl : k = n := by omega
      have hall : zs.all coefIn = true := by have := HK.out; rwa [List.take_of_length_le (by rw [HN.out]; exact Nat.le_refl _)] at this
      have hP : polyB ⟨low, zs⟩ = (if k = 0 then decide (low = 0) else decide (k ≤ 200) && (inR (-300) 300 low && (!(decide (zs.getD 0 0 = 0)) && !(decide (zs.getD (k - 1) 0 = 0))))) := by
        unfold polyB
        show (zs.all coefIn && _) = _
        rw [hall, Bool.true_and]
        show (if zs.length = 0 then _ else decide (zs.length ≤ 200) && (_ && (_ && !(decide (zs.getD (zs.length - 1) 0 = 0))))) = _
        rw [HN.out]
      rw [HB.out] at hP
      by_cases h0 : k = 0
      · subst h0
        rw [if_pos rfl] at hP
        have HP := Lib.hid hP
        clear hP hall
        by_cases hl0 : low = 0
        · subst hl0
          go_wp2
          go_ret
          exact ⟨ret_bool (by rw [HP.out]; rfl), HBw.out⟩
        · have hlb : (low == 0) = false := by simpa using hl0
          go_wp2
          go_ret
          exact ⟨ret_bool (by rw [HP.out, decide_eq_false hl0]), HBw.out⟩
      · rw [if_neg h0] at hP
        have hn0 : ¬ (k : Int) = 0 := by omega
        have hnb : ((k : Int) == 0) = false := by simpa using h0
        have h0z : 0 < zs.length := by rw [HN.out]; omega
        have hlz : k - 1 < zs.length := by rw [HN.out]; omega
        obtain ⟨x, rfl, hxb, hxc⟩ := HS.out.at_ (by omega)
        obtain ⟨z0, hz0⟩ : ∃ z, zs[0] = z := ⟨_, rfl⟩
        obtain ⟨z1, hz1⟩ : ∃ z, zs[k - 1] = z := ⟨_, rfl⟩
        have d0 : wr.cell? x = some (.int .i64 z0) := by
          rw [← hz0]
          have := (hB.cell (p := x.add 0) (by rw [addr_add_block]; exact hxb)).trans (hxc 0 h0z)
          rwa [show x.add 0 = x by unfold Addr.add; simp] at this
        obtain ⟨m, hm1⟩ : ∃ m, k - 1 = m := ⟨_, rfl⟩
        have d1 : wr.cell? (x.add m) = some (.int .i64 z1) := by
          subst hm1
          rw [← hz1]
          exact (hB.cell (p := x.add (k - 1)) (by rw [addr_add_block]; exact hxb)).trans (hxc (k - 1) hlz)
        have hwr : IntKind.i64.wrap ((k : Int) - 1) = (m : Int) := by rw [IntWalk.i64_in _ (by omega)]; omega
        have hmk : m < k := by omega
        have hkp : 0 < k := by omega
        have hg0 : zs.getD 0 0 = z0 := by rw [List.getD_eq_getElem?_getD, List.getElem?_eq_getElem h0z, hz0]; rfl
        have hg1 : zs.getD (k - 1) 0 = z1 := by rw [List.getD_eq_getElem?_getD, List.getElem?_eq_getElem hlz, hz1]; rfl
        rw [hg0, hg1] at hP
        have HP := Lib.hid hP
        clear hP hall hz0 hz1 hxc hg0 hg1 hm1
        by_cases h200 : k ≤ 200
        · have h2i : (k : Int) ≤ 200 := by omega
          cases hl : inR (-300) 300 low with
          | false =>
            have HL := Lib.hid hl
            clear hl
            go_wp2_with fail
            refine (l6In_eq _ _ _ false _ HL.out).mono ?_
            rintro e w1 ⟨rfl, rfl⟩
            go_wp2
            go_ret
            exact ⟨ret_bool (by rw [HP.out, HL.out, decide_eq_true h200]; rfl), HBw.out⟩
          | true =>
            have HL := Lib.hid hl
            clear hl
            obtain ⟨t0, ht0⟩ : ∃ t, (!(decide (z0 = 0))) = t := ⟨_, rfl⟩
            obtain ⟨t1, ht1⟩ : ∃ t, (!(decide (z1 = 0))) = t := ⟨_, rfl⟩
            have hn1 : (z0 != 0) = t0 := by rw [← ht0]; by_cases h : z0 = 0 <;> simp [h]
            have hn2 : (z1 != 0) = t1 := by rw [← ht1]; by_cases h : z1 = 0 <;> simp [h]
            have HTT : Hid (b = (t0 && t1)) := Lib.hid (by rw [HP.out, HL.out, decide_eq_true h200, ht0, ht1]; rfl)
            clear ht0 ht1
            cases t0 with
            | false =>
              have hz : z0 = 0 := by simpa using hn1
              subst hz
              go_wp2_with fail
              refine (l6In_eq _ _ _ true _ HL.out).mono ?_
              rintro e w1 ⟨rfl, rfl⟩
              go_wp2
              go_ret
              exact ⟨ret_bool HTT.out.symm, HBw.out⟩
            | true =>
              have hz : ¬ z0 = 0 := by simpa using hn1
              cases t1 with
              | false =>
                have hz2 : z1 = 0 := by simpa using hn2
                subst hz2
                go_wp2_with fail
                refine (l6In_eq _ _ _ true _ HL.out).mono ?_
                rintro e w1 ⟨rfl, rfl⟩
                go_wp2
                go_ret
                exact ⟨ret_bool HTT.out.symm, HBw.out⟩
              | true =>
                have hz2 : ¬ z1 = 0 := by simpa using hn2
                go_wp2_with fail
                refine (l6In_eq _ _ _ true _ HL.out).mono ?_
                rintro e w1 ⟨rfl, rfl⟩
                go_wp2
                go_ret
                exact ⟨ret_bool HTT.out.symm, HBw.out⟩
        · have h2i : ¬ (k : Int) ≤ 200 := by omega
          go_wp2
          go_ret
          exact ⟨ret_bool (by rw [HP.out, decide_eq_false h200]; rfl), HBw.out⟩

end Go.Proofs.Ytocklmiappppgaa

/- The model's l6pTidy. -/

namespace Go.Proofs.Ytocklmiappppgaa
open Go.RowKit

theorem ztail_unique {x y : List Int} (hx : x = [] ∨ x.getD (x.length - 1) 0 ≠ 0) (hy : y = [] ∨ y.getD (y.length - 1) 0 ≠ 0) (h : ∀ i, x.getD i 0 = y.getD i 0) : x = y := by
  have key : ∀ {x y : List Int}, (y = [] ∨ y.getD (y.length - 1) 0 ≠ 0) → (∀ i, x.getD i 0 = y.getD i 0) → y.length ≤ x.length := fun {x y} hy h => by
    rcases hy with rfl | hy
    · exact Nat.zero_le _
    · by_cases hl : y.length ≤ x.length
      · exact hl
      · exact absurd (by rw [← h]; exact getD_far (by omega)) hy
  have hl : x.length = y.length := Nat.le_antisymm (key hx fun i => (h i).symm) (key hy h)
  refine List.ext_getElem hl fun i h1 h2 => ?_
  have e := h i
  simpa [List.getD_eq_getElem?_getD, List.getElem?_eq_getElem h1, List.getElem?_eq_getElem h2] using e
/-- Where the zeros end on both sides. -/
theorem tidy_cut (low : Int) {l : List Int} {f t : Nat} (hf : zfrom l = f) (hft : f < t) (ht : t ≤ l.length) (hz : ∀ i, t ≤ i → l.getD i 0 = 0) (hn : l.getD (t - 1) 0 ≠ 0) : tidyP low l = ⟨low + f, (l.drop f).take (t - f)⟩ := by
  have hg : ∀ i, ((l.drop f).take (t - f)).getD i 0 = l.getD (f + i) 0 := fun i => by
    by_cases hi : i < t - f
    · rw [List.getD_eq_getElem?_getD, List.getElem?_take, if_pos hi, List.getElem?_drop, ← List.getD_eq_getElem?_getD]
    · rw [getD_far (by rw [List.length_take]; omega), hz _ (by omega)]
  have hl : ((l.drop f).take (t - f)).length = t - f := by rw [List.length_take, List.length_drop]; omega
  have e : ztrim (l.drop (zfrom l)) = (l.drop f).take (t - f) := by
    rw [hf]
    refine ztail_unique (ztrim_last _) (.inr ?_) fun i => ?_
    · rw [hg, hl, show f + (t - f - 1) = t - 1 by omega]; exact hn
    · rw [ztrim_get, hg, List.getD_eq_getElem?_getD, List.getElem?_drop, ← List.getD_eq_getElem?_getD]
  unfold tidyP
  rw [e, if_neg (fun h => by rw [h] at hl; simp at hl; omega), hf]
theorem tidy_all (low : Int) {l : List Int} (hf : zfrom l = l.length) : tidyP low l = ⟨0, []⟩ := by
  unfold tidyP
  rw [hf, List.drop_length]; rfl

/-- The row that a literal []int{} makes. -/
theorem made_none (base : Nat) (w : World) (hb : base ≤ w.heap.size) : IntRow base (w.alloc (.cells #[] 3)) (.slice (some ⟨w.heap.size, 0, none⟩) 0 0) [] := World.ownsRow_made (base := base) (e := 3) (size := 1) w #[] 0 hb (Nat.zero_le _) rfl

set_option maxRecDepth 100000 in
set_option maxHeartbeats 4000000 in
theorem l6pTidy_none (low : Int) (zs : List Int) (a : Option Addr) (cap n : Nat) (w : World) (hs : Ints w a n zs) (hz : zfrom zs = n) :
    Calls Try.prog 76 #[.int .i64 low, .slice a n cap] w fun e w' => (∃ v, e = .returned (plV 0 v) ∧ IntRow w.heap.size w' v []) ∧ Below w.heap.size w w' := by
  have hm := hs.max
  unfold maxLen at hm
  have HN := Lib.hid hs.len
  have HS := Lib.hid hs
  have HZ := Lib.hid hz
  clear hs hz
  go_enter Try.func76, Try.ntmps76
  go_wp2
  go_loop [5] (fun i => ∃ k : Nat, k ≤ n ∧ i = .int .i64 (k : Int)) (fun i => n - (intOf i).toNat)
  case atStart => exact ⟨0, Nat.zero_le _, rfl⟩
  case round =>
    obtain ⟨k, hk, rfl⟩ := hrel
    by_cases hlt : k < n
    · have hkz : k < zs.length := by rw [HN.out]; exact hlt
      obtain ⟨x, rfl, hxb, hxc⟩ := HS.out.at_ (by omega)
      have hz0 : zs[k] = 0 := by
        have := zfrom_zero zs k (by rw [HZ.out]; exact hlt)
        rwa [List.getD_eq_getElem?_getD, List.getElem?_eq_getElem hkz] at this
      have hb1 := (Below.refl w.heap.size w).alloc (Nat.le_refl _) (.cells #[.int .i64 0, .slice none 0 0] 25)
      have hcz := (hb1.cell (p := x.add k) (by rw [addr_add_block]; exact hxb)).trans (hxc k hkz)
      rw [hz0] at hcz
      clear hxc hz0 hb1
      go_wp2
      go_round
      case rel => exact ⟨k + 1, by omega, by go_num⟩
      case measure => simp [intOf]; omega
    · obtain rfl : k = n := by omega
      go_wp2
      go_loop [6] (fun i => i = .int .i64 (k : Int)) (fun _ => 0)
      case atStart => rfl
      case round =>
        obtain rfl := hrel
        go_wp2
        have hr := made_none w.heap.size (w.alloc (.cells #[.int .i64 0, .slice (some ⟨w.heap.size + 1, 0, none⟩) 0 0] 25)) (by simp)
        rw [World.size_alloc] at hr
        refine bodyPost_ret (v := plV 0 (.slice (some ⟨w.heap.size + 1, 0, none⟩) 0 0)) ?_ rfl ⟨⟨_, rfl, hr⟩, ((Below.refl _ w).alloc (Nat.le_refl _) _).alloc (by simp) _⟩
        simp [results, Try.results76, go_sem, plV]

set_option maxRecDepth 100000 in
set_option maxHeartbeats 4000000 in
theorem l6pTidy_some (low : Int) (zs : List Int) (a : Option Addr) (cap n f : Nat) (w : World) (hs : Ints w a n zs) (hcap : n ≤ cap) (hn : n ≤ 1048576) (hz : zfrom zs = f) (hf : f < n) (h1 : -1000000000 ≤ low) (h2 : low ≤ 1000000000) :
    Calls Try.prog 76 #[.int .i64 low, .slice a n cap] w fun e w' => (∃ v, e = .returned (plV (tidyP low zs).low v) ∧ IntRow w.heap.size w' v (tidyP low zs).cs) ∧ Below w.heap.size w w' := by
  obtain ⟨i0, hi, hz0, hz1, hz2⟩ := info_parts infoInt
  have hlen := hs.len
  obtain ⟨x, rfl, hxb, hxc⟩ := hs.at_ (by omega)
  have hb1 := (Below.refl w.heap.size w).alloc (Nat.le_refl _) (.cells #[.int .i64 0, .slice none 0 0] 25)
  have HC : Hid (∀ k (h : k < n) z, zs.getD k 0 = z → (w.alloc (.cells #[.int .i64 0, .slice none 0 0] 25)).cell? (x.add k) = some (.int .i64 z)) := Lib.hid fun k h z e => by
    rw [← e, List.getD_eq_getElem?_getD, List.getElem?_eq_getElem (by omega)]
    exact (hb1.cell (p := x.add k) (by rw [addr_add_block]; exact hxb)).trans (hxc k (by omega))
  have HZ := Lib.hid hz
  have HN := Lib.hid hlen
  clear hs hxc hb1 hz hlen
  go_enter Try.func76, Try.ntmps76
  go_wp2
  go_loop [5] (fun i => ∃ k : Nat, k ≤ f ∧ i = .int .i64 (k : Int)) (fun i => f - (intOf i).toNat)
  case atStart => exact ⟨0, Nat.zero_le _, rfl⟩
  case round =>
    obtain ⟨k, hk, rfl⟩ := hrel
    have hkn : k < n := by omega
    by_cases hlt : k < f
    · have hcz := HC.out k hkn 0 (zfrom_zero zs k (by rw [HZ.out]; exact hlt))
      go_wp2
      go_round
      case rel => exact ⟨k + 1, by omega, by go_num⟩
      case measure => simp [intOf]; omega
    · obtain rfl : k = f := by omega
      obtain ⟨z, hz⟩ : ∃ z, zs.getD k 0 = z := ⟨_, rfl⟩
      have hcz := HC.out k hkn z hz
      have hzn : ¬ z = 0 := by rw [← hz, ← HZ.out]; exact zfrom_head zs (by rw [HZ.out, HN.out]; exact hkn)
      have hzb : (z == 0) = false := by simpa using hzn
      have HHZ := Lib.hid hz
      clear hz
      go_wp2
      go_loop [6] (fun i => ∃ t : Nat, k < t ∧ t ≤ n ∧ i = .int .i64 (t : Int) ∧ Hid (∀ i, t ≤ i → zs.getD i 0 = 0)) (fun i => (intOf i).toNat)
      case atStart => exact ⟨n, by omega, Nat.le_refl _, rfl, Lib.hid fun i h => getD_far (by rw [HN.out]; exact h)⟩
      case round =>
        obtain ⟨t, ht1, ht2, rfl, HT⟩ := hrel
        obtain ⟨m, hm⟩ : ∃ m, t = m + 1 := ⟨t - 1, by omega⟩
        subst hm
        have hwr : IntKind.i64.wrap (((m + 1 : Nat) : Int) - 1) = (m : Int) := by rw [IntWalk.i64_in _ (by omega)]; omega
        obtain ⟨y, hy⟩ : ∃ y, zs.getD m 0 = y := ⟨_, rfl⟩
        have hcy := HC.out m (by omega) y hy
        have hgt : (k : Int) < ((m + 1 : Nat) : Int) := by omega
        have hmn : m < n := by omega
        by_cases hy0 : y = 0
        · subst hy0
          have hmk : k ≠ m := fun e => hzn (by rw [← HHZ.out, e, hy])
          have HY := Lib.hid hy
          clear hy
          go_wp2
          go_round
          case rel => exact ⟨m, by omega, by omega, by go_num, Lib.hid fun i h => by
            by_cases e : i = m
            · rw [e]; exact HY.out
            · exact HT.out i (by omega)⟩
          case measure => simp [intOf]
        · have hyb : (y == 0) = false := by simpa using hy0
          have HCUT := Lib.hid (tidy_cut low HZ.out ht1 (by rw [HN.out]; exact ht2) HT.out (by show zs.getD m 0 ≠ 0; rw [hy]; exact hy0))
          obtain ⟨W, hW⟩ : ∃ W, (w.alloc (.cells #[.int .i64 0, .slice none 0 0] 25)).alloc (.cells #[] 3) = W := ⟨_, rfl⟩
          have hsz : W.heap.size = w.heap.size + 2 := by rw [← hW]; simp
          have hbW : Below w.heap.size w W := by rw [← hW]; exact ((Below.refl _ w).alloc (Nat.le_refl _) _).alloc (by simp) _
          have HM : Hid (W.ownsRow (w.heap.size + 1) 3 1 (.slice (some ⟨w.heap.size + 1, 0, none⟩) 0 0) 0 []) := Lib.hid (by
            have h := World.ownsRow_made (base := w.heap.size + 1) (e := 3) (size := 1) (w.alloc (.cells #[.int .i64 0, .slice none 0 0] 25)) #[] 0 (by simp) (Nat.zero_le _) rfl
            rw [hW, World.size_alloc] at h
            exact h)
          have HK : Hid (W.heap[w.heap.size]? = some (.cells #[.int .i64 0, .slice none 0 0] 25 (0, 0))) := Lib.hid (by
            have h := World.alloc_heap_new w (.cells #[.int .i64 0, .slice none 0 0] 25)
            have g := World.grownBy_alloc (w.alloc (.cells #[.int .i64 0, .slice none 0 0] 25)) (.cells #[] 3) none
            rw [hW] at g
            exact (g.block w.heap.size (by simp) (by simp)).trans h)
          have HX : Hid (∀ j u, (intsV ((zs.drop k).take (m + 1 - k)))[j]? = some u → W.cell? ((x.add k).add j) = some u) := Lib.hid fun j u hu => by
            simp only [intsV, List.getElem?_map, List.getElem?_take, List.getElem?_drop] at hu
            by_cases hj : j < m + 1 - k
            · rw [if_pos hj, List.getElem?_eq_getElem (by rw [HN.out]; omega)] at hu
              have hu : Value.int .i64 (zs[k + j]'(by rw [HN.out]; omega)) = u := by simpa using hu
              have hc := HC.out (k + j) (by omega) (zs[k + j]'(by rw [HN.out]; omega)) (by rw [List.getD_eq_getElem?_getD, List.getElem?_eq_getElem (by rw [HN.out]; omega)]; rfl)
              rw [Addr.add_add, ← hW, ← hu]
              exact (World.cell?_alloc_lt _ _ _ (World.block_lt_of_cell? _ _ hc)).trans hc
            · rw [if_neg hj] at hu
              simp at hu
          have hml : m + 1 - k ≤ 1048576 := by omega
          have HL : Hid ((intsV ((zs.drop k).take (m + 1 - k))).length = (m + 1 - k) * 1) := Lib.hid (by rw [intsV_len, List.length_take, List.length_drop, HN.out]; omega)
          have HW := Lib.hid hW
          have HBW := Lib.hid hbW
          clear hy HT hW hbW
          go_wp2_with (at_builtin; go_loud (rw [HW.out]; refine wpList_append_own _ rfl _ _ 23 rfl (w.heap.size + 1) 3 i0 (.int .i64 0) 1 8 Try.underlying23 hi hz0 hz1 hz2 rfl (by decide) _ _ _ rfl HM.out (x.add k) (m + 1 - k) (cap - k) (intsV ((zs.drop k).take (m + 1 - k))) rfl HL.out HX.out (fun u hu => by unfold intsV at hu; obtain ⟨z, _, rfl⟩ := List.mem_map.1 hu; rfl) (by unfold maxLen; omega) (by omega) (by omega) ?_; intro v1 w1 hrow hgrow hnil; obtain ⟨g1, cap1, hv1⟩ : ∃ (g : Nat) (c : Nat), v1 = Value.slice (some ⟨g, 0, none⟩) (0 + (m + 1 - k)) c := Go.Joins.ownsRow_form hrow (by omega); subst hv1; have HR := Lib.hid hrow; have HG : Hid (W.grownBy w1 (some (w.heap.size + 1))) := Lib.hid hgrow; clear hrow hgrow hnil; have hk1 := (HG.out.block w.heap.size (by omega) (by simp)).trans HK.out; have d0 : w1.cell? ⟨w.heap.size, 0, none⟩ = some (.int .i64 0) := (by simp [World.cell?, hk1]); have d1 : w1.cell? ⟨w.heap.size, 1, none⟩ = some (.slice none 0 0) := (by simp [World.cell?, hk1]); have f0 : w1.frozen? ⟨w.heap.size, 0, none⟩ = false := (by simp [World.frozen?, hk1]); have f1 : w1.frozen? ⟨w.heap.size, 1, none⟩ = false := (by simp [World.frozen?, hk1]); clear hk1))
          rw [Nat.zero_add, List.nil_append] at HR
          have hR3 := ownsRow_setCell_below (ownsRow_setCell_below HR.out (a := ⟨w.heap.size, 0, none⟩) (Nat.lt_succ_self _) (.int .i64 (low + (k : Int)))) (a := ⟨w.heap.size, 1, none⟩) (Nat.lt_succ_self _) (.slice (some ⟨g1, 0, none⟩) (m + 1 - k) cap1)
          have hB3 := ((HBW.out.grown HG.out (by omega) (fun j e => by simp at e; omega)).setCell (p := ⟨w.heap.size, 0, none⟩) (Nat.le_refl _) (.int .i64 (low + (k : Int)))).setCell (p := ⟨w.heap.size, 1, none⟩) (Nat.le_refl _) (.slice (some ⟨g1, 0, none⟩) (m + 1 - k) cap1)
          rw [HCUT.out]
          refine bodyPost_ret (v := plV (low + (k : Int)) (.slice (some ⟨g1, 0, none⟩) (m + 1 - k) cap1)) ?_ rfl ⟨⟨_, rfl, ?_⟩, hB3⟩
          · simp [results, Try.results76, go_sem, d0, d1, plV]
          · have hl : ((zs.drop k).take (m + 1 - k)).length = m + 1 - k := by have := HL.out; rwa [intsV_len, Nat.mul_one] at this
            unfold IntRow
            show World.ownsRow _ _ _ _ _ ((zs.drop k).take (m + 1 - k)).length (intsV ((zs.drop k).take (m + 1 - k)))
            rw [hl]
            exact ownsRow_base hR3 (Nat.le_succ _)

theorem l6pTidy_any (low : Int) (zs : List Int) (a : Option Addr) (cap n : Nat) (w : World) (hs : Ints w a n zs) (hcap : n ≤ cap) (hn : n ≤ 1048576) (h1 : -1000000000 ≤ low) (h2 : low ≤ 1000000000) :
    Calls Try.prog 76 #[.int .i64 low, .slice a n cap] w fun e w' => (∃ v, e = .returned (plV (tidyP low zs).low v) ∧ IntRow w.heap.size w' v (tidyP low zs).cs) ∧ Below w.heap.size w w' := by
  by_cases hz : zfrom zs = n
  · have e := tidy_all low (l := zs) (by rw [hz, hs.len])
    rw [e]
    exact l6pTidy_none low zs a cap n w hs hz
  · exact l6pTidy_some low zs a cap n _ w hs hcap hn rfl (by have := zfrom_le zs; rw [hs.len] at this; omega) h1 h2

end Go.Proofs.Ytocklmiappppgaa

/- The model's l6pCopy, l6pNone, l6pDone. -/

namespace Go.Proofs.Ytocklmiappppgaa
open Go.RowKit

theorem intsV_one (zs : List Int) : ∀ u ∈ intsV zs, u.oneCell' = true := fun u hu => by
  unfold intsV at hu
  obtain ⟨z, _, rfl⟩ := List.mem_map.1 hu
  rfl
theorem Ints.news {w : World} {x : Addr} {n : Nat} {zs : List Int} (h : Ints w (some x) n zs) (h0 : 0 < n) : ∀ j u, (intsV zs)[j]? = some u → w.cell? (x.add j) = some u := fun j u hu => by
  obtain ⟨y, hy, _, hc⟩ := h.at_ h0
  obtain rfl : x = y := by simpa using hy
  simp only [intsV, List.getElem?_map] at hu
  by_cases hj : j < zs.length
  · rw [List.getElem?_eq_getElem hj] at hu
    rw [hc j hj]
    simpa using hu
  · rw [List.getElem?_eq_none (by omega)] at hu
    simp at hu

theorem made_at (W : World) (g : Nat) (h : W.heap.size = g) (base : Nat) (hb : base ≤ g) : (W.alloc (.cells #[] 3)).ownsRow base 3 1 (.slice (some ⟨g, 0, none⟩) 0 0) 0 [] := by
  subst h
  exact made_none base W hb

set_option maxRecDepth 100000 in
set_option maxHeartbeats 4000000 in
theorem l6pCopy_some (low : Int) (zs : List Int) (a : Option Addr) (cap n : Nat) (w : World) (hs : Ints w a n zs) (hn : n ≤ 1048576) (h0 : 0 < n) :
    Calls Try.prog 87 #[plV low (.slice a n cap)] w fun e w' => (∃ v, e = .returned (plV low v) ∧ IntRow w.heap.size w' v zs) ∧ Below w.heap.size w w' := by
  obtain ⟨i0, hi, hz0, hz1, hz2⟩ := info_parts infoInt
  obtain ⟨x, rfl, _, _⟩ := hs.at_ h0
  have HL : Hid ((intsV zs).length = n * 1) := Lib.hid (by rw [intsV_len, hs.len, Nat.mul_one])
  have hb1 := (((Below.refl w.heap.size w).alloc (Nat.le_refl _) (.cells #[.int .i64 low, .slice (some x) n cap] 25)).alloc (by simp) (.cells #[.int .i64 0, .slice none 0 0] 25)).alloc (by simp; omega) (.cells #[] 3)
  have HB := Lib.hid hb1.drew
  have HX := Lib.hid (Ints.news (hs.below hb1.drew) h0)
  have HM := Lib.hid (made_at ((w.alloc (.cells #[.int .i64 low, .slice (some x) n cap] 25)).alloc (.cells #[.int .i64 0, .slice none 0 0] 25)) (w.heap.size + 2) (by simp) (w.heap.size + 2) (Nat.le_refl _)).drew
  obtain ⟨W, hW⟩ : ∃ W, (((w.alloc (.cells #[.int .i64 low, .slice (some x) n cap] 25)).alloc (.cells #[.int .i64 0, .slice none 0 0] 25)).alloc (.cells #[] 3)).drew = W := ⟨_, rfl⟩
  have HC : Hid (∀ w1 row, W.grownBy w1 row → row = some (w.heap.size + 2) → w1.cell? ⟨w.heap.size, 0, none⟩ = some (.int .i64 low) ∧ w1.cell? ⟨w.heap.size, 1, none⟩ = some (.slice (some x) n cap) ∧ w1.cell? ⟨w.heap.size + 1, 0, none⟩ = some (.int .i64 0) ∧ w1.cell? ⟨w.heap.size + 1, 1, none⟩ = some (.slice none 0 0) ∧ w1.frozen? ⟨w.heap.size + 1, 0, none⟩ = false ∧ w1.frozen? ⟨w.heap.size + 1, 1, none⟩ = false) := Lib.hid fun w1 row hg hr => by
    subst hr
    have hsz : W.heap.size = w.heap.size + 3 := by rw [← hW]; simp
    have e0 := hg.block w.heap.size (by omega) (by simp)
    have e1 := hg.block (w.heap.size + 1) (by omega) (by simp)
    have c0 : W.heap[w.heap.size]? = some (.cells #[.int .i64 low, .slice (some x) n cap] 25 (0, 0)) := by
      rw [← hW]
      show (((w.alloc _).alloc _).alloc _).heap[w.heap.size]? = _
      rw [Below.heap_alloc _ _ _ (by simp; omega), Below.heap_alloc _ _ _ (by simp)]
      exact World.alloc_heap_new w _
    have c1 : W.heap[w.heap.size + 1]? = some (.cells #[.int .i64 0, .slice none 0 0] 25 (0, 0)) := by
      rw [← hW]
      show (((w.alloc _).alloc _).alloc _).heap[w.heap.size + 1]? = _
      rw [Below.heap_alloc _ _ _ (by simp)]
      have h := World.alloc_heap_new (w.alloc (.cells #[.int .i64 low, .slice (some x) n cap] 25)) (.cells #[.int .i64 0, .slice none 0 0] 25)
      rwa [World.size_alloc] at h
    rw [c0] at e0
    rw [c1] at e1
    refine ⟨?_, ?_, ?_, ?_, ?_, ?_⟩ <;> simp [World.cell?, World.frozen?, e0, e1]
  subst hW
  clear hb1
  go_enter Try.func87, Try.ntmps87
  go_wp2
  go_region_held3 (fun w' : World => w'.cell? ⟨w.heap.size, 0, none⟩ = some (.int .i64 low) ∧ w'.cell? ⟨w.heap.size, 1, none⟩ = some (.slice (some x) n cap)) (first | go_keep | exact ⟨k0, k1⟩)
    ((refine step_append_lies _ (by rfl) _ _ _ (by rfl) (w.heap.size + 2) 3 i0 _ 1 8 Try.underlying23 hi hz0 hz1 hz2 rfl (by omega) (.slice (some ⟨w.heap.size + 2, 0, none⟩) 0 0) 0 [] (by rfl) HM.out
        x n cap (intsV zs) (by rfl) HL.out HX.out (intsV_one zs) h0 (by unfold maxLen; omega) (by omega) (by simp) (w.heap.size + 3) (by simp) ?_
      intro g1 cap1 w1 hown1 hgrow _ _
      have HR := Lib.hid hown1
      have HG := Lib.hid (HB.out.grown hgrow (by simp; omega) (fun j e => by simp [Value.ownBlock] at e; omega))
      obtain ⟨k0, k1, d0, d1, f0, f1⟩ := HC.out _ _ hgrow rfl
      clear hown1 hgrow))
  go_wp2
  rw [Nat.zero_add, List.nil_append] at HR
  have hR3 := ownsRow_setCell_below (ownsRow_setCell_below HR.out (a := ⟨w.heap.size + 1, 0, none⟩) (Nat.lt_succ_self _) (.int .i64 low)) (a := ⟨w.heap.size + 1, 1, none⟩) (Nat.lt_succ_self _) (.slice (some ⟨g1, 0, none⟩) n cap1)
  have hB3 := (HG.out.setCell (p := ⟨w.heap.size + 1, 0, none⟩) (Nat.le_succ _) (.int .i64 low)).setCell (p := ⟨w.heap.size + 1, 1, none⟩) (Nat.le_succ _) (.slice (some ⟨g1, 0, none⟩) n cap1)
  refine bodyPost_ret (v := plV low (.slice (some ⟨g1, 0, none⟩) n cap1)) ?_ rfl ⟨⟨_, rfl, ?_⟩, hB3⟩
  · simp [results, Try.results87, go_sem, d0, d1, plV]
  · unfold IntRow
    rw [hs.len]
    exact ownsRow_base hR3 (by omega)

set_option maxRecDepth 100000 in
set_option maxHeartbeats 4000000 in
theorem l6pCopy_none (low : Int) (a : Option Addr) (cap : Nat) (w : World) :
    Calls Try.prog 87 #[plV low (.slice a 0 cap)] w fun e w' => (∃ v, e = .returned (plV low v) ∧ IntRow w.heap.size w' v []) ∧ Below w.heap.size w w' := by
  go_enter Try.func87, Try.ntmps87
  go_wp2
  cases a with
  | none =>
    go_region_held3 (fun w' : World => w'.cell? ⟨w.heap.size, 0, none⟩ = some (.int .i64 low) ∧ w'.cell? ⟨w.heap.size, 1, none⟩ = some (.slice none 0 cap)) (first | go_keep) (fail)
    go_wp2
    refine bodyPost_ret (v := plV low (.slice (some ⟨w.heap.size + 1 + 1, 0, none⟩) 0 0)) ?_ rfl ⟨⟨_, rfl, (made_at _ (w.heap.size + 1 + 1) (by simp) w.heap.size (by omega)).drew⟩, ((((Below.refl _ w).alloc (Nat.le_refl _) _).alloc (by simp) _).alloc (by simp; omega) _).drew⟩
    simp [results, Try.results87, go_sem, plV]
  | some x =>
    go_region_held3 (fun w' : World => w'.cell? ⟨w.heap.size, 0, none⟩ = some (.int .i64 low) ∧ w'.cell? ⟨w.heap.size, 1, none⟩ = some (.slice (some x) 0 cap)) (first | go_keep) (fail)
    go_wp2
    refine bodyPost_ret (v := plV low (.slice (some ⟨w.heap.size + 1 + 1, 0, none⟩) 0 0)) ?_ rfl ⟨⟨_, rfl, (made_at _ (w.heap.size + 1 + 1) (by simp) w.heap.size (by omega)).drew⟩, ((((Below.refl _ w).alloc (Nat.le_refl _) _).alloc (by simp) _).alloc (by simp; omega) _).drew⟩
    simp [results, Try.results87, go_sem, plV]

theorem l6pCopy_any (low : Int) (zs : List Int) (a : Option Addr) (cap n : Nat) (w : World) (hs : Ints w a n zs) (hn : n ≤ 1048576) :
    Calls Try.prog 87 #[plV low (.slice a n cap)] w fun e w' => (∃ v, e = .returned (plV low v) ∧ IntRow w.heap.size w' v zs) ∧ Below w.heap.size w w' := by
  by_cases h0 : 0 < n
  · exact l6pCopy_some low zs a cap n w hs hn h0
  · obtain rfl : n = 0 := by omega
    obtain rfl : zs = [] := List.length_eq_zero_iff.1 hs.len
    exact l6pCopy_none low a cap w

set_option maxRecDepth 100000 in
set_option maxHeartbeats 4000000 in
theorem l6pNone_any (w : World) :
    Calls Try.prog 74 #[] w fun e w' => (∃ v, e = .returned (.tuple #[plV 0 v, .bool false]) ∧ IntRow w.heap.size w' v []) ∧ Below w.heap.size w w' := by
  go_enter Try.func74, Try.ntmps74
  go_wp2
  refine bodyPost_ret (v := .tuple #[plV 0 (.slice (some ⟨w.heap.size + 1, 0, none⟩) 0 0), .bool false]) ?_ rfl ⟨⟨_, rfl, made_at _ (w.heap.size + 1) (by simp) w.heap.size (by omega)⟩, ((Below.refl _ w).alloc (Nat.le_refl _) _).alloc (by simp) _⟩
  simp [results, Try.results74, go_sem, plV]

end Go.Proofs.Ytocklmiappppgaa

/- The model's l6pDone and PolyOf. -/

namespace Go.Proofs.Ytocklmiappppgaa
open Go.RowKit

/-- What is no polynomial comes out as 0. -/
def doneP (b : Bool) (p : Pl) : Pl := if b then p else ⟨0, []⟩

set_option maxRecDepth 100000 in
set_option maxHeartbeats 4000000 in
theorem l6pDone_any (low : Int) (zs : List Int) (a : Option Addr) (cap n : Nat) (b : Bool) (w : World) (hs : Ints w a n zs) (hn : n ≤ 1048576) (hb : polyB ⟨low, zs⟩ = b) :
    Calls Try.prog 75 #[plV low (.slice a n cap)] w fun e w' => (∃ v, e = .returned (.tuple #[plV (doneP b ⟨low, zs⟩).low v, .bool b]) ∧ IntRow w.heap.size w' v (doneP b ⟨low, zs⟩).cs) ∧ Below w.heap.size w w' := by
  obtain ⟨W, hW⟩ : ∃ W, (w.alloc (.cells #[.int .i64 low, .slice a n cap] 25)).alloc (.cells #[.int .i64 0, .slice none 0 0] 25) = W := ⟨_, rfl⟩
  have hsz : W.heap.size = w.heap.size + 2 := by rw [← hW]; simp
  have hbW : Below w.heap.size w W := by rw [← hW]; exact ((Below.refl _ w).alloc (Nat.le_refl _) _).alloc (by simp) _
  have HC : Hid (∀ w1, Below W.heap.size W w1 → w1.cell? ⟨w.heap.size, 0, none⟩ = some (.int .i64 low) ∧ w1.cell? ⟨w.heap.size, 1, none⟩ = some (.slice a n cap) ∧ w1.cell? ⟨w.heap.size + 1, 0, none⟩ = some (.int .i64 0) ∧ w1.cell? ⟨w.heap.size + 1, 1, none⟩ = some (.slice none 0 0) ∧ w1.frozen? ⟨w.heap.size + 1, 0, none⟩ = false ∧ w1.frozen? ⟨w.heap.size + 1, 1, none⟩ = false) := Lib.hid fun w1 hg => by
    have e0 := hg.block w.heap.size (by omega)
    have e1 := hg.block (w.heap.size + 1) (by omega)
    have c0 : W.heap[w.heap.size]? = some (.cells #[.int .i64 low, .slice a n cap] 25 (0, 0)) := by
      rw [← hW, Below.heap_alloc _ _ _ (by simp)]
      exact World.alloc_heap_new w _
    have c1 : W.heap[w.heap.size + 1]? = some (.cells #[.int .i64 0, .slice none 0 0] 25 (0, 0)) := by
      rw [← hW]
      have h := World.alloc_heap_new (w.alloc (.cells #[.int .i64 low, .slice a n cap] 25)) (.cells #[.int .i64 0, .slice none 0 0] 25)
      rwa [World.size_alloc] at h
    rw [c0] at e0
    rw [c1] at e1
    refine ⟨?_, ?_, ?_, ?_, ?_, ?_⟩ <;> simp [World.cell?, World.frozen?, e0, e1]
  have HP := Lib.hid (sPolyIn_any low zs a cap n b W (hs.below hbW) hb)
  have HCP : Hid (∀ w1, Below W.heap.size W w1 → _) := Lib.hid fun w1 hg => l6pCopy_any low zs a cap n w1 ((hs.below hbW).below hg) hn
  have HW := Lib.hid hW
  have HBW := Lib.hid hbW
  clear hW hbW hs
  go_enter Try.func75, Try.ntmps75
  go_wp2_with fail
  rw [HW.out]
  refine HP.out.mono ?_
  rintro e w1 ⟨rfl, hb1⟩
  obtain ⟨q0, q1, d0, d1, f0, f1⟩ := HC.out w1 hb1
  have hs1 := hb1.size
  have HB1 := Lib.hid hb1
  clear hb1
  cases b with
  | false =>
    obtain ⟨_, _, d0, d1, f0, f1⟩ := HC.out (w1.alloc (.cells #[] 3)) (HB1.out.alloc hs1 _)
    have hr := made_at w1 w1.heap.size rfl w1.heap.size (Nat.le_refl _)
    have HR := Lib.hid hr
    clear hr
    go_wp2
    have hlt : w.heap.size + 1 < w1.heap.size := by omega
    have hR3 := ownsRow_setCell_below (ownsRow_setCell_below HR.out (a := ⟨w.heap.size + 1, 0, none⟩) hlt (.int .i64 0)) (a := ⟨w.heap.size + 1, 1, none⟩) hlt (.slice (some ⟨w1.heap.size, 0, none⟩) 0 0)
    have hB3 := (((HBW.out.trans (HB1.out.mono HBW.out.size)).alloc (by omega) (.cells #[] 3)).setCell (p := ⟨w.heap.size + 1, 0, none⟩) (Nat.le_succ _) (.int .i64 0)).setCell (p := ⟨w.heap.size + 1, 1, none⟩) (Nat.le_succ _) (.slice (some ⟨w1.heap.size, 0, none⟩) 0 0)
    refine bodyPost_ret (v := .tuple #[plV 0 (.slice (some ⟨w1.heap.size, 0, none⟩) 0 0), .bool false]) ?_ rfl ⟨⟨_, rfl, ownsRow_base hR3 (by omega)⟩, hB3⟩
    simp [results, Try.results75, go_sem, d0, d1, plV]
  | true =>
    go_wp2_with fail
    refine (HCP.out w1 HB1.out).mono ?_
    rintro e w2 ⟨⟨v, rfl, hr⟩, hb2⟩
    obtain ⟨_, _, d0, d1, f0, f1⟩ := HC.out w2 (HB1.out.trans (hb2.mono hs1))
    have HR := Lib.hid hr
    have HB2 := Lib.hid (HBW.out.trans ((HB1.out.trans (hb2.mono hs1)).mono HBW.out.size))
    obtain ⟨g1, gg, cap1, rfl, _⟩ := hr.shape
    clear hr hb2
    go_wp2
    have hlt : w.heap.size + 1 < w1.heap.size := by omega
    have hR3 := ownsRow_setCell_below (ownsRow_setCell_below HR.out (a := ⟨w.heap.size + 1, 0, none⟩) hlt (.int .i64 low)) (a := ⟨w.heap.size + 1, 1, none⟩) hlt (.slice g1 zs.length cap1)
    have hB3 := (HB2.out.setCell (p := ⟨w.heap.size + 1, 0, none⟩) (Nat.le_succ _) (.int .i64 low)).setCell (p := ⟨w.heap.size + 1, 1, none⟩) (Nat.le_succ _) (.slice g1 zs.length cap1)
    refine bodyPost_ret (v := .tuple #[plV low (.slice g1 zs.length cap1), .bool true]) ?_ rfl ⟨⟨_, rfl, ownsRow_base hR3 (by omega)⟩, hB3⟩
    simp [results, Try.results75, go_sem, d0, d1, plV]

end Go.Proofs.Ytocklmiappppgaa

/- The model's PolyOf. -/

namespace Go.Proofs.Ytocklmiappppgaa
open Go.RowKit

/-- The cells of an answer that was laid first. -/
theorem resCells {w w1 : World} {r : Nat} (hr : w.heap.size = r) (h : Below (r + 1) (w.alloc (.cells #[.int .i64 0, .slice none 0 0] 25)) w1) :
    w1.cell? ⟨r, 0, none⟩ = some (.int .i64 0) ∧ w1.cell? ⟨r, 1, none⟩ = some (.slice none 0 0) ∧ w1.frozen? ⟨r, 0, none⟩ = false ∧ w1.frozen? ⟨r, 1, none⟩ = false := by
  subst hr
  have e0 := h.block w.heap.size (by omega)
  rw [World.alloc_heap_new] at e0
  refine ⟨?_, ?_, ?_, ?_⟩ <;> simp [World.cell?, World.frozen?, e0]
theorem resRow {w2 : World} {r base : Nat} {v : Value} {zs : List Int} (x y : Value) (h : IntRow base w2 v zs) (hb : r < base) : IntRow r ((w2.setCell ⟨r, 0, none⟩ x).setCell ⟨r, 1, none⟩ y) v zs :=
  ownsRow_base (ownsRow_setCell_below (ownsRow_setCell_below h (a := ⟨r, 0, none⟩) hb x) (a := ⟨r, 1, none⟩) hb y) (Nat.le_of_lt hb)
theorem resBelow {w w2 : World} {r : Nat} (x y : Value) (h : Below r w w2) : Below r w ((w2.setCell ⟨r, 0, none⟩ x).setCell ⟨r, 1, none⟩ y) :=
  (h.setCell (p := ⟨r, 0, none⟩) (Nat.le_refl _) x).setCell (p := ⟨r, 1, none⟩) (Nat.le_refl _) y
theorem tidy_mem {low : Int} {l : List Int} {z : Int} (h : z ∈ (tidyP low l).cs) : z = 0 ∨ z ∈ l := by
  obtain ⟨i, hi, rfl⟩ := List.mem_iff_getElem.1 h
  have hp := tidy_pat low l ((tidyP low l).low + (i : Int))
  rw [pat_at, List.getD_eq_getElem?_getD, List.getElem?_eq_getElem hi] at hp
  have hp : (tidyP low l).cs[i] = pat ⟨low, l⟩ ((tidyP low l).low + (i : Int)) := hp
  rw [hp]
  unfold pat
  split
  · show l.getD (((tidyP low l).low + (i : Int)) - low).toNat 0 = 0 ∨ l.getD (((tidyP low l).low + (i : Int)) - low).toNat 0 ∈ l
    generalize (((tidyP low l).low + (i : Int)) - low).toNat = q
    by_cases hj : q < l.length
    · right
      rw [List.getD_eq_getElem?_getD, List.getElem?_eq_getElem hj]
      exact List.getElem_mem hj
    · exact .inl (getD_far (by omega))
  · exact .inl rfl
theorem tidy_len (low : Int) (l : List Int) : (tidyP low l).cs.length ≤ l.length := by
  unfold tidyP
  split
  · exact Nat.zero_le _
  · exact Nat.le_trans (ztrim_len _) (by rw [List.length_drop]; omega)

def polyOfB (low : Int) (zs : List Int) : Bool := inR (-300) 300 low && (decide (zs.length ≤ 200) && polyB (tidyP low zs))
def polyOfP (low : Int) (zs : List Int) : Pl := doneP (polyOfB low zs) (tidyP low zs)

set_option maxRecDepth 100000 in
set_option maxHeartbeats 4000000 in
theorem sPolyOf_any (low : Int) (zs : List Int) (a : Option Addr) (cap n : Nat) (b : Bool) (w : World) (hs : Ints w a n zs) (hcap : n ≤ cap) (hb : polyOfB low zs = b) :
    Calls Try.prog 30 #[.int .i64 low, .slice a n cap] w fun e w' => (∃ v, e = .returned (.tuple #[plV (polyOfP low zs).low v, .bool b]) ∧ IntRow w.heap.size w' v (polyOfP low zs).cs) ∧ Below w.heap.size w w' := by
  have hm := hs.max
  unfold maxLen at hm
  have hP : polyOfP low zs = doneP b (tidyP low zs) := by unfold polyOfP; rw [hb]
  rw [hP]
  obtain ⟨W, hW⟩ : ∃ W, w.alloc (.cells #[.int .i64 0, .slice none 0 0] 25) = W := ⟨_, rfl⟩
  have hsz : W.heap.size = w.heap.size + 1 := by rw [← hW]; simp
  have hbW : Below w.heap.size w W := by rw [← hW]; exact (Below.refl _ w).alloc (Nat.le_refl _) _
  have HC : Hid (∀ w1, Below W.heap.size W w1 → _) := Lib.hid fun w1 (hg : Below W.heap.size W w1) => resCells (w := w) rfl (by rw [hW, ← hsz]; exact hg)
  have HS := Lib.hid (hs.below hbW)
  have HL := Lib.hid hs.len
  have HWF := Lib.hid hs.wf
  have HBW := Lib.hid hbW
  have HW := Lib.hid hW
  clear hW hbW hs hP
  unfold polyOfB at hb
  rw [HL.out] at hb
  go_enter Try.func30, Try.ntmps30
  go_wp2_with fail
  rw [HW.out]
  obtain ⟨d0, d1, f0, f1⟩ := HC.out W (Below.refl _ _)
  cases hl : inR (-300) 300 low with
  | false =>
    have hbf : b = false := by rw [← hb, hl]; rfl
    subst hbf
    refine (l6In_eq _ _ _ false _ hl).mono ?_
    rintro e w1 ⟨rfl, rfl⟩
    clear hl hb
    go_wp2_with fail
    refine (l6pNone_any _).mono ?_
    rintro e w2 ⟨⟨v, rfl, hr⟩, hb2⟩
    obtain ⟨d0, d1, f0, f1⟩ := HC.out w2 hb2
    have HR := Lib.hid hr
    have HB2 := Lib.hid (HBW.out.trans (hb2.mono HBW.out.size))
    obtain ⟨g1, gg, cap1, rfl, _⟩ := hr.shape
    clear hr hb2
    go_wp2
    refine bodyPost_ret (v := .tuple #[plV 0 (.slice g1 0 cap1), .bool false]) ?_ rfl ⟨⟨_, rfl, resRow (.int .i64 0) (.slice g1 0 cap1) HR.out (by omega)⟩, resBelow (.int .i64 0) (.slice g1 0 cap1) HB2.out⟩
    simp [results, Try.results30, go_sem, d0, d1, plV]
  | true =>
    have HIN := Lib.hid hl
    refine (l6In_eq _ _ _ true _ hl).mono ?_
    rintro e w1 ⟨rfl, rfl⟩
    rw [hl, Bool.true_and] at hb
    clear hl
    by_cases h200 : n ≤ 200
    · rw [decide_eq_true h200, Bool.true_and] at hb
      have h2i : ¬ ((n : Int) > 200) := by omega
      have hlo : -300 ≤ low ∧ low ≤ 300 := by have := HIN.out; unfold inR at this; simpa using this
      obtain ⟨hlo1, hlo2⟩ := hlo
      go_wp2_with fail
      refine (l6pTidy_any low zs a cap n _ HS.out hcap (by omega) (by omega) (by omega)).mono ?_
      rintro e w2 ⟨⟨v, rfl, hr⟩, hb2⟩
      have hwf : ∀ z ∈ (tidyP low zs).cs, -9223372036854775808 ≤ z ∧ z ≤ 9223372036854775807 := fun z hz => by
        rcases tidy_mem hz with rfl | h
        · omega
        · exact HWF.out z h
      have hln := tidy_len low zs
      rw [HL.out] at hln
      obtain ⟨g1, cap1, rfl, hi⟩ := hr.read hwf
      have hs2 := hb2.size
      have HB2 := Lib.hid hb2
      have HD := Lib.hid (l6pDone_any (tidyP low zs).low (tidyP low zs).cs g1 cap1 _ b w2 hi (by omega) hb)
      clear hr hb2 hi hb hwf
      go_wp2_with fail
      refine HD.out.mono ?_
      rintro e w3 ⟨⟨v, rfl, hr⟩, hb3⟩
      obtain ⟨d0, d1, f0, f1⟩ := HC.out w3 (HB2.out.trans (hb3.mono hs2))
      have HR := Lib.hid hr
      have HB3 := Lib.hid (HBW.out.trans ((HB2.out.trans (hb3.mono hs2)).mono HBW.out.size))
      obtain ⟨g2, gg, cap2, rfl, _⟩ := hr.shape
      clear hr hb3
      go_wp2
      refine bodyPost_ret (v := .tuple #[plV (doneP b (tidyP low zs)).low (.slice g2 (doneP b (tidyP low zs)).cs.length cap2), .bool b]) ?_ rfl ⟨⟨_, rfl, resRow (.int .i64 (doneP b (tidyP low zs)).low) (.slice g2 (doneP b (tidyP low zs)).cs.length cap2) HR.out (by omega)⟩, resBelow (.int .i64 (doneP b (tidyP low zs)).low) (.slice g2 (doneP b (tidyP low zs)).cs.length cap2) HB3.out⟩
      simp [results, Try.results30, go_sem, d0, d1, plV]
    · rw [decide_eq_false h200, Bool.false_and] at hb
      subst hb
      have h2i : (n : Int) > 200 := by omega
      go_wp2_with fail
      refine (l6pNone_any _).mono ?_
      rintro e w2 ⟨⟨v, rfl, hr⟩, hb2⟩
      obtain ⟨d0, d1, f0, f1⟩ := HC.out w2 hb2
      have HR := Lib.hid hr
      have HB2 := Lib.hid (HBW.out.trans (hb2.mono HBW.out.size))
      obtain ⟨g1, gg, cap1, rfl, _⟩ := hr.shape
      clear hr hb2
      go_wp2
      refine bodyPost_ret (v := .tuple #[plV 0 (.slice g1 0 cap1), .bool false]) ?_ rfl ⟨⟨_, rfl, resRow (.int .i64 0) (.slice g1 0 cap1) HR.out (by omega)⟩, resBelow (.int .i64 0) (.slice g1 0 cap1) HB2.out⟩
      simp [results, Try.results30, go_sem, d0, d1, plV]

end Go.Proofs.Ytocklmiappppgaa

/- The model's PolyOne. -/

namespace Go.Proofs.Ytocklmiappppgaa
open Go.RowKit

/-- The cells of a polynomial that was laid first. -/
theorem boxCells {w w1 : World} {r : Nat} {x y : Value} (hr : w.heap.size = r) (h : Below (r + 1) (w.alloc (.cells #[x, y] 25)) w1) :
    w1.cell? ⟨r, 0, none⟩ = some x ∧ w1.cell? ⟨r, 1, none⟩ = some y := by
  subst hr
  have e0 := h.block w.heap.size (by omega)
  rw [World.alloc_heap_new] at e0
  refine ⟨?_, ?_⟩ <;> simp [World.cell?, e0]
theorem oneP_bound {l : List Int} (h : ∀ i, -1000000000 ≤ l.getD i 0 ∧ l.getD i 0 ≤ 1000000000) : ∀ k : Nat, -1000000000 * (k : Int) ≤ oneP l k ∧ oneP l k ≤ 1000000000 * (k : Int)
  | 0 => by rw [oneP]; omega
  | k + 1 => by
    have := oneP_bound h k
    have := h k
    rw [oneP]
    omega

set_option maxRecDepth 100000 in
set_option maxHeartbeats 4000000 in
theorem sPolyOne_any (low : Int) (zs : List Int) (a : Option Addr) (cap n : Nat) (b : Bool) (w : World) (hs : Ints w a n zs) (hb : polyB ⟨low, zs⟩ = b) :
    Calls Try.prog 46 #[plV low (.slice a n cap)] w fun e w' => e = .returned (.tuple #[.int .i64 (if b then oneP zs n else 0), .bool b]) ∧ Below w.heap.size w w' := by
  obtain ⟨W, hW⟩ : ∃ W, w.alloc (.cells #[.int .i64 low, .slice a n cap] 25) = W := ⟨_, rfl⟩
  have hsz : W.heap.size = w.heap.size + 1 := by rw [← hW]; simp
  have hbW : Below w.heap.size w W := by rw [← hW]; exact (Below.refl _ w).alloc (Nat.le_refl _) _
  have HC : Hid (∀ w1, Below W.heap.size W w1 → _) := Lib.hid fun w1 (hg : Below W.heap.size W w1) => boxCells (w := w) (x := .int .i64 low) (y := .slice a n cap) rfl (by rw [hW, ← hsz]; exact hg)
  have HP := Lib.hid (sPolyIn_any low zs a cap n b W (hs.below hbW) hb)
  have HS := Lib.hid (hs.below hbW)
  have HN := Lib.hid hs.len
  have HB := Lib.hid hb
  have HBW := Lib.hid hbW
  have HW := Lib.hid hW
  clear hW hbW hs hb
  go_enter Try.func46, Try.ntmps46
  go_wp2_with fail
  rw [HW.out]
  refine HP.out.mono ?_
  rintro e w1 ⟨rfl, hb1⟩
  obtain ⟨c0, c1⟩ := HC.out w1 hb1
  have HB1 := Lib.hid hb1
  have HBw := Lib.hid (HBW.out.trans (hb1.mono HBW.out.size))
  clear hb1
  cases b with
  | false =>
    go_wp2
    go_ret2
    exact ⟨rfl, HBw.out⟩
  | true =>
    obtain ⟨_, h200, _, _, hcs⟩ := polyB_trim HB.out
    have hn2 : n ≤ 200 := by rw [← HN.out]; exact h200
    have HBD := Lib.hid (oneP_bound (l := zs) hcs)
    have HCS : Hid (∀ i, -1000000000 ≤ zs.getD i 0 ∧ zs.getD i 0 ≤ 1000000000) := Lib.hid hcs
    clear hcs h200
    go_wp2
    go_loop [4, 5] (fun s i => ∃ k : Nat, k ≤ n ∧ i = .int .i64 (k : Int) ∧ s = .int .i64 (oneP zs k)) (fun _ i => n - (intOf i).toNat)
    case atStart => exact ⟨0, Nat.zero_le _, rfl, rfl⟩
    case round =>
      obtain ⟨k, hk, rfl, rfl⟩ := hrel
      by_cases hlt : k < n
      · have hkz : k < zs.length := by rw [HN.out]; exact hlt
        obtain ⟨x, rfl, hxb, hxc⟩ := (HS.out.below HB1.out).at_ (by omega)
        obtain ⟨z, hz⟩ : ∃ z, zs.getD k 0 = z := ⟨_, rfl⟩
        have hzz : zs[k] = z := by rw [← hz, List.getD_eq_getElem?_getD, List.getElem?_eq_getElem hkz]; rfl
        have hcz := hxc k hkz
        rw [hzz] at hcz
        have h1 := HBD.out k
        have h2 := HCS.out k
        obtain ⟨s, hs⟩ : ∃ s, oneP zs k = s := ⟨_, rfl⟩
        rw [hs] at h1 ⊢
        rw [hz] at h2
        obtain ⟨h11, h12⟩ := h1
        obtain ⟨h21, h22⟩ := h2
        have HS1 : Hid (oneP zs (k + 1) = s + z) := Lib.hid (by rw [oneP, hs, hz])
        have hwr : IntKind.i64.wrap (s + z) = s + z := IntWalk.i64_in _ (by omega)
        clear hz hs hzz hxc
        go_wp2
        go_round
        case rel => exact ⟨k + 1, by omega, by go_num, by rw [HS1.out]⟩
        case measure => simp [intOf]; omega
      · obtain rfl : k = n := by omega
        go_wp2
        go_ret2
        exact ⟨rfl, HBw.out⟩

end Go.Proofs.Ytocklmiappppgaa

/- The model's l6pPlain and PolyPlain. -/

namespace Go.Proofs.Ytocklmiappppgaa
open Go.RowKit

/-- The first k ints, each so many times. -/
def timesL (c : Int) (zs : List Int) (k : Nat) : List Value := intsV ((zs.take k).map fun z => c * z)
theorem timesL_step (c : Int) (zs : List Int) {k : Nat} {z q : Int} (hk : k < zs.length) (hz : zs[k] = z) (hq : c * z = q) : timesL c zs k ++ [.int .i64 q] = timesL c zs (k + 1) := by
  unfold timesL
  rw [List.take_succ_eq_append_getElem hk, List.map_append]
  unfold intsV
  rw [List.map_append, hz]
  simp [hq]
theorem own_ge {w : World} {base size : Nat} {e : TypeId} {v : Value} {n : Nat} {xs : List Value} (h : w.ownsRow base e size v n xs) : ∀ j, v.ownBlock = some j → base ≤ j := fun j e => by
  rcases h.2 with ⟨rfl, _⟩ | ⟨g, cap, cur, rfl, hb, _⟩
  · cases e
  · simp [Value.ownBlock] at e
    omega

set_option maxRecDepth 100000 in
set_option maxHeartbeats 4000000 in
theorem l6pPlain_neg (low z0 : Int) (zs : List Int) (a : Option Addr) (cap n : Nat) (w : World) (hs : Ints w a n zs) (hn : n ≤ 1048576) (h0 : 0 < n) (hz0 : zs.getD 0 0 = z0) (h0n : z0 < 0) (hcs : ∀ i, -1000000000 ≤ zs.getD i 0 ∧ zs.getD i 0 ≤ 1000000000) :
    Calls Try.prog 88 #[plV low (.slice a n cap)] w fun e w' => (∃ v, e = .returned (plV 0 v) ∧ IntRow w.heap.size w' v (zs.map fun z => -1 * z)) ∧ Below w.heap.size w w' := by
  obtain ⟨i0, hi, hi0, hi1, hi2⟩ := info_parts infoInt
  have hd : decide (z0 < 0) = true := decide_eq_true h0n
  have h0i : z0 < 0 := h0n
  have hlen := hs.len
  obtain ⟨x, rfl, hxb, hxc⟩ := hs.at_ h0
  have HX : Hid (∀ w1, Below w.heap.size w w1 → ∀ k, k < n → ∀ z, zs.getD k 0 = z → w1.cell? (x.add k) = some (.int .i64 z)) := Lib.hid fun w1 hb k hk z e => by
    rw [← e, List.getD_eq_getElem?_getD, List.getElem?_eq_getElem (by omega)]
    exact (hb.cell (p := x.add k) (by rw [addr_add_block]; exact hxb)).trans (hxc k (by omega))
  obtain ⟨W, hW⟩ : ∃ W, (w.alloc (.cells #[.int .i64 low, .slice (some x) n cap] 25)).alloc (.cells #[.int .i64 0, .slice none 0 0] 25) = W := ⟨_, rfl⟩
  have hsz : W.heap.size = w.heap.size + 2 := by rw [← hW]; simp
  have hbW : Below w.heap.size w W := by rw [← hW]; exact ((Below.refl _ w).alloc (Nat.le_refl _) _).alloc (by simp) _
  have HC : Hid (∀ w1, Below W.heap.size W w1 → w1.cell? ⟨w.heap.size, 0, none⟩ = some (.int .i64 low) ∧ w1.cell? ⟨w.heap.size, 1, none⟩ = some (.slice (some x) n cap) ∧ w1.cell? ⟨w.heap.size + 1, 0, none⟩ = some (.int .i64 0) ∧ w1.cell? ⟨w.heap.size + 1, 1, none⟩ = some (.slice none 0 0) ∧ w1.frozen? ⟨w.heap.size + 1, 0, none⟩ = false ∧ w1.frozen? ⟨w.heap.size + 1, 1, none⟩ = false) := Lib.hid fun w1 (hg : Below W.heap.size W w1) => by
    obtain ⟨c0, c1⟩ := boxCells (w := w) (w1 := w1) (r := w.heap.size) (x := .int .i64 low) (y := .slice (some x) n cap) rfl (Below.trans ((Below.refl _ _).alloc (by simp) (.cells #[.int .i64 0, .slice none 0 0] 25)) (by rw [hW]; exact hg.mono (by omega)))
    obtain ⟨d0, d1, f0, f1⟩ := resCells (w := w.alloc (.cells #[.int .i64 low, .slice (some x) n cap] 25)) (w1 := w1) (r := w.heap.size + 1) (by simp) (by rw [hW, show w.heap.size + 1 + 1 = W.heap.size by omega]; exact hg)
    exact ⟨c0, c1, d0, d1, f0, f1⟩
  have hm := made_at W W.heap.size rfl W.heap.size (Nat.le_refl _)
  have hbm : Below W.heap.size W (W.alloc (.cells #[] 3)) := (Below.refl _ W).alloc (Nat.le_refl _) _
  rw [hsz] at hm
  have HCS : Hid (∀ i, -1000000000 ≤ zs.getD i 0 ∧ zs.getD i 0 ≤ 1000000000) := Lib.hid hcs
  have HN := Lib.hid hlen
  have HBW := Lib.hid hbW
  have HW := Lib.hid hW
  have HM := Lib.hid hm
  have HBM := Lib.hid hbm
  obtain ⟨p0, p1, _, _, _, _⟩ := HC.out W (Below.refl _ _)
  have p2 := HX.out W hbW 0 h0 z0 hz0
  rw [show x.add 0 = x by unfold Addr.add; simp, ← hW] at p2
  clear hcs hlen hxc hxb hbW hW hm hbm hs hz0
  go_enter Try.func88, Try.ntmps88
  go_wp2_with fail
  rw [HW.out]
  go_loopw [4, 5] (fun v i wr => ∃ k : Nat, k ≤ n ∧ i = .int .i64 (k : Int) ∧ wr.ownsRow (w.heap.size + 2) 3 1 v k (timesL (-1) zs k) ∧ Below W.heap.size W wr) (fun _ i _ => n - (intOf i).toNat)
  case atStart => exact ⟨0, Nat.zero_le _, rfl, HM.out, HBM.out⟩
  case round =>
    obtain ⟨k, hk, rfl, hr, hB⟩ := hrel
    obtain ⟨p0, p1, d0, d1, f0, f1⟩ := HC.out _ hB
    have hsr := hB.size
    by_cases hlt : k < n
    · obtain ⟨z, hz⟩ : ∃ z, zs.getD k 0 = z := ⟨_, rfl⟩
      have hkz : k < zs.length := by rw [HN.out]; exact hlt
      have hcz := HX.out _ (HBW.out.trans (hB.mono HBW.out.size)) k hlt z hz
      have hzz : zs[k] = z := by rw [← hz, List.getD_eq_getElem?_getD, List.getElem?_eq_getElem hkz]; rfl
      have hb := HCS.out k
      rw [hz] at hb
      obtain ⟨hb1, hb2⟩ := hb
      obtain ⟨q, hq⟩ : ∃ q, -1 * z = q := ⟨_, rfl⟩
      have HST := Lib.hid (timesL_step (-1) zs hkz hzz hq)
      have hwr : IntKind.i64.wrap (-1 * z) = q := by rw [IntWalk.i64_in _ (by omega)]; exact hq
      have hwr2 : IntKind.i64.wrap (-z) = q := by rw [IntWalk.i64_in _ (by omega)]; omega
      have HR := Lib.hid (hr.alloc (.cells #[.int .i64 q] 3))
      have HNB := Lib.hid (World.news_of_block (cs := #[.int .i64 q]) (t := 3) (fr := (0, 0)) (World.alloc_heap_new wr (.cells #[.int .i64 q] 3)))
      have HOG := Lib.hid (own_ge hr)
      clear hz hzz hq hr
      go_wp2_with (at_builtin; refine wpList_append_own _ rfl _ _ 23 rfl (w.heap.size + 2) 3 i0 (.int .i64 0) 1 8 Try.underlying23 hi hi0 hi1 hi2 rfl (by decide) _ k _ rfl HR.out ⟨wr.heap.size, 0, none⟩ 1 1 [.int .i64 q] rfl rfl HNB.out (fun u hu => by simp at hu; rcases hu with rfl; rfl) (by unfold maxLen; omega) (by omega) (by simp; omega) ?_; intro v1 w1 hrow hgrow hnil)
      have hB1 := (hB.alloc (by omega) (.cells #[.int .i64 q] 3)).grown hgrow (by simp; omega) (fun j e => by have := HOG.out j e; omega)
      rw [HST.out] at hrow
      exact ⟨⟨k + 1, by omega, by go_num, hrow, by first | exact hB1 | (rw [hsz] at hB1; exact hB1)⟩, by simp [intOf]; omega⟩
    · obtain rfl : k = n := by omega
      obtain ⟨g1, cap1, rfl⟩ := Go.Joins.ownsRow_form hr (by omega)
      unfold timesL at hr
      rw [List.take_of_length_le (by rw [HN.out]; exact Nat.le_refl _)] at hr
      have HR := Lib.hid hr
      have HB := Lib.hid (HBW.out.trans (hB.mono HBW.out.size))
      clear hr hB
      go_wp2
      have hB3 := (HB.out.setCell (p := ⟨w.heap.size + 1, 0, none⟩) (Nat.le_succ _) (.int .i64 0)).setCell (p := ⟨w.heap.size + 1, 1, none⟩) (Nat.le_succ _) (.slice (some ⟨g1, 0, none⟩) k cap1)
      have hR : IntRow (w.heap.size + 2) wr (.slice (some ⟨g1, 0, none⟩) k cap1) (zs.map fun z => -1 * z) := by unfold IntRow; rw [List.length_map, HN.out]; exact HR.out
      refine bodyPost_ret (v := plV 0 (.slice (some ⟨g1, 0, none⟩) k cap1)) ?_ rfl ⟨⟨_, rfl, IntRow.mono (resRow (r := w.heap.size + 1) (.int .i64 0) (.slice (some ⟨g1, 0, none⟩) k cap1) hR (Nat.lt_succ_self _)) (Nat.le_succ _)⟩, hB3⟩
      simp [results, Try.results88, go_sem, d0, d1, plV]

set_option maxRecDepth 100000 in
set_option maxHeartbeats 4000000 in
theorem l6pPlain_pos (low z0 : Int) (zs : List Int) (a : Option Addr) (cap n : Nat) (w : World) (hs : Ints w a n zs) (hn : n ≤ 1048576) (h0 : 0 < n) (hz0 : zs.getD 0 0 = z0) (h0n : ¬ z0 < 0) (hcs : ∀ i, -1000000000 ≤ zs.getD i 0 ∧ zs.getD i 0 ≤ 1000000000) :
    Calls Try.prog 88 #[plV low (.slice a n cap)] w fun e w' => (∃ v, e = .returned (plV 0 v) ∧ IntRow w.heap.size w' v (zs.map fun z => 1 * z)) ∧ Below w.heap.size w w' := by
  obtain ⟨i0, hi, hi0, hi1, hi2⟩ := info_parts infoInt
  have hd : decide (z0 < 0) = false := decide_eq_false h0n
  have h0i : 0 ≤ z0 := by omega
  have hlen := hs.len
  obtain ⟨x, rfl, hxb, hxc⟩ := hs.at_ h0
  have HX : Hid (∀ w1, Below w.heap.size w w1 → ∀ k, k < n → ∀ z, zs.getD k 0 = z → w1.cell? (x.add k) = some (.int .i64 z)) := Lib.hid fun w1 hb k hk z e => by
    rw [← e, List.getD_eq_getElem?_getD, List.getElem?_eq_getElem (by omega)]
    exact (hb.cell (p := x.add k) (by rw [addr_add_block]; exact hxb)).trans (hxc k (by omega))
  obtain ⟨W, hW⟩ : ∃ W, (w.alloc (.cells #[.int .i64 low, .slice (some x) n cap] 25)).alloc (.cells #[.int .i64 0, .slice none 0 0] 25) = W := ⟨_, rfl⟩
  have hsz : W.heap.size = w.heap.size + 2 := by rw [← hW]; simp
  have hbW : Below w.heap.size w W := by rw [← hW]; exact ((Below.refl _ w).alloc (Nat.le_refl _) _).alloc (by simp) _
  have HC : Hid (∀ w1, Below W.heap.size W w1 → w1.cell? ⟨w.heap.size, 0, none⟩ = some (.int .i64 low) ∧ w1.cell? ⟨w.heap.size, 1, none⟩ = some (.slice (some x) n cap) ∧ w1.cell? ⟨w.heap.size + 1, 0, none⟩ = some (.int .i64 0) ∧ w1.cell? ⟨w.heap.size + 1, 1, none⟩ = some (.slice none 0 0) ∧ w1.frozen? ⟨w.heap.size + 1, 0, none⟩ = false ∧ w1.frozen? ⟨w.heap.size + 1, 1, none⟩ = false) := Lib.hid fun w1 (hg : Below W.heap.size W w1) => by
    obtain ⟨c0, c1⟩ := boxCells (w := w) (w1 := w1) (r := w.heap.size) (x := .int .i64 low) (y := .slice (some x) n cap) rfl (Below.trans ((Below.refl _ _).alloc (by simp) (.cells #[.int .i64 0, .slice none 0 0] 25)) (by rw [hW]; exact hg.mono (by omega)))
    obtain ⟨d0, d1, f0, f1⟩ := resCells (w := w.alloc (.cells #[.int .i64 low, .slice (some x) n cap] 25)) (w1 := w1) (r := w.heap.size + 1) (by simp) (by rw [hW, show w.heap.size + 1 + 1 = W.heap.size by omega]; exact hg)
    exact ⟨c0, c1, d0, d1, f0, f1⟩
  have hm := made_at W W.heap.size rfl W.heap.size (Nat.le_refl _)
  have hbm : Below W.heap.size W (W.alloc (.cells #[] 3)) := (Below.refl _ W).alloc (Nat.le_refl _) _
  rw [hsz] at hm
  have HCS : Hid (∀ i, -1000000000 ≤ zs.getD i 0 ∧ zs.getD i 0 ≤ 1000000000) := Lib.hid hcs
  have HN := Lib.hid hlen
  have HBW := Lib.hid hbW
  have HW := Lib.hid hW
  have HM := Lib.hid hm
  have HBM := Lib.hid hbm
  obtain ⟨p0, p1, _, _, _, _⟩ := HC.out W (Below.refl _ _)
  have p2 := HX.out W hbW 0 h0 z0 hz0
  rw [show x.add 0 = x by unfold Addr.add; simp, ← hW] at p2
  clear hcs hlen hxc hxb hbW hW hm hbm hs hz0
  go_enter Try.func88, Try.ntmps88
  go_wp2_with fail
  rw [HW.out]
  go_loopw [4, 5] (fun v i wr => ∃ k : Nat, k ≤ n ∧ i = .int .i64 (k : Int) ∧ wr.ownsRow (w.heap.size + 2) 3 1 v k (timesL (1) zs k) ∧ Below W.heap.size W wr) (fun _ i _ => n - (intOf i).toNat)
  case atStart => exact ⟨0, Nat.zero_le _, rfl, HM.out, HBM.out⟩
  case round =>
    obtain ⟨k, hk, rfl, hr, hB⟩ := hrel
    obtain ⟨p0, p1, d0, d1, f0, f1⟩ := HC.out _ hB
    have hsr := hB.size
    by_cases hlt : k < n
    · obtain ⟨z, hz⟩ : ∃ z, zs.getD k 0 = z := ⟨_, rfl⟩
      have hkz : k < zs.length := by rw [HN.out]; exact hlt
      have hcz := HX.out _ (HBW.out.trans (hB.mono HBW.out.size)) k hlt z hz
      have hzz : zs[k] = z := by rw [← hz, List.getD_eq_getElem?_getD, List.getElem?_eq_getElem hkz]; rfl
      have hb := HCS.out k
      rw [hz] at hb
      obtain ⟨hb1, hb2⟩ := hb
      obtain ⟨q, hq⟩ : ∃ q, 1 * z = q := ⟨_, rfl⟩
      have HST := Lib.hid (timesL_step (1) zs hkz hzz hq)
      have hwr : IntKind.i64.wrap (1 * z) = q := by rw [IntWalk.i64_in _ (by omega)]; exact hq
      have hwr2 : IntKind.i64.wrap (z) = q := by rw [IntWalk.i64_in _ (by omega)]; omega
      have HR := Lib.hid (hr.alloc (.cells #[.int .i64 q] 3))
      have HNB := Lib.hid (World.news_of_block (cs := #[.int .i64 q]) (t := 3) (fr := (0, 0)) (World.alloc_heap_new wr (.cells #[.int .i64 q] 3)))
      have HOG := Lib.hid (own_ge hr)
      clear hz hzz hq hr
      go_wp2_with (at_builtin; refine wpList_append_own _ rfl _ _ 23 rfl (w.heap.size + 2) 3 i0 (.int .i64 0) 1 8 Try.underlying23 hi hi0 hi1 hi2 rfl (by decide) _ k _ rfl HR.out ⟨wr.heap.size, 0, none⟩ 1 1 [.int .i64 q] rfl rfl HNB.out (fun u hu => by simp at hu; rcases hu with rfl; rfl) (by unfold maxLen; omega) (by omega) (by simp; omega) ?_; intro v1 w1 hrow hgrow hnil)
      have hB1 := (hB.alloc (by omega) (.cells #[.int .i64 q] 3)).grown hgrow (by simp; omega) (fun j e => by have := HOG.out j e; omega)
      rw [HST.out] at hrow
      exact ⟨⟨k + 1, by omega, by go_num, hrow, by first | exact hB1 | (rw [hsz] at hB1; exact hB1)⟩, by simp [intOf]; omega⟩
    · obtain rfl : k = n := by omega
      obtain ⟨g1, cap1, rfl⟩ := Go.Joins.ownsRow_form hr (by omega)
      unfold timesL at hr
      rw [List.take_of_length_le (by rw [HN.out]; exact Nat.le_refl _)] at hr
      have HR := Lib.hid hr
      have HB := Lib.hid (HBW.out.trans (hB.mono HBW.out.size))
      clear hr hB
      go_wp2
      have hB3 := (HB.out.setCell (p := ⟨w.heap.size + 1, 0, none⟩) (Nat.le_succ _) (.int .i64 0)).setCell (p := ⟨w.heap.size + 1, 1, none⟩) (Nat.le_succ _) (.slice (some ⟨g1, 0, none⟩) k cap1)
      have hR : IntRow (w.heap.size + 2) wr (.slice (some ⟨g1, 0, none⟩) k cap1) (zs.map fun z => 1 * z) := by unfold IntRow; rw [List.length_map, HN.out]; exact HR.out
      refine bodyPost_ret (v := plV 0 (.slice (some ⟨g1, 0, none⟩) k cap1)) ?_ rfl ⟨⟨_, rfl, IntRow.mono (resRow (r := w.heap.size + 1) (.int .i64 0) (.slice (some ⟨g1, 0, none⟩) k cap1) hR (Nat.lt_succ_self _)) (Nat.le_succ _)⟩, hB3⟩
      simp [results, Try.results88, go_sem, d0, d1, plV]

set_option maxRecDepth 100000 in
set_option maxHeartbeats 4000000 in
theorem l6pPlain_none (low : Int) (a : Option Addr) (cap : Nat) (w : World) :
    Calls Try.prog 88 #[plV low (.slice a 0 cap)] w fun e w' => e = .returned (plV low (.slice a 0 cap)) ∧ Below w.heap.size w w' := by
  go_enter Try.func88, Try.ntmps88
  go_wp2
  refine bodyPost_ret (v := plV low (.slice a 0 cap)) ?_ rfl ⟨rfl, ((Below.refl _ w).alloc (Nat.le_refl _) _).alloc (by simp) _⟩
  simp [results, Try.results88, go_sem, plV]

theorem l6pPlain_any (low : Int) (zs : List Int) (a : Option Addr) (cap n : Nat) (w : World) (hs : Ints w a n zs) (hn : n ≤ 1048576) (hcs : ∀ i, -1000000000 ≤ zs.getD i 0 ∧ zs.getD i 0 ≤ 1000000000) :
    Calls Try.prog 88 #[plV low (.slice a n cap)] w fun e w' => (∃ a1 cap1, e = .returned (plV (plainP ⟨low, zs⟩).low (.slice a1 n cap1)) ∧ Ints w' a1 n (plainP ⟨low, zs⟩).cs) ∧ Below w.heap.size w w' := by
  have hl := hs.len
  by_cases h0 : n = 0
  · subst h0
    have e : plainP ⟨low, zs⟩ = ⟨low, zs⟩ := by unfold plainP; rw [if_pos hl]
    rw [e]
    refine (l6pPlain_none low a cap w).mono ?_
    rintro e w1 ⟨rfl, hb⟩
    exact ⟨⟨a, cap, rfl, hs.below hb⟩, hb⟩
  · have hm : ∀ z ∈ zs, -1000000000 ≤ z ∧ z ≤ 1000000000 := fun z hz => by
      obtain ⟨i, hi, rfl⟩ := List.mem_iff_getElem.1 hz
      have := hcs i
      rwa [List.getD_eq_getElem?_getD, List.getElem?_eq_getElem hi] at this
    by_cases hz : zs.getD 0 0 < 0
    · have e : plainP ⟨low, zs⟩ = ⟨0, zs.map fun z => -1 * z⟩ := by unfold plainP; rw [if_neg (by rw [hl]; exact h0)]; simp only [if_pos hz]
      rw [e]
      refine (l6pPlain_neg low _ zs a cap n w hs hn (by omega) rfl hz hcs).mono ?_
      rintro e w1 ⟨⟨v, rfl, hr⟩, hb⟩
      obtain ⟨a1, cap1, rfl, hi⟩ := hr.read (fun z hz => by obtain ⟨y, hy, rfl⟩ := List.mem_map.1 hz; have := hm y hy; omega)
      rw [List.length_map, hl] at hi ⊢
      exact ⟨⟨a1, cap1, rfl, hi⟩, hb⟩
    · have e : plainP ⟨low, zs⟩ = ⟨0, zs.map fun z => 1 * z⟩ := by unfold plainP; rw [if_neg (by rw [hl]; exact h0)]; simp only [if_neg hz]
      rw [e]
      refine (l6pPlain_pos low _ zs a cap n w hs hn (by omega) rfl hz hcs).mono ?_
      rintro e w1 ⟨⟨v, rfl, hr⟩, hb⟩
      obtain ⟨a1, cap1, rfl, hi⟩ := hr.read (fun z hz => by obtain ⟨y, hy, rfl⟩ := List.mem_map.1 hz; have := hm y hy; omega)
      rw [List.length_map, hl] at hi ⊢
      exact ⟨⟨a1, cap1, rfl, hi⟩, hb⟩

end Go.Proofs.Ytocklmiappppgaa

/- The model's PolyPlain. -/

namespace Go.Proofs.Ytocklmiappppgaa
open Go.RowKit

theorem boxResCells {w w1 W : World} {x y : Value} (hW : (w.alloc (.cells #[x, y] 25)).alloc (.cells #[.int .i64 0, .slice none 0 0] 25) = W) (hg : Below W.heap.size W w1) :
    w1.cell? ⟨w.heap.size, 0, none⟩ = some x ∧ w1.cell? ⟨w.heap.size, 1, none⟩ = some y ∧ w1.cell? ⟨w.heap.size + 1, 0, none⟩ = some (.int .i64 0) ∧ w1.cell? ⟨w.heap.size + 1, 1, none⟩ = some (.slice none 0 0) ∧ w1.frozen? ⟨w.heap.size + 1, 0, none⟩ = false ∧ w1.frozen? ⟨w.heap.size + 1, 1, none⟩ = false := by
  have hsz : W.heap.size = w.heap.size + 2 := by rw [← hW]; simp
  obtain ⟨c0, c1⟩ := boxCells (w := w) (w1 := w1) (r := w.heap.size) (x := x) (y := y) rfl (Below.trans ((Below.refl _ _).alloc (by simp) (.cells #[.int .i64 0, .slice none 0 0] 25)) (by rw [hW]; exact hg.mono (by omega)))
  obtain ⟨d0, d1, f0, f1⟩ := resCells (w := w.alloc (.cells #[x, y] 25)) (w1 := w1) (r := w.heap.size + 1) (by simp) (by rw [hW, show w.heap.size + 1 + 1 = W.heap.size by omega]; exact hg)
  exact ⟨c0, c1, d0, d1, f0, f1⟩
theorem boxResBelow {w W : World} {x y : Value} (hW : (w.alloc (.cells #[x, y] 25)).alloc (.cells #[.int .i64 0, .slice none 0 0] 25) = W) : Below w.heap.size w W ∧ W.heap.size = w.heap.size + 2 := by
  subst hW
  exact ⟨((Below.refl _ w).alloc (Nat.le_refl _) _).alloc (by simp) _, by simp⟩
/-- The answer of a function whose answer lies behind a box. -/
theorem resRow1 {w2 : World} {r base : Nat} {v : Value} {zs : List Int} (x y : Value) (h : IntRow base w2 v zs) (hb : r + 1 < base) : IntRow r ((w2.setCell ⟨r + 1, 0, none⟩ x).setCell ⟨r + 1, 1, none⟩ y) v zs :=
  IntRow.mono (resRow (r := r + 1) x y h hb) (Nat.le_succ _)
theorem resBelow1 {w w2 : World} {r : Nat} (x y : Value) (h : Below r w w2) : Below r w ((w2.setCell ⟨r + 1, 0, none⟩ x).setCell ⟨r + 1, 1, none⟩ y) :=
  (h.setCell (p := ⟨r + 1, 0, none⟩) (Nat.le_succ _) x).setCell (p := ⟨r + 1, 1, none⟩) (Nat.le_succ _) y

set_option maxRecDepth 100000 in
set_option maxHeartbeats 4000000 in
theorem sPolyPlain_any (low : Int) (zs : List Int) (a : Option Addr) (cap n : Nat) (b : Bool) (w : World) (hs : Ints w a n zs) (hb : polyB ⟨low, zs⟩ = b) :
    Calls Try.prog 43 #[plV low (.slice a n cap)] w fun e w' => (∃ v, e = .returned (.tuple #[plV (doneP b (plainP ⟨low, zs⟩)).low v, .bool b]) ∧ IntRow w.heap.size w' v (doneP b (plainP ⟨low, zs⟩)).cs) ∧ Below w.heap.size w w' := by
  obtain ⟨W, hW⟩ : ∃ W, (w.alloc (.cells #[.int .i64 low, .slice a n cap] 25)).alloc (.cells #[.int .i64 0, .slice none 0 0] 25) = W := ⟨_, rfl⟩
  obtain ⟨hbW, hsz⟩ := boxResBelow hW
  have HC : Hid (∀ w1, Below W.heap.size W w1 → _) := Lib.hid fun w1 (hg : Below W.heap.size W w1) => boxResCells hW hg
  have HP := Lib.hid (sPolyIn_any low zs a cap n b W (hs.below hbW) hb)
  have HS := Lib.hid (hs.below hbW)
  have HL := Lib.hid hs.len
  have HB := Lib.hid hb
  have HBW := Lib.hid hbW
  have HW := Lib.hid hW
  clear hW hbW hs hb
  go_enter Try.func43, Try.ntmps43
  go_wp2_with fail
  rw [HW.out]
  refine HP.out.mono ?_
  rintro e w1 ⟨rfl, hb1⟩
  obtain ⟨q0, q1, d0, d1, f0, f1⟩ := HC.out w1 hb1
  have hs1 := hb1.size
  have HB1 := Lib.hid hb1
  clear hb1
  cases b with
  | false =>
    go_wp2_with fail
    refine (l6pNone_any _).mono ?_
    rintro e w2 ⟨⟨v, rfl, hr⟩, hb2⟩
    obtain ⟨_, _, d0, d1, f0, f1⟩ := HC.out w2 (HB1.out.trans (hb2.mono hs1))
    have HR := Lib.hid hr
    have HB2 := Lib.hid (HBW.out.trans ((HB1.out.trans (hb2.mono hs1)).mono HBW.out.size))
    obtain ⟨g1, gg, cap1, rfl, _⟩ := hr.shape
    clear hr hb2
    go_wp2
    refine bodyPost_ret (v := .tuple #[plV 0 (.slice g1 0 cap1), .bool false]) ?_ rfl ⟨⟨_, rfl, resRow1 (.int .i64 0) (.slice g1 0 cap1) HR.out (by omega)⟩, resBelow1 (.int .i64 0) (.slice g1 0 cap1) HB2.out⟩
    simp [results, Try.results43, go_sem, d0, d1, plV]
  | true =>
    obtain ⟨_, h200, _, _, hcs⟩ := polyB_trim HB.out
    have hn2 : n ≤ 200 := by rw [← HL.out]; exact h200
    have HQ := Lib.hid (l6pPlain_any low zs a cap n w1 (HS.out.below HB1.out) (by omega) hcs)
    clear hcs h200
    go_wp2_with fail
    refine HQ.out.mono ?_
    rintro e w2 ⟨⟨a1, cap1, rfl, hi⟩, hb2⟩
    have hs2 := hb2.size
    have HB2 := Lib.hid (HB1.out.trans (hb2.mono hs1))
    have HD := Lib.hid (l6pCopy_any (plainP ⟨low, zs⟩).low (plainP ⟨low, zs⟩).cs a1 cap1 n w2 hi (by omega))
    clear hi hb2
    go_wp2_with fail
    refine HD.out.mono ?_
    rintro e w3 ⟨⟨v, rfl, hr⟩, hb3⟩
    obtain ⟨_, _, d0, d1, f0, f1⟩ := HC.out w3 (HB2.out.trans (hb3.mono (by omega)))
    have HR := Lib.hid hr
    have HB3 := Lib.hid (HBW.out.trans ((HB2.out.trans (hb3.mono (by omega))).mono HBW.out.size))
    obtain ⟨g2, gg, cap2, rfl, _⟩ := hr.shape
    clear hr hb3
    go_wp2
    refine bodyPost_ret (v := .tuple #[plV (plainP ⟨low, zs⟩).low (.slice g2 (plainP ⟨low, zs⟩).cs.length cap2), .bool true]) ?_ rfl ⟨⟨_, rfl, resRow1 (.int .i64 (plainP ⟨low, zs⟩).low) (.slice g2 (plainP ⟨low, zs⟩).cs.length cap2) HR.out (by omega)⟩, resBelow1 (.int .i64 (plainP ⟨low, zs⟩).low) (.slice g2 (plainP ⟨low, zs⟩).cs.length cap2) HB3.out⟩
    simp [results, Try.results43, go_sem, d0, d1, plV]

end Go.Proofs.Ytocklmiappppgaa

/- The model's PolyTurned. -/

namespace Go.Proofs.Ytocklmiappppgaa
open Go.RowKit

theorem IntRow.readc {base : Nat} {w : World} {v : Value} {zs : List Int} (h : IntRow base w v zs) (hw : ∀ z ∈ zs, -9223372036854775808 ≤ z ∧ z ≤ 9223372036854775807) : ∃ a cap, v = .slice a zs.length cap ∧ zs.length ≤ cap ∧ Ints w a zs.length zs := by
  obtain ⟨a, cap, hv, hi⟩ := h.read hw
  refine ⟨a, cap, hv, ?_, hi⟩
  rcases h.2 with ⟨rfl, h0⟩ | ⟨g, c, cur, rfl, _, _, hn, _⟩
  · simp at hv
    omega
  · simp at hv
    omega
theorem rowI {w : World} {base n : Nat} {v : Value} {zs : List Int} (h : w.ownsRow base 3 1 v n (intsV zs)) (hn : zs.length = n) : IntRow base w v zs := by
  subst hn
  exact h
def firstL (zs : List Int) (k : Nat) : List Value := intsV (zs.take k)
theorem firstL_step (zs : List Int) {k : Nat} {z : Int} (hk : k < zs.length) (hz : zs[k] = z) : firstL zs k ++ [.int .i64 z] = firstL zs (k + 1) := by
  unfold firstL
  rw [List.take_succ_eq_append_getElem hk]
  unfold intsV
  rw [List.map_append, hz]
  rfl

set_option maxRecDepth 100000 in
set_option maxHeartbeats 4000000 in
theorem sPolyTurned_any (low : Int) (zs : List Int) (a : Option Addr) (cap n : Nat) (b t : Bool) (w : World) (hs : Ints w a n zs) (hb : polyB ⟨low, zs⟩ = b) (ht : (b && polyB (turnP ⟨low, zs⟩)) = t) :
    Calls Try.prog 40 #[plV low (.slice a n cap)] w fun e w' => (∃ v, e = .returned (.tuple #[plV (doneP t (turnP ⟨low, zs⟩)).low v, .bool t]) ∧ IntRow w.heap.size w' v (doneP t (turnP ⟨low, zs⟩)).cs) ∧ Below w.heap.size w w' := by
  obtain ⟨i0, hi, hi0, hi1, hi2⟩ := info_parts infoInt
  obtain ⟨W, hW⟩ : ∃ W, (w.alloc (.cells #[.int .i64 low, .slice a n cap] 25)).alloc (.cells #[.int .i64 0, .slice none 0 0] 25) = W := ⟨_, rfl⟩
  obtain ⟨hbW, hsz⟩ := boxResBelow hW
  have HC : Hid (∀ w1, Below W.heap.size W w1 → _) := Lib.hid fun w1 (hg : Below W.heap.size W w1) => boxResCells hW hg
  have HP := Lib.hid (sPolyIn_any low zs a cap n b W (hs.below hbW) hb)
  have HS := Lib.hid hs
  have HL := Lib.hid hs.len
  have HB := Lib.hid hb
  have HBW := Lib.hid hbW
  have HW := Lib.hid hW
  clear hW hbW hs hb
  go_enter Try.func40, Try.ntmps40
  go_wp2_with fail
  rw [HW.out]
  refine HP.out.mono ?_
  rintro e w1 ⟨rfl, hb1⟩
  obtain ⟨q0, q1, d0, d1, f0, f1⟩ := HC.out w1 hb1
  have hs1 := hb1.size
  have HB1 := Lib.hid hb1
  clear hb1
  cases b with
  | false =>
    have ht : t = false := by rw [← ht]; rfl
    subst ht
    go_wp2_with fail
    refine (l6pNone_any _).mono ?_
    rintro e w2 ⟨⟨v, rfl, hr⟩, hb2⟩
    obtain ⟨_, _, d0, d1, f0, f1⟩ := HC.out w2 (HB1.out.trans (hb2.mono hs1))
    have HR := Lib.hid hr
    have HB2 := Lib.hid (HBW.out.trans ((HB1.out.trans (hb2.mono hs1)).mono HBW.out.size))
    obtain ⟨g1, gg, cap1, rfl, _⟩ := hr.shape
    clear hr hb2
    go_wp2
    refine bodyPost_ret (v := .tuple #[plV 0 (.slice g1 0 cap1), .bool false]) ?_ rfl ⟨⟨_, rfl, resRow1 (.int .i64 0) (.slice g1 0 cap1) HR.out (by omega)⟩, resBelow1 (.int .i64 0) (.slice g1 0 cap1) HB2.out⟩
    simp [results, Try.results40, go_sem, d0, d1, plV]
  | true =>
    obtain ⟨_, h200, hlo, hhi, hcs⟩ := polyB_trim HB.out
    have hn2 : n ≤ 200 := by rw [← HL.out]; exact h200
    have hlo1 : -300 ≤ low := hlo
    have hhi1 : low ≤ 300 := hhi
    have HCS : Hid (∀ i, -1000000000 ≤ zs.getD i 0 ∧ zs.getD i 0 ≤ 1000000000) := Lib.hid hcs
    have HT := Lib.hid ht
    have hm := made_at w1 w1.heap.size rfl (w.heap.size + 2) (by omega)
    have HM := Lib.hid hm
    have HBM := Lib.hid (HB1.out.alloc hs1 (.cells #[] 3))
    have hwn : IntKind.i64.wrap ((n : Int) - 1) = (n : Int) - 1 := IntWalk.i64_in _ (by omega)
    clear hcs h200 hlo hhi hm ht
    obtain ⟨_, q3, _, _, _, _⟩ := HC.out _ HBM.out
    go_wp2
    go_loopw [4, 5] (fun v i wr => ∃ (k : Nat) (j : Int), k ≤ n ∧ i = .int .i64 j ∧ j = (n : Int) - k - 1 ∧ wr.ownsRow (w.heap.size + 2) 3 1 v k (firstL zs.reverse k) ∧ Below W.heap.size W wr) (fun _ i _ => (intOf i + 1).toNat)
    case atStart => exact ⟨0, (n : Int) - 1, Nat.zero_le _, rfl, by omega, HM.out, HBM.out⟩
    case round =>
      obtain ⟨k, j, hk, rfl, hj, hr, hB⟩ := hrel
      obtain ⟨q0, q1, d0, d1, f0, f1⟩ := HC.out _ hB
      have hsr := hB.size
      by_cases hlt : k < n
      · obtain ⟨m, hmj⟩ : ∃ m : Nat, j = (m : Int) := ⟨(n - k - 1), by omega⟩
        subst hmj
        have hmlt : m < n := by omega
        obtain ⟨x, rfl, hxb, hxc⟩ := HS.out.at_ (by omega)
        have hmz : m < zs.length := by rw [HL.out]; exact hmlt
        obtain ⟨z, hz⟩ : ∃ z, zs[m] = z := ⟨_, rfl⟩
        have hcz : wr.cell? (x.add m) = some (.int .i64 z) := by rw [← hz]; exact ((HBW.out.trans (hB.mono HBW.out.size)).cell (p := x.add m) (by rw [addr_add_block]; exact hxb)).trans (hxc m hmz)
        have hkr : k < zs.reverse.length := by rw [List.length_reverse, HL.out]; exact hlt
        have hrz : zs.reverse[k] = z := by rw [List.getElem_reverse, ← hz]; congr 1; rw [HL.out]; omega
        have HST := Lib.hid (firstL_step zs.reverse hkr hrz)
        have hwr : IntKind.i64.wrap ((m : Int) - 1) = (m : Int) - 1 := IntWalk.i64_in _ (by omega)
        have HR := Lib.hid (hr.alloc (.cells #[.int .i64 z] 3))
        have HNB := Lib.hid (World.news_of_block (cs := #[.int .i64 z]) (t := 3) (fr := (0, 0)) (World.alloc_heap_new wr (.cells #[.int .i64 z] 3)))
        have HOG := Lib.hid (own_ge hr)
        have HJ := Lib.hid hj
        clear hz hrz hr hxc hj
        go_wp2_with (at_builtin; refine wpList_append_own _ rfl _ _ 23 rfl (w.heap.size + 2) 3 i0 (.int .i64 0) 1 8 Try.underlying23 hi hi0 hi1 hi2 rfl (by decide) _ k _ rfl HR.out ⟨wr.heap.size, 0, none⟩ 1 1 [.int .i64 z] rfl rfl HNB.out (fun u hu => by simp at hu; rcases hu with rfl; rfl) (by unfold maxLen; omega) (by omega) (by simp; omega) ?_; intro v1 w1 hrow hgrow hnil)
        have hB1 := (hB.alloc (by omega) (.cells #[.int .i64 z] 3)).grown hgrow (by simp; omega) (fun j e => by have := HOG.out j e; omega)
        rw [HST.out] at hrow
        have hj := HJ.out
        exact ⟨⟨k + 1, (m : Int) - 1, by omega, rfl, by omega, hrow, by first | exact hB1 | (rw [hsz] at hB1; exact hB1)⟩, by simp [intOf]⟩
      · obtain rfl : k = n := by omega
        obtain rfl : j = -1 := by omega
        clear hj
        have hwt : ∀ z ∈ zs.reverse, -9223372036854775808 ≤ z ∧ z ≤ 9223372036854775807 := fun z hz => HS.out.wf z (List.mem_reverse.1 hz)
        unfold firstL at hr
        rw [List.take_of_length_le (by rw [List.length_reverse, HL.out]; exact Nat.le_refl _)] at hr
        have hR := rowI hr (by rw [List.length_reverse, HL.out])
        obtain ⟨a1, cap1, rfl, hc1, hi1⟩ := hR.readc hwt
        rw [List.length_reverse, HL.out] at hc1 hi1
        have HTI := Lib.hid (l6pTidy_any (1 - low - (k : Int)) zs.reverse a1 cap1 k wr hi1 hc1 (by omega) (by omega) (by omega))
        have hw1 : IntKind.i64.wrap (1 - low) = 1 - low := IntWalk.i64_in _ (by omega)
        have hw2 : IntKind.i64.wrap (1 - low - (k : Int)) = 1 - low - (k : Int) := IntWalk.i64_in _ (by omega)
        have HTP : Hid (tidyP (1 - low - (k : Int)) zs.reverse = turnP ⟨low, zs⟩) := Lib.hid (by unfold turnP; show _ = tidyP (1 - low - (zs.length : Int)) zs.reverse; rw [HL.out])
        have HB := Lib.hid hB
        clear hr hR hwt hi1 hB
        rw [List.length_reverse, HL.out]
        go_wp2_with fail
        refine HTI.out.mono ?_
        rintro e w2 ⟨⟨v, rfl, hr⟩, hb2⟩
        rw [HTP.out] at hr ⊢
        have hwf : ∀ z ∈ (turnP ⟨low, zs⟩).cs, -9223372036854775808 ≤ z ∧ z ≤ 9223372036854775807 := fun z hz => by
          rcases tidy_mem (low := 1 - low - (zs.length : Int)) (l := zs.reverse) hz with rfl | h
          · omega
          · exact HS.out.wf z (List.mem_reverse.1 h)
        have hln : (turnP ⟨low, zs⟩).cs.length ≤ k := by
          have := tidy_len (1 - low - (zs.length : Int)) zs.reverse
          rw [List.length_reverse] at this
          exact Nat.le_trans this (Nat.le_of_eq HL.out)
        obtain ⟨g1, cap2, rfl, hi2⟩ := hr.read hwf
        have hs2 := hb2.size
        have HB2 := Lib.hid (HB.out.trans (hb2.mono hsr))
        have HD := Lib.hid (l6pDone_any (turnP ⟨low, zs⟩).low (turnP ⟨low, zs⟩).cs g1 cap2 _ t w2 hi2 (by omega) (by have := HT.out; rwa [Bool.true_and] at this))
        clear hr hb2 hi2 hwf
        go_wp2_with fail
        refine HD.out.mono ?_
        rintro e w3 ⟨⟨v, rfl, hr⟩, hb3⟩
        obtain ⟨_, _, d0, d1, f0, f1⟩ := HC.out w3 (HB2.out.trans (hb3.mono (by omega)))
        have HR := Lib.hid hr
        have HB3 := Lib.hid (HBW.out.trans ((HB2.out.trans (hb3.mono (by omega))).mono HBW.out.size))
        obtain ⟨g2, gg, cap3, rfl, _⟩ := hr.shape
        clear hr hb3
        go_wp2
        refine bodyPost_ret (v := .tuple #[plV (doneP t (turnP ⟨low, zs⟩)).low (.slice g2 (doneP t (turnP ⟨low, zs⟩)).cs.length cap3), .bool t]) ?_ rfl ⟨⟨_, rfl, resRow1 (.int .i64 (doneP t (turnP ⟨low, zs⟩)).low) (.slice g2 (doneP t (turnP ⟨low, zs⟩)).cs.length cap3) HR.out (by omega)⟩, resBelow1 (.int .i64 (doneP t (turnP ⟨low, zs⟩)).low) (.slice g2 (doneP t (turnP ⟨low, zs⟩)).cs.length cap3) HB3.out⟩
        simp [results, Try.results40, go_sem, d0, d1, plV]

end Go.Proofs.Ytocklmiappppgaa

/- The laws' own helpers for ints and polynomials: szIntS, szPoly, toIntS, toPoly, eqPoly, markPoly, heldPoly. -/

namespace Go.Proofs.Ytocklmiappppgaa
open Go.RowKit

set_option maxHeartbeats 1000000 in
theorem szIntS_any (a : Option Addr) (cap n left : Nat) (w : World) (hm : n ≤ maxLen) (hl : left ≤ 1048576) :
    Calls Try.prog 91 #[.slice a n cap, .int .i64 left] w fun e w' => (∃ k : Int, e = .returned (.int .i64 k) ∧ (k < 0 ∨ (n ≤ left ∧ k = ((left - n : Nat) : Int)))) ∧ w' = w := by
  unfold maxLen at hm
  have hwr : IntKind.i64.wrap ((left : Int) - (n : Int)) = (left : Int) - (n : Int) := IntWalk.i64_in _ (by omega)
  by_cases h : n ≤ left
  · obtain ⟨q, hq⟩ : ∃ q : Nat, left - n = q := ⟨_, rfl⟩
    have hqi : (left : Int) - (n : Int) = (q : Int) := by omega
    rw [hqi] at hwr
    have hd : decide ((q : Int) < 0) = false := decide_eq_false (by omega)
    go_enter Try.func91, Try.ntmps91
    go_wp2
    go_ret
    exact ⟨⟨_, rfl, .inr ⟨h, by rw [hq]⟩⟩, rfl⟩
  · have hlt : (left : Int) - (n : Int) < 0 := by omega
    have hd : decide ((left : Int) - (n : Int) < 0) = true := decide_eq_true hlt
    go_enter Try.func91, Try.ntmps91
    go_wp2
    go_ret
    exact ⟨⟨_, rfl, .inl (by omega)⟩, rfl⟩

set_option maxHeartbeats 1000000 in
theorem szPoly_any (low : Int) (a : Option Addr) (cap n left : Nat) (w : World) (hm : n ≤ maxLen) (hl : left ≤ 1048576) :
    Calls Try.prog 51 #[plV low (.slice a n cap), .int .i64 left] w fun e w' => (∃ k : Int, e = .returned (.int .i64 k) ∧ (k < 0 ∨ (n ≤ left ∧ k = ((left - n : Nat) : Int)))) ∧ Below w.heap.size w w' := by
  go_enter Try.func51, Try.ntmps51
  go_wp2_with fail
  refine (szIntS_any a cap n left _ hm hl).mono ?_
  rintro e w1 ⟨⟨k, rfl, hk⟩, rfl⟩
  by_cases h0 : k < 0
  · have hd : decide (k < 0) = true := decide_eq_true h0
    clear hk
    go_wp2
    go_ret
    exact ⟨⟨_, rfl, .inl (by omega)⟩, (Below.refl _ w).alloc (Nat.le_refl _) _⟩
  · have hd : decide (k < 0) = false := decide_eq_false h0
    have HK := Lib.hid hk
    clear hk
    go_wp2
    go_ret
    exact ⟨⟨_, rfl, HK.out⟩, (Below.refl _ w).alloc (Nat.le_refl _) _⟩

theorem fillI_set (zs : List Int) (n k : Nat) (hl : zs.length = n) (hk : k < n) :
    (intsV (zs.take k ++ List.replicate (n - k) 0)).set k (.int .i64 (zs[k]'(by omega))) = intsV (zs.take (k + 1) ++ List.replicate (n - (k + 1)) 0) := by
  unfold intsV
  rw [List.map_append, List.set_append_right _ _ (by simp; omega), List.length_map, List.length_take, Nat.min_eq_left (by omega), Nat.sub_self, List.take_succ_eq_append_getElem (by omega : k < zs.length), show n - k = (n - (k + 1)) + 1 by omega, List.replicate_succ, List.map_cons, List.set_cons_zero, List.map_append, List.map_append, List.append_assoc]
  rfl

set_option maxRecDepth 100000 in
set_option maxHeartbeats 1000000 in
theorem toIntS_any (a : Option Addr) (cap n : Nat) (zs : List Int) (w : World) (hm : n ≤ 1048576) (hs : Ints w a n zs) :
    Calls Try.prog 54 #[.slice a n cap] w fun e w' =>
      e = .returned (.slice (some ⟨w.heap.size, 0, none⟩) n n) ∧ IntRow w.heap.size w' (.slice (some ⟨w.heap.size, 0, none⟩) n n) zs ∧ Below w.heap.size w w' := by
  obtain ⟨i0, hi, hz0, hz1, hz2⟩ := info_parts infoInt
  have HN := Lib.hid hs.len
  have HS := Lib.hid hs
  unfold IntRow
  rw [hs.len]
  clear hs
  go_enter Try.func54, Try.ntmps54
  go_wp2_with (at_make; refine wpList_make_full _ rfl _ _ 23 rfl w.heap.size 3 i0 (.int .i64 0) 1 Try.underlying23 hi hz0 hz1 .i64 .i64 _ _ n rfl rfl rfl rfl (by rw [hz2]; omega) (by unfold maxLen; omega) (Nat.le_refl _) ?_; intro w1 hrow hgrow)
  rw [show (madeCells (Value.cells (.int .i64 0)) (n * 1)).toList = intsV (zs.take 0 ++ List.replicate (n - 0) 0) by
    rw [show Value.cells (.int .i64 0) = #[.int .i64 0] from rfl, toList_madeCells_one]; simp [intsV]] at hrow
  have hB1 : Below w.heap.size w w1 := (Below.refl _ _).grown hgrow (Nat.le_refl _) (fun k e => by cases e)
  go_loopw [4] (fun i wr => ∃ k : Nat, k ≤ n ∧ i = .int .i64 k ∧ wr.ownsRow w.heap.size 3 1 (.slice (some ⟨w.heap.size, 0, none⟩) n n) n (intsV (zs.take k ++ List.replicate (n - k) 0)) ∧ Below w.heap.size w wr)
    (fun i _ => n - (intOf i).toNat)
  case atStart => exact ⟨0, Nat.zero_le _, rfl, hrow, hB1⟩
  case round =>
    obtain ⟨k, hk, rfl, hr, hB⟩ := hrel
    by_cases hlt : k < n
    · have hkz : k < zs.length := by rw [HN.out]; exact hlt
      obtain ⟨x, rfl, hb, hc⟩ := HS.out.at_ (by omega)
      obtain ⟨s, hs⟩ : ∃ s, zs[k] = s := ⟨_, rfl⟩
      have hsrc : wr.cell? (x.add k) = some (.int .i64 s) := by rw [← hs]; exact (hB.cell (p := x.add k) (by rw [addr_add_block]; exact hb)).trans (hc k hkz)
      have hfil := fillI_set zs n k HN.out hlt
      rw [hs] at hfil
      have hdst : wr.cell? ⟨w.heap.size, k, none⟩ = some (.int .i64 0) := by
        rw [hr.cellAt k (by omega)]
        simp only [intsV, List.getElem?_map]
        rw [List.getElem?_append_right (by simp; omega), List.getElem?_replicate]
        simp
        omega
      have hfr := hr.frozenAt k
      have HR := Lib.hid hr
      have HF := Lib.hid hfil
      have HE := Lib.hid hs
      clear hr hfil hs hc
      go_wp2
      go_roundw
      case rel =>
        have hst := HR.out.stored k (.int .i64 s)
        refine ⟨k + 1, by omega, by go_num, ?_, hB.setCell (p := ⟨w.heap.size, k, none⟩) (Nat.le_refl _) _⟩
        rw [← HF.out]
        exact hst.1
      case measure => simp [intOf]; omega
    · obtain rfl : k = n := by omega
      rw [Nat.sub_self, List.replicate_zero, List.append_nil, List.take_of_length_le (by rw [HN.out]; exact Nat.le_refl _)] at hr
      have HR := Lib.hid hr
      clear hr hrow
      go_wp2
      go_ret
      exact ⟨rfl, HR.out, hB⟩

set_option maxRecDepth 100000 in
set_option maxHeartbeats 2000000 in
theorem toPoly_any (low : Int) (a : Option Addr) (cap n : Nat) (zs : List Int) (w : World) (hm : n ≤ 1048576) (hs : Ints w a n zs) :
    Calls Try.prog 52 #[plV low (.slice a n cap)] w fun e w' => (∃ g, e = .returned (plV low (.slice (some ⟨g, 0, none⟩) n n)) ∧ w.heap.size ≤ g ∧ IntRow w.heap.size w' (.slice (some ⟨g, 0, none⟩) n n) zs) ∧ Below w.heap.size w w' := by
  obtain ⟨W, hW⟩ : ∃ W, ((w.alloc (.cells #[.int .i64 low, .slice a n cap] 40)).alloc (.cells #[.int .i64 0, .slice none 0 0] 25)).alloc (.cells #[.int .i64 low, .slice none 0 0] 25) = W := ⟨_, rfl⟩
  have hsz : W.heap.size = w.heap.size + 3 := by rw [← hW]; simp
  have hbW : Below w.heap.size w W := by rw [← hW]; exact (((Below.refl _ w).alloc (Nat.le_refl _) _).alloc (by simp) _).alloc (by simp; omega) _
  have hk2 : W.heap[w.heap.size + 1 + 1]? = some (.cells #[.int .i64 low, .slice none 0 0] 25 (0, 0)) := by
    have h := World.alloc_heap_new ((w.alloc (.cells #[.int .i64 low, .slice a n cap] 40)).alloc (.cells #[.int .i64 0, .slice none 0 0] 25)) (.cells #[.int .i64 low, .slice none 0 0] 25)
    rw [hW, World.size_alloc, World.size_alloc] at h
    exact h
  have hk1 : W.heap[w.heap.size + 1]? = some (.cells #[.int .i64 0, .slice none 0 0] 25 (0, 0)) := by
    have h := World.alloc_heap_new (w.alloc (.cells #[.int .i64 low, .slice a n cap] 40)) (.cells #[.int .i64 0, .slice none 0 0] 25)
    have g := World.grownBy_alloc ((w.alloc (.cells #[.int .i64 low, .slice a n cap] 40)).alloc (.cells #[.int .i64 0, .slice none 0 0] 25)) (.cells #[.int .i64 low, .slice none 0 0] 25) none
    rw [hW] at g
    rw [World.size_alloc] at h
    exact (g.block (w.heap.size + 1) (by simp) (by simp)).trans h
  have HT := Lib.hid (toIntS_any a cap n zs W hm (hs.below hbW))
  have HBW := Lib.hid hbW
  have HK1 := Lib.hid hk1
  have HK2 := Lib.hid hk2
  have HW := Lib.hid hW
  clear hs hbW hk1 hk2 hW
  go_enter Try.func52, Try.ntmps52
  go_wp2_with fail
  rw [HW.out]
  refine HT.out.mono ?_
  rintro e w1 ⟨rfl, hr1, hb1⟩
  have h1 := (hb1.block (w.heap.size + 1) (by omega)).trans HK1.out
  have h2 := (hb1.block (w.heap.size + 1 + 1) (by omega)).trans HK2.out
  have d0 : w1.cell? ⟨w.heap.size + 1 + 1, 0, none⟩ = some (.int .i64 low) := by simp [World.cell?, h2]
  have d1 : w1.cell? ⟨w.heap.size + 1 + 1, 1, none⟩ = some (.slice none 0 0) := by simp [World.cell?, h2]
  have f0 : w1.frozen? ⟨w.heap.size + 1 + 1, 0, none⟩ = false := by simp [World.frozen?, h2]
  have f1 : w1.frozen? ⟨w.heap.size + 1 + 1, 1, none⟩ = false := by simp [World.frozen?, h2]
  have e0 : w1.cell? ⟨w.heap.size + 1, 0, none⟩ = some (.int .i64 0) := by simp [World.cell?, h1]
  have e1 : w1.cell? ⟨w.heap.size + 1, 1, none⟩ = some (.slice none 0 0) := by simp [World.cell?, h1]
  have g0 : w1.frozen? ⟨w.heap.size + 1, 0, none⟩ = false := by simp [World.frozen?, h1]
  have g1 : w1.frozen? ⟨w.heap.size + 1, 1, none⟩ = false := by simp [World.frozen?, h1]
  have HR := Lib.hid hr1
  have HB1 := Lib.hid (HBW.out.trans (hb1.mono HBW.out.size))
  clear hr1 hb1 h1 h2
  go_wp2
  have q1 : w.heap.size + 1 < W.heap.size := by omega
  have q2 : w.heap.size + 1 + 1 < W.heap.size := by omega
  have r1 : w.heap.size ≤ w.heap.size + 1 := by omega
  have r2 : w.heap.size ≤ w.heap.size + 1 + 1 := by omega
  have hR3 := ownsRow_setCell_below (ownsRow_setCell_below (ownsRow_setCell_below HR.out (a := ⟨w.heap.size + 1 + 1, 1, none⟩) q2 (.slice (some ⟨w.heap.size + 3, 0, none⟩) n n)) (a := ⟨w.heap.size + 1, 0, none⟩) q1 (.int .i64 low)) (a := ⟨w.heap.size + 1, 1, none⟩) q1 (.slice (some ⟨w.heap.size + 3, 0, none⟩) n n)
  have hB3 := ((HB1.out.setCell (p := ⟨w.heap.size + 1 + 1, 1, none⟩) r2 (.slice (some ⟨w.heap.size + 3, 0, none⟩) n n)).setCell (p := ⟨w.heap.size + 1, 0, none⟩) r1 (.int .i64 low)).setCell (p := ⟨w.heap.size + 1, 1, none⟩) r1 (.slice (some ⟨w.heap.size + 3, 0, none⟩) n n)
  rw [hsz] at hR3
  refine bodyPost_ret (v := plV low (.slice (some ⟨w.heap.size + 3, 0, none⟩) n n)) ?_ rfl ⟨⟨w.heap.size + 3, rfl, by omega, IntRow.mono hR3 (by omega)⟩, hB3⟩
  simp [results, Try.results52, go_sem, e0, e1, plV]

set_option maxHeartbeats 2000000 in
theorem eqPoly_yes (b1 b2 : Nat) (low : Int) (v1 v2 : Value) (zs : List Int) (w : World) (h1 : IntRow b1 w v1 zs) (h2 : IntRow b2 w v2 zs) :
    Calls Try.prog 53 #[plV low v1, plV low v2] w fun e w' => e = .returned (.bool true) ∧ Below w.heap.size w w' := by
  have hb : Below w.heap.size w ((w.alloc (.cells #[.int .i64 low, v1] 25)).alloc (.cells #[.int .i64 low, v2] 25)) := ((Below.refl _ w).alloc (Nat.le_refl _) _).alloc (by simp) _
  have H1 := Lib.hid (h1.below hb)
  have H2 := Lib.hid (h2.below hb)
  have HB := Lib.hid hb
  clear h1 h2 hb
  go_enter Try.func53, Try.ntmps53
  go_wp2_with fail
  refine (eqIntS_yes b1 b2 v1 v2 zs _ H1.out H2.out).mono ?_
  rintro e w1 ⟨rfl, hb1⟩
  have HB1 := Lib.hid (HB.out.trans (hb1.mono HB.out.size))
  clear hb1
  go_wp2
  go_ret
  exact ⟨rfl, HB1.out⟩

end Go.Proofs.Ytocklmiappppgaa

/- The laws' own marks in polynomials: markPoly, heldPoly. -/

namespace Go.Proofs.Ytocklmiappppgaa
open Go.RowKit

set_option maxRecDepth 100000 in
set_option maxHeartbeats 2000000 in
theorem markPoly_any (base : Nat) (low : Int) (v : Value) (zs : List Int) (k : Nat) (w : World) (h : IntRow base w v zs) (hb : base ≤ w.heap.size) (hk : k ≤ 1000000000000) (hn2 : zs.length ≤ 1000000000000) :
    Calls Try.prog 57 #[plV low v, .int .i64 k] w fun e w' => e = .returned (.int .i64 ((k + zs.length : Nat) : Int)) ∧ IntRow base w' v (marks k zs.length) ∧ Below base w w' := by
  have hbW : Below w.heap.size w (w.alloc (.cells #[.int .i64 low, v] 25)) := (Below.refl _ w).alloc (Nat.le_refl _) _
  have HM := Lib.hid (markIntS_any base v zs k _ (h.below hbW) hk hn2)
  have HO : Hid (∀ j, v.ownBlock = some j → base ≤ j) := Lib.hid fun j e => by
    rcases h.2 with ⟨rfl, _⟩ | ⟨g, cap, cur, rfl, hg, _⟩
    · cases e
    · simp [Value.ownBlock] at e
      omega
  have HB := Lib.hid (hbW.mono hb)
  clear h hbW
  go_enter Try.func57, Try.ntmps57
  go_wp2_with fail
  refine HM.out.mono ?_
  rintro e w1 ⟨rfl, hr, hg⟩
  have HR := Lib.hid hr
  have HG := Lib.hid (HB.out.grown hg (by simp; omega) HO.out)
  clear hr hg
  go_wp2
  go_ret
  exact ⟨rfl, HR.out, HG.out⟩

set_option maxRecDepth 100000 in
set_option maxHeartbeats 2000000 in
theorem heldPoly_any (base : Nat) (low : Int) (v : Value) (n k : Nat) (w : World) (h : IntRow base w v (marks k n)) (hk : k ≤ 1000000000000) (hn2 : n ≤ 1000000000000) :
    Calls Try.prog 58 #[plV low v, .int .i64 k] w fun e w' => e = .returned (.int .i64 ((k + n : Nat) : Int)) ∧ Below w.heap.size w w' := by
  have hbW : Below w.heap.size w (w.alloc (.cells #[.int .i64 low, v] 25)) := (Below.refl _ w).alloc (Nat.le_refl _) _
  have HM := Lib.hid (heldIntS_any base v n k _ (h.below hbW) hk hn2)
  have HB := Lib.hid hbW
  have hlt : decide (((k + n : Nat) : Int) < 0) = false := decide_eq_false (by omega)
  obtain ⟨q, hq⟩ : ∃ q, k + n = q := ⟨_, rfl⟩
  rw [hq] at hlt HM ⊢
  clear h hbW
  go_enter Try.func58, Try.ntmps58
  go_wp2_with fail
  refine HM.out.mono ?_
  rintro e w1 ⟨rfl, rfl⟩
  go_wp2
  go_ret
  exact ⟨rfl, HB.out⟩

end Go.Proofs.Ytocklmiappppgaa

/- How the laws' own toPoly answers, for the laws. -/

namespace Go.Proofs.Ytocklmiappppgaa
open Go.RowKit

theorem toPoly_t (low : Int) (a : Option Addr) (cap n : Nat) (zs : List Int) (w : World) (hm : n ≤ 1048576) (hs : Ints w a n zs) :
    Calls Try.prog 52 #[plV low (.slice a n cap)] w fun e w' => (∃ g, e = .returned (plV low (.slice (some ⟨g, 0, none⟩) n n)) ∧ w.heap.size ≤ g ∧ IntRow w.heap.size w' (.slice (some ⟨g, 0, none⟩) n n) zs ∧ Ints w' (some ⟨g, 0, none⟩) n zs) ∧ Below w.heap.size w w' := by
  refine (toPoly_any low a cap n zs w hm hs).mono ?_
  rintro e w1 ⟨⟨g, rfl, hg, hr⟩, hb⟩
  obtain ⟨a1, cap1, hv, hi⟩ := hr.read hs.wf
  have hl := hs.len
  subst hl
  simp at hv
  obtain ⟨rfl, _⟩ := hv
  exact ⟨⟨g, rfl, hg, hr, hi⟩, hb⟩

end Go.Proofs.Ytocklmiappppgaa

/- The model's l6pSame. -/

namespace Go.Proofs.Ytocklmiappppgaa
open Go.RowKit

theorem twoCells {w w1 W : World} {x y u v : Value} (hW : (w.alloc (.cells #[x, y] 25)).alloc (.cells #[u, v] 25) = W) (hg : Below W.heap.size W w1) :
    w1.cell? ⟨w.heap.size, 0, none⟩ = some x ∧ w1.cell? ⟨w.heap.size, 1, none⟩ = some y ∧ w1.cell? ⟨w.heap.size + 1, 0, none⟩ = some u ∧ w1.cell? ⟨w.heap.size + 1, 1, none⟩ = some v := by
  have hsz : W.heap.size = w.heap.size + 2 := by rw [← hW]; simp
  obtain ⟨c0, c1⟩ := boxCells (w := w) (w1 := w1) (r := w.heap.size) (x := x) (y := y) rfl (Below.trans ((Below.refl _ _).alloc (by simp) (.cells #[u, v] 25)) (by rw [hW]; exact hg.mono (by omega)))
  obtain ⟨d0, d1⟩ := boxCells (w := w.alloc (.cells #[x, y] 25)) (w1 := w1) (r := w.heap.size + 1) (x := u) (y := v) (by simp) (by rw [hW, show w.heap.size + 1 + 1 = W.heap.size by omega]; exact hg)
  exact ⟨c0, c1, d0, d1⟩
theorem eq_getD {x y : List Int} (hl : x.length = y.length) (h : ∀ i, i < x.length → x.getD i 0 = y.getD i 0) : x = y := by
  refine List.ext_getElem hl fun i h1 h2 => ?_
  have e := h i h1
  simpa [List.getD_eq_getElem?_getD, List.getElem?_eq_getElem h1, List.getElem?_eq_getElem h2] using e

set_option maxRecDepth 100000 in
set_option maxHeartbeats 4000000 in
theorem l6pSame_any (l1 l2 : Int) (x y : List Int) (a1 a2 : Option Addr) (c1 c2 n1 n2 : Nat) (b : Bool) (w : World) (h1 : Ints w a1 n1 x) (h2 : Ints w a2 n2 y) (hb : decide (l1 = l2 ∧ x = y) = b) :
    Calls Try.prog 90 #[plV l1 (.slice a1 n1 c1), plV l2 (.slice a2 n2 c2)] w fun e w' => e = .returned (.bool b) ∧ Below w.heap.size w w' := by
  have hm := h1.max
  unfold maxLen at hm
  obtain ⟨W, hW⟩ : ∃ W, (w.alloc (.cells #[.int .i64 l1, .slice a1 n1 c1] 25)).alloc (.cells #[.int .i64 l2, .slice a2 n2 c2] 25) = W := ⟨_, rfl⟩
  have hsz : W.heap.size = w.heap.size + 2 := by rw [← hW]; simp
  have hbW : Below w.heap.size w W := by rw [← hW]; exact ((Below.refl _ w).alloc (Nat.le_refl _) _).alloc (by simp) _
  have HC : Hid (∀ w1, Below W.heap.size W w1 → _) := Lib.hid fun w1 (hg : Below W.heap.size W w1) => twoCells hW hg
  have H1 := Lib.hid (h1.below hbW)
  have H2 := Lib.hid (h2.below hbW)
  have HB := Lib.hid hb
  have HBW := Lib.hid hbW
  have HN1 := Lib.hid h1.len
  have HN2 := Lib.hid h2.len
  have hC := twoCells hW (Below.refl _ _)
  rw [← hW] at hC
  obtain ⟨q0, q1, q2, q3⟩ := hC
  have HW := Lib.hid hW
  clear hW hbW hb h1 h2
  go_enter Try.func90, Try.ntmps90
  by_cases hl : l1 = l2
  · subst hl
    by_cases hn : n1 = n2
    · subst hn
      have hnn : ((n1 : Int) != (n1 : Int)) = false := by simp
      have hll : (l1 != l1) = false := by simp
      go_wp2_with fail
      rw [HW.out]
      go_loopw [5] (fun i wr => ∃ k : Nat, k ≤ n1 ∧ i = .int .i64 (k : Int) ∧ Hid (∀ i, i < k → x.getD i 0 = y.getD i 0) ∧ Below W.heap.size W wr) (fun i _ => n1 - (intOf i).toNat)
      case atStart => exact ⟨0, Nat.zero_le _, rfl, Lib.hid fun i h => absurd h (Nat.not_lt_zero _), Below.refl _ _⟩
      case round =>
        obtain ⟨k, hk, rfl, HK, hB⟩ := hrel
        obtain ⟨p0, p1, p2, p3⟩ := HC.out _ hB
        have hki : (0 : Int) ≤ (k : Int) := Int.natCast_nonneg _
        by_cases hlt : k < n1
        · have hlti : (k : Int) < (n1 : Int) := by omega
          obtain ⟨z1, rfl, hb1, hc1⟩ := (H1.out.below hB).at_ (by omega)
          obtain ⟨z2, rfl, hb2, hc2⟩ := (H2.out.below hB).at_ (by omega)
          have hkx : k < x.length := by rw [HN1.out]; exact hlt
          have hky : k < y.length := by rw [HN2.out]; exact hlt
          obtain ⟨u, hu⟩ : ∃ u, x[k] = u := ⟨_, rfl⟩
          obtain ⟨v, hv⟩ : ∃ v, y[k] = v := ⟨_, rfl⟩
          have e1 := hc1 k hkx
          have e2 := hc2 k hky
          rw [hu] at e1
          rw [hv] at e2
          have hgu : x.getD k 0 = u := by rw [List.getD_eq_getElem?_getD, List.getElem?_eq_getElem hkx, hu]; rfl
          have hgv : y.getD k 0 = v := by rw [List.getD_eq_getElem?_getD, List.getElem?_eq_getElem hky, hv]; rfl
          have HGU := Lib.hid hgu
          have HGV := Lib.hid hgv
          clear hu hv hc1 hc2 hgu hgv
          by_cases huv : u = v
          · subst huv
            have hne : (u != u) = false := by simp
            go_wp2
            go_quiet (fail)
            go_wp2
            go_roundw
            case rel => exact ⟨k + 1, by omega, by go_num, Lib.hid fun i h => by
              by_cases e : i = k
              · rw [e, HGU.out, HGV.out]
              · exact HK.out i (by omega), below_drewN hB _⟩
            case measure => simp [intOf]; omega
          · have hne : (u != v) = true := by simpa using huv
            have hbf : b = false := by
              rw [← HB.out]
              refine decide_eq_false fun h => huv ?_
              rw [← HGU.out, ← HGV.out, h.2]
            subst hbf
            go_wp2
            go_quiet (fail)
            go_wp2
            go_ret
            exact ⟨rfl, HBW.out.trans ((below_drewN hB _).mono HBW.out.size)⟩
        · obtain rfl : k = n1 := by omega
          have hbt : b = true := by
            rw [← HB.out]
            have e := eq_getD (x := x) (y := y) (by rw [HN1.out, HN2.out]) (fun i hi => HK.out i (by rw [← HN1.out]; exact hi))
            simp [e]
          subst hbt
          go_wp2
          go_ret
          exact ⟨rfl, HBW.out.trans (hB.mono HBW.out.size)⟩
    · have hbf : b = false := by
        rw [← HB.out]
        exact decide_eq_false fun h => hn (by rw [← HN1.out, ← HN2.out, h.2])
      subst hbf
      have hni : ¬ (n1 : Int) = (n2 : Int) := by omega
      have hnn : ((n1 : Int) != (n2 : Int)) = true := by simpa using hni
      have hll : (l1 != l1) = false := by simp
      go_wp2
      go_ret
      exact ⟨rfl, by rw [HW.out]; exact HBW.out⟩
  · have hbf : b = false := by
      rw [← HB.out]
      exact decide_eq_false fun h => hl h.1
    subst hbf
    have hll : (l1 != l2) = true := by simpa using hl
    go_wp2
    go_ret
    exact ⟨rfl, by rw [HW.out]; exact HBW.out⟩

end Go.Proofs.Ytocklmiappppgaa

/- Polynomials on the way: lists told by a function of the power, sums' and products' coefficients as they come. -/

namespace Go.Proofs.Ytocklmiappppgaa
open Go.RowKit

/-- A slice that can be read. -/
def Reads (w : World) (v : Value) (zs : List Int) : Prop := ∃ a cap, v = .slice a zs.length cap ∧ zs.length ≤ cap ∧ Ints w a zs.length zs
theorem IntRow.reads {base : Nat} {w : World} {v : Value} {zs : List Int} (h : IntRow base w v zs) (hw : ∀ z ∈ zs, -9223372036854775808 ≤ z ∧ z ≤ 9223372036854775807) : Reads w v zs := h.readc hw
theorem Reads.below {w w' : World} {v : Value} {zs : List Int} (h : Reads w v zs) (hb : Below w.heap.size w w') : Reads w' v zs := by
  obtain ⟨a, cap, hv, hc, hi⟩ := h
  exact ⟨a, cap, hv, hc, hi.below hb⟩

/-- A cell of a list that a function tells is set: another function tells the list. -/
theorem listP_set {f g : Int → Int} {low x : Int} {n j : Nat} (hg : ∀ k, k ≠ low + (j : Int) → g k = f k) (hx : g (low + (j : Int)) = x) : (intsV (listP f low n)).set j (.int .i64 x) = intsV (listP g low n) := by
  unfold intsV listP
  refine List.ext_getElem (by simp) fun i h1 h2 => ?_
  by_cases e : j = i
  · subst e
    simp [hx]
  · simp [List.getElem_set_ne e, hg (low + (i : Int)) (by omega)]
theorem listP_congr {f g : Int → Int} {low : Int} {n : Nat} (h : ∀ k, low ≤ k → k < low + n → f k = g k) : listP f low n = listP g low n := by
  unfold listP
  refine List.map_congr_left fun i hi => h _ (by omega) ?_
  have := List.mem_range.1 hi
  omega
theorem listP_zero (low : Int) (n : Nat) : listP (fun _ => 0) low n = List.replicate n 0 := by
  unfold listP
  rw [List.map_const', List.length_range]
theorem listP_cell {f : Int → Int} {low : Int} {n j : Nat} (h : j < n) : (intsV (listP f low n))[j]? = some (.int .i64 (f (low + (j : Int)))) := by
  simp [intsV, listP, h]
/-- Only the first powers, below a bound. -/
def upto (f : Int → Int) (m : Int) (k : Int) : Int := if k < m then f k else 0
theorem upto_next {f : Int → Int} {m k : Int} (h : k ≠ m) : upto f (m + 1) k = upto f m k := by
  unfold upto
  by_cases h1 : k < m
  · rw [if_pos h1, if_pos (by omega)]
  · rw [if_neg h1, if_neg (by omega)]
theorem upto_at (f : Int → Int) (m : Int) : upto f (m + 1) m = f m := by unfold upto; rw [if_pos (by omega)]
theorem upto_here (f : Int → Int) (m : Int) : upto f m m = 0 := by unfold upto; rw [if_neg (by omega)]
theorem upto_low (p : Pl) (k : Int) : upto (pat p) p.low k = 0 := by
  unfold upto
  split
  · rw [pat_low p (by assumption)]
  · rfl
theorem upto_high (p : Pl) (k : Int) : upto (pat p) (p.low + p.cs.length) k = pat p k := by
  unfold upto
  split
  · rfl
  · rw [pat_high p (by omega)]

/-! ### Coefficients that are none -/
theorem polyB_mem {p : Pl} {z : Int} (hm : z ∈ p.cs) (h : coefIn z = false) : polyB p = false := by
  obtain ⟨i, hi, rfl⟩ := List.mem_iff_getElem.1 hm
  exact polyB_bad hi h
theorem tidy_has {low : Int} {l : List Int} {i : Nat} (h : l.getD i 0 ≠ 0) : l.getD i 0 ∈ (tidyP low l).cs := by
  have e := (tidy_pat low l (low + (i : Int))).trans (pat_at ⟨low, l⟩ i)
  have e : pat (tidyP low l) (low + (i : Int)) = l.getD i 0 := e
  have hp := pat_in (p := tidyP low l) (k := low + (i : Int)) (by rw [e]; exact h)
  obtain ⟨m, hm⟩ : ∃ m : Nat, low + (i : Int) = (tidyP low l).low + (m : Int) := ⟨(low + (i : Int) - (tidyP low l).low).toNat, by omega⟩
  have hml : m < (tidyP low l).cs.length := by omega
  rw [hm, pat_at, List.getD_eq_getElem?_getD, List.getElem?_eq_getElem hml] at e
  have e : (tidyP low l).cs[m] = l.getD i 0 := e
  rw [← e]
  exact List.getElem_mem hml
theorem tidy_bad {low : Int} {l : List Int} {i : Nat} (h : coefIn (l.getD i 0) = false) : polyB (tidyP low l) = false :=
  polyB_mem (tidy_has (low := low) (i := i) (fun e => by rw [e] at h; exact absurd h (by decide))) h
/-- A number and what it should be: the same, or both no coefficients. -/
def Heldc (o c : Int) : Prop := o = c ∨ (coefIn o = false ∧ coefIn c = false)
theorem held_lists {os cs : List Int} (low : Int) (hl : os.length = cs.length) (h : ∀ i, i < cs.length → Heldc (os.getD i 0) (cs.getD i 0)) : tidyP low os = tidyP low cs ∨ (polyB (tidyP low os) = false ∧ polyB (tidyP low cs) = false) := by
  by_cases hall : ∀ i, i < os.length → os.getD i 0 = cs.getD i 0
  · exact .inl (by rw [eq_getD hl hall])
  · right
    obtain ⟨i, hi⟩ := Classical.not_forall.1 hall
    obtain ⟨hi, hne⟩ := Classical.not_imp.1 hi
    rcases h i (by omega) with e | ⟨h1, h2⟩
    · exact absurd e hne
    · exact ⟨tidy_bad (i := i) h1, tidy_bad (i := i) h2⟩
theorem held_done {p q : Pl} (h : p = q ∨ (polyB p = false ∧ polyB q = false)) : polyB p = polyB q ∧ doneP (polyB p) p = doneP (polyB q) q := by
  rcases h with rfl | ⟨h1, h2⟩
  · exact ⟨rfl, rfl⟩
  · rw [h1, h2]; exact ⟨rfl, rfl⟩
theorem coefIn_yes {z : Int} (h : coefIn z = true) : -1000000000 ≤ z ∧ z ≤ 1000000000 := by
  unfold coefIn inR at h
  simpa using h
theorem coefIn_no {z : Int} (h : z < -1000000000 ∨ 1000000000 < z) : coefIn z = false := by
  unfold coefIn inR
  rcases h with h | h
  · simp; omega
  · simp; omega

end Go.Proofs.Ytocklmiappppgaa

/- The program's within, isNotZero, and slices.IndexFunc and slices.ContainsFunc at them. -/

namespace Go.Proofs.Ytocklmiappppgaa
open Go.RowKit

set_option maxHeartbeats 1000000 in
theorem within_any (n s : Int) (b : Bool) (w : World) (h0 : 0 ≤ s) (h1 : s ≤ 9223372036854775807) (hb : inR (-s) s n = b) :
    Calls Try.prog 104 #[.int .i64 n, .int .i64 s] w fun e w' => e = .returned (.bool b) ∧ w = w' := by
  have hwr : IntKind.i64.wrap (-s) = -s := IntWalk.i64_in _ (by omega)
  unfold inR at hb
  by_cases h2 : -s ≤ n
  · have hd : decide (-s ≤ n) = true := decide_eq_true h2
    rw [hd, Bool.true_and] at hb
    go_enter Try.func104, Try.ntmps104
    go_wp2
    go_ret
    first | exact ⟨rfl, rfl⟩ | exact ⟨ret_bool hb, rfl⟩
  · have hd : decide (-s ≤ n) = false := decide_eq_false h2
    rw [hd, Bool.false_and] at hb
    subst hb
    go_enter Try.func104, Try.ntmps104
    go_wp2
    go_ret
    exact ⟨rfl, rfl⟩
theorem isNotZero_any (z : Int) (b : Bool) (w : World) (hb : decide (z = 0) = b) :
    Calls Try.prog 102 #[.int .i64 z] w fun e w' => e = .returned (.bool !b) ∧ w = w' := by
  go_enter Try.func102, Try.ntmps102
  go_wp2
  go_ret
  refine ⟨ret_bool ?_, rfl⟩
  subst hb
  by_cases h : z = 0 <;> simp [h]
theorem beyond_any (z : Int) (b : Bool) (w : World) (hb : coefIn z = b) :
    Calls Try.prog 103 #[.int .i64 z] w fun e w' => e = .returned (.bool !b) ∧ w = w' := by
  go_enter Try.func103, Try.ntmps103
  go_wp2_with fail
  refine (within_any z 1000000000 b _ (by omega) (by omega) hb).mono ?_
  rintro e w1 ⟨rfl, rfl⟩
  go_wp2
  go_ret
  exact ⟨rfl, rfl⟩

/-- The first place at which a test holds, or -1. -/
def FirstI (p : Int → Bool) (zs : List Int) (r : Int) : Prop :=
  (r = -1 ∧ ∀ j (h : j < zs.length), p zs[j] = false) ∨ ∃ (i : Nat) (h : i < zs.length), r = i ∧ p zs[i] = true ∧ ∀ j (h : j < i), p zs[j] = false
/-- A function value that is a test of ints and leaves the world alone. -/
def TestOk (F : FuncId) (p : Int → Bool) : Prop :=
  (∀ (args : Array Value) (w : World), (callFunc F args).run Try.prog w = .ok (.enter F args) w) ∧ ∀ (z : Int) (w : World), Calls Try.prog F #[.int .i64 z] w fun e w' => e = .returned (.bool (p z)) ∧ w = w'

set_option maxRecDepth 100000 in
set_option maxHeartbeats 2000000 in
theorem indexI_any (F : FuncId) (p : Int → Bool) (hF : TestOk F p) (a : Option Addr) (cap n : Nat) (zs : List Int) (w : World) (hs : Ints w a n zs) :
    Calls Try.prog 101 #[.slice a n cap, .func (.func F) #[] #[]] w fun e w' => (∃ r, e = .returned (.int .i64 r) ∧ FirstI p zs r) ∧ w = w' := by
  obtain ⟨eg, hf⟩ := hF
  have hm := hs.max
  unfold maxLen at hm
  have HN := Lib.hid hs.len
  have HS := Lib.hid hs
  have HF := Lib.hid hf
  clear hs hf
  go_enter Try.func101, Try.ntmps101
  go_wp2
  go_loopw [8] (fun i wr => ∃ k : Nat, k ≤ n ∧ i = .int .i64 (k : Int) ∧ Hid (∀ j (h : j < zs.length), j < k → p zs[j] = false) ∧ w = wr) (fun i _ => n - (intOf i).toNat)
  case atStart => exact ⟨0, Nat.zero_le _, rfl, Lib.hid (fun j _ h => absurd h (Nat.not_lt_zero _)), rfl⟩
  case round =>
    obtain ⟨k, hk, rfl, HJ, rfl⟩ := hrel
    by_cases hlt : k < n
    · have hkz : k < zs.length := by rw [HN.out]; exact hlt
      obtain ⟨x, rfl, hxb, hxc⟩ := HS.out.at_ (by omega)
      obtain ⟨z, hz⟩ : ∃ z, zs[k] = z := ⟨_, rfl⟩
      have hc := hxc k hkz
      rw [hz] at hc
      have HZ := Lib.hid hz
      clear hz hxc
      go_wp2_with fail
      refine (HF.out z _).mono ?_
      rintro e w2 ⟨rfl, rfl⟩
      cases hp : p z with
      | true =>
        have HP := Lib.hid hp
        clear hp
        go_wp2
        go_ret
        exact ⟨⟨_, rfl, .inr ⟨k, hkz, rfl, by rw [HZ.out]; exact HP.out, fun j hj => HJ.out j (by omega) hj⟩⟩, rfl⟩
      | false =>
        have HP := Lib.hid hp
        clear hp
        go_wp2
        go_roundw
        case rel =>
          refine ⟨k + 1, by omega, by go_num, Lib.hid ?_, by first | trivial | rfl⟩
          intro j hj hjk
          by_cases e : j = k
          · subst e; rw [HZ.out]; exact HP.out
          · exact HJ.out j hj (by omega)
        case measure => simp [intOf]; omega
    · obtain rfl : k = n := by omega
      go_wp2
      go_ret
      exact ⟨⟨_, rfl, .inl ⟨rfl, fun j hj => HJ.out j hj (by rw [← HN.out]; exact hj)⟩⟩, rfl⟩

theorem firstI_any {p : Int → Bool} {zs : List Int} {r : Int} (h : FirstI p zs r) : zs.any p = decide (0 ≤ r) := by
  rcases h with ⟨rfl, h⟩ | ⟨i, hi, rfl, h, _⟩
  · rw [List.any_eq_false.2]
    · rfl
    · intro t ht
      obtain ⟨j, hj, rfl⟩ := List.getElem_of_mem ht
      simpa using h j hj
  · rw [decide_eq_true (by omega : (0 : Int) ≤ i)]
    exact List.any_eq_true.2 ⟨_, List.getElem_mem hi, h⟩
theorem containsI_any (F : FuncId) (p : Int → Bool) (hF : TestOk F p) (a : Option Addr) (cap n : Nat) (zs : List Int) (b : Bool) (w : World) (hs : Ints w a n zs) (hb : zs.any p = b) :
    Calls Try.prog 105 #[.slice a n cap, .func (.func F) #[] #[]] w fun e w' => e = .returned (.bool b) ∧ w = w' := by
  subst hb
  have HS := Lib.hid hs
  clear hs
  go_enter Try.func105, Try.ntmps105
  go_wp2_with fail
  refine (indexI_any F p hF a cap n zs _ HS.out).mono ?_
  rintro e w2 ⟨⟨r, rfl, hr⟩, rfl⟩
  have HR := Lib.hid (firstI_any hr)
  clear hr
  go_wp2
  go_ret
  exact ⟨ret_bool (by rw [HR.out]), rfl⟩

abbrev NZF : FuncId := 102
abbrev BYF : FuncId := 103
theorem nz_ok : TestOk NZF fun z => !decide (z = 0) := ⟨enters_of Try.func102 (by kernel_rfl) rfl, fun z w => isNotZero_any z _ w rfl⟩
theorem beyond_ok : TestOk BYF fun z => !coefIn z := ⟨enters_of Try.func103 (by kernel_rfl) rfl, fun z w => beyond_any z _ w rfl⟩

/-- The first place of what is not 0. -/
theorem firstI_zfrom {zs : List Int} {r : Int} (h : FirstI (fun z => !decide (z = 0)) zs r) : (r = -1 ∧ zfrom zs = zs.length) ∨ (r = (zfrom zs : Nat) ∧ zfrom zs < zs.length) := by
  have hg : ∀ j (hj : j < zs.length), zs.getD j 0 = zs[j] := fun j hj => by rw [List.getD_eq_getElem?_getD, List.getElem?_eq_getElem hj]; rfl
  rcases h with ⟨rfl, h⟩ | ⟨i, hi, rfl, h, h2⟩
  · exact .inl ⟨rfl, zfrom_at (Nat.le_refl _) (fun i hi => by rw [hg i hi]; simpa using h i hi) (fun h => absurd h (Nat.lt_irrefl _))⟩
  · have e : zfrom zs = i := zfrom_at (by omega) (fun j hj => by rw [hg j (by omega)]; simpa using h2 j hj) (fun _ => by rw [hg i hi]; simpa using h)
    rw [e]
    exact .inr ⟨rfl, hi⟩

end Go.Proofs.Ytocklmiappppgaa

/- The program's fits, slices.Clone, apart and told. -/

namespace Go.Proofs.Ytocklmiappppgaa
open Go.RowKit

def fitsB (low : Int) (zs : List Int) : Bool := inR (-300) 300 low && (decide (zs.length ≤ 200) && zs.all coefIn)
theorem all_not (zs : List Int) : (zs.any fun z => !coefIn z) = !(zs.all coefIn) := by
  induction zs with
  | nil => rfl
  | cons z r ih => rw [List.any_cons, List.all_cons, ih, Bool.not_and]

set_option maxRecDepth 100000 in
set_option maxHeartbeats 4000000 in
theorem fits_any (low : Int) (zs : List Int) (a : Option Addr) (cap n : Nat) (b : Bool) (w : World) (hs : Ints w a n zs) (hb : fitsB low zs = b) :
    Calls Try.prog 68 #[plV low (.slice a n cap)] w fun e w' => e = .returned (.bool b) ∧ Below w.heap.size w w' := by
  have hm := hs.max
  unfold maxLen at hm
  have hbW : Below w.heap.size w (w.alloc (.cells #[.int .i64 low, .slice a n cap] 25)) := (Below.refl _ w).alloc (Nat.le_refl _) _
  have HB := Lib.hid hbW
  have HC := Lib.hid (containsI_any BYF _ beyond_ok a cap n zs _ _ (hs.below hbW) rfl)
  have HL := Lib.hid hs.len
  have h2 : ((n : Int) ≤ 200) ↔ (n ≤ 200) := by omega
  unfold fitsB at hb
  rw [HL.out] at hb
  rw [all_not] at HC
  clear hs hbW
  cases hl : inR (-300) 300 low with
  | false =>
    rw [hl, Bool.false_and] at hb
    subst hb
    have HIN := Lib.hid hl
    clear hl
    go_enter Try.func68, Try.ntmps68
    go_wp2_with fail
    refine (within_any low 300 false _ (by omega) (by omega) HIN.out).mono ?_
    rintro e w1 ⟨rfl, rfl⟩
    go_wp2
    go_ret
    exact ⟨rfl, HB.out⟩
  | true =>
    rw [hl, Bool.true_and] at hb
    have HIN := Lib.hid hl
    clear hl
    by_cases h200 : n ≤ 200
    · rw [decide_eq_true h200, Bool.true_and] at hb
      have h200i : (n : Int) ≤ 200 := by omega
      rw [hb] at HC
      go_enter Try.func68, Try.ntmps68
      go_wp2_with fail
      refine (within_any low 300 true _ (by omega) (by omega) HIN.out).mono ?_
      rintro e w1 ⟨rfl, rfl⟩
      go_wp2_with fail
      refine HC.out.mono ?_
      rintro e w1 ⟨rfl, rfl⟩
      go_wp2
      go_ret
      exact ⟨ret_bool (by simp), HB.out⟩
    · rw [decide_eq_false h200, Bool.false_and] at hb
      subst hb
      have h200i : ¬ (n : Int) ≤ 200 := by omega
      have h200d : decide ((n : Int) ≤ 200) = false := decide_eq_false h200i
      go_enter Try.func68, Try.ntmps68
      go_wp2_with fail
      refine (within_any low 300 true _ (by omega) (by omega) HIN.out).mono ?_
      rintro e w1 ⟨rfl, rfl⟩
      go_wp2
      go_ret
      exact ⟨rfl, HB.out⟩

theorem intNil (base : Nat) (w : World) : IntRow base w (.slice none 0 0) [] := ⟨rfl, .inl ⟨rfl, rfl⟩⟩
theorem Ints.newsAny {w : World} {x : Addr} {n : Nat} {zs : List Int} (h : Ints w (some x) n zs) : ∀ j u, (intsV zs)[j]? = some u → w.cell? (x.add j) = some u := fun j u hu => by
  by_cases h0 : 0 < n
  · exact h.news h0 j u hu
  · have hz : zs = [] := List.length_eq_zero_iff.1 (by rw [h.len]; omega)
    subst hz
    simp [intsV] at hu

set_option maxRecDepth 100000 in
set_option maxHeartbeats 4000000 in
theorem cloneI_any (a : Option Addr) (cap n : Nat) (zs : List Int) (w : World) (hs : Ints w a n zs) (hn : n ≤ 1048576) :
    Calls Try.prog 83 #[.slice a n cap] w fun e w' => (∃ v, e = .returned v ∧ IntRow w.heap.size w' v zs) ∧ Below w.heap.size w w' := by
  obtain ⟨i0, hi, hi0, hi1, hi2⟩ := info_parts infoInt
  have qT : ∀ (w : World) (a : Option Addr) (n c n' c' : Nat), (binOp .eql 23 (.slice a n c) (.slice none n' c')).run Try.prog w = .ok (.bool a.isNone) w := fun w a n c n' c' => Lib.run_eql_slice_nil w _ _ a n c n' c' Try.underlying23
  cases a with
  | none =>
    obtain rfl : n = 0 := by
      by_cases h : n = 0
      · exact h
      · obtain ⟨x, e, _⟩ := hs.at_ (by omega)
        cases e
    obtain rfl : zs = [] := List.length_eq_zero_iff.1 hs.len
    clear hs
    go_enter Try.func83, Try.ntmps83
    go_wp2
    go_ret
    exact ⟨⟨_, rfl, intNil _ _⟩, Below.refl _ _⟩
  | some x =>
    have hb1 : Below w.heap.size w (w.alloc (.cells #[] 3)) := (Below.refl _ w).alloc (Nat.le_refl _) _
    have HB := Lib.hid hb1
    have HL : Hid ((intsV zs).length = n * 1) := Lib.hid (by rw [intsV_len, hs.len, Nat.mul_one])
    have HX := Lib.hid (hs.below hb1).newsAny
    have HM := Lib.hid (made_at w w.heap.size rfl w.heap.size (Nat.le_refl _))
    have HN := Lib.hid hs.len
    clear hs hb1
    go_enter Try.func83, Try.ntmps83
    go_wp2_with (at_builtin; go_loud (refine wpList_append_own _ rfl _ _ 23 rfl w.heap.size 3 i0 (.int .i64 0) 1 8 Try.underlying23 hi hi0 hi1 hi2 rfl (by decide) _ 0 _ rfl HM.out x n cap (intsV zs) rfl HL.out HX.out (intsV_one zs) (by unfold maxLen; omega) (by omega) (by simp) ?_; intro v1 w1 hrow hgrow hnil; have HR := Lib.hid hrow; have HG := Lib.hid (HB.out.grown hgrow (by rw [World.size_alloc]; omega) (fun j e => own_ge HM.out j e)); clear hrow hgrow hnil))
    go_ret
    refine ⟨⟨_, rfl, ?_⟩, HG.out⟩
    have hr := HR.out
    rw [Nat.zero_add, List.nil_append] at hr
    exact rowI hr HN.out

end Go.Proofs.Ytocklmiappppgaa

/- The program's apart and told. -/

namespace Go.Proofs.Ytocklmiappppgaa
open Go.RowKit

abbrev ZT : TypeId := 103
abbrev PT : TypeId := 64
/-- What a polynomial is told apart as. -/
def Apart (w : World) (v : Value) (lw : Int) (q : Pl) : Prop :=
  (q.cs.length = 0 ∧ v = .iface ZT (.agg #[])) ∨ (0 < q.cs.length ∧ ∃ a cap, v = .iface PT (plV lw (.slice a q.cs.length cap)) ∧ q.cs.length ≤ cap ∧ Ints w a q.cs.length q.cs)
theorem tidy_zero {low : Int} {zs : List Int} (h : zfrom zs = zs.length) : tidyP low zs = ⟨0, []⟩ := tidy_all low h

set_option maxRecDepth 100000 in
set_option maxHeartbeats 4000000 in
theorem apart_zero (low : Int) (zs : List Int) (a : Option Addr) (cap n : Nat) (w : World) (hs : Ints w a n zs) (hz : zfrom zs = zs.length) :
    Calls Try.prog 67 #[plV low (.slice a n cap)] w fun e w' => e = .returned (.iface ZT (.agg #[])) ∧ Below w.heap.size w w' := by
  have hbW : Below w.heap.size w (w.alloc (.cells #[.int .i64 low, .slice a n cap] 25)) := (Below.refl _ w).alloc (Nat.le_refl _) _
  have HB := Lib.hid hbW
  have HI := Lib.hid (indexI_any NZF _ nz_ok a cap n zs _ (hs.below hbW))
  have HZ := Lib.hid hz
  clear hs hbW hz
  go_enter Try.func67, Try.ntmps67
  go_wp2_with fail
  refine HI.out.mono ?_
  rintro e w1 ⟨⟨r, rfl, hr⟩, rfl⟩
  obtain rfl : r = -1 := by
    rcases firstI_zfrom hr with ⟨h, _⟩ | ⟨_, h⟩
    · exact h
    · rw [HZ.out] at h; omega
  clear hr
  go_wp2
  go_ret
  exact ⟨rfl, HB.out⟩

theorem Ints.part {w : World} {x : Addr} {n f m : Nat} {zs : List Int} (h : Ints w (some x) n zs) (h0 : 0 < n) (hf : f + m ≤ n) : Ints w (some (x.add f)) m ((zs.drop f).take m) := by
  have hl := h.len
  obtain ⟨y, hy, hb, hc⟩ := h.at_ h0
  obtain rfl : x = y := by simpa using hy
  refine ⟨by rw [List.length_take, List.length_drop]; omega, by have := h.max; omega, fun _ => ⟨_, rfl, by rw [addr_add_block]; exact hb, fun j hj => ?_⟩, fun z hz => h.wf z (List.mem_of_mem_drop (List.mem_of_mem_take hz))⟩
  rw [List.length_take, List.length_drop] at hj
  rw [Addr.add_add, hc (f + j) (by omega), List.getElem_take, List.getElem_drop]

set_option maxRecDepth 100000 in
set_option maxHeartbeats 4000000 in
theorem apart_some (low : Int) (zs : List Int) (a : Option Addr) (cap n f : Nat) (w : World) (hs : Ints w a n zs) (hcap : n ≤ cap) (hz : zfrom zs = f) (hf : f < n) :
    Calls Try.prog 67 #[plV low (.slice a n cap)] w fun e w' => (∃ v, e = .returned v ∧ Apart w' v (wrap64 (tidyP low zs).low) (tidyP low zs)) ∧ Below w.heap.size w w' := by
  have hm := hs.max
  unfold maxLen at hm
  obtain ⟨x, rfl, hxb, hxc⟩ := hs.at_ (by omega)
  obtain ⟨W, hW⟩ : ∃ W, w.alloc (.cells #[.int .i64 low, .slice (some x) n cap] 25) = W := ⟨_, rfl⟩
  have hsz : W.heap.size = w.heap.size + 1 := by rw [← hW]; simp
  have hbW : Below w.heap.size w W := by rw [← hW]; exact (Below.refl _ w).alloc (Nat.le_refl _) _
  obtain ⟨c0, c1⟩ := boxCells (w := w) (w1 := W) (x := .int .i64 low) (y := .slice (some x) n cap) rfl (by rw [hW, ← hsz]; exact Below.refl _ _)
  have HX : Hid (∀ k (h : k < n) z, zs.getD k 0 = z → W.cell? (x.add k) = some (.int .i64 z)) := Lib.hid fun k h z e => by
    have hl := hs.len
    rw [← e, List.getD_eq_getElem?_getD, List.getElem?_eq_getElem (by omega)]
    exact (hbW.cell (p := x.add k) (by rw [addr_add_block]; exact hxb)).trans (hxc k (by omega))
  have HB := Lib.hid hbW
  have HI := Lib.hid (indexI_any NZF _ nz_ok (some x) cap n zs _ (hs.below hbW))
  have HS := Lib.hid (hs.below hbW)
  have HZ := Lib.hid hz
  have HL := Lib.hid hs.len
  have HW := Lib.hid hW
  clear hs hbW hz hxc hW hsz
  go_enter Try.func67, Try.ntmps67
  go_wp2_with fail
  rw [HW.out]
  refine HI.out.mono ?_
  rintro e w1 ⟨⟨r, rfl, hr⟩, rfl⟩
  obtain rfl : r = (f : Int) := by
    rcases firstI_zfrom hr with ⟨_, h⟩ | ⟨h, _⟩
    · rw [HZ.out, HL.out] at h; omega
    · rw [HZ.out] at h; exact h
  clear hr
  have hfi : ¬ (f : Int) < 0 := by omega
  have hfd : decide ((f : Int) < 0) = false := decide_eq_false hfi
  obtain ⟨z, hzf⟩ : ∃ z, zs.getD f 0 = z := ⟨_, rfl⟩
  have hzn : ¬ z = 0 := by rw [← hzf, ← HZ.out]; exact zfrom_head zs (by rw [HZ.out, HL.out]; exact hf)
  have HHZ := Lib.hid hzf
  have HZN := Lib.hid hzn
  clear hzf hzn
  go_wp2
  go_loopw [4] (fun i wr => ∃ t : Nat, f < t ∧ t ≤ n ∧ i = .int .i64 (t : Int) ∧ Hid (∀ i, t ≤ i → zs.getD i 0 = 0) ∧ W = wr) (fun i _ => (intOf i).toNat)
  case atStart => exact ⟨n, by omega, Nat.le_refl _, rfl, Lib.hid fun i h => getD_far (by rw [HL.out]; exact h), rfl⟩
  case round =>
    obtain ⟨t, ht1, ht2, rfl, HT, rfl⟩ := hrel
    obtain ⟨m, hm⟩ : ∃ m, t = m + 1 := ⟨t - 1, by omega⟩
    subst hm
    have hwr : IntKind.i64.wrap (((m + 1 : Nat) : Int) - 1) = (m : Int) := by rw [IntWalk.i64_in _ (by omega)]; omega
    obtain ⟨y, hy⟩ : ∃ y, zs.getD m 0 = y := ⟨_, rfl⟩
    have hcy := HX.out m (by omega) y hy
    have hmn : m < n := by omega
    have hmi : (0 : Int) ≤ (m : Int) := by omega
    have hmni : (m : Int) < (n : Int) := by omega
    by_cases hy0 : y = 0
    · subst hy0
      have hmk : f ≠ m := fun e => HZN.out (by rw [← HHZ.out, e, hy])
      have HY := Lib.hid hy
      clear hy
      go_wp2
      go_roundw
      case rel => exact ⟨m, by omega, by omega, by go_num, Lib.hid fun i h => by
        by_cases e : i = m
        · rw [e]; exact HY.out
        · exact HT.out i (by omega), by first | trivial | rfl⟩
      case measure => simp [intOf]
    · have hyb : (y == 0) = false := by simpa using hy0
      have HCUT := Lib.hid (tidy_cut low HZ.out ht1 (by rw [HL.out]; exact ht2) HT.out (by show zs.getD m 0 ≠ 0; rw [hy]; exact hy0))
      have hlen : ((zs.drop f).take (m + 1 - f)).length = m + 1 - f := by rw [List.length_take, List.length_drop, HL.out]; omega
      have HPART := Lib.hid (HS.out.part (f := f) (m := m + 1 - f) (by omega) (by omega))
      have HLEN := Lib.hid hlen
      have hfm : (f : Int) ≤ ((m + 1 : Nat) : Int) := by omega
      have hmc : ((m + 1 : Nat) : Int) ≤ (cap : Int) := by omega
      have hmcn : m + 1 ≤ cap := by omega
      have hf0 : (0 : Int) ≤ (f : Int) := by omega
      clear hy HT hlen
      go_wp2
      go_quiet (fail)
      go_wp2
      go_ret
      refine ⟨⟨_, rfl, ?_⟩, below_drewN HB.out _⟩
      rw [HCUT.out]
      refine .inr ⟨by show 0 < ((zs.drop f).take (m + 1 - f)).length; rw [HLEN.out]; omega, some (x.add f), cap - f, ?_, ?_, ?_⟩
      · rw [HLEN.out]
        rfl
      · show ((zs.drop f).take (m + 1 - f)).length ≤ _
        rw [HLEN.out]; omega
      · show Ints _ _ ((zs.drop f).take (m + 1 - f)).length ((zs.drop f).take (m + 1 - f))
        rw [HLEN.out]
        exact HPART.out.below (below_drewN (Below.refl _ _) _)

theorem apart_any (low : Int) (zs : List Int) (a : Option Addr) (cap n : Nat) (w : World) (hs : Ints w a n zs) (hcap : n ≤ cap) :
    Calls Try.prog 67 #[plV low (.slice a n cap)] w fun e w' => (∃ v, e = .returned v ∧ Apart w' v (wrap64 (tidyP low zs).low) (tidyP low zs)) ∧ Below w.heap.size w w' := by
  have hl := hs.len
  by_cases hz : zfrom zs = zs.length
  · refine (apart_zero low zs a cap n w hs hz).mono ?_
    rintro e w1 ⟨rfl, hb⟩
    exact ⟨⟨_, rfl, .inl ⟨by rw [tidy_zero hz]; rfl, rfl⟩⟩, hb⟩
  · exact apart_some low zs a cap n _ w hs hcap rfl (by have := zfrom_le zs; omega)

theorem apart_in (low : Int) (zs : List Int) (a : Option Addr) (cap n : Nat) (w : World) (hs : Ints w a n zs) (hcap : n ≤ cap) (h1 : -1000000000 ≤ low) (h2 : low ≤ 1000000000) (hn : n ≤ 1048576) :
    Calls Try.prog 67 #[plV low (.slice a n cap)] w fun e w' => (∃ v, e = .returned v ∧ Apart w' v (tidyP low zs).low (tidyP low zs)) ∧ Below w.heap.size w w' := by
  have e : wrap64 (tidyP low zs).low = (tidyP low zs).low := by
    have hz := zfrom_le zs
    rw [hs.len] at hz
    refine IntWalk.wrap64_in _ ?_
    unfold tidyP
    split
    · show -9223372036854775808 ≤ (0 : Int) ∧ (0 : Int) ≤ 9223372036854775807; omega
    · show -9223372036854775808 ≤ low + (zfrom zs : Int) ∧ low + (zfrom zs : Int) ≤ 9223372036854775807; omega
  have h := apart_any low zs a cap n w hs hcap
  rwa [e] at h

end Go.Proofs.Ytocklmiappppgaa

/- The program's told, PolyIn. -/

namespace Go.Proofs.Ytocklmiappppgaa
open Go.RowKit

/-- A polynomial that was laid in a box, and the answer's cells behind it. -/
theorem boxT {w w1 W : World} {t : TypeId} {x y : Value} (hW : (w.alloc (.cells #[x, y] t)).alloc (.cells #[.int .i64 0, .slice none 0 0] 25) = W) (hg : Below W.heap.size W w1) :
    w1.cell? ⟨w.heap.size, 0, none⟩ = some x ∧ w1.cell? ⟨w.heap.size, 1, none⟩ = some y ∧ w1.cell? ⟨w.heap.size + 1, 0, none⟩ = some (.int .i64 0) ∧ w1.cell? ⟨w.heap.size + 1, 1, none⟩ = some (.slice none 0 0) ∧ w1.frozen? ⟨w.heap.size + 1, 0, none⟩ = false ∧ w1.frozen? ⟨w.heap.size + 1, 1, none⟩ = false := by
  have hsz : W.heap.size = w.heap.size + 2 := by rw [← hW]; simp
  have e0 := hg.block w.heap.size (by omega)
  have e1 : W.heap[w.heap.size]? = some (.cells #[x, y] t (0, 0)) := by
    rw [← hW, Below.heap_alloc _ _ _ (by simp)]
    exact World.alloc_heap_new w _
  rw [e1] at e0
  obtain ⟨d0, d1, f0, f1⟩ := resCells (w := w.alloc (.cells #[x, y] t)) (w1 := w1) (r := w.heap.size + 1) (by simp) (by rw [hW, show w.heap.size + 1 + 1 = W.heap.size by omega]; exact hg)
  exact ⟨by simp [World.cell?, e0], by simp [World.cell?, e0], d0, d1, f0, f1⟩
theorem boxTBelow {w W : World} {t : TypeId} {x y : Value} (hW : (w.alloc (.cells #[x, y] t)).alloc (.cells #[.int .i64 0, .slice none 0 0] 25) = W) : Below w.heap.size w W ∧ W.heap.size = w.heap.size + 2 := by
  subst hW
  exact ⟨((Below.refl _ w).alloc (Nat.le_refl _) _).alloc (by simp) _, by simp⟩
theorem oneBox {w w1 W : World} {t : TypeId} {x y : Value} (hW : w.alloc (.cells #[x, y] t) = W) (hg : Below W.heap.size W w1) :
    w1.cell? ⟨w.heap.size, 0, none⟩ = some x ∧ w1.cell? ⟨w.heap.size, 1, none⟩ = some y := by
  have hsz : W.heap.size = w.heap.size + 1 := by rw [← hW]; simp
  have e0 := hg.block w.heap.size (by omega)
  rw [← hW, World.alloc_heap_new] at e0
  exact ⟨by simp [World.cell?, e0], by simp [World.cell?, e0]⟩

set_option maxRecDepth 100000 in
set_option maxHeartbeats 4000000 in
theorem toldZ_any (w : World) :
    Calls Try.prog 161 #[.agg #[]] w fun e w' => (∃ v, e = .returned (.tuple #[plV 0 v, .bool true]) ∧ IntRow w.heap.size w' v []) ∧ Below w.heap.size w w' := by
  go_enter Try.func161, Try.ntmps161
  go_wp2
  refine bodyPost_ret (v := .tuple #[plV 0 (.slice none 0 0), .bool true]) ?_ rfl ⟨⟨_, rfl, intNil _ _⟩, ?_⟩
  · simp [results, Try.results161, go_sem, plV]
  · first
    | exact ((Below.refl _ w).alloc (Nat.le_refl _) _).alloc (by simp) _
    | exact ((((Below.refl _ w).alloc (Nat.le_refl _) _).alloc (by simp) _).setCell (by simp) _).setCell (by simp) _

set_option maxRecDepth 100000 in
set_option maxHeartbeats 4000000 in
theorem toldP_any (low : Int) (zs : List Int) (a : Option Addr) (cap n : Nat) (b : Bool) (w : World) (hs : Ints w a n zs) (hb : fitsB low zs = b) :
    Calls Try.prog 86 #[plV low (.slice a n cap)] w fun e w' => (∃ v, e = .returned (.tuple #[plV (doneP b ⟨low, zs⟩).low v, .bool b]) ∧ IntRow w.heap.size w' v (doneP b ⟨low, zs⟩).cs) ∧ Below w.heap.size w w' := by
  obtain ⟨W, hW⟩ : ∃ W, (w.alloc (.cells #[.int .i64 low, .slice a n cap] PT)).alloc (.cells #[.int .i64 0, .slice none 0 0] 25) = W := ⟨_, rfl⟩
  obtain ⟨hbW, hsz⟩ := boxTBelow hW
  have HC : Hid (∀ w1, Below W.heap.size W w1 → _) := Lib.hid fun w1 (hg : Below W.heap.size W w1) => boxT hW hg
  have HF := Lib.hid (fits_any low zs a cap n b W (hs.below hbW) hb)
  have HS := Lib.hid (hs.below hbW)
  have HB := Lib.hid hb
  have HBW := Lib.hid hbW
  have HW := Lib.hid hW
  clear hW hbW hs hb
  go_enter Try.func86, Try.ntmps86
  go_wp2_with fail
  rw [HW.out]
  refine HF.out.mono ?_
  rintro e w1 ⟨rfl, hb1⟩
  obtain ⟨q0, q1, d0, d1, f0, f1⟩ := HC.out w1 hb1
  have hs1 := hb1.size
  have HB1 := Lib.hid hb1
  clear hb1
  cases b with
  | false =>
    go_wp2
    refine bodyPost_ret (v := .tuple #[plV 0 (.slice none 0 0), .bool false]) ?_ rfl ⟨⟨_, rfl, intNil _ _⟩, resBelow1 (.int .i64 0) (.slice none 0 0) (HBW.out.trans (HB1.out.mono HBW.out.size))⟩
    simp [results, Try.results86, go_sem, d0, d1, plV]
  | true =>
    have hn : n ≤ 1048576 := by
      have h := HB.out
      unfold fitsB at h
      simp only [Bool.and_eq_true, decide_eq_true_eq] at h
      have := HS.out.len
      omega
    have HCL : Hid (∀ w2, Below W.heap.size W w2 → _) := Lib.hid fun w2 (hg : Below W.heap.size W w2) => cloneI_any a cap n zs w2 (HS.out.below hg) hn
    go_wp2
    go_region_held3 (fun w' : World => w'.cell? ⟨w.heap.size, 0, none⟩ = some (.int .i64 low) ∧ w'.cell? ⟨w.heap.size, 1, none⟩ = some (.slice a n cap)) (first | go_keep | exact ⟨k0, k1⟩)
      (first
        | (go_at_call 83
           refine (HCL.out _ HB1.out.drew).mono ?_
           rintro e w2 ⟨⟨v, rfl, hr⟩, hb2⟩
           have HR := Lib.hid hr
           have HB2 := Lib.hid (HB1.out.drew.trans (hb2.mono hs1))
           obtain ⟨k0, k1, d0, d1, f0, f1⟩ := HC.out w2 HB2.out
           obtain ⟨g1, gg, cap1, rfl, _⟩ := hr.shape
           clear hr hb2))
    go_wp2
    have hR : IntRow (w.heap.size + 2) w2 (.slice g1 zs.length cap1) zs := HR.out.mono (by show w.heap.size + 2 ≤ w1.heap.size; omega)
    refine bodyPost_ret (v := .tuple #[plV low (.slice g1 zs.length cap1), .bool true]) ?_ rfl ⟨⟨_, rfl, resRow1 (.int .i64 low) (.slice g1 zs.length cap1) hR (by omega)⟩, resBelow1 (.int .i64 low) (.slice g1 zs.length cap1) (HBW.out.trans (HB2.out.mono HBW.out.size))⟩
    simp [results, Try.results86, go_sem, d0, d1, plV]

end Go.Proofs.Ytocklmiappppgaa

/- The program's PolyIn. -/

namespace Go.Proofs.Ytocklmiappppgaa
open Go.RowKit

theorem tidy_self {p : Pl} (h : Trim p) : tidyP p.low p.cs = p := trim_unique (tidy_trim _ _) h fun k => tidy_pat p.low p.cs k
theorem fits_polyB {p : Pl} (h : Trim p) (h0 : 0 < p.cs.length) : fitsB p.low p.cs = polyB p := by
  rcases h with ⟨h, _⟩ | ⟨_, h1, h2⟩
  · rw [h] at h0; exact absurd h0 (Nat.lt_irrefl _)
  · unfold fitsB polyB
    rw [if_neg (by omega), decide_eq_false h1, decide_eq_false h2]
    cases p.cs.all coefIn <;> cases decide (p.cs.length ≤ 200) <;> cases inR (-300) 300 p.low <;> rfl
theorem polyB_nil : polyB ⟨0, []⟩ = true := rfl
/-- Whether a polynomial is one, by what it is told apart as. -/
theorem polyB_apart (low : Int) (zs : List Int) : polyB ⟨low, zs⟩ = if (tidyP low zs).cs.length = 0 then decide (low = 0) && decide (zs.length = 0) else fitsB low zs && decide ((tidyP low zs).cs.length = zs.length) := by
  by_cases hT : Trim ⟨low, zs⟩
  · have e := tidy_self hT
    have e : tidyP low zs = ⟨low, zs⟩ := e
    rw [e]
    show _ = if zs.length = 0 then _ else _
    by_cases h0 : zs.length = 0
    · rw [if_pos h0]
      obtain rfl : zs = [] := List.length_eq_zero_iff.1 h0
      show (true && (if ([] : List Int).length = 0 then decide (low = 0) else _)) = (decide (low = 0) && true)
      simp
    · rw [if_neg h0, ← fits_polyB hT (by show 0 < zs.length; omega)]
      simp
  · have hP : polyB ⟨low, zs⟩ = false := by
      cases h : polyB ⟨low, zs⟩ with
      | false => rfl
      | true => exact absurd (polyB_trim h).1 hT
    rw [hP]
    split
    · rename_i h
      by_cases h0 : zs.length = 0
      · obtain rfl : zs = [] := List.length_eq_zero_iff.1 h0
        by_cases hl : low = 0
        · exact absurd (.inl ⟨rfl, hl⟩) hT
        · rw [decide_eq_false hl]; rfl
      · rw [decide_eq_false h0, Bool.and_false]
    · rename_i h
      by_cases hl : (tidyP low zs).cs.length = zs.length
      · exfalso
        apply hT
        have hc : (tidyP low zs).cs = ztrim (zs.drop (zfrom zs)) := by
          unfold tidyP at h ⊢
          split
          · rename_i h2; rw [if_pos h2] at h; exact absurd rfl h
          · rfl
        have hz := ztrim_len (zs.drop (zfrom zs))
        rw [← hc, hl, List.length_drop] at hz
        have hzf := zfrom_le zs
        have h0 : zfrom zs = 0 := by
          rw [hl] at h
          omega
        rw [h0, List.drop_zero] at hc
        have he : zs = ztrim zs := eq_getD (by rw [← hc, hl]) fun i _ => (ztrim_get zs i).symm
        have h1 : zs ≠ [] := fun e => h (by rw [hl, e]; rfl)
        refine .inr ⟨h1, ?_, ?_⟩
        · have := zfrom_head zs (by rw [h0]; exact List.length_pos_iff.2 h1)
          rwa [h0] at this
        · rcases ztrim_last zs with h2 | h2
          · rw [← he] at h2; exact absurd h2 h1
          · rw [← he] at h2; exact h2
      · rw [decide_eq_false hl, Bool.and_false]

theorem assert_yes (v : Value) (w : World) : (Instr.typeAssert (.iface PT v) 62 PT true).run Try.prog w = .ok (.tuple #[v, .bool true]) w := by kernel_rfl
theorem assert_no (v : Value) (w : World) : (Instr.typeAssert (.iface ZT v) 62 PT true).run Try.prog w = .ok (.tuple #[plV 0 (.slice none 0 0), .bool false]) w := by kernel_rfl

set_option maxRecDepth 100000 in
set_option maxHeartbeats 4000000 in
theorem iPolyIn_any (low : Int) (zs : List Int) (a : Option Addr) (cap n : Nat) (b : Bool) (w : World) (hs : Ints w a n zs) (hcap : n ≤ cap) (hb : polyB ⟨low, zs⟩ = b) :
    Calls Try.prog 24 #[plV low (.slice a n cap)] w fun e w' => e = .returned (.bool b) ∧ Below w.heap.size w w' := by
  have hm := hs.max
  unfold maxLen at hm
  have hY := assert_yes
  have hN := assert_no
  obtain ⟨W, hW⟩ : ∃ W, w.alloc (.cells #[.int .i64 low, .slice a n cap] 25) = W := ⟨_, rfl⟩
  have hsz : W.heap.size = w.heap.size + 1 := by rw [← hW]; simp
  have hbW : Below w.heap.size w W := by rw [← hW]; exact (Below.refl _ w).alloc (Nat.le_refl _) _
  have HC : Hid (∀ w1, Below W.heap.size W w1 → _) := Lib.hid fun w1 (hg : Below W.heap.size W w1) => oneBox hW hg
  have HA := Lib.hid (apart_any low zs a cap n W (hs.below hbW) hcap)
  have HS := Lib.hid (hs.below hbW)
  have HL := Lib.hid hs.len
  have HBW := Lib.hid hbW
  have HW := Lib.hid hW
  rw [polyB_apart, hs.len] at hb
  clear hW hbW hs
  go_enter Try.func24, Try.ntmps24
  go_wp2_with fail
  rw [HW.out]
  refine HA.out.mono ?_
  rintro e w1 ⟨⟨v, rfl, hA⟩, hb1⟩
  have hs1 := hb1.size
  have HB1 := Lib.hid hb1
  obtain ⟨q0, q1⟩ := HC.out w1 hb1
  clear hb1
  rcases hA with ⟨hq, rfl⟩ | ⟨hq, a1, cap1, rfl, hc1, hi1⟩
  · rw [if_pos hq] at hb
    have hni : ((n : Int) = 0) ↔ n = 0 := by omega
    have HBE := Lib.hid hb
    clear hq hb
    by_cases hl0 : low = 0
    · subst hl0
      go_wp2
      go_ret
      refine ⟨ret_bool ?_, HBW.out.trans (HB1.out.mono HBW.out.size)⟩
      rw [← HBE.out]
      by_cases h0 : n = 0
      · simp [h0]
      · have : ¬ (n : Int) = 0 := by omega
        simp [h0]
    · have hlb : (low == 0) = false := by simpa using hl0
      go_wp2
      go_ret
      refine ⟨ret_bool ?_, HBW.out.trans (HB1.out.mono HBW.out.size)⟩
      rw [← HBE.out, decide_eq_false hl0]
      rfl
  · rw [if_neg (by omega)] at hb
    obtain ⟨m, hm⟩ : ∃ m, (tidyP low zs).cs.length = m := ⟨_, rfl⟩
    rw [hm] at hb hq ⊢
    obtain ⟨V, hV⟩ : ∃ V, w1.alloc (.cells #[.int .i64 (wrap64 (tidyP low zs).low), .slice a1 m cap1] PT) = V := ⟨_, rfl⟩
    have hbV : Below w1.heap.size w1 V := by rw [← hV]; exact (Below.refl _ _).alloc (Nat.le_refl _) _
    have HD : Hid (∀ w2, Below V.heap.size V w2 → _) := Lib.hid fun w2 (hg : Below V.heap.size V w2) => oneBox hV hg
    have HBV := Lib.hid (HB1.out.trans (hbV.mono hs1))
    obtain ⟨c, hc⟩ : ∃ c, fitsB low zs = c := ⟨_, rfl⟩
    rw [hc] at hb
    have HF := Lib.hid (fits_any low zs a cap n c V (HS.out.below HBV.out) hc)
    have HV := Lib.hid hV
    have hp := HC.out V HBV.out
    rw [← hV] at hp
    obtain ⟨p0, p1⟩ := hp
    have HBE := Lib.hid hb
    clear hV hbV hi1 hm hc hb
    go_wp2_with fail
    rw [HV.out]
    refine HF.out.mono ?_
    rintro e w2 ⟨rfl, hb2⟩
    obtain ⟨q0, q1⟩ := HC.out w2 (HBV.out.trans (hb2.mono HBV.out.size))
    obtain ⟨d0, d1⟩ := HD.out w2 hb2
    have HB2 := Lib.hid (HBW.out.trans ((HBV.out.trans (hb2.mono HBV.out.size)).mono HBW.out.size))
    clear hb2
    cases c with
    | false =>
      go_wp2
      go_ret
      exact ⟨ret_bool (by rw [← HBE.out]; rfl), HB2.out⟩
    | true =>
      have hmn : ((m : Int) = (n : Int)) ↔ m = n := by omega
      go_wp2
      go_ret
      refine ⟨ret_bool ?_, HB2.out⟩
      rw [← HBE.out]
      by_cases h : m = n
      · simp [h]
      · have h2 : ¬ (m : Int) = (n : Int) := by omega
        simp [h, h2]

end Go.Proofs.Ytocklmiappppgaa

/- Boxes of polynomials in a law's walk; marks of polynomials that change one block alone. -/

namespace Go.Proofs.Ytocklmiappppgaa
open Go.RowKit

/-- Block j holds a struct of two cells. -/
def BoxAt (w : World) (j : Nat) (x y : Value) : Prop := j < w.heap.size ∧ w.cell? ⟨j, 0, none⟩ = some x ∧ w.cell? ⟨j, 1, none⟩ = some y
theorem BoxAt.below {w w' : World} {j : Nat} {x y : Value} (h : BoxAt w j x y) (hb : Below w.heap.size w w') : BoxAt w' j x y :=
  ⟨Nat.lt_of_lt_of_le h.1 hb.size, (hb.cell (p := ⟨j, 0, none⟩) h.1).trans h.2.1, (hb.cell (p := ⟨j, 1, none⟩) h.1).trans h.2.2⟩
theorem BoxAt.grown {w w' : World} {j : Nat} {x y : Value} {row : Option Nat} (h : BoxAt w j x y) (hg : w.grownBy w' row) (hne : row ≠ some j) : BoxAt w' j x y := by
  have e := hg.block j h.1 (Ne.symm hne)
  refine ⟨Nat.lt_of_lt_of_le h.1 hg.size, ?_, ?_⟩
  · rw [← h.2.1]; simp [World.cell?, e]
  · rw [← h.2.2]; simp [World.cell?, e]
theorem boxNew {w W : World} {t : TypeId} {x y : Value} (hW : w.alloc (.cells #[x, y] t) = W) : BoxAt W w.heap.size x y := by
  subst hW
  have e := World.alloc_heap_new w (.cells #[x, y] t)
  refine ⟨by simp, ?_, ?_⟩
  · unfold World.cell?; rw [show (⟨w.heap.size, 0, none⟩ : Addr).block = w.heap.size from rfl, e]; rfl
  · unfold World.cell?; rw [show (⟨w.heap.size, 1, none⟩ : Addr).block = w.heap.size from rfl, e]; rfl
theorem own_lt {w : World} {base size : Nat} {e : TypeId} {v : Value} {n : Nat} {xs : List Value} (h : w.ownsRow base e size v n xs) : ∀ j, v.ownBlock = some j → j < w.heap.size := fun j e => by
  rcases h.2 with ⟨rfl, _⟩ | ⟨g, cap, cur, rfl, hb, hg, _⟩
  · cases e
  · simp [Value.ownBlock] at e
    subst e
    exact (Array.getElem?_eq_some_iff.1 hg).1
theorem IntRow.grown {base : Nat} {w w' : World} {v : Value} {zs : List Int} {row : Option Nat} (h : IntRow base w v zs) (hg : w.grownBy w' row) (hne : ∀ j, v.ownBlock = some j → row ≠ some j) : IntRow base w' v zs :=
  h.kept hg (by
    rcases h.2 with ⟨rfl, _⟩ | ⟨g, cap, cur, rfl, _⟩
    · exact .inl rfl
    · exact .inr fun e => hne g rfl e.symm)

set_option maxRecDepth 100000 in
set_option maxHeartbeats 2000000 in
theorem markPoly_g (base : Nat) (low : Int) (v : Value) (zs : List Int) (k : Nat) (w : World) (h : IntRow base w v zs) (hk : k ≤ 1000000000000) (hn2 : zs.length ≤ 1000000000000) :
    Calls Try.prog 57 #[plV low v, .int .i64 k] w fun e w' => e = .returned (.int .i64 ((k + zs.length : Nat) : Int)) ∧ IntRow base w' v (marks k zs.length) ∧ w.grownBy w' v.ownBlock := by
  have hbW : Below w.heap.size w (w.alloc (.cells #[.int .i64 low, v] 25)) := (Below.refl _ w).alloc (Nat.le_refl _) _
  have HM := Lib.hid (markIntS_any base v zs k _ (h.below hbW) hk hn2)
  have HG0 := Lib.hid (World.grownBy_alloc w (.cells #[.int .i64 low, v] 25) v.ownBlock)
  clear h hbW
  go_enter Try.func57, Try.ntmps57
  go_wp2_with fail
  refine HM.out.mono ?_
  rintro e w1 ⟨rfl, hr, hg⟩
  have HR := Lib.hid hr
  have HG := Lib.hid (HG0.out.trans hg)
  clear hr hg
  go_wp2
  go_ret
  exact ⟨rfl, HR.out, HG.out⟩

end Go.Proofs.Ytocklmiappppgaa

/- The program's PolyOf. -/

namespace Go.Proofs.Ytocklmiappppgaa
open Go.RowKit

theorem told_zm (w : World) : (Go.method 260 103 (.agg #[]) "loop.example/foxcalculus/impl.told").run Try.prog w = .ok (161, .agg #[]) w := by kernel_rfl
theorem told_zn (w : World) : (Go.nilAhead 260 103 (.agg #[]) "loop.example/foxcalculus/impl.told").run Try.prog w = .ok (some false) w := by kernel_rfl
theorem told_pm (x y : Value) (w : World) : (Go.method 260 64 (.agg #[x, y]) "loop.example/foxcalculus/impl.told").run Try.prog w = .ok (86, .agg #[x, y]) w := by kernel_rfl
theorem told_pn (x y : Value) (w : World) : (Go.nilAhead 260 64 (.agg #[x, y]) "loop.example/foxcalculus/impl.told").run Try.prog w = .ok (some false) w := by kernel_rfl
/-- What the program tells of what was told apart. -/
theorem told_zero {q : Pl} {c : Bool} (hT : Trim q) (h0 : q.cs.length = 0) (hc : polyB q = c) : c = true ∧ q = ⟨0, []⟩ := by
  obtain ⟨l, cs⟩ := q
  obtain rfl : cs = [] := List.length_eq_zero_iff.1 h0
  rcases hT with ⟨_, h⟩ | ⟨h, _⟩
  · obtain rfl : l = 0 := h
    exact ⟨hc.symm, rfl⟩
  · exact absurd rfl h
theorem polyOfB_fits (low : Int) (zs : List Int) : polyOfB low zs = (fitsB low zs && polyB (tidyP low zs)) := by
  unfold polyOfB fitsB
  cases h : zs.all coefIn with
  | true => cases inR (-300) 300 low <;> cases decide (zs.length ≤ 200) <;> rfl
  | false =>
    obtain ⟨z, hz, hc⟩ := List.all_eq_false.1 h
    obtain ⟨i, hi, rfl⟩ := List.mem_iff_getElem.1 hz
    have hb : polyB (tidyP low zs) = false := tidy_bad (i := i) (by rw [List.getD_eq_getElem?_getD, List.getElem?_eq_getElem hi]; simpa using hc)
    rw [hb]
    cases inR (-300) 300 low <;> cases decide (zs.length ≤ 200) <;> rfl
/-- The answer's cells, laid first, and a polynomial in a box behind them. -/
theorem resBox {w w1 W : World} {t : TypeId} {x y : Value} (hW : (w.alloc (.cells #[.int .i64 0, .slice none 0 0] 25)).alloc (.cells #[x, y] t) = W) (hg : Below W.heap.size W w1) :
    w1.cell? ⟨w.heap.size + 1, 0, none⟩ = some x ∧ w1.cell? ⟨w.heap.size + 1, 1, none⟩ = some y ∧ w1.cell? ⟨w.heap.size, 0, none⟩ = some (.int .i64 0) ∧ w1.cell? ⟨w.heap.size, 1, none⟩ = some (.slice none 0 0) ∧ w1.frozen? ⟨w.heap.size, 0, none⟩ = false ∧ w1.frozen? ⟨w.heap.size, 1, none⟩ = false := by
  have hsz : W.heap.size = w.heap.size + 2 := by rw [← hW]; simp
  obtain ⟨c0, c1⟩ := oneBox hW hg
  obtain ⟨d0, d1, f0, f1⟩ := resCells (w := w) (w1 := w1) (r := w.heap.size) rfl (by
    have h : Below (w.heap.size + 1) (w.alloc (.cells #[.int .i64 0, .slice none 0 0] 25)) W := by rw [← hW]; exact (Below.refl _ _).alloc (by simp) _
    exact h.trans (hg.mono (by omega)))
  rw [World.size_alloc] at c0 c1
  exact ⟨c0, c1, d0, d1, f0, f1⟩
theorem resBoxBelow {w W : World} {t : TypeId} {x y : Value} (hW : (w.alloc (.cells #[.int .i64 0, .slice none 0 0] 25)).alloc (.cells #[x, y] t) = W) : Below w.heap.size w W ∧ W.heap.size = w.heap.size + 2 := by
  subst hW
  exact ⟨((Below.refl _ w).alloc (Nat.le_refl _) _).alloc (by simp) _, by simp⟩

set_option maxRecDepth 100000 in
set_option maxHeartbeats 4000000 in
theorem iPolyOf_any (low : Int) (zs : List Int) (a : Option Addr) (cap n : Nat) (b : Bool) (w : World) (hs : Ints w a n zs) (hcap : n ≤ cap) (hb : polyOfB low zs = b) :
    Calls Try.prog 26 #[.int .i64 low, .slice a n cap] w fun e w' => (∃ v, e = .returned (.tuple #[plV (polyOfP low zs).low v, .bool b]) ∧ IntRow w.heap.size w' v (polyOfP low zs).cs) ∧ Below w.heap.size w w' := by
  have hP : polyOfP low zs = doneP b (tidyP low zs) := by unfold polyOfP; rw [hb]
  rw [hP]
  have hzm := told_zm
  have hzn := told_zn
  have hpm := told_pm
  have hpn := told_pn
  obtain ⟨W, hW⟩ : ∃ W, (w.alloc (.cells #[.int .i64 0, .slice none 0 0] 25)).alloc (.cells #[.int .i64 low, .slice a n cap] 25) = W := ⟨_, rfl⟩
  obtain ⟨hbW, hsz⟩ := resBoxBelow hW
  have HC : Hid (∀ w1, Below W.heap.size W w1 → _) := Lib.hid fun w1 (hg : Below W.heap.size W w1) => resBox hW hg
  obtain ⟨c, hc⟩ : ∃ c, fitsB low zs = c := ⟨_, rfl⟩
  rw [polyOfB_fits, hc] at hb
  have HF := Lib.hid (fits_any low zs a cap n c W (hs.below hbW) hc)
  have HS := Lib.hid (hs.below hbW)
  have HBW := Lib.hid hbW
  have hC := resBox hW (Below.refl _ _)
  rw [← hW] at hC
  obtain ⟨r0, r1, _, _, _, _⟩ := hC
  have HW := Lib.hid hW
  have HB := Lib.hid hb
  have HFC := Lib.hid hc
  clear hW hbW hs hc hb hP
  go_enter Try.func26, Try.ntmps26
  go_wp2_with fail
  rw [HW.out]
  refine HF.out.mono ?_
  rintro e w1 ⟨rfl, hb1⟩
  obtain ⟨q0, q1, d0, d1, f0, f1⟩ := HC.out w1 hb1
  have hs1 := hb1.size
  have HB1 := Lib.hid hb1
  clear hb1
  cases c with
  | false =>
    obtain rfl : b = false := by rw [← HB.out]; rfl
    go_wp2
    refine bodyPost_ret (v := .tuple #[plV 0 (.slice none 0 0), .bool false]) ?_ rfl ⟨⟨_, rfl, intNil _ _⟩, resBelow (.int .i64 0) (.slice none 0 0) (HBW.out.trans (HB1.out.mono HBW.out.size))⟩
    simp [results, Try.results26, go_sem, d0, d1, plV]
  | true =>
    have hn : n ≤ 1048576 ∧ -1000000000 ≤ low ∧ low ≤ 1000000000 := by
      have h := HFC.out
      unfold fitsB inR at h
      simp only [Bool.and_eq_true, decide_eq_true_eq] at h
      have := HS.out.len
      omega
    obtain ⟨hn, hl1, hl2⟩ := hn
    have HA := Lib.hid (apart_in low zs a cap n w1 (HS.out.below HB1.out) hcap hl1 hl2 hn)
    have HBE : Hid (polyB (tidyP low zs) = b) := Lib.hid (by have := HB.out; rwa [Bool.true_and] at this)
    go_wp2_with fail
    refine HA.out.mono ?_
    rintro e w2 ⟨⟨v, rfl, hA⟩, hb2⟩
    have hs2 := hb2.size
    have HB2 := Lib.hid (HB1.out.trans (hb2.mono hs1))
    clear hb2
    rcases hA with ⟨hq, rfl⟩ | ⟨hq, a1, cap1, rfl, hc1, hi1⟩
    · obtain ⟨rfl, hq0⟩ := told_zero (tidy_trim low zs) hq HBE.out
      have HQ0 := Lib.hid hq0
      clear hq hq0
      go_wp2_with fail
      refine (toldZ_any _).mono ?_
      rintro e w3 ⟨⟨v, rfl, hr⟩, hb3⟩
      obtain ⟨_, _, d0, d1, f0, f1⟩ := HC.out w3 (HB2.out.trans (hb3.mono (by omega)))
      have HR := Lib.hid hr
      have HB3 := Lib.hid (HBW.out.trans ((HB2.out.trans (hb3.mono (by omega))).mono HBW.out.size))
      obtain ⟨g2, gg, cap2, rfl, _⟩ := hr.shape
      clear hr hb3
      go_wp2
      refine bodyPost_ret (v := .tuple #[plV 0 (.slice g2 0 cap2), .bool true]) ?_ rfl ⟨⟨.slice g2 0 cap2, by rw [HQ0.out]; rfl, by rw [HQ0.out]; exact resRow (.int .i64 0) (.slice g2 0 cap2) HR.out (by omega)⟩, resBelow (.int .i64 0) (.slice g2 0 cap2) HB3.out⟩
      simp [results, Try.results26, go_sem, d0, d1, plV]
    · have HT := Lib.hid (toldP_any (tidyP low zs).low (tidyP low zs).cs a1 cap1 _ b w2 hi1 (by rw [fits_polyB (tidy_trim low zs) hq]; exact HBE.out))
      clear hi1
      go_wp2_with fail
      refine HT.out.mono ?_
      rintro e w3 ⟨⟨v, rfl, hr⟩, hb3⟩
      obtain ⟨_, _, d0, d1, f0, f1⟩ := HC.out w3 (HB2.out.trans (hb3.mono (by omega)))
      have HR := Lib.hid hr
      have HB3 := Lib.hid (HBW.out.trans ((HB2.out.trans (hb3.mono (by omega))).mono HBW.out.size))
      obtain ⟨g2, gg, cap2, rfl, _⟩ := hr.shape
      clear hr hb3
      go_wp2
      refine bodyPost_ret (v := .tuple #[plV (doneP b (tidyP low zs)).low (.slice g2 (doneP b (tidyP low zs)).cs.length cap2), .bool b]) ?_ rfl ⟨⟨_, rfl, resRow (.int .i64 (doneP b (tidyP low zs)).low) (.slice g2 (doneP b (tidyP low zs)).cs.length cap2) HR.out (by omega)⟩, resBelow (.int .i64 (doneP b (tidyP low zs)).low) (.slice g2 (doneP b (tidyP low zs)).cs.length cap2) HB3.out⟩
      simp [results, Try.results26, go_sem, d0, d1, plV]

end Go.Proofs.Ytocklmiappppgaa

/- How PolyOf and the model's answer, for the law; the program's PolyTurned. -/

namespace Go.Proofs.Ytocklmiappppgaa
open Go.RowKit

theorem toIntS_t (a : Option Addr) (cap n : Nat) (zs : List Int) (w : World) (hm : n ≤ 1048576) (hs : Ints w a n zs) :
    Calls Try.prog 54 #[.slice a n cap] w fun e w' => (∃ g, e = .returned (.slice (some ⟨g, 0, none⟩) n n) ∧ w.heap.size ≤ g ∧ IntRow w.heap.size w' (.slice (some ⟨g, 0, none⟩) n n) zs ∧ Ints w' (some ⟨g, 0, none⟩) n zs) ∧ Below w.heap.size w w' := by
  refine (toIntS_any a cap n zs w hm hs).mono ?_
  rintro e w1 ⟨rfl, hr, hb⟩
  obtain ⟨a1, cap1, hv, hi⟩ := hr.read hs.wf
  have hl := hs.len
  subst hl
  simp at hv
  obtain ⟨rfl, _⟩ := hv
  exact ⟨⟨_, rfl, Nat.le_refl _, hr, hi⟩, hb⟩

theorem polyB_len {p : Pl} (h : polyB p = true) : p.cs.length ≤ 200 := (polyB_trim h).2.1
theorem doneP_len {b : Bool} {p q : Pl} (hb : b = true → polyB p = true) (hq : doneP b p = q) : q.cs.length ≤ 200 := by
  subst hq
  cases b with
  | true => exact polyB_len (hb rfl)
  | false => exact Nat.zero_le _
theorem polyOf_fit {w : World} {low : Int} {zs : List Int} {a : Option Addr} {n : Nat} {b : Bool} {p : Pl} (_ : Ints w a n zs) (_ : polyOfB low zs = b) (hp : polyOfP low zs = p) : p.cs.length ≤ 200 := by
  unfold polyOfP at hp
  refine doneP_len (fun h => ?_) hp
  unfold polyOfB at h
  simp only [Bool.and_eq_true] at h
  exact h.2.2
theorem sPolyOf_law {low : Int} {zs : List Int} {a : Option Addr} {n : Nat} {b : Bool} {pl : Int} {pc : List Int} {w : World} (hs : Ints w a n zs) (hb : polyOfB low zs = b) (hp : polyOfP low zs = ⟨pl, pc⟩) :
    Calls Try.prog 30 #[.int .i64 low, .slice a n n] w fun e w' => (∃ v, e = .returned (.tuple #[plV pl v, .bool b]) ∧ IntRow w.heap.size w' v pc) ∧ Below w.heap.size w w' := by
  have h := sPolyOf_any low zs a n n b w hs (Nat.le_refl _) hb
  rwa [hp] at h
theorem iPolyOf_law {low : Int} {zs : List Int} {a : Option Addr} {n : Nat} {b : Bool} {pl : Int} {pc : List Int} {w : World} (hs : Ints w a n zs) (hb : polyOfB low zs = b) (hp : polyOfP low zs = ⟨pl, pc⟩) :
    Calls Try.prog 26 #[.int .i64 low, .slice a n n] w fun e w' => (∃ v, e = .returned (.tuple #[plV pl v, .bool b]) ∧ IntRow w.heap.size w' v pc) ∧ Below w.heap.size w w' := by
  have h := iPolyOf_any low zs a n n b w hs (Nat.le_refl _) hb
  rwa [hp] at h

end Go.Proofs.Ytocklmiappppgaa

/- slices.Reverse at ints; the program's end and PolyTurned. -/

namespace Go.Proofs.Ytocklmiappppgaa
open Go.RowKit Go.Shelf

theorem rowPast {w w' : World} {base : Nat} {e : TypeId} {size : Nat} {v : Value} {n : Nat} {xs : List Value} (h : w.ownsRow base e size v n xs) (hb : Below w.heap.size w w') : w'.ownsRow base e size v n xs :=
  h.kept ⟨hb.os, hb.tape, hb.output, hb.size, fun j hj _ => hb.block j hj⟩ (row := none) (by
    rcases h.2 with ⟨rfl, _⟩ | ⟨g, cap, cur, rfl, _⟩
    · exact .inl rfl
    · exact .inr (by simp [Value.ownBlock]))
theorem grownTrans {a b c : World} {row : Option Nat} (h : a.grownBy b row) (k : b.grownBy c row) : a.grownBy c row :=
  ⟨k.os.trans h.os, k.tape.trans h.tape, k.output.trans h.output, Nat.le_trans h.size k.size, fun i hi hne => (k.block i (Nat.lt_of_lt_of_le hi h.size) hne).trans (h.block i hi hne)⟩
theorem grownRefl (a : World) (row : Option Nat) : a.grownBy a row := ⟨rfl, rfl, rfl, Nat.le_refl _, fun _ _ _ => rfl⟩
theorem grownBelow {a b : World} (row : Option Nat) (h : Below a.heap.size a b) : a.grownBy b row := ⟨h.os, h.tape, h.output, h.size, fun i hi _ => h.block i hi⟩

/-- The list with its first i and last i texts exchanged. -/
def SwappedI (zs ys : List Int) (i : Nat) : Prop := ys.length = zs.length ∧ ∀ p, p < zs.length → ys[p]? = if p < i ∨ zs.length - 1 - p < i then zs[zs.length - 1 - p]? else zs[p]?
theorem SwappedI.all {zs ys : List Int} {i : Nat} (h : SwappedI zs ys i) (hi : zs.length ≤ 2 * i + 1) : ys = zs.reverse := by
  refine List.ext_getElem? fun p => ?_
  by_cases hp : p < zs.length
  · rw [h.2 p hp, List.getElem?_reverse hp]
    by_cases hc : p < i ∨ zs.length - 1 - p < i
    · rw [if_pos hc]
    · rw [if_neg hc, show zs.length - 1 - p = p by omega]
  · rw [List.getElem?_eq_none (by rw [h.1]; omega), List.getElem?_eq_none (by rw [List.length_reverse]; omega)]
theorem SwappedI.step {zs ys : List Int} {i j : Nat} (h : SwappedI zs ys i) (hj : j + i + 1 = zs.length) (hij : i < j) {a b : Int} (ha : ys[i]? = some a) (hb : ys[j]? = some b) : SwappedI zs ((ys.set i b).set j a) (i + 1) := by
  have h1 := h.2 i (by omega)
  have h2 := h.2 j (by omega)
  rw [if_neg (by omega)] at h1 h2
  rw [ha] at h1
  rw [hb] at h2
  refine ⟨by rw [List.length_set, List.length_set]; exact h.1, fun p hp => ?_⟩
  by_cases ej : p = j
  · subst ej
    rw [List.getElem?_set_self (by rw [List.length_set, h.1]; exact hp), if_pos (by omega), show zs.length - 1 - p = i by omega]
    exact h1
  · rw [List.getElem?_set_ne (Ne.symm ej)]
    by_cases ei : p = i
    · subst ei
      rw [List.getElem?_set_self (by rw [h.1]; exact hp), if_pos (by omega), show zs.length - 1 - p = j by omega]
      exact h2
    · rw [List.getElem?_set_ne (Ne.symm ei), h.2 p hp]
      by_cases hc : p < i ∨ zs.length - 1 - p < i
      · rw [if_pos hc, if_pos (by omega)]
      · rw [if_neg hc, if_neg (by omega)]

set_option maxRecDepth 100000 in
set_option maxHeartbeats 4000000 in
theorem reverseI_any (base : Nat) (v : Value) (zs : List Int) (w : World) (h : IntRow base w v zs) (hn : zs.length ≤ 1048576) :
    Calls Try.prog 84 #[v] w fun e w' => e = .returned (.tuple #[]) ∧ IntRow base w' v zs.reverse ∧ w.grownBy w' v.ownBlock := by
  obtain ⟨a, cap, rfl⟩ : ∃ a cap, v = .slice a zs.length cap := by
    rcases h.2 with ⟨rfl, h0⟩ | ⟨g, cap, cur, rfl, _⟩
    · exact ⟨none, 0, by rw [h0]⟩
    · exact ⟨_, _, rfl⟩
  obtain ⟨n, hl⟩ : ∃ n, zs.length = n := ⟨_, rfl⟩
  unfold IntRow at h ⊢
  rw [List.length_reverse]
  rw [hl] at h hn ⊢
  have HH := Lib.hid h
  have HL := Lib.hid hl
  have hmx : Try.prog.follows .mixedOrders = true := by kernel_rfl
  have hwr0 : IntKind.i64.wrap ((n : Int) - 1) = (n : Int) - 1 := IntWalk.i64_in _ (by omega)
  clear h hl
  go_enter Try.func84, Try.ntmps84
  go_wp2
  go_loopw [2, 3] (fun s2 s3 wr => ∃ (i : Nat) (jz : Int) (ys : List Int), s2 = .int .i64 (i : Int) ∧ s3 = .int .i64 jz ∧ jz = (n : Int) - 1 - i ∧ i ≤ n ∧ Hid (SwappedI zs ys i) ∧ Hid (wr.ownsRow base 3 1 (.slice a n cap) n (intsV ys)) ∧ Hid (w.grownBy wr (Value.slice a n cap).ownBlock)) (fun i _ _ => n - (intOf i).toNat)
  case atStart => exact ⟨0, (n : Int) - 1, zs, rfl, rfl, by omega, by omega, Lib.hid ⟨rfl, fun p hp => by rw [if_neg (by omega)]⟩, HH, Lib.hid (grownRefl _ _)⟩
  case round =>
    obtain ⟨i, jz, ys, rfl, rfl, hjz, hi, HSw, HR, HG⟩ := hrel
    by_cases hlt : (i : Int) < jz
    · obtain ⟨j, rfl⟩ : ∃ j : Nat, jz = j := ⟨jz.toNat, by omega⟩
      obtain ⟨g, rfl, hg⟩ : ∃ g, a = some ⟨g, 0, none⟩ ∧ base ≤ g := by
        rcases HR.out.2 with ⟨_, e1⟩ | ⟨g, cap1, cur, e0, hg, _⟩
        · omega
        · simp only [Value.slice.injEq] at e0; exact ⟨g, e0.1, hg⟩
      have hln := HL.out
      have hyl : ys.length = n := HSw.out.1.trans hln
      have hiy : i < ys.length := by omega
      have hjy : j < ys.length := by omega
      obtain ⟨x, hx⟩ : ∃ x, ys[i] = x := ⟨_, rfl⟩
      obtain ⟨y, hy⟩ : ∃ y, ys[j] = y := ⟨_, rfl⟩
      have ci : wr.cell? ⟨g, i, none⟩ = some (.int .i64 x) := by rw [HR.out.cellAt _ (by omega)]; simp [intsV, hiy, hx]
      have cj : wr.cell? ⟨g, j, none⟩ = some (.int .i64 y) := by rw [HR.out.cellAt _ (by omega)]; simp [intsV, hjy, hy]
      have fi := HR.out.frozenAt i
      have fj := HR.out.frozenAt j
      have HX : Hid (ys[i]? = some x) := Lib.hid (by rw [List.getElem?_eq_getElem hiy, hx])
      have HY : Hid (ys[j]? = some y) := Lib.hid (by rw [List.getElem?_eq_getElem hjy, hy])
      have hin : i < n := by omega
      have hjn : j < n := by omega
      have HJ : Hid (j + i + 1 = n) := Lib.hid (by omega)
      clear hx hy hjz hln hyl hiy hjy
      go_wp2_with fail
      go_region_o
      go_wp2
      go_roundw
      case measure => simp [intOf]; omega
      case rel =>
        have h1 := HR.out.stored i (.int .i64 y)
        have h2 := h1.1.stored j (.int .i64 x)
        refine ⟨i + 1, (j : Int) - 1, (ys.set i y).set j x, by go_num, by go_num, by have := HJ.out; omega, by omega, Lib.hid (HSw.out.step (by rw [HL.out]; exact HJ.out) (by omega) HX.out HY.out), Lib.hid ?_, Lib.hid ?_⟩
        · have e : intsV ((ys.set i y).set j x) = ((intsV ys).set i (.int .i64 y)).set j (.int .i64 x) := by unfold intsV; rw [List.map_set, List.map_set]
          rw [e]
          exact rowPast h2.1 (below_drewN (Below.refl _ _) 1)
        · exact grownTrans (grownTrans (grownTrans HG.out h1.2) h2.2) (grownBelow _ (below_drewN (Below.refl _ _) 1))
    · go_wp2
      go_end0
      refine ⟨rfl, ?_, HG.out⟩
      rw [← HSw.out.all (by rw [HL.out]; omega)]
      exact HR.out

theorem end_any (low : Int) (a : Option Addr) (cap n : Nat) (w : World) (h1 : -1000000000 ≤ low) (h2 : low ≤ 1000000000) (hn : n ≤ 1048576) :
    Calls Try.prog 78 #[plV low (.slice a n cap)] w fun e w' => e = .returned (.int .i64 (low + (n : Int))) ∧ Below w.heap.size w w' := by
  have hwr : IntKind.i64.wrap (low + (n : Int)) = low + (n : Int) := IntWalk.i64_in _ (by omega)
  go_enter Try.func78, Try.ntmps78
  go_wp2
  go_ret
  exact ⟨rfl, (Below.refl _ w).alloc (Nat.le_refl _) _⟩

def turnedPB (p : Pl) : Bool := polyB p && polyB (turnP p)
def turnedP (p : Pl) : Pl := doneP (turnedPB p) (turnP p)

set_option maxRecDepth 100000 in
set_option maxHeartbeats 4000000 in
theorem iPolyTurned_any (low : Int) (zs : List Int) (a : Option Addr) (cap n : Nat) (b t : Bool) (w : World) (hs : Ints w a n zs) (hcap : n ≤ cap) (hb : polyB ⟨low, zs⟩ = b) (ht : (b && polyB (turnP ⟨low, zs⟩)) = t) :
    Calls Try.prog 39 #[plV low (.slice a n cap)] w fun e w' => (∃ v, e = .returned (.tuple #[plV (doneP t (turnP ⟨low, zs⟩)).low v, .bool t]) ∧ IntRow w.heap.size w' v (doneP t (turnP ⟨low, zs⟩)).cs) ∧ Below w.heap.size w w' := by
  have hzm := told_zm
  have hzn := told_zn
  have hpm := told_pm
  have hpn := told_pn
  obtain ⟨W, hW⟩ : ∃ W, (w.alloc (.cells #[.int .i64 low, .slice a n cap] 25)).alloc (.cells #[.int .i64 0, .slice none 0 0] 25) = W := ⟨_, rfl⟩
  obtain ⟨hbW, hsz⟩ := boxTBelow hW
  have HC : Hid (∀ w1, Below W.heap.size W w1 → _) := Lib.hid fun w1 (hg : Below W.heap.size W w1) => boxT hW hg
  have HP := Lib.hid (iPolyIn_any low zs a cap n b W (hs.below hbW) hcap hb)
  have HS := Lib.hid (hs.below hbW)
  have HL := Lib.hid hs.len
  have HB := Lib.hid hb
  have HBW := Lib.hid hbW
  have HW := Lib.hid hW
  clear hW hbW hs hb
  go_enter Try.func39, Try.ntmps39
  go_wp2_with fail
  rw [HW.out]
  refine HP.out.mono ?_
  rintro e w1 ⟨rfl, hb1⟩
  obtain ⟨q0, q1, d0, d1, f0, f1⟩ := HC.out w1 hb1
  have hs1 := hb1.size
  have HB1 := Lib.hid hb1
  clear hb1
  cases b with
  | false =>
    have ht : t = false := by rw [← ht]; rfl
    subst ht
    go_wp2
    refine bodyPost_ret (v := .tuple #[plV 0 (.slice none 0 0), .bool false]) ?_ rfl ⟨⟨_, rfl, intNil _ _⟩, resBelow1 (.int .i64 0) (.slice none 0 0) (HBW.out.trans (HB1.out.mono HBW.out.size))⟩
    simp [results, Try.results39, go_sem, d0, d1, plV]
  | true =>
    obtain ⟨_, h200, hlo, hhi, hcs⟩ := polyB_trim HB.out
    have hn2 : n ≤ 200 := by rw [← HL.out]; exact h200
    have hlo1 : -300 ≤ low := hlo
    have hhi1 : low ≤ 300 := hhi
    have HT := Lib.hid ht
    have HCL := Lib.hid (cloneI_any a cap n zs w1 (HS.out.below HB1.out) (by omega))
    clear hcs h200 hlo hhi ht
    go_wp2_with fail
    refine HCL.out.mono ?_
    rintro e w2 ⟨⟨v, rfl, hr⟩, hb2⟩
    have hs2 := hb2.size
    have HB2 := Lib.hid (HB1.out.trans (hb2.mono hs1))
    have HOG := Lib.hid (own_ge hr)
    have HRV := Lib.hid (reverseI_any w1.heap.size v zs w2 hr (by rw [HL.out]; omega))
    clear hr hb2
    go_wp2_with fail
    refine HRV.out.mono ?_
    rintro e w3 ⟨rfl, hr, hg3⟩
    have hs3 := hg3.size
    have hb3 := HB2.out.grown hg3 (by omega) (fun j e => by have := HOG.out j e; omega)
    have HB3 := Lib.hid hb3
    obtain ⟨a2, cap2, rfl, hc2, hi2⟩ := IntRow.readc hr (fun z hz => HS.out.wf z (List.mem_reverse.1 hz))
    obtain ⟨q0, q1, d0, d1, f0, f1⟩ := HC.out w3 hb3
    rw [List.length_reverse, HL.out] at hi2 hc2
    have HI2 := Lib.hid hi2
    have HC2 := Lib.hid hc2
    clear hr hg3 hb3 hi2 hc2 HRV HCL
    rw [List.length_reverse, HL.out]
    have hw1 : IntKind.i64.wrap (1 - (low + (n : Int))) = 1 - (low + (n : Int)) := IntWalk.i64_in _ (by omega)
    go_wp2_with fail
    refine (end_any low a cap n _ (by omega) (by omega) (by omega)).mono ?_
    rintro e w4 ⟨rfl, hb4⟩
    have hs4 := hb4.size
    have HB4 := Lib.hid (HB3.out.trans (hb4.mono (by omega)))
    have HA := Lib.hid (apart_in (1 - (low + (n : Int))) zs.reverse a2 cap2 n w4 (HI2.out.below hb4) HC2.out (by omega) (by omega) (by omega))
    clear hb4
    go_wp2_with fail
    refine HA.out.mono ?_
    rintro e w5 ⟨⟨v, rfl, hA⟩, hb5⟩
    have hs5 := hb5.size
    have HB5 := Lib.hid (HB4.out.trans (hb5.mono (by omega)))
    have HQ : Hid (turnP ⟨low, zs⟩ = tidyP (1 - (low + (n : Int))) zs.reverse) := Lib.hid (by unfold turnP; show tidyP (1 - low - (zs.length : Int)) zs.reverse = _; rw [HL.out]; congr 1; omega)
    clear hb5
    have HBE : Hid (polyB (tidyP (1 - (low + (n : Int))) zs.reverse) = t) := Lib.hid (by have := HT.out; rwa [Bool.true_and, HQ.out] at this)
    rcases hA with ⟨hq, rfl⟩ | ⟨hq, a3, cap3, rfl, hc3, hi3⟩
    · obtain ⟨rfl, hq0⟩ := told_zero (tidy_trim _ _) hq HBE.out
      have HQ0 := Lib.hid (HQ.out.trans hq0)
      clear hq hq0
      go_wp2_with fail
      refine (toldZ_any _).mono ?_
      rintro e w6 ⟨⟨v, rfl, hr⟩, hb6⟩
      obtain ⟨_, _, d0, d1, f0, f1⟩ := HC.out w6 (HB5.out.trans (hb6.mono (by omega)))
      have HR := Lib.hid hr
      have HB6 := Lib.hid (HBW.out.trans ((HB5.out.trans (hb6.mono (by omega))).mono HBW.out.size))
      obtain ⟨g4, gg, cap4, rfl, _⟩ := hr.shape
      clear hr hb6
      go_wp2
      refine bodyPost_ret (v := .tuple #[plV 0 (.slice g4 0 cap4), .bool true]) ?_ rfl ⟨⟨.slice g4 0 cap4, by rw [HQ0.out]; rfl, by rw [HQ0.out]; exact resRow1 (.int .i64 0) (.slice g4 0 cap4) HR.out (by omega)⟩, resBelow1 (.int .i64 0) (.slice g4 0 cap4) HB6.out⟩
      simp [results, Try.results39, go_sem, d0, d1, plV]
    · have HTO := Lib.hid (toldP_any _ _ a3 cap3 _ t w5 hi3 (by rw [fits_polyB (tidy_trim _ _) hq]; exact HBE.out))
      clear hi3
      go_wp2_with fail
      refine HTO.out.mono ?_
      rintro e w6 ⟨⟨v, rfl, hr⟩, hb6⟩
      rw [← show turnP ⟨low, zs⟩ = ⟨(tidyP (1 - (low + (n : Int))) zs.reverse).low, (tidyP (1 - (low + (n : Int))) zs.reverse).cs⟩ from HQ.out] at hr ⊢
      obtain ⟨_, _, d0, d1, f0, f1⟩ := HC.out w6 (HB5.out.trans (hb6.mono (by omega)))
      have HR := Lib.hid hr
      have HB6 := Lib.hid (HBW.out.trans ((HB5.out.trans (hb6.mono (by omega))).mono HBW.out.size))
      obtain ⟨g4, gg, cap4, rfl, _⟩ := hr.shape
      clear hr hb6
      go_wp2
      refine bodyPost_ret (v := .tuple #[plV (doneP t (turnP ⟨low, zs⟩)).low (.slice g4 (doneP t (turnP ⟨low, zs⟩)).cs.length cap4), .bool t]) ?_ rfl ⟨⟨_, rfl, resRow1 (.int .i64 (doneP t (turnP ⟨low, zs⟩)).low) (.slice g4 (doneP t (turnP ⟨low, zs⟩)).cs.length cap4) HR.out (by omega)⟩, resBelow1 (.int .i64 (doneP t (turnP ⟨low, zs⟩)).low) (.slice g4 (doneP t (turnP ⟨low, zs⟩)).cs.length cap4) HB6.out⟩
      simp [results, Try.results39, go_sem, d0, d1, plV]

theorem turned_fit {w : World} {low : Int} {zs : List Int} {a : Option Addr} {n : Nat} {b : Bool} {p : Pl} (_ : Ints w a n zs) (_ : turnedPB ⟨low, zs⟩ = b) (hp : turnedP ⟨low, zs⟩ = p) : p.cs.length ≤ 200 := by
  unfold turnedP at hp
  refine doneP_len (fun h => ?_) hp
  unfold turnedPB at h
  simp only [Bool.and_eq_true] at h
  exact h.2
theorem sPolyTurned_law {low : Int} {zs : List Int} {a : Option Addr} {n : Nat} {b : Bool} {pl : Int} {pc : List Int} {w : World} (hs : Ints w a n zs) (hb : turnedPB ⟨low, zs⟩ = b) (hp : turnedP ⟨low, zs⟩ = ⟨pl, pc⟩) :
    Calls Try.prog 40 #[plV low (.slice a n n)] w fun e w' => (∃ v, e = .returned (.tuple #[plV pl v, .bool b]) ∧ IntRow w.heap.size w' v pc) ∧ Below w.heap.size w w' := by
  have h := sPolyTurned_any low zs a n n _ b w hs rfl hb
  unfold turnedP at hp
  rwa [← hb, hp, hb] at h
theorem iPolyTurned_law {low : Int} {zs : List Int} {a : Option Addr} {n : Nat} {b : Bool} {pl : Int} {pc : List Int} {w : World} (hs : Ints w a n zs) (hb : turnedPB ⟨low, zs⟩ = b) (hp : turnedP ⟨low, zs⟩ = ⟨pl, pc⟩) :
    Calls Try.prog 39 #[plV low (.slice a n n)] w fun e w' => (∃ v, e = .returned (.tuple #[plV pl v, .bool b]) ∧ IntRow w.heap.size w' v pc) ∧ Below w.heap.size w w' := by
  have h := iPolyTurned_any low zs a n n _ b w hs (Nat.le_refl _) rfl hb
  unfold turnedP at hp
  rwa [← hb, hp, hb] at h

end Go.Proofs.Ytocklmiappppgaa

/- Division from the first coefficient on (mathematics). -/

namespace Go.Proofs.Ytocklmiappppgaa
open Go.RowKit

def listN (f : Nat → Int) (n : Nat) : List Int := (List.range n).map f
theorem listN_len (f : Nat → Int) (n : Nat) : (listN f n).length = n := by simp [listN]
theorem listN_get {f : Nat → Int} {n i : Nat} (h : i < n) : (listN f n).getD i 0 = f i := by simp [listN, h]
theorem listN_elem {f : Nat → Int} {n i : Nat} (h : i < (listN f n).length) : (listN f n)[i] = f i := by simp [listN]
theorem listN_set {f g : Nat → Int} {x : Int} {n j : Nat} (hg : ∀ k, k ≠ j → g k = f k) (hx : g j = x) : (intsV (listN f n)).set j (.int .i64 x) = intsV (listN g n) := by
  unfold intsV listN
  refine List.ext_getElem (by simp) fun i h1 h2 => ?_
  by_cases e : j = i
  · subst e
    simp [hx]
  · simp [List.getElem_set_ne e, hg i (by omega)]
theorem listN_congr {f g : Nat → Int} {n : Nat} (h : ∀ i, i < n → f i = g i) : listN f n = listN g n :=
  List.map_congr_left fun i hi => h i (List.mem_range.1 hi)
theorem listN_self (l : List Int) : listN (fun i => l.getD i 0) l.length = l :=
  eq_getD (listN_len _ _) fun i hi => listN_get (by rwa [listN_len] at hi)
theorem listN_cell {f : Nat → Int} {n j : Nat} (h : j < n) : (intsV (listN f n))[j]? = some (.int .i64 (f j)) := by
  simp [intsV, listN, h]

/-- What is left when a polynomial has been taken out so many times. -/
def subQ (q : Int) (bs left : List Int) : List Int := listN (fun i => left.getD i 0 - q * bs.getD i 0) left.length
theorem subQ_len (q : Int) (bs left : List Int) : (subQ q bs left).length = left.length := listN_len _ _
theorem subQ_get (q : Int) (bs left : List Int) (i : Nat) (hb : bs.length ≤ left.length) : (subQ q bs left).getD i 0 = left.getD i 0 - q * bs.getD i 0 := by
  by_cases h : i < left.length
  · exact listN_get h
  · rw [getD_far (by rw [subQ_len]; omega), getD_far (l := left) (by omega), getD_far (l := bs) (by omega), Int.mul_zero]; rfl
def leftIn (z : Int) : Bool := inR (-4000000000000000000) 4000000000000000000 z
/-- A step succeeds: how many times, and that it may be so. -/
def stepB (bs left : List Int) : Bool :=
  decide ((left.getD 0 0).tmod (bs.getD 0 0) = 0) && (coefIn ((left.getD 0 0).tdiv (bs.getD 0 0)) && (List.range bs.length).all fun i => leftIn (left.getD i 0 - (left.getD 0 0).tdiv (bs.getD 0 0) * bs.getD i 0))
def stepQ (bs left : List Int) : Int := (left.getD 0 0).tdiv (bs.getD 0 0)
/-- The quotient's coefficients from the first one on, and what is left. -/
def divGo (bs : List Int) : Nat → List Int → Option (List Int × List Int)
  | 0, left => some ([], left)
  | n + 1, left => if stepB bs left then (divGo bs n (subQ (stepQ bs left) bs left).tail).map fun p => (stepQ bs left :: p.1, p.2) else none
def zeroL (l : List Int) : Bool := l.all fun z => decide (z = 0)
def overQ (a b : Pl) : Option Pl :=
  if a.cs.length = 0 then some a else
  match divGo b.cs (a.cs.length + 1 - b.cs.length) a.cs with
  | some p => if zeroL p.2 then some (tidyP (a.low - b.low) p.1) else none
  | none => none
/-- Whether the second one divides the first one, and what comes out. -/
def overB (a b : Pl) : Bool := match overQ a b with
  | some p => polyB p
  | none => false
def overP (a b : Pl) : Pl := match overQ a b with
  | some p => doneP (polyB p) p
  | none => ⟨0, []⟩
theorem tail_get (l : List Int) (i : Nat) : l.tail.getD i 0 = l.getD (i + 1) 0 := by
  cases l with
  | nil => rfl
  | cons x r => simp

end Go.Proofs.Ytocklmiappppgaa

/- The program's plain and PolyPlain. -/

namespace Go.Proofs.Ytocklmiappppgaa
open Go.RowKit

theorem getD_map {f : Int → Int} (hf : f 0 = 0) (l : List Int) (i : Nat) : (l.map f).getD i 0 = f (l.getD i 0) := by
  rw [List.getD_eq_getElem?_getD, List.getD_eq_getElem?_getD, List.getElem?_map]
  cases l[i]? with
  | none => exact hf.symm
  | some z => rfl
theorem polyB_yes {p : Pl} (h0 : 0 < p.cs.length) (hc : ∀ z ∈ p.cs, coefIn z = true) (hl : p.cs.length ≤ 200) (h1 : -300 ≤ p.low) (h2 : p.low ≤ 300) (hf : p.cs.getD 0 0 ≠ 0) (he : p.cs.getD (p.cs.length - 1) 0 ≠ 0) : polyB p = true := by
  unfold polyB inR
  rw [List.all_eq_true.2 hc, if_neg (by omega), decide_eq_true hl, decide_eq_true h1, decide_eq_true h2, decide_eq_false hf, decide_eq_false he]
  rfl
theorem polyB_coef {p : Pl} (h : polyB p = true) : ∀ z ∈ p.cs, coefIn z = true := by
  unfold polyB at h
  rw [Bool.and_eq_true] at h
  exact List.all_eq_true.1 h.1
theorem plain_polyB {p : Pl} (h : polyB p = true) : polyB (plainP p) = true := by
  obtain ⟨hT, hl, h1, h2, hc⟩ := polyB_trim h
  unfold plainP
  by_cases h0 : p.cs.length = 0
  · rw [if_pos h0]; exact h
  · rw [if_neg h0]
    rcases hT with ⟨h3, _⟩ | ⟨_, hf, he⟩
    · rw [h3] at h0; exact absurd rfl h0
    · refine polyB_yes (by show 0 < (List.map _ p.cs).length; rw [List.length_map]; omega) (fun z hz => ?_) (by show (List.map _ p.cs).length ≤ 200; rw [List.length_map]; exact hl) (by show (-300 : Int) ≤ 0; omega) (by show (0 : Int) ≤ 300; omega) ?_ ?_
      · obtain ⟨y, hy, rfl⟩ := List.mem_map.1 hz
        have := coefIn_yes (polyB_coef h y hy)
        unfold coefIn inR
        split <;> simp <;> omega
      · show (List.map _ p.cs).getD 0 0 ≠ 0
        rw [getD_map (by simp)]
        split <;> omega
      · show (List.map _ p.cs).getD ((List.map _ p.cs).length - 1) 0 ≠ 0
        rw [getD_map (by simp), List.length_map]
        split <;> omega
theorem listN_map (f : Int → Int) (zs : List Int) : listN (fun i => f (zs.getD i 0)) zs.length = zs.map f := by
  refine eq_getD (by rw [listN_len, List.length_map]) fun i hi => ?_
  rw [listN_len] at hi
  rw [listN_get hi, List.getD_eq_getElem?_getD, List.getD_eq_getElem?_getD, List.getElem?_map, List.getElem?_eq_getElem hi]
  rfl

set_option maxRecDepth 100000 in
set_option maxHeartbeats 4000000 in
theorem plain_any (low : Int) (zs : List Int) (a : Option Addr) (cap n : Nat) (w : World) (hs : Ints w a n zs) (h0 : 0 < n) (hn : n ≤ 1048576) (hcs : ∀ i, -1000000000 ≤ zs.getD i 0 ∧ zs.getD i 0 ≤ 1000000000) :
    Calls Try.prog 85 #[plV low (.slice a n cap)] w fun e w' => (∃ v, e = .returned (plV 0 v) ∧ IntRow w.heap.size w' v (plainP ⟨low, zs⟩).cs) ∧ Below w.heap.size w w' := by
  obtain ⟨W, hW⟩ : ∃ W, (w.alloc (.cells #[.int .i64 low, .slice a n cap] PT)).alloc (.cells #[.int .i64 0, .slice none 0 0] PT) = W := ⟨_, rfl⟩
  have hsz : W.heap.size = w.heap.size + 2 := by rw [← hW]; simp
  have hbW : Below w.heap.size w W := by rw [← hW]; exact ((Below.refl _ w).alloc (Nat.le_refl _) _).alloc (by simp) _
  have HC : Hid (∀ w1, Below W.heap.size W w1 → w1.cell? ⟨w.heap.size + 1, 0, none⟩ = some (.int .i64 0) ∧ w1.cell? ⟨w.heap.size + 1, 1, none⟩ = some (.slice none 0 0) ∧ w1.frozen? ⟨w.heap.size + 1, 0, none⟩ = false ∧ w1.frozen? ⟨w.heap.size + 1, 1, none⟩ = false) := Lib.hid fun w1 hg => by
    have e0 := hg.block (w.heap.size + 1) (by omega)
    have h := World.alloc_heap_new (w.alloc (.cells #[.int .i64 low, .slice a n cap] PT)) (.cells #[.int .i64 0, .slice none 0 0] PT)
    rw [hW, World.size_alloc] at h
    rw [h] at e0
    refine ⟨?_, ?_, ?_, ?_⟩ <;> simp [World.cell?, World.frozen?, e0]
  have HCL := Lib.hid (cloneI_any a cap n zs W (hs.below hbW) hn)
  have HL := Lib.hid hs.len
  have HCS := Lib.hid hcs
  have HBW := Lib.hid hbW
  have HW := Lib.hid hW
  clear hW hbW hs hcs
  go_enter Try.func85, Try.ntmps85
  go_wp2_with fail
  rw [HW.out]
  refine HCL.out.mono ?_
  rintro e w1 ⟨⟨v, rfl, hr⟩, hb1⟩
  have hs1 := hb1.size
  have HB1 := Lib.hid hb1
  obtain ⟨a1, g, cap1, rfl, hsh, _, hcell⟩ := hr.shape
  obtain ⟨rfl, hg1, hg2⟩ := hsh (by rw [HL.out]; exact h0)
  unfold IntRow at hr
  rw [HL.out] at hr
  rw [HL.out]
  have hz0 := (hcell 0 (by rw [HL.out]; exact h0)).1
  obtain ⟨z0, hz⟩ : ∃ z, zs.getD 0 0 = z := ⟨_, rfl⟩
  have hzz : zs[0]'(by rw [HL.out]; exact h0) = z0 := by rw [← hz, List.getD_eq_getElem?_getD, List.getElem?_eq_getElem (by rw [HL.out]; exact h0)]; rfl
  rw [hzz] at hz0
  have HZ := Lib.hid hz
  have h0i : (0 : Int) < (n : Int) := by omega
  have HR1 := Lib.hid hr
  clear hz hzz hcell hsh hb1 hr
  by_cases hneg : z0 < 0
  · have hnd : decide (z0 < 0) = true := decide_eq_true hneg
    have HR0 : Hid (w1.ownsRow W.heap.size 3 1 (.slice (some ⟨g, 0, none⟩) n cap1) n (intsV (listN (fun i => if i < 0 then -zs.getD i 0 else zs.getD i 0) n))) := Lib.hid (by
      have e : listN (fun i => if i < 0 then -zs.getD i 0 else zs.getD i 0) n = zs := by
        rw [← HL.out]
        exact (listN_congr fun i _ => if_neg (Nat.not_lt_zero _)).trans (listN_self zs)
      rw [e]
      exact HR1.out)
    go_wp2
    go_loopw [14] (fun i wr => ∃ k : Nat, k ≤ n ∧ i = .int .i64 (k : Int) ∧ Hid (wr.ownsRow W.heap.size 3 1 (.slice (some ⟨g, 0, none⟩) n cap1) n (intsV (listN (fun i => if i < k then -zs.getD i 0 else zs.getD i 0) n))) ∧ Hid (Below W.heap.size W wr)) (fun i _ => n - (intOf i).toNat)
    case atStart => exact ⟨0, Nat.zero_le _, rfl, HR0, HB1⟩
    case round =>
      obtain ⟨k, hk, rfl, HR, HB⟩ := hrel
      by_cases hlt : k < n
      · obtain ⟨z, hz⟩ : ∃ z, zs.getD k 0 = z := ⟨_, rfl⟩
        have hb := HCS.out k
        rw [hz] at hb
        obtain ⟨hb1, hb2⟩ := hb
        have hck : wr.cell? ⟨g, k, none⟩ = some (.int .i64 z) := by
          rw [HR.out.cellAt _ (by omega), listN_cell hlt, if_neg (Nat.lt_irrefl _), hz]
        have hfk := HR.out.frozenAt k
        have hwr : IntKind.i64.wrap (-z) = -z := IntWalk.i64_in _ (by omega)
        have HST : Hid ((intsV (listN (fun i => if i < k then -zs.getD i 0 else zs.getD i 0) n)).set k (.int .i64 (-z)) = intsV (listN (fun i => if i < k + 1 then -zs.getD i 0 else zs.getD i 0) n)) := Lib.hid (listN_set (fun i hi => by
          by_cases h : i < k
          · rw [if_pos h, if_pos (by omega)]
          · rw [if_neg h, if_neg (by omega)]) (by rw [if_pos (Nat.lt_succ_self k), hz]))
        clear hz
        go_wp2
        go_roundw
        case rel =>
          have h1 := HR.out.stored k (.int .i64 (-z))
          refine ⟨k + 1, by omega, by go_num, Lib.hid ?_, Lib.hid (HB.out.setCell (p := ⟨g, k, none⟩) hg1 _)⟩
          rw [← HST.out]
          exact h1.1
        case measure => simp [intOf]; omega
      · obtain rfl : k = n := by omega
        have hr := HR.out
        have HP : Hid (listN (fun i => if i < k then -zs.getD i 0 else zs.getD i 0) k = (plainP ⟨low, zs⟩).cs) := Lib.hid (by
          have hp : (plainP ⟨low, zs⟩).cs = zs.map fun z => -1 * z := by
            unfold plainP
            rw [if_neg (by show ¬ zs.length = 0; rw [HL.out]; omega)]
            show zs.map (fun z => (if zs.getD 0 0 < 0 then -1 else 1) * z) = _
            rw [if_pos (by rw [HZ.out]; exact hneg)]
          rw [hp, ← listN_map, HL.out]
          exact listN_congr fun i hi => by rw [if_pos hi]; omega)
        have hR : IntRow W.heap.size wr (.slice (some ⟨g, 0, none⟩) k cap1) (plainP ⟨low, zs⟩).cs := by
          rw [HP.out] at hr
          exact rowI hr (by rw [← HP.out, listN_len])
        have HRR := Lib.hid hR
        obtain ⟨d0, d1, f0, f1⟩ := HC.out _ HB.out
        clear hr hR
        go_wp2
        refine bodyPost_ret (v := plV 0 (.slice (some ⟨g, 0, none⟩) k cap1)) ?_ rfl ⟨⟨_, rfl, ?_⟩, ?_⟩
        · simp [results, Try.results85, go_sem, d0, d1, plV]
        · exact resRow1 (.int .i64 0) (.slice (some ⟨g, 0, none⟩) k cap1) HRR.out (by omega)
        · exact resBelow1 (.int .i64 0) (.slice (some ⟨g, 0, none⟩) k cap1) (HBW.out.trans (HB.out.mono HBW.out.size))
  · have hnd : decide (z0 < 0) = false := decide_eq_false hneg
    have HP : Hid ((plainP ⟨low, zs⟩).cs = zs) := Lib.hid (by
      unfold plainP
      rw [if_neg (by show ¬ zs.length = 0; rw [HL.out]; omega)]
      show zs.map (fun z => (if zs.getD 0 0 < 0 then -1 else 1) * z) = _
      rw [if_neg (by rw [HZ.out]; exact hneg), ← listN_map]
      exact (listN_congr fun i _ => Int.one_mul _).trans (listN_self zs))
    have HRR : Hid (IntRow W.heap.size w1 (.slice (some ⟨g, 0, none⟩) n cap1) (plainP ⟨low, zs⟩).cs) := Lib.hid (by rw [HP.out]; exact rowI HR1.out HL.out)
    obtain ⟨d0, d1, f0, f1⟩ := HC.out _ HB1.out
    go_wp2
    refine bodyPost_ret (v := plV 0 (.slice (some ⟨g, 0, none⟩) n cap1)) ?_ rfl ⟨⟨_, rfl, ?_⟩, ?_⟩
    · simp [results, Try.results85, go_sem, d0, d1, plV]
    · exact resRow1 (.int .i64 0) (.slice (some ⟨g, 0, none⟩) n cap1) HRR.out (by omega)
    · exact resBelow1 (.int .i64 0) (.slice (some ⟨g, 0, none⟩) n cap1) (HBW.out.trans (HB1.out.mono HBW.out.size))

end Go.Proofs.Ytocklmiappppgaa

/- The program's PolyPlain and PolyOne. -/

namespace Go.Proofs.Ytocklmiappppgaa
open Go.RowKit

theorem plain_low {p : Pl} (h : 0 < p.cs.length) : (plainP p).low = 0 := by unfold plainP; rw [if_neg (by omega)]
theorem plain_len (p : Pl) : (plainP p).cs.length = p.cs.length := by
  unfold plainP
  split
  · rfl
  · exact List.length_map _

set_option maxRecDepth 100000 in
set_option maxHeartbeats 4000000 in
theorem iPolyPlain_any (low : Int) (zs : List Int) (a : Option Addr) (cap n : Nat) (b : Bool) (w : World) (hs : Ints w a n zs) (hcap : n ≤ cap) (hb : polyB ⟨low, zs⟩ = b) :
    Calls Try.prog 42 #[plV low (.slice a n cap)] w fun e w' => (∃ v, e = .returned (.tuple #[plV (doneP b (plainP ⟨low, zs⟩)).low v, .bool b]) ∧ IntRow w.heap.size w' v (doneP b (plainP ⟨low, zs⟩)).cs) ∧ Below w.heap.size w w' := by
  have hY := assert_yes
  have hN := assert_no
  obtain ⟨W, hW⟩ : ∃ W, (w.alloc (.cells #[.int .i64 low, .slice a n cap] 25)).alloc (.cells #[.int .i64 0, .slice none 0 0] 25) = W := ⟨_, rfl⟩
  obtain ⟨hbW, hsz⟩ := boxTBelow hW
  have HC : Hid (∀ w1, Below W.heap.size W w1 → _) := Lib.hid fun w1 (hg : Below W.heap.size W w1) => boxT hW hg
  have HP := Lib.hid (iPolyIn_any low zs a cap n b W (hs.below hbW) hcap hb)
  have HS := Lib.hid (hs.below hbW)
  have HL := Lib.hid hs.len
  have HB := Lib.hid hb
  have HBW := Lib.hid hbW
  have HW := Lib.hid hW
  clear hW hbW hs hb
  go_enter Try.func42, Try.ntmps42
  go_wp2_with fail
  rw [HW.out]
  refine HP.out.mono ?_
  rintro e w1 ⟨rfl, hb1⟩
  obtain ⟨q0, q1, d0, d1, f0, f1⟩ := HC.out w1 hb1
  have hs1 := hb1.size
  have HB1 := Lib.hid hb1
  clear hb1
  cases b with
  | false =>
    go_wp2
    refine bodyPost_ret (v := .tuple #[plV 0 (.slice none 0 0), .bool false]) ?_ rfl ⟨⟨_, rfl, intNil _ _⟩, resBelow1 (.int .i64 0) (.slice none 0 0) (HBW.out.trans (HB1.out.mono HBW.out.size))⟩
    simp [results, Try.results42, go_sem, d0, d1, plV]
  | true =>
    obtain ⟨hT, h200, hlo, hhi, hcs⟩ := polyB_trim HB.out
    have hn2 : n ≤ 200 := by rw [← HL.out]; exact h200
    have hlo1 : -300 ≤ low := hlo
    have hhi1 : low ≤ 300 := hhi
    have HSF : Hid (tidyP low zs = ⟨low, zs⟩) := Lib.hid (tidy_self hT)
    have HCS : Hid (∀ i, -1000000000 ≤ zs.getD i 0 ∧ zs.getD i 0 ≤ 1000000000) := Lib.hid hcs
    have HA := Lib.hid (apart_in low zs a cap n w1 (HS.out.below HB1.out) hcap (by omega) (by omega) (by omega))
    clear hcs h200 hlo hhi hT
    go_wp2_with fail
    refine HA.out.mono ?_
    rintro e w2 ⟨⟨v, rfl, hA⟩, hb2⟩
    rw [HSF.out] at hA
    have hs2 := hb2.size
    have HB2 := Lib.hid (HB1.out.trans (hb2.mono hs1))
    obtain ⟨_, _, d0, d1, f0, f1⟩ := HC.out w2 HB2.out
    clear hb2
    rcases hA with ⟨hq, rfl⟩ | ⟨hq, a1, cap1, rfl, hc1, hi1⟩
    · have hz : zs = [] := List.length_eq_zero_iff.1 hq
      have hl : low = 0 := by
        have hT := (polyB_trim HB.out).1
        rcases hT with ⟨_, h⟩ | ⟨h, _⟩
        · exact h
        · exact absurd hz h
      subst hl
      subst hz
      clear hq
      go_wp2
      refine bodyPost_ret (v := .tuple #[plV 0 (.slice none 0 0), .bool true]) ?_ rfl ⟨⟨_, rfl, intNil _ _⟩, resBelow1 (.int .i64 0) (.slice none 0 0) (HBW.out.trans (HB2.out.mono HBW.out.size))⟩
      simp [results, Try.results42, go_sem, d0, d1, plV]
    · have hq0 : 0 < zs.length := hq
      have hlz : zs.length = n := HL.out
      obtain ⟨V, hV⟩ : ∃ V, w2.alloc (.cells #[.int .i64 low, .slice a1 n cap1] PT) = V := ⟨_, rfl⟩
      have hbV : Below w2.heap.size w2 V := by rw [← hV]; exact (Below.refl _ _).alloc (Nat.le_refl _) _
      have hsV := hbV.size
      have HBV := Lib.hid (HB2.out.trans (hbV.mono (by omega)))
      have hi2 : Ints w2 a1 n zs := by have h : Ints w2 a1 zs.length zs := hi1; rwa [hlz] at h
      have HPL := Lib.hid (plain_any low zs a1 cap1 n V (hi2.below hbV) (by omega) (by omega) HCS.out)
      rw [show (⟨low, zs⟩ : Pl).cs.length = n from hlz]
      have HV := Lib.hid hV
      clear hV hbV hi1 hi2
      go_wp2_with fail
      rw [HV.out]
      refine HPL.out.mono ?_
      rintro e w3 ⟨⟨v, rfl, hr⟩, hb3⟩
      have hs3 := hb3.size
      have HB3 := Lib.hid (HBV.out.trans (hb3.mono (by omega)))
      have hPB : polyB (plainP ⟨low, zs⟩) = true := plain_polyB HB.out
      have hPL : (plainP ⟨low, zs⟩).low = 0 := plain_low hq0
      obtain ⟨a3, cap3, rfl, hc3, hi3⟩ := hr.readc (fun z hz => by have := coefIn_yes (polyB_coef hPB z hz); omega)
      have hF : fitsB 0 (plainP ⟨low, zs⟩).cs = true := by
        have h := fits_polyB (polyB_trim hPB).1 (by rw [plain_len]; exact hq0)
        rwa [hPL, hPB] at h
      have HTO := Lib.hid (toldP_any 0 (plainP ⟨low, zs⟩).cs a3 cap3 _ true w3 hi3 hF)
      have HPLL := Lib.hid hPL
      clear hr hb3 hi3 hPB hPL hF
      go_wp2_with fail
      refine HTO.out.mono ?_
      rintro e w4 ⟨⟨v, rfl, hr⟩, hb4⟩
      have hr : IntRow w3.heap.size w4 v (plainP ⟨low, zs⟩).cs := hr
      obtain ⟨_, _, d0, d1, f0, f1⟩ := HC.out w4 (HB3.out.trans (hb4.mono (by omega)))
      have HR := Lib.hid hr
      have HB4 := Lib.hid (HBW.out.trans ((HB3.out.trans (hb4.mono (by omega))).mono HBW.out.size))
      obtain ⟨g4, gg, cap4, rfl, _⟩ := hr.shape
      clear hr hb4
      go_wp2
      refine bodyPost_ret (v := .tuple #[plV 0 (.slice g4 (plainP ⟨low, zs⟩).cs.length cap4), .bool true]) ?_ rfl ⟨⟨.slice g4 (plainP ⟨low, zs⟩).cs.length cap4, ?_, resRow1 (.int .i64 0) (.slice g4 (plainP ⟨low, zs⟩).cs.length cap4) HR.out (by omega)⟩, resBelow1 (.int .i64 0) (.slice g4 (plainP ⟨low, zs⟩).cs.length cap4) HB4.out⟩
      · simp [results, Try.results42, go_sem, d0, d1, plV, doneP]
      · show _ = Ending.returned (.tuple #[plV (plainP ⟨low, zs⟩).low _, .bool true])
        rw [HPLL.out]

def plainedP (p : Pl) : Pl := doneP (polyB p) (plainP p)
theorem plained_fit {w : World} {low : Int} {zs : List Int} {a : Option Addr} {n : Nat} {b : Bool} {p : Pl} (_ : Ints w a n zs) (_ : polyB ⟨low, zs⟩ = b) (hp : plainedP ⟨low, zs⟩ = p) : p.cs.length ≤ 200 :=
  doneP_len plain_polyB hp
theorem sPolyPlain_law {low : Int} {zs : List Int} {a : Option Addr} {n : Nat} {b : Bool} {pl : Int} {pc : List Int} {w : World} (hs : Ints w a n zs) (hb : polyB ⟨low, zs⟩ = b) (hp : plainedP ⟨low, zs⟩ = ⟨pl, pc⟩) :
    Calls Try.prog 43 #[plV low (.slice a n n)] w fun e w' => (∃ v, e = .returned (.tuple #[plV pl v, .bool b]) ∧ IntRow w.heap.size w' v pc) ∧ Below w.heap.size w w' := by
  have h := sPolyPlain_any low zs a n n b w hs hb
  unfold plainedP at hp
  rwa [← hb, hp, hb] at h
theorem iPolyPlain_law {low : Int} {zs : List Int} {a : Option Addr} {n : Nat} {b : Bool} {pl : Int} {pc : List Int} {w : World} (hs : Ints w a n zs) (hb : polyB ⟨low, zs⟩ = b) (hp : plainedP ⟨low, zs⟩ = ⟨pl, pc⟩) :
    Calls Try.prog 42 #[plV low (.slice a n n)] w fun e w' => (∃ v, e = .returned (.tuple #[plV pl v, .bool b]) ∧ IntRow w.heap.size w' v pc) ∧ Below w.heap.size w w' := by
  have h := iPolyPlain_any low zs a n n b w hs (Nat.le_refl _) hb
  unfold plainedP at hp
  rwa [← hb, hp, hb] at h

set_option maxRecDepth 100000 in
set_option maxHeartbeats 4000000 in
theorem iPolyOne_any (low : Int) (zs : List Int) (a : Option Addr) (cap n : Nat) (b : Bool) (w : World) (hs : Ints w a n zs) (hcap : n ≤ cap) (hb : polyB ⟨low, zs⟩ = b) :
    Calls Try.prog 34 #[plV low (.slice a n cap)] w fun e w' => e = .returned (.tuple #[.int .i64 (if b then oneP zs n else 0), .bool b]) ∧ Below w.heap.size w w' := by
  obtain ⟨W, hW⟩ : ∃ W, w.alloc (.cells #[.int .i64 low, .slice a n cap] 25) = W := ⟨_, rfl⟩
  have hsz : W.heap.size = w.heap.size + 1 := by rw [← hW]; simp
  have hbW : Below w.heap.size w W := by rw [← hW]; exact (Below.refl _ w).alloc (Nat.le_refl _) _
  have HC : Hid (∀ w1, Below W.heap.size W w1 → _) := Lib.hid fun w1 (hg : Below W.heap.size W w1) => oneBox hW hg
  have HP := Lib.hid (iPolyIn_any low zs a cap n b W (hs.below hbW) hcap hb)
  have HS := Lib.hid (hs.below hbW)
  have HN := Lib.hid hs.len
  have HB := Lib.hid hb
  have HBW := Lib.hid hbW
  have HW := Lib.hid hW
  clear hW hbW hs hb
  go_enter Try.func34, Try.ntmps34
  go_wp2_with fail
  rw [HW.out]
  refine HP.out.mono ?_
  rintro e w1 ⟨rfl, hb1⟩
  obtain ⟨c0, c1⟩ := HC.out w1 hb1
  have HB1 := Lib.hid hb1
  have HBw := Lib.hid (HBW.out.trans (hb1.mono HBW.out.size))
  clear hb1
  cases b with
  | false =>
    go_wp2
    go_ret2
    exact ⟨rfl, HBw.out⟩
  | true =>
    obtain ⟨_, h200, _, _, hcs⟩ := polyB_trim HB.out
    have hn2 : n ≤ 200 := by rw [← HN.out]; exact h200
    have HBD := Lib.hid (oneP_bound (l := zs) hcs)
    have HCS : Hid (∀ i, -1000000000 ≤ zs.getD i 0 ∧ zs.getD i 0 ≤ 1000000000) := Lib.hid hcs
    clear hcs h200
    go_wp2
    go_loop [4, 6, 13] (fun s _ i => ∃ k : Nat, k ≤ n ∧ i = .int .i64 (k : Int) ∧ s = .int .i64 (oneP zs k)) (fun _ _ i => n - (intOf i).toNat)
    case atStart => exact ⟨0, Nat.zero_le _, rfl, rfl⟩
    case round =>
      obtain ⟨k, hk, rfl, rfl⟩ := hrel
      by_cases hlt : k < n
      · have hkz : k < zs.length := by rw [HN.out]; exact hlt
        obtain ⟨x, rfl, hxb, hxc⟩ := (HS.out.below HB1.out).at_ (by omega)
        obtain ⟨z, hz⟩ : ∃ z, zs.getD k 0 = z := ⟨_, rfl⟩
        have hzz : zs[k] = z := by rw [← hz, List.getD_eq_getElem?_getD, List.getElem?_eq_getElem hkz]; rfl
        have hcz := hxc k hkz
        rw [hzz] at hcz
        have h1 := HBD.out k
        have h2 := HCS.out k
        obtain ⟨s, hs⟩ : ∃ s, oneP zs k = s := ⟨_, rfl⟩
        rw [hs] at h1 ⊢
        rw [hz] at h2
        obtain ⟨h11, h12⟩ := h1
        obtain ⟨h21, h22⟩ := h2
        have HS1 : Hid (oneP zs (k + 1) = s + z) := Lib.hid (by rw [oneP, hs, hz])
        have hwr : IntKind.i64.wrap (s + z) = s + z := IntWalk.i64_in _ (by omega)
        clear hz hs hzz hxc
        go_wp2
        go_round
        case rel => exact ⟨k + 1, by omega, by go_num, by rw [HS1.out]⟩
        case measure => simp [intOf]; omega
      · obtain rfl : k = n := by omega
        go_wp2
        go_ret2
        exact ⟨rfl, HBw.out⟩

end Go.Proofs.Ytocklmiappppgaa

/- Regions that draw their order, make memory and lay a box: the law of make at a step; a box that was laid somewhere on the way. -/

namespace Go.Proofs.Ytocklmiappppgaa
open Go.RowKit

theorem step_make {P : Program} {w : World} {ops : Array Oper} {o : Oper} {a : Act} {K : Act → World → Prop} {Q : Exit → Act → World → Prop} {E : Prop} (hgd : o.guard = none) (l c : Operand) (t : TypeId)
    (ho : o.op = .makeSlice t l c) (base : Nat) (e : TypeId) (i : TypeInfo) (z : Value) (size : Nat) (h1 : P.underlying t = some (.slice e)) (h2 : P.info? e = some i) (h3 : i.zero = some z) (h4 : i.size = size)
    (n : Nat) (hl : a.eval l = .int .i64 (n : Int)) (hc : a.eval c = .int .i64 (n : Int)) (b2 : i.bytes * n ≤ 281474976710656) (b3 : n ≤ maxLen) (b4 : base ≤ w.heap.size)
    (h : ∀ g w', w.heap.size ≤ g → w'.ownsRow base e size (.slice (some ⟨g, 0, none⟩) n n) n (madeCells z.cells (n * size)).toList → w.grownBy w' none → K (a.put o.dst (.slice (some ⟨g, 0, none⟩) n n)) w') :
    if Region.wanted o (yielded ops a.tmps) = true then Oper.wp P o a w K Q else E := by
  have hw : Region.wanted o (yielded ops a.tmps) = true := by simp [Region.wanted, hgd]
  rw [if_pos hw]
  obtain ⟨w', hrun, r1, r2⟩ := run_make_full (P := P) (w := w) base t e i z size h1 h2 h3 h4 .i64 .i64 n b2 b3 b4
  unfold Oper.wp
  simp [execOp, ho, hl, hc, hrun, Result.andThen]
  exact h _ w' (Nat.le_refl _) r1 r2

/-- A box of a polynomial that still holds zeros. -/
def BoxZ (w : World) (j : Nat) : Prop := j < w.heap.size ∧ w.cell? ⟨j, 0, none⟩ = some (.int .i64 0) ∧ w.cell? ⟨j, 1, none⟩ = some (.slice none 0 0) ∧ w.frozen? ⟨j, 0, none⟩ = false ∧ w.frozen? ⟨j, 1, none⟩ = false
theorem BoxZ.below {w w' : World} {j : Nat} (h : BoxZ w j) (hb : Below w.heap.size w w') : BoxZ w' j := by
  have e := hb.block j h.1
  refine ⟨Nat.lt_of_lt_of_le h.1 hb.size, ?_, ?_, ?_, ?_⟩
  · rw [← h.2.1]; simp [World.cell?, e]
  · rw [← h.2.2.1]; simp [World.cell?, e]
  · rw [← h.2.2.2.1]; simp [World.frozen?, e]
  · rw [← h.2.2.2.2]; simp [World.frozen?, e]
theorem BoxZ.new (w : World) : BoxZ (w.alloc (.cells #[.int .i64 0, .slice none 0 0] 25)) w.heap.size := by
  obtain ⟨d0, d1, f0, f1⟩ := resCells (w := w) (w1 := w.alloc (.cells #[.int .i64 0, .slice none 0 0] 25)) (r := w.heap.size) rfl ((Below.refl _ _))
  exact ⟨by simp, d0, d1, f0, f1⟩
/-- It was laid just now. -/
theorem BoxZ.of {w w' : World} (hb : Below (w.alloc (.cells #[.int .i64 0, .slice none 0 0] 25)).heap.size (w.alloc (.cells #[.int .i64 0, .slice none 0 0] 25)) w') : BoxZ w' w.heap.size := (BoxZ.new w).below hb
theorem BoxZ.ofd {w w' : World} (hb : Below (w.alloc (.cells #[.int .i64 0, .slice none 0 0] 25)).drew.heap.size (w.alloc (.cells #[.int .i64 0, .slice none 0 0] 25)).drew w') : BoxZ w' w.heap.size :=
  (BoxZ.new w).below (Below.trans (Below.refl _ _).drew hb)
theorem BoxZ.lt {w w' : World} {o : Obj} (_ : Below (w.alloc o).heap.size (w.alloc o) w') : w.heap.size < (w.alloc o).heap.size := by rw [World.size_alloc]; omega
theorem below_alloc {b : Nat} {w w1 w2 : World} {o : Obj} (h : Below b w w1) (hs : b ≤ w1.heap.size) (hb : Below (w1.alloc o).heap.size (w1.alloc o) w2) : Below b w w2 :=
  (h.alloc hs o).trans (hb.mono (by rw [World.size_alloc]; omega))
theorem below_of_grown {w w' : World} (h : w.grownBy w' none) : Below w.heap.size w w' := (Below.refl _ _).grown h (Nat.le_refl _) (fun j e => by cases e)
/-- The box is filled. -/
theorem BoxZ.fill {w : World} {j : Nat} {x y : Value} (h : BoxZ w j) : BoxAt ((w.setCell ⟨j, 0, none⟩ x).setCell ⟨j, 1, none⟩ y) j x y := by
  obtain ⟨h0, h1, h2, _, _⟩ := h
  refine ⟨by simp; exact h0, ?_, ?_⟩
  · go_simp
  · go_simp
theorem own_raise {w : World} {base size : Nat} {e : TypeId} {g n c : Nat} {xs : List Value} (h : w.ownsRow base e size (.slice (some ⟨g, 0, none⟩) n c) n xs) : w.ownsRow g e size (.slice (some ⟨g, 0, none⟩) n c) n xs := by
  obtain ⟨h1, h2⟩ := h
  refine ⟨h1, ?_⟩
  rcases h2 with ⟨e, _⟩ | ⟨g', cap, cur, e, hb, rest⟩
  · cases e
  · simp only [Value.slice.injEq, Option.some.injEq, Addr.mk.injEq] at e
    obtain ⟨⟨rfl, _, _⟩, _, rfl⟩ := e
    exact .inr ⟨g, c, cur, rfl, Nat.le_refl _, rest⟩
theorem run_makeI (n : Nat) (hn : n ≤ 1048576) (V : World) : (Instr.makeSlice 23 (.int .i64 (n : Int)) (.int .i64 (n : Int))).run Try.prog V = .ok (.slice (some ⟨V.heap.size, 0, none⟩) n n) (V.alloc (.cells (madeCells (Value.cells (.int .i64 0)) (n * 1)) 3)) := by
  obtain ⟨i0, hi, hz0, hz1, hz2⟩ := info_parts infoInt
  have hr := run_make (P := Try.prog) V 23 3 i0 (.int .i64 0) Try.underlying23 hi hz0 .i64 .i64 n n (by omega) (Int.le_refl _) (by rw [hz2]; omega) (by omega)
  rw [hz1] at hr
  simpa using hr
/-- Two boxes lie ahead of a block. -/
theorem two_ahead {a b : Nat} (h : a + 1 < b) : ¬ a = b ∧ ¬ b = a ∧ ¬ a + 1 = b ∧ ¬ b = a + 1 ∧ ¬ a = b + 1 ∧ ¬ b + 1 = a := by omega
/-- A box that holds x and a new row of n ints, behind a region that lays both. -/
def RegMk (w wx : World) (s x : Value) (n : Nat) (mc : Array Value) : Prop :=
  ∃ j g : Nat, s = .pointer (some ⟨j, 0, none⟩) ∧ BoxAt wx j x (.slice (some ⟨g, 0, none⟩) n n) ∧ w.heap.size ≤ j ∧ wx.ownsRow w.heap.size 3 1 (.slice (some ⟨g, 0, none⟩) n n) n mc.toList ∧ g ≠ j ∧ Below w.heap.size w wx
theorem regA {w V : World} {x : Value} {n : Nat} {mc : Array Value} (hB : Below w.heap.size w V) (hn : n ≤ maxLen) (hm : mc.size = n * 1) :
    RegMk w ((V.alloc (.cells mc 3)).alloc (.cells #[x, .slice (some ⟨V.heap.size, 0, none⟩) n n] 25)) (.pointer (some ⟨V.heap.size + 1, 0, none⟩)) x n mc := by
  have h1 := boxNew (w := V.alloc (.cells mc 3)) (t := 25) (x := x) (y := .slice (some ⟨V.heap.size, 0, none⟩) n n) rfl
  rw [World.size_alloc] at h1
  have hs := hB.size
  refine ⟨V.heap.size + 1, V.heap.size, rfl, h1, by omega, ?_, by omega, (hB.alloc hs _).alloc (by rw [World.size_alloc]; omega) _⟩
  exact (World.ownsRow_lit V mc n hs hn hm).kept (World.grownBy_alloc _ _ none) (.inr (by simp [Value.ownBlock]))
theorem regB {w V : World} {x : Value} {n : Nat} {mc : Array Value} (hB : Below w.heap.size w V) (hn : n ≤ maxLen) (hm : mc.size = n * 1) :
    RegMk w ((V.alloc (.cells #[x, .slice (some ⟨V.heap.size + 1, 0, none⟩) n n] 25)).alloc (.cells mc 3)) (.pointer (some ⟨V.heap.size, 0, none⟩)) x n mc := by
  have h1 := boxNew (w := V) (t := 25) (x := x) (y := .slice (some ⟨V.heap.size + 1, 0, none⟩) n n) rfl
  have hs := hB.size
  refine ⟨V.heap.size, V.heap.size + 1, rfl, h1.below ((Below.refl _ _).alloc (Nat.le_refl _) _), hs, ?_, by omega, (hB.alloc hs _).alloc (by rw [World.size_alloc]; omega) _⟩
  have h2 := World.ownsRow_lit (base := w.heap.size) (V.alloc (.cells #[x, .slice (some ⟨V.heap.size + 1, 0, none⟩) n n] 25)) mc n (e := 3) (size := 1) (by rw [World.size_alloc]; omega) hn hm
  rw [World.size_alloc] at h2
  exact h2
theorem regC {w V : World} {j : Nat} {x : Value} {n : Nat} {mc : Array Value} (hB : Below w.heap.size w V) (hZ : BoxZ V j) (hj : w.heap.size ≤ j) (hn : n ≤ maxLen) (hm : mc.size = n * 1) :
    RegMk w (((V.setCell ⟨j, 0, none⟩ x).setCell ⟨j, 1, none⟩ (.slice (some ⟨V.heap.size, 0, none⟩) n n)).alloc (.cells mc 3)) (.pointer (some ⟨j, 0, none⟩)) x n mc := by
  have h1 := hZ.fill (x := x) (y := .slice (some ⟨V.heap.size, 0, none⟩) n n)
  have hs := hB.size
  have hz : ((V.setCell ⟨j, 0, none⟩ x).setCell ⟨j, 1, none⟩ (.slice (some ⟨V.heap.size, 0, none⟩) n n)).heap.size = V.heap.size := by simp
  have hb2 : Below w.heap.size w ((V.setCell ⟨j, 0, none⟩ x).setCell ⟨j, 1, none⟩ (.slice (some ⟨V.heap.size, 0, none⟩) n n)) := (hB.setCell (p := ⟨j, 0, none⟩) hj _).setCell (p := ⟨j, 1, none⟩) hj _
  refine ⟨j, V.heap.size, rfl, h1.below ((Below.refl _ _).alloc (Nat.le_refl _) _), hj, ?_, by have := hZ.1; omega, hb2.alloc (by omega) _⟩
  have h2 := World.ownsRow_lit (base := w.heap.size) ((V.setCell ⟨j, 0, none⟩ x).setCell ⟨j, 1, none⟩ (.slice (some ⟨V.heap.size, 0, none⟩) n n)) mc n (e := 3) (size := 1) (by omega) hn hm
  rw [hz] at h2
  exact h2
theorem made_zero (low : Int) (n : Nat) : (madeCells (Value.cells (.int .i64 0)) (n * 1)).toList = intsV (listP (fun _ => 0) low n) := by
  rw [show Value.cells (.int .i64 0) = #[.int .i64 0] from rfl, toList_madeCells_one, listP_zero]
  simp [intsV]
theorem made_size (n : Nat) : (madeCells (Value.cells (.int .i64 0)) (n * 1)).size = n * 1 := by
  have h := made_zero 0 n
  have e : (madeCells (Value.cells (.int .i64 0)) (n * 1)).toList.length = n := by rw [h, intsV_len, listP_len]
  rw [Array.length_toList] at e
  omega

end Go.Proofs.Ytocklmiappppgaa

/- A law's answer from two polynomials: a region that draws its order, makes memory and lays a box. -/

namespace Go.Proofs.Ytocklmiappppgaa
open Go.RowKit

theorem ints_on {w c c' : World} {a : Option Addr} {n : Nat} {zs : List Int} (h : Ints w a n zs) (hw : Below w.heap.size w c) (hx : Below c.heap.size c c') : Ints c' a n zs := h.below (hw.trans (hx.mono hw.size))
theorem rowSet {w : World} {base j o : Nat} {v x : Value} {zs : List Int} (h : IntRow base w v zs) (hj : ∀ k, v.ownBlock = some k → j < k) : IntRow base (w.setCell ⟨j, o, none⟩ x) v zs := by
  unfold IntRow at h ⊢
  have h' := h
  rcases h.2 with ⟨rfl, h0⟩ | ⟨g, cap, cur, rfl, hb, _⟩
  · exact ⟨h.1, .inl ⟨rfl, h0⟩⟩
  · exact ownsRow_base (ownsRow_setCell_below (own_raise h') (a := ⟨j, o, none⟩) (hj g rfl) x) hb
/-- The answer (p, b) lies in a box, its coefficients in memory of their own. -/
def AnsMk (w wx : World) (s1 s2 : Value) (pl : Int) (pc : List Int) (L : Nat) (b : Bool) : Prop :=
  ∃ (j : Nat) (a : Option Addr) (c : Nat), s1 = .pointer (some ⟨j, 0, none⟩) ∧ s2 = .bool b ∧ BoxAt wx j (.int .i64 pl) (.slice a L c) ∧ w.heap.size ≤ j ∧ IntRow w.heap.size wx (.slice a L c) pc ∧ (∀ k, (Value.slice a L c).ownBlock = some k → k ≠ j) ∧ Below w.heap.size w wx
theorem ansA {w V : World} {a : Option Addr} {L c base : Nat} {pl : Int} {pc : List Int} {b : Bool} (hB : Below w.heap.size w V) (hr : IntRow base V (.slice a L c) pc) (hb : w.heap.size ≤ base) :
    AnsMk w (V.alloc (.cells #[.int .i64 pl, .slice a L c] 25)) (.pointer (some ⟨V.heap.size, 0, none⟩)) (.bool b) pl pc L b :=
  ⟨V.heap.size, a, c, rfl, rfl, boxNew rfl, hB.size, (hr.mono hb).below ((Below.refl _ _).alloc (Nat.le_refl _) _), fun k e => by have := own_lt hr k e; omega, hB.alloc hB.size _⟩
theorem ansC {w V : World} {a : Option Addr} {L c base j : Nat} {pl : Int} {pc : List Int} {b : Bool} (hB : Below w.heap.size w V) (hr : IntRow base V (.slice a L c) pc) (hb : w.heap.size ≤ base) (hZ : BoxZ V j) (hj : w.heap.size ≤ j) (hn : ∀ k, (Value.slice a L c).ownBlock = some k → j < k) :
    AnsMk w ((V.setCell ⟨j, 0, none⟩ (.int .i64 pl)).setCell ⟨j, 1, none⟩ (.slice a L c)) (.pointer (some ⟨j, 0, none⟩)) (.bool b) pl pc L b :=
  ⟨j, a, c, rfl, rfl, hZ.fill, hj, rowSet (rowSet (hr.mono hb) hn) hn, fun k e => by have := hn k e; omega, (hB.setCell (p := ⟨j, 0, none⟩) hj _).setCell (p := ⟨j, 1, none⟩) hj _⟩
theorem below_drewAlloc {b : Nat} {w w1 w2 : World} {o : Obj} (h : Below b w w1) (hs : b ≤ w1.heap.size) (hb : Below (w1.alloc o).drew.heap.size (w1.alloc o).drew w2) : Below b w w2 :=
  ((h.alloc hs o).drew).trans (hb.mono (by show b ≤ (w1.alloc o).heap.size; rw [World.size_alloc]; omega))

end Go.Proofs.Ytocklmiappppgaa

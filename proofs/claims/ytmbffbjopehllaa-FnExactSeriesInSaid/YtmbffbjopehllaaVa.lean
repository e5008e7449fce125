/- Derivatives of words as lists of terms in the order of letters; sums of such lists. -/
import Derived.Test.YtmbffbjopehllaaUb
namespace Go.Proofs.Ytmbffbjopehllaa
open Go.RowKit

/-- The term of one letter behind p. -/
def foxT (g c : Int) (p : List UInt8) (x : UInt8) : List Tm := if (idxB x : Int) = g then [⟨c * sgnB x, bstr (if 97 ≤ x.toNat then p else p ++ [x])⟩] else []
/-- The terms of the first k letters. -/
def foxN (g c : Int) (l : List UInt8) : Nat → List Tm
  | 0 => []
  | k + 1 => foxN g c l k ++ foxT g c (l.take k) (l.getD k 0)
def foxL (g c : Int) (l : List UInt8) : List Tm := foxN g c l l.length
theorem foxN_succ (g c : Int) (l : List UInt8) (k : Nat) (hk : k < l.length) : foxN g c l (k + 1) = foxN g c l k ++ foxT g c (l.take k) l[k] := by
  rw [foxN, List.getD_eq_getElem?_getD, List.getElem?_eq_getElem hk]; rfl
theorem foxT_no {g c : Int} {p : List UInt8} {x : UInt8} (h : (idxB x : Int) ≠ g) : foxT g c p x = [] := if_neg h
theorem foxT_hi {g c : Int} {p : List UInt8} {x : UInt8} (h : (idxB x : Int) = g) (hx : 97 ≤ x.toNat) : foxT g c p x = [⟨c * sgnB x, bstr p⟩] := by
  unfold foxT; rw [if_pos h, if_pos hx]
theorem foxT_lo {g c : Int} {p : List UInt8} {x : UInt8} (h : (idxB x : Int) = g) (hx : ¬ 97 ≤ x.toNat) : foxT g c p x = [⟨c * sgnB x, bstr (p ++ [x])⟩] := by
  unfold foxT; rw [if_pos h, if_neg hx]
theorem sgnB_bnd (x : UInt8) : -1 ≤ sgnB x ∧ sgnB x ≤ 1 := by unfold sgnB; split <;> omega
theorem mul_sgn {c C : Int} (hc : -C ≤ c ∧ c ≤ C) (x : UInt8) : -C ≤ c * sgnB x ∧ c * sgnB x ≤ C := by
  unfold sgnB; split <;> omega
theorem foxN_len (g c : Int) (l : List UInt8) : ∀ k, (foxN g c l k).length ≤ k
  | 0 => Nat.le_refl _
  | k + 1 => by
    have := foxN_len g c l k
    rw [foxN, List.length_append]
    have h2 : (foxT g c (l.take k) (l.getD k 0)).length ≤ 1 := by unfold foxT; split <;> simp
    omega
theorem foxN_mem {g c C : Int} (hc : -C ≤ c ∧ c ≤ C) {l : List UInt8} {t : Tm} : ∀ {k}, k ≤ l.length → t ∈ foxN g c l k → (-C ≤ t.c ∧ t.c ≤ C) ∧ ∃ j, j ≤ k ∧ t.s = bstr (l.take j)
  | 0, _, h => by cases h
  | k + 1, hk, h => by
    rw [foxN_succ g c l k (by omega)] at h
    rcases List.mem_append.1 h with h | h
    · obtain ⟨h1, j, hj, h2⟩ := foxN_mem hc (by omega) h
      exact ⟨h1, j, by omega, h2⟩
    · by_cases hi : (idxB l[k] : Int) = g
      · by_cases hx : 97 ≤ l[k].toNat
        · rw [foxT_hi hi hx] at h
          obtain rfl := List.mem_singleton.1 h
          exact ⟨mul_sgn hc _, k, by omega, rfl⟩
        · rw [foxT_lo hi hx] at h
          obtain rfl := List.mem_singleton.1 h
          refine ⟨mul_sgn hc _, k + 1, by omega, ?_⟩
          show bstr (l.take k ++ [l[k]]) = _
          rw [← take_snoc l k (by omega)]
      · rw [foxT_no hi] at h; cases h
theorem word_take {l : List UInt8} (h : wordB l = true) (j : Nat) : wordB (l.take j) = true := by
  obtain ⟨h1, h2, h3⟩ := (wordB_iff _).1 h
  refine (wordB_iff _).2 ⟨by rw [List.length_take]; omega, letL_of_mem _ _ h2 fun _ hc => List.mem_of_mem_take hc, (red_iff _).2 ?_⟩
  have := (red_iff _).1 h3
  rw [← List.take_append_drop j l] at this
  exact noC_left this

/-! ### Coefficients -/
def scaleT (c : Int) (ts : List Tm) : List Tm := ts.map fun t => ⟨c * t.c, t.s⟩
theorem coefAt_scale (s : ByteArray) (c : Int) : ∀ ts, coefAt s (scaleT c ts) = c * coefAt s ts
  | [] => by simp [scaleT, coefAt]
  | t :: r => by
    have ih := coefAt_scale s c r
    unfold scaleT at *
    rw [List.map_cons, coefAt, coefAt, ih, Int.mul_add]
    show (if t.s = s then c * t.c else 0) + _ = _
    split
    · rfl
    · simp
theorem foxT_scale (g c : Int) (p : List UInt8) (x : UInt8) : foxT g c p x = scaleT c (foxT g 1 p x) := by
  unfold foxT scaleT
  split
  · simp
  · rfl
theorem foxN_scale (g c : Int) (l : List UInt8) : ∀ k, foxN g c l k = scaleT c (foxN g 1 l k)
  | 0 => rfl
  | k + 1 => by
    rw [foxN, foxN, foxN_scale g c l k, foxT_scale]
    unfold scaleT; rw [List.map_append]
theorem foxL_scale (g c : Int) (l : List UInt8) : foxL g c l = scaleT c (foxL g 1 l) := foxN_scale g c l _
theorem coefAt_flat (s : ByteArray) {f h : Tm → List Tm} (hfh : ∀ t, coefAt s (f t) = coefAt s (h t)) : ∀ a : List Tm, coefAt s (a.flatMap f) = coefAt s (a.flatMap h)
  | [] => rfl
  | t :: r => by rw [List.flatMap_cons, List.flatMap_cons, coefAt_append, coefAt_append, hfh, coefAt_flat s hfh r]
theorem canonT_congr {a b : List Tm} (h : ∀ s, coefAt s a = coefAt s b) : canonT a = canonT b :=
  canonT_unique (canonT_spec a).1 fun s => by rw [(canonT_spec a).2, h]

/-- The terms of the derivative of a sum: as the program gathers them, and as the model does. -/
def foxI (g : Int) (a : List Tm) : List Tm := a.flatMap fun t => foxL g t.c t.s.data.toList
def foxM (g : Int) (a : List Tm) : List Tm := a.flatMap fun t => scaleT t.c (canonT (foxL g 1 t.s.data.toList))
theorem foxIM (g : Int) (a : List Tm) : canonT (foxM g a) = canonT (foxI g a) :=
  canonT_congr fun s => coefAt_flat s (fun t => by rw [coefAt_scale, (canonT_spec _).2, foxL_scale g t.c, coefAt_scale]) a

/-! ### Sizes -/
theorem fold_bound {C : Int} (hC : 0 ≤ C) : ∀ (ts acc : List Tm) (B : Int), 0 ≤ B → (∀ t ∈ ts, -C ≤ t.c ∧ t.c ≤ C) → (∀ u ∈ acc, -B ≤ u.c ∧ u.c ≤ B) → ∀ u ∈ ts.foldl addT acc, -(B + C * ts.length) ≤ u.c ∧ u.c ≤ B + C * ts.length
  | [], acc, B, _, _, h, u, hu => by have := h u hu; simpa using this
  | t :: r, acc, B, hB, ht, h, u, hu => by
    have h1 := fold_bound hC r (addT acc t) (B + C) (by omega) (fun v hv => ht v (by simp [hv])) (add_bound hC (ht t (by simp)) h hB) u hu
    rw [List.length_cons, show ((r.length + 1 : Nat) : Int) = (r.length : Int) + 1 by omega, Int.mul_add, Int.mul_one]
    omega
theorem fold_words : ∀ (ts acc : List Tm), ∀ u ∈ ts.foldl addT acc, (∃ v ∈ acc, v.s = u.s) ∨ ∃ v ∈ ts, v.s = u.s
  | [], acc, u, hu => .inl ⟨u, hu, rfl⟩
  | t :: r, acc, u, hu => by
    rcases fold_words r (addT acc t) u hu with ⟨v, hv, e⟩ | ⟨v, hv, e⟩
    · rcases add_words hv with h | ⟨x, hx, h⟩
      · exact .inr ⟨t, by simp, by rw [← h, e]⟩
      · exact .inl ⟨x, hx, by rw [h, e]⟩
    · exact .inr ⟨v, by simp [hv], e⟩
theorem canon_words {ts : List Tm} {u : Tm} (h : u ∈ canonT ts) : ∃ v ∈ ts, v.s = u.s := by
  rcases fold_words ts [] u h with ⟨v, hv, _⟩ | h
  · cases hv
  · exact h
theorem fold_len : ∀ (ts acc : List Tm), (ts.foldl addT acc).length ≤ acc.length + ts.length
  | [], acc => Nat.le_refl _
  | t :: r, acc => by
    have := fold_len r (addT acc t)
    have h2 := add_len t acc
    rw [List.length_cons]
    show (r.foldl addT (addT acc t)).length ≤ _
    omega
/-- A derivative of a word is a sum. -/
theorem fox_tw {g : Int} {l : List UInt8} (h : wordB l = true) : twB (canonT (foxL g 1 l)) = true := by
  have hl := ((wordB_iff _).1 h).1
  have hn := foxN_len g 1 l l.length
  have hlen : (canonT (foxL g 1 l)).length ≤ 60 := by
    have := fold_len (foxL g 1 l) []
    unfold foxL canonT at *
    simp only [List.length_nil] at this
    omega
  refine twB_of (by omega) fun j hj => ?_
  have hm := List.getElem_mem hj
  have hb := fold_bound (C := 1) (by omega) (foxL g 1 l) [] 0 (by omega) (fun t ht => (foxN_mem (C := 1) (by omega) (Nat.le_refl _) ht).1) (fun u hu => by cases hu) _ hm
  have hb2 : (foxL g 1 l).length ≤ 60 := by unfold foxL; omega
  obtain ⟨v, hv, e⟩ := canon_words hm
  obtain ⟨_, k, _, e2⟩ := foxN_mem (C := 1) (by omega) (Nat.le_refl _) hv
  unfold termB
  rw [← e, e2, bstr_toList, word_take h, Bool.true_and]
  unfold inR
  simp only [Bool.and_eq_true, decide_eq_true_eq]
  omega
theorem foxI_succ (g : Int) (a : List Tm) (k : Nat) (h : k < a.length) : foxI g (a.take (k + 1)) = foxI g (a.take k) ++ foxL g a[k].c a[k].s.data.toList := by
  unfold foxI; rw [List.take_succ_eq_append_getElem h, List.flatMap_append]; simp
theorem foxM_succ (g : Int) (a : List Tm) (k : Nat) (h : k < a.length) : foxM g (a.take (k + 1)) = foxM g (a.take k) ++ scaleT a[k].c (canonT (foxL g 1 a[k].s.data.toList)) := by
  unfold foxM; rw [List.take_succ_eq_append_getElem h, List.flatMap_append]; simp
theorem foxI_len (g : Int) : ∀ (a : List Tm), (∀ t ∈ a, t.s.size ≤ 60) → (foxI g a).length ≤ 60 * a.length
  | [], _ => by simp [foxI]
  | t :: r, h => by
    have ih := foxI_len g r fun u hu => h u (by simp [hu])
    have h1 := foxN_len g t.c t.s.data.toList t.s.data.toList.length
    have h2 := h t (by simp)
    unfold foxI foxL at *
    rw [List.flatMap_cons, List.length_append, List.length_cons]
    have h3 : t.s.data.toList.length = t.s.size := by simp
    omega
theorem foxI_mem {g : Int} {a : List Tm} (h : ∀ t ∈ a, t.s.size ≤ 60 ∧ -1000000 ≤ t.c ∧ t.c ≤ 1000000) {u : Tm} (hu : u ∈ foxI g a) : u.s.size ≤ 60 ∧ -1000000 ≤ u.c ∧ u.c ≤ 1000000 := by
  obtain ⟨t, ht, hu⟩ := List.mem_flatMap.1 hu
  obtain ⟨h1, h2⟩ := h t ht
  obtain ⟨h3, j, _, e⟩ := foxN_mem (C := 1000000) h2 (Nat.le_refl _) hu
  refine ⟨?_, h3⟩
  rw [e, bstr_size, List.length_take]
  have : t.s.data.toList.length = t.s.size := by simp
  omega

end Go.Proofs.Ytmbffbjopehllaa

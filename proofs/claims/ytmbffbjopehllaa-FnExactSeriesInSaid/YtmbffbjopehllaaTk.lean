/- Lists of terms in order, without equal words and without coefficients 0: there is just one such list to given sums of coefficients. -/
import Derived.Test.YtmbffbjopehllaaTg
namespace Go.Proofs.Ytmbffbjopehllaa
open Go.RowKit

theorem bl_irrefl : ∀ a : List UInt8, Op.bytesLess a a = false
  | [] => rfl
  | c :: r => by unfold Op.bytesLess; simp [bl_irrefl r, UInt8.lt_irrefl]
theorem bl_trans : ∀ a b c : List UInt8, Op.bytesLess a b = true → Op.bytesLess b c = true → Op.bytesLess a c = true
  | _, [], _, h, _ => by unfold Op.bytesLess at h; cases h
  | _, _ :: _, [], _, h => by unfold Op.bytesLess at h; cases h
  | [], _ :: _, _ :: _, _, _ => rfl
  | x :: a, y :: b, z :: c, h1, h2 => by
    unfold Op.bytesLess at *
    simp only [Bool.or_eq_true, Bool.and_eq_true, decide_eq_true_eq, beq_iff_eq, UInt8.lt_iff_toNat_lt, ← UInt8.toNat_inj] at *
    rcases h1 with h1 | ⟨h1, h1'⟩
    · rcases h2 with h2 | ⟨h2, _⟩
      · exact .inl (by omega)
      · exact .inl (by omega)
    · rcases h2 with h2 | ⟨h2, h2'⟩
      · exact .inl (by omega)
      · exact .inr ⟨by omega, bl_trans a b c h1' h2'⟩
theorem bl_tri : ∀ a b : List UInt8, Op.bytesLess a b = false → Op.bytesLess b a = false → a = b
  | [], [], _, _ => rfl
  | [], _ :: _, h, _ => by unfold Op.bytesLess at h; cases h
  | _ :: _, [], _, h => by unfold Op.bytesLess at h; cases h
  | x :: a, y :: b, h1, h2 => by
    unfold Op.bytesLess at h1 h2
    simp only [Bool.or_eq_false_iff, Bool.and_eq_false_iff, decide_eq_false_iff_not, beq_eq_false_iff_ne, UInt8.lt_iff_toNat_lt, ne_eq, ← UInt8.toNat_inj] at h1 h2
    have e : x = y := UInt8.toNat_inj.1 (by omega)
    subst e
    have q1 : Op.bytesLess a b = false := by rcases h1.2 with h | h; exact absurd rfl h; exact h
    have q2 : Op.bytesLess b a = false := by rcases h2.2 with h | h; exact absurd rfl h; exact h
    rw [bl_tri a b q1 q2]

theorem lessW_irrefl (a : ByteArray) : lessW a a = false := by unfold lessW; rw [if_pos rfl]; exact bl_irrefl _
theorem lessW_trans {a b c : ByteArray} (h1 : lessW a b = true) (h2 : lessW b c = true) : lessW a c = true := by
  unfold lessW at *
  by_cases e1 : a.size = b.size <;> by_cases e2 : b.size = c.size
  · rw [if_pos e1] at h1; rw [if_pos e2] at h2; rw [if_pos (by omega)]; exact bl_trans _ _ _ h1 h2
  · rw [if_neg e2] at h2; simp only [decide_eq_true_eq] at h2; rw [if_neg (by omega)]; exact decide_eq_true (by omega)
  · rw [if_neg e1] at h1; simp only [decide_eq_true_eq] at h1; rw [if_neg (by omega)]; exact decide_eq_true (by omega)
  · rw [if_neg e1] at h1; rw [if_neg e2] at h2; simp only [decide_eq_true_eq] at h1 h2; rw [if_neg (by omega)]; exact decide_eq_true (by omega)
theorem bytes_ext2 {a b : ByteArray} (h : a.toList = b.toList) : a = b := by
  rw [ByteArray.toList_eq, ByteArray.toList_eq] at h
  have : a.data = b.data := Array.toList_inj.1 h
  cases a; cases b; simpa using this
theorem lessW_tri {a b : ByteArray} (h1 : lessW a b = false) (h2 : lessW b a = false) : a = b := by
  unfold lessW at *
  by_cases e : a.size = b.size
  · rw [if_pos e] at h1; rw [if_pos e.symm] at h2; exact bytes_ext2 (bl_tri _ _ h1 h2)
  · rw [if_neg e] at h1; rw [if_neg (fun h => e h.symm)] at h2; simp only [decide_eq_false_iff_not] at h1 h2; omega
theorem lessW_asymm {a b : ByteArray} (h : lessW a b = true) : lessW b a = false := by
  cases h2 : lessW b a with
  | false => rfl
  | true => have := lessW_trans h h2; rw [lessW_irrefl] at this; cases this
theorem lessW_ne {a b : ByteArray} (h : lessW a b = true) : a ≠ b := by rintro rfl; rw [lessW_irrefl] at h; cases h

/-- The sum of the coefficients of a word. -/
def coefAt (s : ByteArray) : List Tm → Int
  | [] => 0
  | t :: r => (if t.s = s then t.c else 0) + coefAt s r
theorem coefAt_append (s : ByteArray) (a b : List Tm) : coefAt s (a ++ b) = coefAt s a + coefAt s b := by
  induction a with
  | nil => simp [coefAt]
  | cons t r ih => rw [List.cons_append, coefAt, coefAt, ih]; omega
theorem coefAt_perm (s : ByteArray) {a b : List Tm} (h : a.Perm b) : coefAt s a = coefAt s b := by
  induction h with
  | nil => rfl
  | cons t _ ih => rw [coefAt, coefAt, ih]
  | swap t u l => simp only [coefAt]; omega
  | trans _ _ i1 i2 => rw [i1, i2]

/-- In order, no word twice, no coefficient 0. -/
def Canon (ts : List Tm) : Prop := ts.Pairwise (fun a b => lessW a.s b.s = true) ∧ ∀ t ∈ ts, t.c ≠ 0
theorem coefAt_none {s : ByteArray} {ts : List Tm} (h : ∀ t ∈ ts, t.s ≠ s) : coefAt s ts = 0 := by
  induction ts with
  | nil => rfl
  | cons t r ih => rw [coefAt, if_neg (h t (by simp)), ih fun u hu => h u (by simp [hu])]; rfl
theorem canon_unique : ∀ {a b : List Tm}, Canon a → Canon b → (∀ s, coefAt s a = coefAt s b) → a = b
  | [], [], _, _, _ => rfl
  | [], y :: b, _, hb, h => by
    have h1 := h y.s
    rw [coefAt, coefAt, if_pos rfl, coefAt_none fun t ht => (lessW_ne ((List.pairwise_cons.1 hb.1).1 t ht)).symm] at h1
    exact absurd (by omega) (hb.2 y (by simp))
  | x :: a, [], ha, _, h => by
    have h1 := h x.s
    rw [coefAt, coefAt, if_pos rfl, coefAt_none fun t ht => (lessW_ne ((List.pairwise_cons.1 ha.1).1 t ht)).symm] at h1
    exact absurd (by omega) (ha.2 x (by simp))
  | x :: a, y :: b, ha, hb, h => by
    obtain ⟨a1, a2⟩ := List.pairwise_cons.1 ha.1
    obtain ⟨b1, b2⟩ := List.pairwise_cons.1 hb.1
    have na : coefAt x.s a = 0 := coefAt_none fun t ht => (lessW_ne (a1 t ht)).symm
    have nb : coefAt y.s b = 0 := coefAt_none fun t ht => (lessW_ne (b1 t ht)).symm
    have e : x.s = y.s := by
      cases h1 : lessW x.s y.s with
      | true =>
        have h2 := h x.s
        rw [coefAt, coefAt, if_pos rfl, if_neg (fun e => lessW_ne h1 e.symm), na, coefAt_none fun t ht => (lessW_ne (lessW_trans h1 (b1 t ht))).symm] at h2
        exact absurd (by omega) (ha.2 x (by simp))
      | false =>
        cases h3 : lessW y.s x.s with
        | true =>
          have h2 := h y.s
          rw [coefAt, coefAt, if_pos rfl, if_neg (fun e => lessW_ne h3 e.symm), nb, coefAt_none fun t ht => (lessW_ne (lessW_trans h3 (a1 t ht))).symm] at h2
          exact absurd (by omega) (hb.2 y (by simp))
        | false => exact lessW_tri h1 h3
    have ec : x.c = y.c := by
      have h2 := h x.s
      rw [coefAt, coefAt, if_pos rfl, if_pos e.symm, na, e, nb] at h2
      omega
    have et : x = y := by cases x; cases y; simp at e ec; rw [e, ec]
    subst et
    have := canon_unique ⟨a2, fun t ht => ha.2 t (by simp [ht])⟩ ⟨b2, fun t ht => hb.2 t (by simp [ht])⟩ (fun s => by
      have h2 := h s
      rw [coefAt, coefAt] at h2
      omega)
    rw [this]

/-- A term is left out if its coefficient is 0. -/
def nz (t : Tm) : List Tm := if t.c = 0 then [] else [t]
/-- A term is added to a list in order. -/
def addT : List Tm → Tm → List Tm
  | [], t => nz t
  | x :: r, t => if lessW x.s t.s then x :: addT r t else if x.s = t.s then nz ⟨t.c + x.c, t.s⟩ ++ r else nz t ++ x :: r
theorem coefAt_nz (s : ByteArray) (t : Tm) : coefAt s (nz t) = if t.s = s then t.c else 0 := by
  unfold nz
  by_cases h : t.c = 0
  · rw [if_pos h, h]; simp [coefAt]
  · rw [if_neg h]; simp [coefAt]
theorem coefAt_add (s : ByteArray) (t : Tm) : ∀ ts, coefAt s (addT ts t) = coefAt s ts + if t.s = s then t.c else 0
  | [] => by rw [addT, coefAt_nz, coefAt]; omega
  | x :: r => by
    rw [addT]
    by_cases h : lessW x.s t.s = true
    · rw [if_pos h, coefAt, coefAt, coefAt_add s t r]; omega
    · rw [if_neg h]
      by_cases h2 : x.s = t.s
      · rw [if_pos h2, coefAt_append, coefAt_nz, coefAt, h2]
        by_cases h3 : t.s = s
        · simp only [h3, if_true]; omega
        · simp only [h3, if_false]; omega
      · rw [if_neg h2, coefAt_append, coefAt_nz]; omega
theorem nz_mem {t u : Tm} (h : u ∈ nz t) : u = t ∧ t.c ≠ 0 := by
  unfold nz at h
  split at h
  · cases h
  · exact ⟨List.mem_singleton.1 h, by assumption⟩
theorem add_words {t : Tm} : ∀ {ts : List Tm} {u : Tm}, u ∈ addT ts t → u.s = t.s ∨ ∃ v ∈ ts, v.s = u.s
  | [], u, h => by rw [addT] at h; exact .inl (by rw [(nz_mem h).1])
  | x :: r, u, h => by
    rw [addT] at h
    split at h
    · rcases List.mem_cons.1 h with rfl | h
      · exact .inr ⟨_, by simp, rfl⟩
      · rcases add_words h with h | ⟨v, hv, e⟩
        · exact .inl h
        · exact .inr ⟨v, by simp [hv], e⟩
    · split at h
      · rcases List.mem_append.1 h with h | h
        · exact .inl (by rw [(nz_mem h).1])
        · exact .inr ⟨u, by simp [h], rfl⟩
      · rcases List.mem_append.1 h with h | h
        · exact .inl (by rw [(nz_mem h).1])
        · exact .inr ⟨u, h, rfl⟩
theorem canon_add {t : Tm} : ∀ {ts : List Tm}, Canon ts → Canon (addT ts t)
  | [], _ => by
    rw [addT]
    unfold nz
    split
    · exact ⟨List.Pairwise.nil, fun t h => by cases h⟩
    · exact ⟨by simp, fun u h => by rw [List.mem_singleton.1 h]; assumption⟩
  | x :: r, h => by
    obtain ⟨h1, h2⟩ := List.pairwise_cons.1 h.1
    have hr : Canon r := ⟨h2, fun u hu => h.2 u (by simp [hu])⟩
    rw [addT]
    by_cases hl : lessW x.s t.s = true
    · rw [if_pos hl]
      have ih := canon_add (t := t) hr
      refine ⟨List.pairwise_cons.2 ⟨fun u hu => ?_, ih.1⟩, fun u hu => ?_⟩
      · rcases add_words hu with e | ⟨v, hv, e⟩
        · rw [e]; exact hl
        · rw [← e]; exact h1 v hv
      · rcases List.mem_cons.1 hu with rfl | hu
        · exact h.2 _ (by simp)
        · exact ih.2 u hu
    · rw [if_neg hl]
      by_cases h3 : x.s = t.s
      · rw [if_pos h3]
        refine ⟨List.pairwise_append.2 ⟨?_, h2, fun u hu v hv => ?_⟩, fun u hu => ?_⟩
        · unfold nz; split <;> simp
        · rw [(nz_mem hu).1]; show lessW t.s v.s = true; rw [← h3]; exact h1 v hv
        · rcases List.mem_append.1 hu with hu | hu
          · obtain ⟨e, h4⟩ := nz_mem hu; rw [e]; exact h4
          · exact hr.2 u hu
      · rw [if_neg h3]
        have hlt : lessW t.s x.s = true := by
          cases h4 : lessW t.s x.s with
          | true => rfl
          | false => exact absurd (lessW_tri (by simpa using hl) h4) h3
        refine ⟨List.pairwise_append.2 ⟨?_, h.1, fun u hu v hv => ?_⟩, fun u hu => ?_⟩
        · unfold nz; split <;> simp
        · rw [(nz_mem hu).1]
          rcases List.mem_cons.1 hv with rfl | hv
          · exact hlt
          · exact lessW_trans hlt (h1 v hv)
        · rcases List.mem_append.1 hu with hu | hu
          · obtain ⟨e, h4⟩ := nz_mem hu; rw [e]; exact h4
          · exact h.2 u hu

/-- The sum of terms in any order. -/
def canonT (ts : List Tm) : List Tm := ts.foldl addT []
theorem canon_foldl : ∀ (ts acc : List Tm), Canon acc → Canon (ts.foldl addT acc) ∧ ∀ s, coefAt s (ts.foldl addT acc) = coefAt s acc + coefAt s ts
  | [], acc, h => ⟨h, fun s => by simp [coefAt]⟩
  | t :: r, acc, h => by
    obtain ⟨h1, h2⟩ := canon_foldl r (addT acc t) (canon_add h)
    refine ⟨h1, fun s => ?_⟩
    rw [List.foldl_cons, h2, coefAt_add, coefAt]
    omega
theorem canonT_spec (ts : List Tm) : Canon (canonT ts) ∧ ∀ s, coefAt s (canonT ts) = coefAt s ts := by
  obtain ⟨h1, h2⟩ := canon_foldl ts [] ⟨List.Pairwise.nil, fun t h => by cases h⟩
  exact ⟨h1, fun s => by rw [canonT, h2, coefAt]; omega⟩
theorem canonT_unique {ts us : List Tm} (h : Canon us) (he : ∀ s, coefAt s us = coefAt s ts) : us = canonT ts :=
  canon_unique h (canonT_spec ts).1 fun s => by rw [he, (canonT_spec ts).2]

/-- Equal neighbours joined: what stands at the end takes the next one in. -/
def pushT (acc : List Tm) (t : Tm) : List Tm :=
  match acc.getLast? with
  | some l => if l.s = t.s then acc.dropLast ++ [⟨l.c + t.c, l.s⟩] else acc ++ [t]
  | none => acc ++ [t]
def mergeT (ts : List Tm) : List Tm := ts.foldl pushT []

theorem push_nil (t : Tm) : pushT [] t = [t] := rfl
theorem push_last (a : List Tm) (l t : Tm) : pushT (a ++ [l]) t = if l.s = t.s then a ++ [⟨l.c + t.c, l.s⟩] else a ++ [l] ++ [t] := by
  unfold pushT; simp
theorem coefAt_push (s : ByteArray) (a : List Tm) (t : Tm) : coefAt s (pushT a t) = coefAt s a + if t.s = s then t.c else 0 := by
  rcases List.eq_nil_or_concat a with rfl | ⟨b, l, rfl⟩
  · rw [push_nil]; simp [coefAt]
  · rw [List.concat_eq_append, push_last]
    by_cases h : l.s = t.s
    · rw [if_pos h, coefAt_append, coefAt_append]
      simp only [coefAt]
      rw [h]
      by_cases h2 : t.s = s
      · simp only [h2, if_true]; omega
      · simp only [h2, if_false]; omega
    · rw [if_neg h, coefAt_append]
      simp only [coefAt]; omega

/-- What was gathered is in order, and its last word is not greater than what comes. -/
theorem merge_foldl : ∀ (ts acc : List Tm), acc.Pairwise (fun a b => lessW a.s b.s = true) → ts.Pairwise (fun a b => lessW b.s a.s = false) → (∀ l, acc.getLast? = some l → ∀ t ∈ ts, lessW t.s l.s = false) →
    (ts.foldl pushT acc).Pairwise (fun a b => lessW a.s b.s = true) ∧ ∀ s, coefAt s (ts.foldl pushT acc) = coefAt s acc + coefAt s ts
  | [], acc, h, _, _ => ⟨h, fun s => by simp [coefAt]⟩
  | t :: r, acc, h, hts, hl => by
    obtain ⟨t1, t2⟩ := List.pairwise_cons.1 hts
    have hp : (pushT acc t).Pairwise (fun a b => lessW a.s b.s = true) ∧ ∃ l, (pushT acc t).getLast? = some l ∧ l.s = t.s := by
      rcases List.eq_nil_or_concat acc with rfl | ⟨b, l, rfl⟩
      · rw [push_nil]; exact ⟨by simp, t, rfl, rfl⟩
      · rw [List.concat_eq_append] at *
        rw [push_last]
        obtain ⟨p1, _, p3⟩ := List.pairwise_append.1 h
        by_cases e : l.s = t.s
        · rw [if_pos e]
          exact ⟨List.pairwise_append.2 ⟨p1, by simp, fun u hu v hv => by rw [List.mem_singleton.1 hv]; show lessW u.s l.s = true; exact p3 u hu l (List.mem_singleton.2 rfl)⟩, ⟨l.c + t.c, l.s⟩, by simp, e⟩
        · rw [if_neg e]
          have hlt : lessW l.s t.s = true := by
            cases h4 : lessW l.s t.s with
            | true => rfl
            | false => exact absurd (lessW_tri h4 (hl l (by simp) t (by simp))) e
          refine ⟨List.pairwise_append.2 ⟨h, by simp, fun u hu v hv => ?_⟩, t, by simp, rfl⟩
          rw [List.mem_singleton.1 hv]
          rcases List.mem_append.1 hu with hu | hu
          · exact lessW_trans (p3 u hu l (by simp)) hlt
          · rw [List.mem_singleton.1 hu]; exact hlt
    obtain ⟨l, hll, hls⟩ := hp.2
    obtain ⟨q1, q2⟩ := merge_foldl r (pushT acc t) hp.1 t2 (fun l' hl' u hu => by
      rw [hll] at hl'; cases hl'
      rw [hls]; exact t1 u hu)
    refine ⟨q1, fun s => ?_⟩
    rw [List.foldl_cons, q2, coefAt_push, coefAt]
    omega
theorem coefAt_filter (s : ByteArray) : ∀ ts : List Tm, coefAt s (ts.filter fun t => !(t.c == 0)) = coefAt s ts
  | [] => rfl
  | t :: r => by
    rw [List.filter_cons]
    by_cases h : t.c = 0
    · simp only [h, beq_self_eq_true, Bool.not_true, Bool.false_eq_true, if_false]
      rw [coefAt_filter s r, coefAt, h]; simp
    · have : (!(t.c == 0)) = true := by simpa using h
      rw [if_pos this, coefAt, coefAt, coefAt_filter s r]
/-- **What the program gathers is the model's sum.** -/
theorem gathered_eq {ts ss : List Tm} (hp : ss.Perm ts) (hs : ss.Pairwise (fun a b => lessW b.s a.s = false)) : (mergeT ss).filter (fun t => !(t.c == 0)) = canonT ts := by
  obtain ⟨h1, h2⟩ := merge_foldl ss [] List.Pairwise.nil hs (fun l h => by cases h)
  refine canonT_unique ⟨h1.sublist List.filter_sublist, fun t ht => ?_⟩ fun s => ?_
  · have := (List.mem_filter.1 ht).2
    simpa using this
  · rw [coefAt_filter]
    unfold mergeT
    rw [h2, coefAt, coefAt_perm s hp]
    omega

end Go.Proofs.Ytmbffbjopehllaa

/- The contract of the model's 'l2Add'. -/
import Derived.Test.YtmbffbjopehllaaTk
namespace Go.Proofs.Ytmbffbjopehllaa
open Go.RowKit Go.Shelf

theorem termsV_cells {w : World} {x : Addr} {ts : List Tm} (h : TermsAt w x ts) : ∀ j u, (termsV ts)[j]? = some u → w.cell? (x.add j) = some u := fun j u hu => by
  have hj : j < ts.length * 2 := by rw [← termsV_len]; exact (List.getElem?_eq_some_iff.1 hu).1
  have hg := termsV_get ts (j / 2) (by omega)
  have hc := h.2 (j / 2) (by omega)
  rcases Nat.mod_two_eq_zero_or_one j with e | e
  · have e2 : j / 2 * 2 = j := by omega
    rw [e2] at hg hc
    rw [hg.1] at hu; cases hu; exact hc.1
  · have e2 : j / 2 * 2 + 1 = j := by omega
    rw [e2] at hg hc
    rw [hg.2] at hu; cases hu; exact hc.2
theorem TermsAt.cells {w : World} {x : Addr} {ts : List Tm} (h : TermsAt w x ts) : ∀ j u, (termsV ts)[j]? = some u → w.cell? (x.add j) = some u := termsV_cells h
theorem TermsAt.takeAt {w : World} {x : Addr} {ts : List Tm} (h : TermsAt w x ts) (k : Nat) : TermsAt w x (ts.take k) :=
  ⟨h.1, fun i hi => by
    simp only [List.length_take] at hi
    rw [List.getElem_take]
    exact h.2 i (by omega)⟩
theorem TermsAt.dropAt {w : World} {g : Nat} {ts : List Tm} (h : TermsAt w ⟨g, 0, none⟩ ts) (k : Nat) : TermsAt w ⟨g, k * 2, none⟩ (ts.drop k) := by
  refine ⟨h.1, fun i hi => ?_⟩
  simp only [List.length_drop] at hi
  have ha : ∀ o j, (⟨g, o, none⟩ : Addr).add j = ⟨g, o + j, none⟩ := fun o j => by unfold Addr.add; split <;> simp_all
  have := h.2 (k + i) (by omega)
  rw [ha, ha] at this
  rw [ha, ha, List.getElem_drop, show k * 2 + i * 2 = 0 + (k + i) * 2 by omega, show k * 2 + (i * 2 + 1) = 0 + ((k + i) * 2 + 1) by omega]
  exact this
theorem oneCell_terms (ts : List Tm) : ∀ u ∈ termsV ts, u.oneCell' = true := by
  induction ts with
  | nil => intro u h; cases h
  | cons t r ih =>
    intro u h
    rw [termsV_cons] at h
    rcases List.mem_cons.1 h with rfl | h
    · rfl
    · rcases List.mem_cons.1 h with rfl | h
      · rfl
      · exact ih u h
theorem notNil {w : World} {base n : Nat} {e : TypeId} {size : Nat} {v : Value} {xs : List Value} (h : w.ownsRow base e size v n xs) (hn : v ≠ .slice none 0 0) : ∃ g cap, base ≤ g ∧ v = .slice (some ⟨g, 0, none⟩) n cap := by
  rcases h.2 with ⟨e, _⟩ | ⟨g, cap, cur, e, hb, _⟩
  · exact absurd e hn
  · exact ⟨g, cap, hb, e⟩
theorem cell_pair_new (w : World) (a b : Value) (t : TypeId) : ∀ j u, [a, b][j]? = some u → (w.alloc (.cells #[a, b] t)).cell? ((⟨w.heap.size, 0, none⟩ : Addr).add j) = some u := fun j u hu => by
  have ha : (⟨w.heap.size, 0, none⟩ : Addr).add j = ⟨w.heap.size, j, none⟩ := by unfold Addr.add; split <;> simp_all
  rw [ha, World.cell?_alloc_at _ _ _ _ rfl]
  match j, hu with
  | 0, hu => cases hu; rfl
  | 1, hu => cases hu; rfl
  | j + 2, hu => simp at hu

/-- A slice of the call's own that holds terms, not nil. -/
def OwnTerms (base : Nat) (w : World) (v : Value) (ts : List Tm) : Prop := ∃ g cap, v = .slice (some ⟨g, 0, none⟩) ts.length cap ∧ w.ownsRow base TI 2 v ts.length (termsV ts)
theorem addEnd {w w3 : World} {base g3 cap3 n m : Nat} {xs : List Value} {us : List Tm} (hB : Below base w w3) (h : w3.ownsRow base TI 2 (.slice (some ⟨g3, 0, none⟩) m cap3) m xs) (hm : m = us.length) (he : xs = termsV us) (hn : n = us.length) :
    (∃ v, Ending.returned (.slice (some ⟨g3, 0, none⟩) n cap3) = .returned v ∧ OwnTerms base w3 v us) ∧ Below base w w3 := by
  subst hm he hn
  exact ⟨⟨_, rfl, g3, cap3, rfl, h⟩, hB⟩

theorem addT_less : ∀ {ts : List Tm} {t : Tm} {k : Nat}, (∀ j (h : j < ts.length), j < k → lessW ts[j].s t.s = true) → k ≤ ts.length → addT ts t = ts.take k ++ addT (ts.drop k) t
  | _, _, 0, _, _ => by simp
  | [], _, k + 1, _, hk => by simp at hk
  | x :: r, t, k + 1, h, hk => by
    have h0 := h 0 (by simp) (by omega)
    have ih := addT_less (ts := r) (t := t) (k := k) (fun j hj hjk => by have := h (j + 1) (by simpa using hj) (by omega); simpa using this) (by simpa using hk)
    rw [List.take_succ_cons, List.drop_succ_cons, addT, if_pos (by simpa using h0), ih]
    rfl
theorem addT_end {ts : List Tm} {t : Tm} (h : ∀ j (h : j < ts.length), lessW ts[j].s t.s = true) : addT ts t = ts ++ nz t := by
  rw [addT_less (k := ts.length) (fun j hj _ => h j hj) (Nat.le_refl _), List.drop_length, List.take_length]
  rfl
theorem addT_at {ts : List Tm} {t u : Tm} {k : Nat} (hk : k < ts.length) (h : ∀ j (h : j < ts.length), j < k → lessW ts[j].s t.s = true) (hu : ts[k] = u) (hl : lessW u.s t.s = false) :
    addT ts t = ts.take k ++ (if u.s = t.s then nz ⟨t.c + u.c, t.s⟩ ++ ts.drop (k + 1) else nz t ++ ts.drop k) := by
  rw [addT_less h (Nat.le_of_lt hk), List.drop_eq_getElem_cons hk, hu, addT, if_neg (by rw [hl]; simp)]
theorem cat0 (a b : List Tm) : [] ++ termsV a ++ termsV b = termsV (a ++ ([] ++ b)) := by rw [List.nil_append, List.nil_append, termsV_append]
theorem cat1 (a b : List Tm) (c : Int) (s : ByteArray) : [] ++ termsV a ++ [.int .i64 c, .string s] ++ termsV b = termsV (a ++ ([⟨c, s⟩] ++ b)) := by rw [List.nil_append, termsV_append, termsV_append, List.append_assoc]; rfl
theorem cat2 (a b : List Tm) : termsV a ++ termsV b = termsV (a ++ ([] ++ b)) := cat0 a b
theorem cat3 (a b : List Tm) (c : Int) (s : ByteArray) : termsV a ++ .int .i64 c :: .string s :: termsV b = termsV (a ++ ([⟨c, s⟩] ++ b)) := by rw [termsV_append, termsV_append]; rfl
theorem lenCat0 (ts : List Tm) (k j : Nat) (hk : k ≤ ts.length) : (ts.take k ++ ([] ++ ts.drop j)).length = k + (ts.length - j) := by
  rw [List.length_append, List.nil_append, List.length_take, List.length_drop, Nat.min_eq_left hk]
theorem lenCat1 (ts : List Tm) (k j : Nat) (x : Tm) (hk : k ≤ ts.length) : (ts.take k ++ ([x] ++ ts.drop j)).length = k + (1 + (ts.length - j)) := by
  rw [List.length_append, List.length_append, List.length_take, List.length_drop, Nat.min_eq_left hk]; rfl
theorem len_nz0 {t : Tm} (h : t.c = 0) : nz t = [] := if_pos h
theorem len_nz1 {t : Tm} (h : t.c ≠ 0) : nz t = [t] := if_neg h

set_option maxRecDepth 100000 in
set_option maxHeartbeats 8000000 in
theorem l2Add_any (g cap n : Nat) (ts : List Tm) (c : Int) (s : ByteArray) (w : World) (hlen : ts.length = n) (hn : n ≤ 200000) (hx : TermsAt w ⟨g, 0, none⟩ ts) (hcap : n ≤ cap) (hcm : cap ≤ maxLen)
    (hc1 : -4000000000000000000 ≤ c) (hc2 : c ≤ 4000000000000000000) (hts : ∀ t ∈ ts, -4000000000000000000 ≤ t.c ∧ t.c ≤ 4000000000000000000) :
    Calls Try.prog 72 #[.slice (some ⟨g, 0, none⟩) n cap, .int .i64 c, .string s] w fun e w' => (∃ v, e = .returned v ∧ OwnTerms w.heap.size w' v (addT ts ⟨c, s⟩)) ∧ Below w.heap.size w w' := by
  obtain ⟨i0, hi, hz0, hz1, hz2⟩ := info_parts infoTerm
  have HN := Lib.hid hlen
  have HX := Lib.hid hx
  have HTs := Lib.hid hts
  have hmade := World.ownsRow_made (base := w.heap.size) (e := TI) (size := 2) w #[] 0 (Nat.le_refl _) (Nat.zero_le _) rfl
  have HLt : Hid (∀ k, k ≤ n → (termsV (ts.take k)).length = k * 2) := Lib.hid (fun k hk => by rw [termsV_len, List.length_take, Nat.min_eq_left (by omega)])
  have HCt : Hid (∀ k j u, (termsV (ts.take k))[j]? = some u → (w.alloc (.cells #[] TI)).cell? ((⟨g, 0, none⟩ : Addr).add j) = some u) := Lib.hid (fun k j u hu => by
    have h := ((hx.takeAt k).cells j u hu)
    exact (World.cell?_alloc_lt _ _ _ (World.block_lt_of_cell? _ _ h)).trans h)
  clear hlen hx hts
  unfold maxLen at hcm
  go_enter Try.func72, Try.ntmps72
  go_wp2
  go_loop [7] (fun i => ∃ k : Nat, k ≤ n ∧ i = .int .i64 k ∧ Hid (∀ j (h : j < ts.length), j < k → lessW ts[j].s s = true)) (fun i => n - (intOf i).toNat)
  case atStart => exact ⟨0, Nat.zero_le _, rfl, Lib.hid (fun j _ h => absurd h (Nat.not_lt_zero _))⟩
  case round =>
    obtain ⟨k, hk, rfl, HJ⟩ := hrel
    by_cases hlt : k < n
    · have hkz : k < ts.length := by rw [HN.out]; exact hlt
      obtain ⟨t, ht⟩ : ∃ t, ts[k] = t := ⟨_, rfl⟩
      have hcc := HTs.out t (by rw [← ht]; exact List.getElem_mem hkz)
      obtain ⟨hc3, hc4⟩ := hcc
      have ha : ∀ j, (⟨g, 0, none⟩ : Addr).add j = ⟨g, j, none⟩ := fun j => by unfold Addr.add; split <;> simp_all
      have hcl := HX.out.2 k hkz
      rw [ht, ha, ha] at hcl
      obtain ⟨q0, q1⟩ := hcl
      have HT := Lib.hid ht
      clear ht ha
      cases hl : lessW t.s s with
      | true =>
        have HL := Lib.hid hl
        clear hl
        go_wp2_with fail
        refine (l2Less_any _ _ _).mono ?_
        rintro e w' ⟨rfl, rfl⟩
        have hll := HL.out
        rw [hll]
        clear hll
        go_wp2
        go_round
        case rel =>
          refine ⟨k + 1, by omega, by go_num, Lib.hid ?_⟩
          intro j hj hjk
          by_cases e : j = k
          · subst e; rw [HT.out]; exact HL.out
          · exact HJ.out j hj (by omega)
        case measure => simp [intOf]; omega
      | false =>
        have HL := Lib.hid hl
        have hck : ¬ cap = k := by omega
        clear hl
        have HA := Lib.hid (fun c' => addT_at (t := ⟨c', s⟩) hkz HJ.out HT.out HL.out)
        by_cases hts : t.s = s
        · have HS := Lib.hid hts
          have hst : (t.s.toList == s.toList) = true := by rw [hts]; simp
          clear hts
          obtain ⟨z, hz⟩ : ∃ z, c + t.c = z := ⟨_, rfl⟩
          have hwz : IntKind.i64.wrap (c + t.c) = z := by rw [IntWalk.i64_in _ (by omega)]; exact hz
          have HZ := Lib.hid hz
          clear hz
          by_cases hz0 : z = 0
          · have HZ0 := Lib.hid hz0
            have hzb : (z != 0) = false := by rw [hz0]; rfl
            clear hz0
            by_cases hck1 : cap = k + 1
            · obtain rfl : n = k + 1 := by omega
              subst hck1
              go_wp2_with fail
              refine (l2Less_any _ _ _).mono ?_
              rintro e w' ⟨rfl, rfl⟩
              have hll := HL.out
              rw [hll]
              clear hll

              go_wp2_with (at_builtin; refine wpList_append_own _ rfl _ _ 25 rfl w.heap.size TI i0 (.agg #[.int .i64 0, .string ByteArray.empty]) 2 24 Try.underlying25 hi hz0 hz1 hz2 rfl (by decide) _ _ _ rfl hmade ⟨g, 0, none⟩ k (k + 1) (termsV (ts.take k)) rfl (HLt.out k (by omega)) (HCt.out k) (oneCell_terms _) (by unfold maxLen; omega) (by omega) (by simp) ?_)
              intro v1 w1 hown1 hgrow1 hnil1
              obtain ⟨g1, cap1, hg1b, rfl⟩ := notNil hown1 hnil1
              have hB1 : Below w.heap.size w w1 := ((Below.refl _ w).alloc (Nat.le_refl _) _).grown hgrow1 (by simp) (fun j ej => by cases ej; exact Nat.le_refl _)
              have HX1 := Lib.hid (HX.out.below hB1)
              have HO1 := Lib.hid hown1
              clear hown1 hgrow1 hnil1

              have r0 := (hB1.cell (p := ⟨g, k * 2, none⟩) HX.out.1).trans q0
              have r1 := (hB1.cell (p := ⟨g, k * 2 + 1, none⟩) HX.out.1).trans q1

              go_wp2_with (at_builtin; refine wpList_append_own _ rfl _ _ 25 rfl w.heap.size TI i0 (.agg #[.int .i64 0, .string ByteArray.empty]) 2 24 Try.underlying25 hi hz0 hz1 hz2 rfl (by decide) _ _ _ rfl HO1.out ⟨g, 0, none⟩ (0) _ (termsV (ts.drop (k + 1))) rfl (by rw [List.drop_of_length_le (by rw [HN.out]; omega)]; show 0 = _; omega) (fun j u h => by rw [List.drop_of_length_le (by rw [HN.out]; omega)] at h; simp [termsV] at h) (oneCell_terms _) (by unfold maxLen; omega) (by omega) hB1.size ?_)
              intro v3 w3 hown3 hgrow3 hnil3
              obtain ⟨g3, cap3, hg3b, rfl⟩ := notNil hown3 hnil3
              have hB3 : Below w.heap.size w w3 := hB1.grown hgrow3 hB1.size (fun j ej => by cases ej; exact hg1b)
              have HO3 := Lib.hid hown3
              clear hown3 hgrow3 hnil3
              go_wp2
              go_ret

              have e1 : addT ts ⟨c, s⟩ = ts.take k ++ ([] ++ ts.drop (k + 1)) := by rw [HA.out c, if_pos HS.out]; show _ ++ (nz ⟨c + t.c, s⟩ ++ _) = _; rw [HZ.out, len_nz0 HZ0.out]
              exact addEnd (us := addT ts ⟨c, s⟩) hB3 HO3.out (by rw [e1]; have h := lenCat0 ts k (k + 1) (by rw [HN.out]; omega); rw [HN.out] at h; omega) (by rw [e1]; first | exact cat0 _ _ | exact cat2 _ _) (by rw [e1]; have h := lenCat0 ts k (k + 1) (by rw [HN.out]; omega); rw [HN.out] at h; omega)
            · have hkn : k + 1 ≤ n := by omega
              go_wp2_with fail
              refine (l2Less_any _ _ _).mono ?_
              rintro e w' ⟨rfl, rfl⟩
              have hll := HL.out
              rw [hll]
              clear hll

              go_wp2_with (at_builtin; refine wpList_append_own _ rfl _ _ 25 rfl w.heap.size TI i0 (.agg #[.int .i64 0, .string ByteArray.empty]) 2 24 Try.underlying25 hi hz0 hz1 hz2 rfl (by decide) _ _ _ rfl hmade ⟨g, 0, none⟩ k cap (termsV (ts.take k)) rfl (HLt.out k (by omega)) (HCt.out k) (oneCell_terms _) (by unfold maxLen; omega) (by omega) (by simp) ?_)
              intro v1 w1 hown1 hgrow1 hnil1
              obtain ⟨g1, cap1, hg1b, rfl⟩ := notNil hown1 hnil1
              have hB1 : Below w.heap.size w w1 := ((Below.refl _ w).alloc (Nat.le_refl _) _).grown hgrow1 (by simp) (fun j ej => by cases ej; exact Nat.le_refl _)
              have HX1 := Lib.hid (HX.out.below hB1)
              have HO1 := Lib.hid hown1
              clear hown1 hgrow1 hnil1

              have r0 := (hB1.cell (p := ⟨g, k * 2, none⟩) HX.out.1).trans q0
              have r1 := (hB1.cell (p := ⟨g, k * 2 + 1, none⟩) HX.out.1).trans q1

              go_wp2_with (at_builtin; refine wpList_append_own _ rfl _ _ 25 rfl w.heap.size TI i0 (.agg #[.int .i64 0, .string ByteArray.empty]) 2 24 Try.underlying25 hi hz0 hz1 hz2 rfl (by decide) _ _ _ rfl HO1.out ⟨g, (k + 1) * 2, none⟩ (n - (k + 1)) _ (termsV (ts.drop (k + 1))) rfl (by rw [termsV_len, List.length_drop, HN.out]; first | done | omega) ((HX1.out.dropAt (k + 1)).cells) (oneCell_terms _) (by unfold maxLen; omega) (by omega) hB1.size ?_)
              intro v3 w3 hown3 hgrow3 hnil3
              obtain ⟨g3, cap3, hg3b, rfl⟩ := notNil hown3 hnil3
              have hB3 : Below w.heap.size w w3 := hB1.grown hgrow3 hB1.size (fun j ej => by cases ej; exact hg1b)
              have HO3 := Lib.hid hown3
              clear hown3 hgrow3 hnil3
              go_wp2
              go_ret

              have e1 : addT ts ⟨c, s⟩ = ts.take k ++ ([] ++ ts.drop (k + 1)) := by rw [HA.out c, if_pos HS.out]; show _ ++ (nz ⟨c + t.c, s⟩ ++ _) = _; rw [HZ.out, len_nz0 HZ0.out]
              exact addEnd (us := addT ts ⟨c, s⟩) hB3 HO3.out (by rw [e1]; have h := lenCat0 ts k (k + 1) (by rw [HN.out]; omega); rw [HN.out] at h; omega) (by rw [e1]; first | exact cat0 _ _ | exact cat2 _ _) (by rw [e1]; have h := lenCat0 ts k (k + 1) (by rw [HN.out]; omega); rw [HN.out] at h; omega)
          · have HZ0 := Lib.hid hz0
            have hzb : (z != 0) = true := by simpa using hz0
            clear hz0
            by_cases hck1 : cap = k + 1
            · obtain rfl : n = k + 1 := by omega
              subst hck1
              go_wp2_with fail
              refine (l2Less_any _ _ _).mono ?_
              rintro e w' ⟨rfl, rfl⟩
              have hll := HL.out
              rw [hll]
              clear hll

              go_wp2_with (at_builtin; refine wpList_append_own _ rfl _ _ 25 rfl w.heap.size TI i0 (.agg #[.int .i64 0, .string ByteArray.empty]) 2 24 Try.underlying25 hi hz0 hz1 hz2 rfl (by decide) _ _ _ rfl hmade ⟨g, 0, none⟩ k (k + 1) (termsV (ts.take k)) rfl (HLt.out k (by omega)) (HCt.out k) (oneCell_terms _) (by unfold maxLen; omega) (by omega) (by simp) ?_)
              intro v1 w1 hown1 hgrow1 hnil1
              obtain ⟨g1, cap1, hg1b, rfl⟩ := notNil hown1 hnil1
              have hB1 : Below w.heap.size w w1 := ((Below.refl _ w).alloc (Nat.le_refl _) _).grown hgrow1 (by simp) (fun j ej => by cases ej; exact Nat.le_refl _)
              have HX1 := Lib.hid (HX.out.below hB1)
              have HO1 := Lib.hid hown1
              clear hown1 hgrow1 hnil1

              have r0 := (hB1.cell (p := ⟨g, k * 2, none⟩) HX.out.1).trans q0
              have r1 := (hB1.cell (p := ⟨g, k * 2 + 1, none⟩) HX.out.1).trans q1

              go_wp2_with (at_builtin; refine wpList_append_own _ rfl _ _ 25 rfl w.heap.size TI i0 (.agg #[.int .i64 0, .string ByteArray.empty]) 2 24 Try.underlying25 hi hz0 hz1 hz2 rfl (by decide) _ _ _ rfl (HO1.out.alloc _) ⟨w1.heap.size, 0, none⟩ 1 1 [.int .i64 z, .string s] rfl rfl (cell_pair_new _ _ _ _) (fun u hu => by simp at hu; rcases hu with rfl | rfl <;> rfl) (by unfold maxLen; omega) (by omega) (by have := hB1.size; simp; omega) ?_)
              intro v2 w2 hown2 hgrow2 hnil2
              obtain ⟨g2, cap2, hg2b, rfl⟩ := notNil hown2 hnil2
              have hB2 : Below w.heap.size w w2 := (hB1.alloc hB1.size _).grown hgrow2 (by have := hB1.size; simp; omega) (fun j ej => by cases ej; exact hg1b)
              have HX2 := Lib.hid (HX.out.below hB2)
              have HO2 := Lib.hid hown2
              clear hown2 hgrow2 hnil2

              go_wp2_with (at_builtin; refine wpList_append_own _ rfl _ _ 25 rfl w.heap.size TI i0 (.agg #[.int .i64 0, .string ByteArray.empty]) 2 24 Try.underlying25 hi hz0 hz1 hz2 rfl (by decide) _ _ _ rfl HO2.out ⟨g, 0, none⟩ (0) _ (termsV (ts.drop (k + 1))) rfl (by rw [List.drop_of_length_le (by rw [HN.out]; omega)]; show 0 = _; omega) (fun j u h => by rw [List.drop_of_length_le (by rw [HN.out]; omega)] at h; simp [termsV] at h) (oneCell_terms _) (by unfold maxLen; omega) (by omega) hB2.size ?_)
              intro v3 w3 hown3 hgrow3 hnil3
              obtain ⟨g3, cap3, hg3b, rfl⟩ := notNil hown3 hnil3
              have hB3 : Below w.heap.size w w3 := hB2.grown hgrow3 hB2.size (fun j ej => by cases ej; exact hg2b)
              have HO3 := Lib.hid hown3
              clear hown3 hgrow3 hnil3
              go_wp2
              go_ret

              have e1 : addT ts ⟨c, s⟩ = ts.take k ++ ([⟨z, s⟩] ++ ts.drop (k + 1)) := by rw [HA.out c, if_pos HS.out]; show _ ++ (nz ⟨c + t.c, s⟩ ++ _) = _; rw [HZ.out, len_nz1 HZ0.out]
              exact addEnd (us := addT ts ⟨c, s⟩) hB3 HO3.out (by rw [e1]; have h := lenCat1 ts k (k + 1) ⟨z, s⟩ (by rw [HN.out]; omega); rw [HN.out] at h; omega) (by rw [e1]; first | exact cat1 _ _ _ _ | exact cat3 _ _ _ _) (by rw [e1]; have h := lenCat1 ts k (k + 1) ⟨z, s⟩ (by rw [HN.out]; omega); rw [HN.out] at h; omega)
            · have hkn : k + 1 ≤ n := by omega
              go_wp2_with fail
              refine (l2Less_any _ _ _).mono ?_
              rintro e w' ⟨rfl, rfl⟩
              have hll := HL.out
              rw [hll]
              clear hll

              go_wp2_with (at_builtin; refine wpList_append_own _ rfl _ _ 25 rfl w.heap.size TI i0 (.agg #[.int .i64 0, .string ByteArray.empty]) 2 24 Try.underlying25 hi hz0 hz1 hz2 rfl (by decide) _ _ _ rfl hmade ⟨g, 0, none⟩ k cap (termsV (ts.take k)) rfl (HLt.out k (by omega)) (HCt.out k) (oneCell_terms _) (by unfold maxLen; omega) (by omega) (by simp) ?_)
              intro v1 w1 hown1 hgrow1 hnil1
              obtain ⟨g1, cap1, hg1b, rfl⟩ := notNil hown1 hnil1
              have hB1 : Below w.heap.size w w1 := ((Below.refl _ w).alloc (Nat.le_refl _) _).grown hgrow1 (by simp) (fun j ej => by cases ej; exact Nat.le_refl _)
              have HX1 := Lib.hid (HX.out.below hB1)
              have HO1 := Lib.hid hown1
              clear hown1 hgrow1 hnil1

              have r0 := (hB1.cell (p := ⟨g, k * 2, none⟩) HX.out.1).trans q0
              have r1 := (hB1.cell (p := ⟨g, k * 2 + 1, none⟩) HX.out.1).trans q1

              go_wp2_with (at_builtin; refine wpList_append_own _ rfl _ _ 25 rfl w.heap.size TI i0 (.agg #[.int .i64 0, .string ByteArray.empty]) 2 24 Try.underlying25 hi hz0 hz1 hz2 rfl (by decide) _ _ _ rfl (HO1.out.alloc _) ⟨w1.heap.size, 0, none⟩ 1 1 [.int .i64 z, .string s] rfl rfl (cell_pair_new _ _ _ _) (fun u hu => by simp at hu; rcases hu with rfl | rfl <;> rfl) (by unfold maxLen; omega) (by omega) (by have := hB1.size; simp; omega) ?_)
              intro v2 w2 hown2 hgrow2 hnil2
              obtain ⟨g2, cap2, hg2b, rfl⟩ := notNil hown2 hnil2
              have hB2 : Below w.heap.size w w2 := (hB1.alloc hB1.size _).grown hgrow2 (by have := hB1.size; simp; omega) (fun j ej => by cases ej; exact hg1b)
              have HX2 := Lib.hid (HX.out.below hB2)
              have HO2 := Lib.hid hown2
              clear hown2 hgrow2 hnil2

              go_wp2_with (at_builtin; refine wpList_append_own _ rfl _ _ 25 rfl w.heap.size TI i0 (.agg #[.int .i64 0, .string ByteArray.empty]) 2 24 Try.underlying25 hi hz0 hz1 hz2 rfl (by decide) _ _ _ rfl HO2.out ⟨g, (k + 1) * 2, none⟩ (n - (k + 1)) _ (termsV (ts.drop (k + 1))) rfl (by rw [termsV_len, List.length_drop, HN.out]; first | done | omega) ((HX2.out.dropAt (k + 1)).cells) (oneCell_terms _) (by unfold maxLen; omega) (by omega) hB2.size ?_)
              intro v3 w3 hown3 hgrow3 hnil3
              obtain ⟨g3, cap3, hg3b, rfl⟩ := notNil hown3 hnil3
              have hB3 : Below w.heap.size w w3 := hB2.grown hgrow3 hB2.size (fun j ej => by cases ej; exact hg2b)
              have HO3 := Lib.hid hown3
              clear hown3 hgrow3 hnil3
              go_wp2
              go_ret

              have e1 : addT ts ⟨c, s⟩ = ts.take k ++ ([⟨z, s⟩] ++ ts.drop (k + 1)) := by rw [HA.out c, if_pos HS.out]; show _ ++ (nz ⟨c + t.c, s⟩ ++ _) = _; rw [HZ.out, len_nz1 HZ0.out]
              exact addEnd (us := addT ts ⟨c, s⟩) hB3 HO3.out (by rw [e1]; have h := lenCat1 ts k (k + 1) ⟨z, s⟩ (by rw [HN.out]; omega); rw [HN.out] at h; omega) (by rw [e1]; first | exact cat1 _ _ _ _ | exact cat3 _ _ _ _) (by rw [e1]; have h := lenCat1 ts k (k + 1) ⟨z, s⟩ (by rw [HN.out]; omega); rw [HN.out] at h; omega)
        · have HS := Lib.hid hts
          have hst : (t.s.toList == s.toList) = false := by
            rw [beq_eq_false_iff_ne]; exact fun e => HS.out (bytes_ext2 e)
          clear hts
          by_cases hz0 : c = 0
          · have HZ0 := Lib.hid hz0
            have hzb : (c != 0) = false := by rw [hz0]; rfl
            clear hz0
            go_wp2_with fail
            refine (l2Less_any _ _ _).mono ?_
            rintro e w' ⟨rfl, rfl⟩
            have hll := HL.out
            rw [hll]
            clear hll

            go_wp2_with (at_builtin; refine wpList_append_own _ rfl _ _ 25 rfl w.heap.size TI i0 (.agg #[.int .i64 0, .string ByteArray.empty]) 2 24 Try.underlying25 hi hz0 hz1 hz2 rfl (by decide) _ _ _ rfl hmade ⟨g, 0, none⟩ k cap (termsV (ts.take k)) rfl (HLt.out k (by omega)) (HCt.out k) (oneCell_terms _) (by unfold maxLen; omega) (by omega) (by simp) ?_)
            intro v1 w1 hown1 hgrow1 hnil1
            obtain ⟨g1, cap1, hg1b, rfl⟩ := notNil hown1 hnil1
            have hB1 : Below w.heap.size w w1 := ((Below.refl _ w).alloc (Nat.le_refl _) _).grown hgrow1 (by simp) (fun j ej => by cases ej; exact Nat.le_refl _)
            have HX1 := Lib.hid (HX.out.below hB1)
            have HO1 := Lib.hid hown1
            clear hown1 hgrow1 hnil1

            have r0 := (hB1.cell (p := ⟨g, k * 2, none⟩) HX.out.1).trans q0
            have r1 := (hB1.cell (p := ⟨g, k * 2 + 1, none⟩) HX.out.1).trans q1

            go_wp2_with (at_builtin; refine wpList_append_own _ rfl _ _ 25 rfl w.heap.size TI i0 (.agg #[.int .i64 0, .string ByteArray.empty]) 2 24 Try.underlying25 hi hz0 hz1 hz2 rfl (by decide) _ _ _ rfl HO1.out ⟨g, (k) * 2, none⟩ (n - (k)) _ (termsV (ts.drop (k))) rfl (by rw [termsV_len, List.length_drop, HN.out]; first | done | omega) ((HX1.out.dropAt (k)).cells) (oneCell_terms _) (by unfold maxLen; omega) (by omega) hB1.size ?_)
            intro v3 w3 hown3 hgrow3 hnil3
            obtain ⟨g3, cap3, hg3b, rfl⟩ := notNil hown3 hnil3
            have hB3 : Below w.heap.size w w3 := hB1.grown hgrow3 hB1.size (fun j ej => by cases ej; exact hg1b)
            have HO3 := Lib.hid hown3
            clear hown3 hgrow3 hnil3
            go_wp2
            go_ret

            have e1 : addT ts ⟨c, s⟩ = ts.take k ++ ([] ++ ts.drop k) := by rw [HA.out c, if_neg HS.out, len_nz0 HZ0.out]
            exact addEnd (us := addT ts ⟨c, s⟩) hB3 HO3.out (by rw [e1]; have h := lenCat0 ts k (k) (by rw [HN.out]; omega); rw [HN.out] at h; omega) (by rw [e1]; first | exact cat0 _ _ | exact cat2 _ _) (by rw [e1]; have h := lenCat0 ts k (k) (by rw [HN.out]; omega); rw [HN.out] at h; omega)
          · have HZ0 := Lib.hid hz0
            have hzb : (c != 0) = true := by simpa using hz0
            clear hz0
            go_wp2_with fail
            refine (l2Less_any _ _ _).mono ?_
            rintro e w' ⟨rfl, rfl⟩
            have hll := HL.out
            rw [hll]
            clear hll

            go_wp2_with (at_builtin; refine wpList_append_own _ rfl _ _ 25 rfl w.heap.size TI i0 (.agg #[.int .i64 0, .string ByteArray.empty]) 2 24 Try.underlying25 hi hz0 hz1 hz2 rfl (by decide) _ _ _ rfl hmade ⟨g, 0, none⟩ k cap (termsV (ts.take k)) rfl (HLt.out k (by omega)) (HCt.out k) (oneCell_terms _) (by unfold maxLen; omega) (by omega) (by simp) ?_)
            intro v1 w1 hown1 hgrow1 hnil1
            obtain ⟨g1, cap1, hg1b, rfl⟩ := notNil hown1 hnil1
            have hB1 : Below w.heap.size w w1 := ((Below.refl _ w).alloc (Nat.le_refl _) _).grown hgrow1 (by simp) (fun j ej => by cases ej; exact Nat.le_refl _)
            have HX1 := Lib.hid (HX.out.below hB1)
            have HO1 := Lib.hid hown1
            clear hown1 hgrow1 hnil1

            have r0 := (hB1.cell (p := ⟨g, k * 2, none⟩) HX.out.1).trans q0
            have r1 := (hB1.cell (p := ⟨g, k * 2 + 1, none⟩) HX.out.1).trans q1

            go_wp2_with (at_builtin; refine wpList_append_own _ rfl _ _ 25 rfl w.heap.size TI i0 (.agg #[.int .i64 0, .string ByteArray.empty]) 2 24 Try.underlying25 hi hz0 hz1 hz2 rfl (by decide) _ _ _ rfl (HO1.out.alloc _) ⟨w1.heap.size, 0, none⟩ 1 1 [.int .i64 c, .string s] rfl rfl (cell_pair_new _ _ _ _) (fun u hu => by simp at hu; rcases hu with rfl | rfl <;> rfl) (by unfold maxLen; omega) (by omega) (by have := hB1.size; simp; omega) ?_)
            intro v2 w2 hown2 hgrow2 hnil2
            obtain ⟨g2, cap2, hg2b, rfl⟩ := notNil hown2 hnil2
            have hB2 : Below w.heap.size w w2 := (hB1.alloc hB1.size _).grown hgrow2 (by have := hB1.size; simp; omega) (fun j ej => by cases ej; exact hg1b)
            have HX2 := Lib.hid (HX.out.below hB2)
            have HO2 := Lib.hid hown2
            clear hown2 hgrow2 hnil2

            go_wp2_with (at_builtin; refine wpList_append_own _ rfl _ _ 25 rfl w.heap.size TI i0 (.agg #[.int .i64 0, .string ByteArray.empty]) 2 24 Try.underlying25 hi hz0 hz1 hz2 rfl (by decide) _ _ _ rfl HO2.out ⟨g, (k) * 2, none⟩ (n - (k)) _ (termsV (ts.drop (k))) rfl (by rw [termsV_len, List.length_drop, HN.out]; first | done | omega) ((HX2.out.dropAt (k)).cells) (oneCell_terms _) (by unfold maxLen; omega) (by omega) hB2.size ?_)
            intro v3 w3 hown3 hgrow3 hnil3
            obtain ⟨g3, cap3, hg3b, rfl⟩ := notNil hown3 hnil3
            have hB3 : Below w.heap.size w w3 := hB2.grown hgrow3 hB2.size (fun j ej => by cases ej; exact hg2b)
            have HO3 := Lib.hid hown3
            clear hown3 hgrow3 hnil3
            go_wp2
            go_ret

            have e1 : addT ts ⟨c, s⟩ = ts.take k ++ ([⟨c, s⟩] ++ ts.drop k) := by rw [HA.out c, if_neg HS.out, len_nz1 HZ0.out]
            exact addEnd (us := addT ts ⟨c, s⟩) hB3 HO3.out (by rw [e1]; have h := lenCat1 ts k (k) ⟨c, s⟩ (by rw [HN.out]; omega); rw [HN.out] at h; omega) (by rw [e1]; first | exact cat1 _ _ _ _ | exact cat3 _ _ _ _) (by rw [e1]; have h := lenCat1 ts k (k) ⟨c, s⟩ (by rw [HN.out]; omega); rw [HN.out] at h; omega)
    · obtain rfl : k = n := by omega
      have HE := Lib.hid (fun c' => addT_end (ts := ts) (t := ⟨c', s⟩) (fun j hj => HJ.out j hj (by rw [← HN.out]; exact hj)))
      by_cases hcap0 : cap = 0
      · obtain rfl : k = 0 := by omega
        have HTn : Hid (ts = []) := Lib.hid (List.length_eq_zero_iff.1 HN.out)
        subst hcap0
        have HM := Lib.hid hmade
        clear hmade
        by_cases hz0 : c = 0
        · have HZ0 := Lib.hid hz0
          have hzb : (c != 0) = false := by rw [hz0]; rfl
          clear hz0
          go_wp2
          go_ret
          have e1 : addT ts ⟨c, s⟩ = [] := by rw [HTn.out, addT, len_nz0 HZ0.out]
          exact addEnd (us := addT ts ⟨c, s⟩) ((Below.refl _ w).alloc (Nat.le_refl _) _) HM.out (by rw [e1]; rfl) (by rw [e1]; rfl) (by rw [e1]; rfl)
        · have HZ0 := Lib.hid hz0
          have hzb : (c != 0) = true := by simpa using hz0
          clear hz0
          have HPN := Lib.hid (cell_pair_new (w.alloc (.cells #[] TI)) (.int .i64 c) (.string s) TI)
          simp only [World.size_alloc] at HPN

          go_wp2_with (at_builtin; refine wpList_append_own _ rfl _ _ 25 rfl w.heap.size TI i0 (.agg #[.int .i64 0, .string ByteArray.empty]) 2 24 Try.underlying25 hi hz0 hz1 hz2 rfl (by decide) _ _ _ rfl (HM.out.alloc _) ⟨w.heap.size + 1, 0, none⟩ 1 1 [.int .i64 c, .string s] rfl rfl (HPN.out) (fun u hu => by simp at hu; rcases hu with rfl | rfl <;> rfl) (by unfold maxLen; omega) (by omega) (by simp; omega) ?_)
          intro v2 w2 hown2 hgrow2 hnil2
          obtain ⟨g2, cap2, hg2b, rfl⟩ := notNil hown2 hnil2
          have hB2 : Below w.heap.size w w2 := (((Below.refl _ w).alloc (Nat.le_refl _) _).alloc (by simp) _).grown hgrow2 (by simp; omega) (fun j ej => by cases ej; exact Nat.le_refl _)
          have HO2 := Lib.hid hown2
          clear hown2 hgrow2 hnil2
          go_wp2_with (at_builtin; refine wpList_append_own _ rfl _ _ 25 rfl w.heap.size TI i0 (.agg #[.int .i64 0, .string ByteArray.empty]) 2 24 Try.underlying25 hi hz0 hz1 hz2 rfl (by decide) _ _ _ rfl HO2.out ⟨g, 0, none⟩ 0 _ [] rfl rfl (fun j u h => by simp at h) (fun u hu => by cases hu) (by unfold maxLen; omega) (by omega) hB2.size ?_)
          intro v3 w3 hown3 hgrow3 hnil3
          obtain ⟨g3, cap3, hg3b, rfl⟩ := notNil hown3 hnil3
          have hB3 : Below w.heap.size w w3 := hB2.grown hgrow3 hB2.size (fun j ej => by cases ej; exact hg2b)
          have HO3 := Lib.hid hown3
          clear hown3 hgrow3 hnil3
          go_wp2
          go_ret
          have e1 : addT ts ⟨c, s⟩ = [⟨c, s⟩] := by rw [HTn.out, addT, len_nz1 HZ0.out]
          exact addEnd (us := addT ts ⟨c, s⟩) hB3 HO3.out (by rw [e1]; rfl) (by rw [e1]; rfl) (by rw [e1]; rfl)
      by_cases hz0 : c = 0
      · have HZ0 := Lib.hid hz0
        have hzb : (c != 0) = false := by rw [hz0]; rfl
        clear hz0
        by_cases hck : cap = k
        · have hck2 := hck.symm
          clear hck
          subst hck2
          go_wp2_with (at_builtin; refine wpList_append_own _ rfl _ _ 25 rfl w.heap.size TI i0 (.agg #[.int .i64 0, .string ByteArray.empty]) 2 24 Try.underlying25 hi hz0 hz1 hz2 rfl (by decide) _ _ _ rfl hmade ⟨g, 0, none⟩ k k (termsV (ts.take k)) rfl (HLt.out k (by omega)) (HCt.out k) (oneCell_terms _) (by unfold maxLen; omega) (by omega) (by simp) ?_)
          intro v1 w1 hown1 hgrow1 hnil1
          obtain ⟨g1, cap1, hg1b, rfl⟩ := notNil hown1 hnil1
          have hB1 : Below w.heap.size w w1 := ((Below.refl _ w).alloc (Nat.le_refl _) _).grown hgrow1 (by simp) (fun j ej => by cases ej; exact Nat.le_refl _)
          have HX1 := Lib.hid (HX.out.below hB1)
          have HO1 := Lib.hid hown1
          clear hown1 hgrow1 hnil1

          go_wp2_with (at_builtin; refine wpList_append_own _ rfl _ _ 25 rfl w.heap.size TI i0 (.agg #[.int .i64 0, .string ByteArray.empty]) 2 24 Try.underlying25 hi hz0 hz1 hz2 rfl (by decide) _ _ _ rfl HO1.out ⟨g, 0, none⟩ (0) _ (termsV (ts.drop k)) rfl (by rw [List.drop_of_length_le (by rw [HN.out]; omega)]; show 0 = _; omega) (fun j u h => by rw [List.drop_of_length_le (by rw [HN.out]; omega)] at h; simp [termsV] at h) (oneCell_terms _) (by unfold maxLen; omega) (by omega) hB1.size ?_)
          intro v3 w3 hown3 hgrow3 hnil3
          obtain ⟨g3, cap3, hg3b, rfl⟩ := notNil hown3 hnil3
          have hB3 : Below w.heap.size w w3 := hB1.grown hgrow3 hB1.size (fun j ej => by cases ej; exact hg1b)
          have HO3 := Lib.hid hown3
          clear hown3 hgrow3 hnil3
          go_wp2
          go_ret

          have e1 : addT ts ⟨c, s⟩ = ts.take k ++ ([] ++ ts.drop k) := by rw [HE.out c, len_nz0 HZ0.out, List.take_of_length_le (by rw [HN.out]; exact Nat.le_refl _), List.drop_of_length_le (by rw [HN.out]; exact Nat.le_refl _)]; rfl
          exact addEnd (us := addT ts ⟨c, s⟩) hB3 HO3.out (by rw [e1]; have h := lenCat0 ts k (k) (by rw [HN.out]; omega); rw [HN.out] at h; omega) (by rw [e1]; first | exact cat0 _ _ | exact cat2 _ _) (by rw [e1]; have h := lenCat0 ts k (k) (by rw [HN.out]; omega); rw [HN.out] at h; omega)
        · have hcp := hcap
          go_wp2_with (at_builtin; refine wpList_append_own _ rfl _ _ 25 rfl w.heap.size TI i0 (.agg #[.int .i64 0, .string ByteArray.empty]) 2 24 Try.underlying25 hi hz0 hz1 hz2 rfl (by decide) _ _ _ rfl hmade ⟨g, 0, none⟩ k cap (termsV (ts.take k)) rfl (HLt.out k (by omega)) (HCt.out k) (oneCell_terms _) (by unfold maxLen; omega) (by omega) (by simp) ?_)
          intro v1 w1 hown1 hgrow1 hnil1
          obtain ⟨g1, cap1, hg1b, rfl⟩ := notNil hown1 hnil1
          have hB1 : Below w.heap.size w w1 := ((Below.refl _ w).alloc (Nat.le_refl _) _).grown hgrow1 (by simp) (fun j ej => by cases ej; exact Nat.le_refl _)
          have HX1 := Lib.hid (HX.out.below hB1)
          have HO1 := Lib.hid hown1
          clear hown1 hgrow1 hnil1

          go_wp2_with (at_builtin; refine wpList_append_own _ rfl _ _ 25 rfl w.heap.size TI i0 (.agg #[.int .i64 0, .string ByteArray.empty]) 2 24 Try.underlying25 hi hz0 hz1 hz2 rfl (by decide) _ _ _ rfl HO1.out ⟨g, (k) * 2, none⟩ (0) _ (termsV (ts.drop k)) rfl (by rw [termsV_len, List.length_drop, HN.out]; first | done | omega) ((HX1.out.dropAt k).cells) (oneCell_terms _) (by unfold maxLen; omega) (by omega) hB1.size ?_)
          intro v3 w3 hown3 hgrow3 hnil3
          obtain ⟨g3, cap3, hg3b, rfl⟩ := notNil hown3 hnil3
          have hB3 : Below w.heap.size w w3 := hB1.grown hgrow3 hB1.size (fun j ej => by cases ej; exact hg1b)
          have HO3 := Lib.hid hown3
          clear hown3 hgrow3 hnil3
          go_wp2
          go_ret

          have e1 : addT ts ⟨c, s⟩ = ts.take k ++ ([] ++ ts.drop k) := by rw [HE.out c, len_nz0 HZ0.out, List.take_of_length_le (by rw [HN.out]; exact Nat.le_refl _), List.drop_of_length_le (by rw [HN.out]; exact Nat.le_refl _)]; rfl
          exact addEnd (us := addT ts ⟨c, s⟩) hB3 HO3.out (by rw [e1]; have h := lenCat0 ts k (k) (by rw [HN.out]; omega); rw [HN.out] at h; omega) (by rw [e1]; first | exact cat0 _ _ | exact cat2 _ _) (by rw [e1]; have h := lenCat0 ts k (k) (by rw [HN.out]; omega); rw [HN.out] at h; omega)
      · have HZ0 := Lib.hid hz0
        have hzb : (c != 0) = true := by simpa using hz0
        clear hz0
        by_cases hck : cap = k
        · have hck2 := hck.symm
          clear hck
          subst hck2
          go_wp2_with (at_builtin; refine wpList_append_own _ rfl _ _ 25 rfl w.heap.size TI i0 (.agg #[.int .i64 0, .string ByteArray.empty]) 2 24 Try.underlying25 hi hz0 hz1 hz2 rfl (by decide) _ _ _ rfl hmade ⟨g, 0, none⟩ k k (termsV (ts.take k)) rfl (HLt.out k (by omega)) (HCt.out k) (oneCell_terms _) (by unfold maxLen; omega) (by omega) (by simp) ?_)
          intro v1 w1 hown1 hgrow1 hnil1
          obtain ⟨g1, cap1, hg1b, rfl⟩ := notNil hown1 hnil1
          have hB1 : Below w.heap.size w w1 := ((Below.refl _ w).alloc (Nat.le_refl _) _).grown hgrow1 (by simp) (fun j ej => by cases ej; exact Nat.le_refl _)
          have HX1 := Lib.hid (HX.out.below hB1)
          have HO1 := Lib.hid hown1
          clear hown1 hgrow1 hnil1

          go_wp2_with (at_builtin; refine wpList_append_own _ rfl _ _ 25 rfl w.heap.size TI i0 (.agg #[.int .i64 0, .string ByteArray.empty]) 2 24 Try.underlying25 hi hz0 hz1 hz2 rfl (by decide) _ _ _ rfl (HO1.out.alloc _) ⟨w1.heap.size, 0, none⟩ 1 1 [.int .i64 c, .string s] rfl rfl (cell_pair_new _ _ _ _) (fun u hu => by simp at hu; rcases hu with rfl | rfl <;> rfl) (by unfold maxLen; omega) (by omega) (by have := hB1.size; simp; omega) ?_)
          intro v2 w2 hown2 hgrow2 hnil2
          obtain ⟨g2, cap2, hg2b, rfl⟩ := notNil hown2 hnil2
          have hB2 : Below w.heap.size w w2 := (hB1.alloc hB1.size _).grown hgrow2 (by have := hB1.size; simp; omega) (fun j ej => by cases ej; exact hg1b)
          have HX2 := Lib.hid (HX.out.below hB2)
          have HO2 := Lib.hid hown2
          clear hown2 hgrow2 hnil2

          go_wp2_with (at_builtin; refine wpList_append_own _ rfl _ _ 25 rfl w.heap.size TI i0 (.agg #[.int .i64 0, .string ByteArray.empty]) 2 24 Try.underlying25 hi hz0 hz1 hz2 rfl (by decide) _ _ _ rfl HO2.out ⟨g, 0, none⟩ (0) _ (termsV (ts.drop k)) rfl (by rw [List.drop_of_length_le (by rw [HN.out]; omega)]; show 0 = _; omega) (fun j u h => by rw [List.drop_of_length_le (by rw [HN.out]; omega)] at h; simp [termsV] at h) (oneCell_terms _) (by unfold maxLen; omega) (by omega) hB2.size ?_)
          intro v3 w3 hown3 hgrow3 hnil3
          obtain ⟨g3, cap3, hg3b, rfl⟩ := notNil hown3 hnil3
          have hB3 : Below w.heap.size w w3 := hB2.grown hgrow3 hB2.size (fun j ej => by cases ej; exact hg2b)
          have HO3 := Lib.hid hown3
          clear hown3 hgrow3 hnil3
          go_wp2
          go_ret

          have e1 : addT ts ⟨c, s⟩ = ts.take k ++ ([⟨c, s⟩] ++ ts.drop k) := by rw [HE.out c, len_nz1 HZ0.out, List.take_of_length_le (by rw [HN.out]; exact Nat.le_refl _), List.drop_of_length_le (by rw [HN.out]; exact Nat.le_refl _)]; rfl
          exact addEnd (us := addT ts ⟨c, s⟩) hB3 HO3.out (by rw [e1]; have h := lenCat1 ts k (k) ⟨c, s⟩ (by rw [HN.out]; omega); rw [HN.out] at h; omega) (by rw [e1]; first | exact cat1 _ _ _ _ | exact cat3 _ _ _ _) (by rw [e1]; have h := lenCat1 ts k (k) ⟨c, s⟩ (by rw [HN.out]; omega); rw [HN.out] at h; omega)
        · have hcp := hcap
          go_wp2_with (at_builtin; refine wpList_append_own _ rfl _ _ 25 rfl w.heap.size TI i0 (.agg #[.int .i64 0, .string ByteArray.empty]) 2 24 Try.underlying25 hi hz0 hz1 hz2 rfl (by decide) _ _ _ rfl hmade ⟨g, 0, none⟩ k cap (termsV (ts.take k)) rfl (HLt.out k (by omega)) (HCt.out k) (oneCell_terms _) (by unfold maxLen; omega) (by omega) (by simp) ?_)
          intro v1 w1 hown1 hgrow1 hnil1
          obtain ⟨g1, cap1, hg1b, rfl⟩ := notNil hown1 hnil1
          have hB1 : Below w.heap.size w w1 := ((Below.refl _ w).alloc (Nat.le_refl _) _).grown hgrow1 (by simp) (fun j ej => by cases ej; exact Nat.le_refl _)
          have HX1 := Lib.hid (HX.out.below hB1)
          have HO1 := Lib.hid hown1
          clear hown1 hgrow1 hnil1

          go_wp2_with (at_builtin; refine wpList_append_own _ rfl _ _ 25 rfl w.heap.size TI i0 (.agg #[.int .i64 0, .string ByteArray.empty]) 2 24 Try.underlying25 hi hz0 hz1 hz2 rfl (by decide) _ _ _ rfl (HO1.out.alloc _) ⟨w1.heap.size, 0, none⟩ 1 1 [.int .i64 c, .string s] rfl rfl (cell_pair_new _ _ _ _) (fun u hu => by simp at hu; rcases hu with rfl | rfl <;> rfl) (by unfold maxLen; omega) (by omega) (by have := hB1.size; simp; omega) ?_)
          intro v2 w2 hown2 hgrow2 hnil2
          obtain ⟨g2, cap2, hg2b, rfl⟩ := notNil hown2 hnil2
          have hB2 : Below w.heap.size w w2 := (hB1.alloc hB1.size _).grown hgrow2 (by have := hB1.size; simp; omega) (fun j ej => by cases ej; exact hg1b)
          have HX2 := Lib.hid (HX.out.below hB2)
          have HO2 := Lib.hid hown2
          clear hown2 hgrow2 hnil2

          go_wp2_with (at_builtin; refine wpList_append_own _ rfl _ _ 25 rfl w.heap.size TI i0 (.agg #[.int .i64 0, .string ByteArray.empty]) 2 24 Try.underlying25 hi hz0 hz1 hz2 rfl (by decide) _ _ _ rfl HO2.out ⟨g, (k) * 2, none⟩ (0) _ (termsV (ts.drop k)) rfl (by rw [termsV_len, List.length_drop, HN.out]; first | done | omega) ((HX2.out.dropAt k).cells) (oneCell_terms _) (by unfold maxLen; omega) (by omega) hB2.size ?_)
          intro v3 w3 hown3 hgrow3 hnil3
          obtain ⟨g3, cap3, hg3b, rfl⟩ := notNil hown3 hnil3
          have hB3 : Below w.heap.size w w3 := hB2.grown hgrow3 hB2.size (fun j ej => by cases ej; exact hg2b)
          have HO3 := Lib.hid hown3
          clear hown3 hgrow3 hnil3
          go_wp2
          go_ret

          have e1 : addT ts ⟨c, s⟩ = ts.take k ++ ([⟨c, s⟩] ++ ts.drop k) := by rw [HE.out c, len_nz1 HZ0.out, List.take_of_length_le (by rw [HN.out]; exact Nat.le_refl _), List.drop_of_length_le (by rw [HN.out]; exact Nat.le_refl _)]; rfl
          exact addEnd (us := addT ts ⟨c, s⟩) hB3 HO3.out (by rw [e1]; have h := lenCat1 ts k (k) ⟨c, s⟩ (by rw [HN.out]; omega); rw [HN.out] at h; omega) (by rw [e1]; first | exact cat1 _ _ _ _ | exact cat3 _ _ _ _) (by rw [e1]; have h := lenCat1 ts k (k) ⟨c, s⟩ (by rw [HN.out]; omega); rw [HN.out] at h; omega)

end Go.Proofs.Ytmbffbjopehllaa

/- What the laws' proofs stand on, part 2 of 4. -/
import Derived.StillTailTactics
import Derived.Laws.EntriesVeiled
import Derived.Laws.AppendOwnNone
import Derived.StillTail
import Derived.Lib.AppendZerosOnto
import Derived.Lib.SliceRun
import Derived.Deep.AppendLies
import Derived.Test.YtebgcebjlbhjjaaBa

/- The contract of the model's 'l2Add'. -/

namespace Go.Proofs.Ytebgcebjlbhjjaa
open Go.RowKit Go.Shelf

theorem termsV_cells {w : World} {x : Addr} {ts : List Tm} (h : TermsAt w x ts) : ∀ j u, (termsV ts)[j]? = some u → w.cell? (x.add j) = some u := fun j u hu => by
  have hj : j < ts.length * 2 := by rw [← termsV_len]; exact (List.getElem?_eq_some_iff.1 hu).1
  have hg := termsV_get ts (j / 2) (by omega)
  have hc := h.2 (j / 2) (by omega)
  rcases Nat.mod_two_eq_zero_or_one j with e | e
  · have e2 : j / 2 * 2 = j := by omega
    rw [e2] at hg hc
    rw [hg.1] at hu; cases hu; exact hc.1
  · have e2 : j / 2 * 2 + 1 = j := by omega
    rw [e2] at hg hc
    rw [hg.2] at hu; cases hu; exact hc.2
theorem TermsAt.cells {w : World} {x : Addr} {ts : List Tm} (h : TermsAt w x ts) : ∀ j u, (termsV ts)[j]? = some u → w.cell? (x.add j) = some u := termsV_cells h
theorem TermsAt.takeAt {w : World} {x : Addr} {ts : List Tm} (h : TermsAt w x ts) (k : Nat) : TermsAt w x (ts.take k) :=
  ⟨h.1, fun i hi => by
    simp only [List.length_take] at hi
    rw [List.getElem_take]
    exact h.2 i (by omega)⟩
theorem TermsAt.dropAt {w : World} {g : Nat} {ts : List Tm} (h : TermsAt w ⟨g, 0, none⟩ ts) (k : Nat) : TermsAt w ⟨g, k * 2, none⟩ (ts.drop k) := by
  refine ⟨h.1, fun i hi => ?_⟩
  simp only [List.length_drop] at hi
  have ha : ∀ o j, (⟨g, o, none⟩ : Addr).add j = ⟨g, o + j, none⟩ := fun o j => by unfold Addr.add; split <;> simp_all
  have := h.2 (k + i) (by omega)
  rw [ha, ha] at this
  rw [ha, ha, List.getElem_drop, show k * 2 + i * 2 = 0 + (k + i) * 2 by omega, show k * 2 + (i * 2 + 1) = 0 + ((k + i) * 2 + 1) by omega]
  exact this
theorem oneCell_terms (ts : List Tm) : ∀ u ∈ termsV ts, u.oneCell' = true := by
  induction ts with
  | nil => intro u h; cases h
  | cons t r ih =>
    intro u h
    rw [termsV_cons] at h
    rcases List.mem_cons.1 h with rfl | h
    · rfl
    · rcases List.mem_cons.1 h with rfl | h
      · rfl
      · exact ih u h
theorem notNil {w : World} {base n : Nat} {e : TypeId} {size : Nat} {v : Value} {xs : List Value} (h : w.ownsRow base e size v n xs) (hn : v ≠ .slice none 0 0) : ∃ g cap, base ≤ g ∧ v = .slice (some ⟨g, 0, none⟩) n cap := by
  rcases h.2 with ⟨e, _⟩ | ⟨g, cap, cur, e, hb, _⟩
  · exact absurd e hn
  · exact ⟨g, cap, hb, e⟩
theorem cell_pair_new (w : World) (a b : Value) (t : TypeId) : ∀ j u, [a, b][j]? = some u → (w.alloc (.cells #[a, b] t)).cell? ((⟨w.heap.size, 0, none⟩ : Addr).add j) = some u := fun j u hu => by
  have ha : (⟨w.heap.size, 0, none⟩ : Addr).add j = ⟨w.heap.size, j, none⟩ := by unfold Addr.add; split <;> simp_all
  rw [ha, World.cell?_alloc_at _ _ _ _ rfl]
  match j, hu with
  | 0, hu => cases hu; rfl
  | 1, hu => cases hu; rfl
  | j + 2, hu => simp at hu

/-- A slice of the call's own that holds terms, not nil. -/
def OwnTerms (base : Nat) (w : World) (v : Value) (ts : List Tm) : Prop := ∃ g cap, v = .slice (some ⟨g, 0, none⟩) ts.length cap ∧ w.ownsRow base TI 2 v ts.length (termsV ts)
theorem addEnd {w w3 : World} {base g3 cap3 n m : Nat} {xs : List Value} {us : List Tm} (hB : Below base w w3) (h : w3.ownsRow base TI 2 (.slice (some ⟨g3, 0, none⟩) m cap3) m xs) (hm : m = us.length) (he : xs = termsV us) (hn : n = us.length) :
    (∃ v, Ending.returned (.slice (some ⟨g3, 0, none⟩) n cap3) = .returned v ∧ OwnTerms base w3 v us) ∧ Below base w w3 := by
  subst hm he hn
  exact ⟨⟨_, rfl, g3, cap3, rfl, h⟩, hB⟩

theorem addT_less : ∀ {ts : List Tm} {t : Tm} {k : Nat}, (∀ j (h : j < ts.length), j < k → lessW ts[j].s t.s = true) → k ≤ ts.length → addT ts t = ts.take k ++ addT (ts.drop k) t
  | _, _, 0, _, _ => by simp
  | [], _, k + 1, _, hk => by simp at hk
  | x :: r, t, k + 1, h, hk => by
    have h0 := h 0 (by simp) (by omega)
    have ih := addT_less (ts := r) (t := t) (k := k) (fun j hj hjk => by have := h (j + 1) (by simpa using hj) (by omega); simpa using this) (by simpa using hk)
    rw [List.take_succ_cons, List.drop_succ_cons, addT, if_pos (by simpa using h0), ih]
    rfl
theorem addT_end {ts : List Tm} {t : Tm} (h : ∀ j (h : j < ts.length), lessW ts[j].s t.s = true) : addT ts t = ts ++ nz t := by
  rw [addT_less (k := ts.length) (fun j hj _ => h j hj) (Nat.le_refl _), List.drop_length, List.take_length]
  rfl
theorem addT_at {ts : List Tm} {t u : Tm} {k : Nat} (hk : k < ts.length) (h : ∀ j (h : j < ts.length), j < k → lessW ts[j].s t.s = true) (hu : ts[k] = u) (hl : lessW u.s t.s = false) :
    addT ts t = ts.take k ++ (if u.s = t.s then nz ⟨t.c + u.c, t.s⟩ ++ ts.drop (k + 1) else nz t ++ ts.drop k) := by
  rw [addT_less h (Nat.le_of_lt hk), List.drop_eq_getElem_cons hk, hu, addT, if_neg (by rw [hl]; simp)]
theorem cat0 (a b : List Tm) : [] ++ termsV a ++ termsV b = termsV (a ++ ([] ++ b)) := by rw [List.nil_append, List.nil_append, termsV_append]
theorem cat1 (a b : List Tm) (c : Int) (s : ByteArray) : [] ++ termsV a ++ [.int .i64 c, .string s] ++ termsV b = termsV (a ++ ([⟨c, s⟩] ++ b)) := by rw [List.nil_append, termsV_append, termsV_append, List.append_assoc]; rfl
theorem cat2 (a b : List Tm) : termsV a ++ termsV b = termsV (a ++ ([] ++ b)) := cat0 a b
theorem cat3 (a b : List Tm) (c : Int) (s : ByteArray) : termsV a ++ .int .i64 c :: .string s :: termsV b = termsV (a ++ ([⟨c, s⟩] ++ b)) := by rw [termsV_append, termsV_append]; rfl
theorem lenCat0 (ts : List Tm) (k j : Nat) (hk : k ≤ ts.length) : (ts.take k ++ ([] ++ ts.drop j)).length = k + (ts.length - j) := by
  rw [List.length_append, List.nil_append, List.length_take, List.length_drop, Nat.min_eq_left hk]
theorem lenCat1 (ts : List Tm) (k j : Nat) (x : Tm) (hk : k ≤ ts.length) : (ts.take k ++ ([x] ++ ts.drop j)).length = k + (1 + (ts.length - j)) := by
  rw [List.length_append, List.length_append, List.length_take, List.length_drop, Nat.min_eq_left hk]; rfl
theorem len_nz0 {t : Tm} (h : t.c = 0) : nz t = [] := if_pos h
theorem len_nz1 {t : Tm} (h : t.c ≠ 0) : nz t = [t] := if_neg h

set_option maxRecDepth 100000 in
set_option maxHeartbeats 8000000 in
theorem l2Add_any (g cap n : Nat) (ts : List Tm) (c : Int) (s : ByteArray) (w : World) (hlen : ts.length = n) (hn : n ≤ 200000) (hx : TermsAt w ⟨g, 0, none⟩ ts) (hcap : n ≤ cap) (hcm : cap ≤ maxLen)
    (hc1 : -4000000000000000000 ≤ c) (hc2 : c ≤ 4000000000000000000) (hts : ∀ t ∈ ts, -4000000000000000000 ≤ t.c ∧ t.c ≤ 4000000000000000000) :
    Calls Try.prog 65 #[.slice (some ⟨g, 0, none⟩) n cap, .int .i64 c, .string s] w fun e w' => (∃ v, e = .returned v ∧ OwnTerms w.heap.size w' v (addT ts ⟨c, s⟩)) ∧ Below w.heap.size w w' := by
  obtain ⟨i0, hi, hz0, hz1, hz2⟩ := info_parts infoTerm
  have HN := Lib.hid hlen
  have HX := Lib.hid hx
  have HTs := Lib.hid hts
  have hmade := World.ownsRow_made (base := w.heap.size) (e := TI) (size := 2) w #[] 0 (Nat.le_refl _) (Nat.zero_le _) rfl
  have HLt : Hid (∀ k, k ≤ n → (termsV (ts.take k)).length = k * 2) := Lib.hid (fun k hk => by rw [termsV_len, List.length_take, Nat.min_eq_left (by omega)])
  have HCt : Hid (∀ k j u, (termsV (ts.take k))[j]? = some u → (w.alloc (.cells #[] TI)).cell? ((⟨g, 0, none⟩ : Addr).add j) = some u) := Lib.hid (fun k j u hu => by
    have h := ((hx.takeAt k).cells j u hu)
    exact (World.cell?_alloc_lt _ _ _ (World.block_lt_of_cell? _ _ h)).trans h)
  clear hlen hx hts
  unfold maxLen at hcm
  go_enter Try.func65, Try.ntmps65
  go_wp2
  go_loop [7] (fun i => ∃ k : Nat, k ≤ n ∧ i = .int .i64 k ∧ Hid (∀ j (h : j < ts.length), j < k → lessW ts[j].s s = true)) (fun i => n - (intOf i).toNat)
  case atStart => exact ⟨0, Nat.zero_le _, rfl, Lib.hid (fun j _ h => absurd h (Nat.not_lt_zero _))⟩
  case round =>
    obtain ⟨k, hk, rfl, HJ⟩ := hrel
    by_cases hlt : k < n
    · have hkz : k < ts.length := by rw [HN.out]; exact hlt
      obtain ⟨t, ht⟩ : ∃ t, ts[k] = t := ⟨_, rfl⟩
      have hcc := HTs.out t (by rw [← ht]; exact List.getElem_mem hkz)
      obtain ⟨hc3, hc4⟩ := hcc
      have ha : ∀ j, (⟨g, 0, none⟩ : Addr).add j = ⟨g, j, none⟩ := fun j => by unfold Addr.add; split <;> simp_all
      have hcl := HX.out.2 k hkz
      rw [ht, ha, ha] at hcl
      obtain ⟨q0, q1⟩ := hcl
      have HT := Lib.hid ht
      clear ht ha
      cases hl : lessW t.s s with
      | true =>
        have HL := Lib.hid hl
        clear hl
        go_wp2_with fail
        refine (l2Less_any _ _ _).mono ?_
        rintro e w' ⟨rfl, rfl⟩
        have hll := HL.out
        rw [hll]
        clear hll
        go_wp2
        go_round
        case rel =>
          refine ⟨k + 1, by omega, by go_num, Lib.hid ?_⟩
          intro j hj hjk
          by_cases e : j = k
          · subst e; rw [HT.out]; exact HL.out
          · exact HJ.out j hj (by omega)
        case measure => simp [intOf]; omega
      | false =>
        have HL := Lib.hid hl
        have hck : ¬ cap = k := by omega
        clear hl
        have HA := Lib.hid (fun c' => addT_at (t := ⟨c', s⟩) hkz HJ.out HT.out HL.out)
        by_cases hts : t.s = s
        · have HS := Lib.hid hts
          have hst : (t.s.toList == s.toList) = true := by rw [hts]; simp
          clear hts
          obtain ⟨z, hz⟩ : ∃ z, c + t.c = z := ⟨_, rfl⟩
          have hwz : IntKind.i64.wrap (c + t.c) = z := by rw [IntWalk.i64_in _ (by omega)]; exact hz
          have HZ := Lib.hid hz
          clear hz
          by_cases hz0 : z = 0
          · have HZ0 := Lib.hid hz0
            have hzb : (z != 0) = false := by rw [hz0]; rfl
            clear hz0
            by_cases hck1 : cap = k + 1
            · obtain rfl : n = k + 1 := by omega
              subst hck1
              go_wp2_with fail
              refine (l2Less_any _ _ _).mono ?_
              rintro e w' ⟨rfl, rfl⟩
              have hll := HL.out
              rw [hll]
              clear hll

              go_wp2_with (at_builtin; refine wpList_append_own _ rfl _ _ 23 rfl w.heap.size TI i0 (.agg #[.int .i64 0, .string ByteArray.empty]) 2 24 Try.underlying23 hi hz0 hz1 hz2 rfl (by decide) _ _ _ rfl hmade ⟨g, 0, none⟩ k (k + 1) (termsV (ts.take k)) rfl (HLt.out k (by omega)) (HCt.out k) (oneCell_terms _) (by unfold maxLen; omega) (by omega) (by simp) ?_)
              intro v1 w1 hown1 hgrow1 hnil1
              obtain ⟨g1, cap1, hg1b, rfl⟩ := notNil hown1 hnil1
              have hB1 : Below w.heap.size w w1 := ((Below.refl _ w).alloc (Nat.le_refl _) _).grown hgrow1 (by simp) (fun j ej => by cases ej; exact Nat.le_refl _)
              have HX1 := Lib.hid (HX.out.below hB1)
              have HO1 := Lib.hid hown1
              clear hown1 hgrow1 hnil1

              have r0 := (hB1.cell (p := ⟨g, k * 2, none⟩) HX.out.1).trans q0
              have r1 := (hB1.cell (p := ⟨g, k * 2 + 1, none⟩) HX.out.1).trans q1

              go_wp2_with (at_builtin; refine wpList_append_own _ rfl _ _ 23 rfl w.heap.size TI i0 (.agg #[.int .i64 0, .string ByteArray.empty]) 2 24 Try.underlying23 hi hz0 hz1 hz2 rfl (by decide) _ _ _ rfl HO1.out ⟨g, 0, none⟩ (0) _ (termsV (ts.drop (k + 1))) rfl (by rw [List.drop_of_length_le (by rw [HN.out]; omega)]; show 0 = _; omega) (fun j u h => by rw [List.drop_of_length_le (by rw [HN.out]; omega)] at h; simp [termsV] at h) (oneCell_terms _) (by unfold maxLen; omega) (by omega) hB1.size ?_)
              intro v3 w3 hown3 hgrow3 hnil3
              obtain ⟨g3, cap3, hg3b, rfl⟩ := notNil hown3 hnil3
              have hB3 : Below w.heap.size w w3 := hB1.grown hgrow3 hB1.size (fun j ej => by cases ej; exact hg1b)
              have HO3 := Lib.hid hown3
              clear hown3 hgrow3 hnil3
              go_wp2
              go_ret

              have e1 : addT ts ⟨c, s⟩ = ts.take k ++ ([] ++ ts.drop (k + 1)) := by rw [HA.out c, if_pos HS.out]; show _ ++ (nz ⟨c + t.c, s⟩ ++ _) = _; rw [HZ.out, len_nz0 HZ0.out]
              exact addEnd (us := addT ts ⟨c, s⟩) hB3 HO3.out (by rw [e1]; have h := lenCat0 ts k (k + 1) (by rw [HN.out]; omega); rw [HN.out] at h; omega) (by rw [e1]; first | exact cat0 _ _ | exact cat2 _ _) (by rw [e1]; have h := lenCat0 ts k (k + 1) (by rw [HN.out]; omega); rw [HN.out] at h; omega)
            · have hkn : k + 1 ≤ n := by omega
              go_wp2_with fail
              refine (l2Less_any _ _ _).mono ?_
              rintro e w' ⟨rfl, rfl⟩
              have hll := HL.out
              rw [hll]
              clear hll

              go_wp2_with (at_builtin; refine wpList_append_own _ rfl _ _ 23 rfl w.heap.size TI i0 (.agg #[.int .i64 0, .string ByteArray.empty]) 2 24 Try.underlying23 hi hz0 hz1 hz2 rfl (by decide) _ _ _ rfl hmade ⟨g, 0, none⟩ k cap (termsV (ts.take k)) rfl (HLt.out k (by omega)) (HCt.out k) (oneCell_terms _) (by unfold maxLen; omega) (by omega) (by simp) ?_)
              intro v1 w1 hown1 hgrow1 hnil1
              obtain ⟨g1, cap1, hg1b, rfl⟩ := notNil hown1 hnil1
              have hB1 : Below w.heap.size w w1 := ((Below.refl _ w).alloc (Nat.le_refl _) _).grown hgrow1 (by simp) (fun j ej => by cases ej; exact Nat.le_refl _)
              have HX1 := Lib.hid (HX.out.below hB1)
              have HO1 := Lib.hid hown1
              clear hown1 hgrow1 hnil1

              have r0 := (hB1.cell (p := ⟨g, k * 2, none⟩) HX.out.1).trans q0
              have r1 := (hB1.cell (p := ⟨g, k * 2 + 1, none⟩) HX.out.1).trans q1

              go_wp2_with (at_builtin; refine wpList_append_own _ rfl _ _ 23 rfl w.heap.size TI i0 (.agg #[.int .i64 0, .string ByteArray.empty]) 2 24 Try.underlying23 hi hz0 hz1 hz2 rfl (by decide) _ _ _ rfl HO1.out ⟨g, (k + 1) * 2, none⟩ (n - (k + 1)) _ (termsV (ts.drop (k + 1))) rfl (by rw [termsV_len, List.length_drop, HN.out]; first | done | omega) ((HX1.out.dropAt (k + 1)).cells) (oneCell_terms _) (by unfold maxLen; omega) (by omega) hB1.size ?_)
              intro v3 w3 hown3 hgrow3 hnil3
              obtain ⟨g3, cap3, hg3b, rfl⟩ := notNil hown3 hnil3
              have hB3 : Below w.heap.size w w3 := hB1.grown hgrow3 hB1.size (fun j ej => by cases ej; exact hg1b)
              have HO3 := Lib.hid hown3
              clear hown3 hgrow3 hnil3
              go_wp2
              go_ret

              have e1 : addT ts ⟨c, s⟩ = ts.take k ++ ([] ++ ts.drop (k + 1)) := by rw [HA.out c, if_pos HS.out]; show _ ++ (nz ⟨c + t.c, s⟩ ++ _) = _; rw [HZ.out, len_nz0 HZ0.out]
              exact addEnd (us := addT ts ⟨c, s⟩) hB3 HO3.out (by rw [e1]; have h := lenCat0 ts k (k + 1) (by rw [HN.out]; omega); rw [HN.out] at h; omega) (by rw [e1]; first | exact cat0 _ _ | exact cat2 _ _) (by rw [e1]; have h := lenCat0 ts k (k + 1) (by rw [HN.out]; omega); rw [HN.out] at h; omega)
          · have HZ0 := Lib.hid hz0
            have hzb : (z != 0) = true := by simpa using hz0
            clear hz0
            by_cases hck1 : cap = k + 1
            · obtain rfl : n = k + 1 := by omega
              subst hck1
              go_wp2_with fail
              refine (l2Less_any _ _ _).mono ?_
              rintro e w' ⟨rfl, rfl⟩
              have hll := HL.out
              rw [hll]
              clear hll

              go_wp2_with (at_builtin; refine wpList_append_own _ rfl _ _ 23 rfl w.heap.size TI i0 (.agg #[.int .i64 0, .string ByteArray.empty]) 2 24 Try.underlying23 hi hz0 hz1 hz2 rfl (by decide) _ _ _ rfl hmade ⟨g, 0, none⟩ k (k + 1) (termsV (ts.take k)) rfl (HLt.out k (by omega)) (HCt.out k) (oneCell_terms _) (by unfold maxLen; omega) (by omega) (by simp) ?_)
              intro v1 w1 hown1 hgrow1 hnil1
              obtain ⟨g1, cap1, hg1b, rfl⟩ := notNil hown1 hnil1
              have hB1 : Below w.heap.size w w1 := ((Below.refl _ w).alloc (Nat.le_refl _) _).grown hgrow1 (by simp) (fun j ej => by cases ej; exact Nat.le_refl _)
              have HX1 := Lib.hid (HX.out.below hB1)
              have HO1 := Lib.hid hown1
              clear hown1 hgrow1 hnil1

              have r0 := (hB1.cell (p := ⟨g, k * 2, none⟩) HX.out.1).trans q0
              have r1 := (hB1.cell (p := ⟨g, k * 2 + 1, none⟩) HX.out.1).trans q1

              go_wp2_with (at_builtin; refine wpList_append_own _ rfl _ _ 23 rfl w.heap.size TI i0 (.agg #[.int .i64 0, .string ByteArray.empty]) 2 24 Try.underlying23 hi hz0 hz1 hz2 rfl (by decide) _ _ _ rfl (HO1.out.alloc _) ⟨w1.heap.size, 0, none⟩ 1 1 [.int .i64 z, .string s] rfl rfl (cell_pair_new _ _ _ _) (fun u hu => by simp at hu; rcases hu with rfl | rfl <;> rfl) (by unfold maxLen; omega) (by omega) (by have := hB1.size; simp; omega) ?_)
              intro v2 w2 hown2 hgrow2 hnil2
              obtain ⟨g2, cap2, hg2b, rfl⟩ := notNil hown2 hnil2
              have hB2 : Below w.heap.size w w2 := (hB1.alloc hB1.size _).grown hgrow2 (by have := hB1.size; simp; omega) (fun j ej => by cases ej; exact hg1b)
              have HX2 := Lib.hid (HX.out.below hB2)
              have HO2 := Lib.hid hown2
              clear hown2 hgrow2 hnil2

              go_wp2_with (at_builtin; refine wpList_append_own _ rfl _ _ 23 rfl w.heap.size TI i0 (.agg #[.int .i64 0, .string ByteArray.empty]) 2 24 Try.underlying23 hi hz0 hz1 hz2 rfl (by decide) _ _ _ rfl HO2.out ⟨g, 0, none⟩ (0) _ (termsV (ts.drop (k + 1))) rfl (by rw [List.drop_of_length_le (by rw [HN.out]; omega)]; show 0 = _; omega) (fun j u h => by rw [List.drop_of_length_le (by rw [HN.out]; omega)] at h; simp [termsV] at h) (oneCell_terms _) (by unfold maxLen; omega) (by omega) hB2.size ?_)
              intro v3 w3 hown3 hgrow3 hnil3
              obtain ⟨g3, cap3, hg3b, rfl⟩ := notNil hown3 hnil3
              have hB3 : Below w.heap.size w w3 := hB2.grown hgrow3 hB2.size (fun j ej => by cases ej; exact hg2b)
              have HO3 := Lib.hid hown3
              clear hown3 hgrow3 hnil3
              go_wp2
              go_ret

              have e1 : addT ts ⟨c, s⟩ = ts.take k ++ ([⟨z, s⟩] ++ ts.drop (k + 1)) := by rw [HA.out c, if_pos HS.out]; show _ ++ (nz ⟨c + t.c, s⟩ ++ _) = _; rw [HZ.out, len_nz1 HZ0.out]
              exact addEnd (us := addT ts ⟨c, s⟩) hB3 HO3.out (by rw [e1]; have h := lenCat1 ts k (k + 1) ⟨z, s⟩ (by rw [HN.out]; omega); rw [HN.out] at h; omega) (by rw [e1]; first | exact cat1 _ _ _ _ | exact cat3 _ _ _ _) (by rw [e1]; have h := lenCat1 ts k (k + 1) ⟨z, s⟩ (by rw [HN.out]; omega); rw [HN.out] at h; omega)
            · have hkn : k + 1 ≤ n := by omega
              go_wp2_with fail
              refine (l2Less_any _ _ _).mono ?_
              rintro e w' ⟨rfl, rfl⟩
              have hll := HL.out
              rw [hll]
              clear hll

              go_wp2_with (at_builtin; refine wpList_append_own _ rfl _ _ 23 rfl w.heap.size TI i0 (.agg #[.int .i64 0, .string ByteArray.empty]) 2 24 Try.underlying23 hi hz0 hz1 hz2 rfl (by decide) _ _ _ rfl hmade ⟨g, 0, none⟩ k cap (termsV (ts.take k)) rfl (HLt.out k (by omega)) (HCt.out k) (oneCell_terms _) (by unfold maxLen; omega) (by omega) (by simp) ?_)
              intro v1 w1 hown1 hgrow1 hnil1
              obtain ⟨g1, cap1, hg1b, rfl⟩ := notNil hown1 hnil1
              have hB1 : Below w.heap.size w w1 := ((Below.refl _ w).alloc (Nat.le_refl _) _).grown hgrow1 (by simp) (fun j ej => by cases ej; exact Nat.le_refl _)
              have HX1 := Lib.hid (HX.out.below hB1)
              have HO1 := Lib.hid hown1
              clear hown1 hgrow1 hnil1

              have r0 := (hB1.cell (p := ⟨g, k * 2, none⟩) HX.out.1).trans q0
              have r1 := (hB1.cell (p := ⟨g, k * 2 + 1, none⟩) HX.out.1).trans q1

              go_wp2_with (at_builtin; refine wpList_append_own _ rfl _ _ 23 rfl w.heap.size TI i0 (.agg #[.int .i64 0, .string ByteArray.empty]) 2 24 Try.underlying23 hi hz0 hz1 hz2 rfl (by decide) _ _ _ rfl (HO1.out.alloc _) ⟨w1.heap.size, 0, none⟩ 1 1 [.int .i64 z, .string s] rfl rfl (cell_pair_new _ _ _ _) (fun u hu => by simp at hu; rcases hu with rfl | rfl <;> rfl) (by unfold maxLen; omega) (by omega) (by have := hB1.size; simp; omega) ?_)
              intro v2 w2 hown2 hgrow2 hnil2
              obtain ⟨g2, cap2, hg2b, rfl⟩ := notNil hown2 hnil2
              have hB2 : Below w.heap.size w w2 := (hB1.alloc hB1.size _).grown hgrow2 (by have := hB1.size; simp; omega) (fun j ej => by cases ej; exact hg1b)
              have HX2 := Lib.hid (HX.out.below hB2)
              have HO2 := Lib.hid hown2
              clear hown2 hgrow2 hnil2

              go_wp2_with (at_builtin; refine wpList_append_own _ rfl _ _ 23 rfl w.heap.size TI i0 (.agg #[.int .i64 0, .string ByteArray.empty]) 2 24 Try.underlying23 hi hz0 hz1 hz2 rfl (by decide) _ _ _ rfl HO2.out ⟨g, (k + 1) * 2, none⟩ (n - (k + 1)) _ (termsV (ts.drop (k + 1))) rfl (by rw [termsV_len, List.length_drop, HN.out]; first | done | omega) ((HX2.out.dropAt (k + 1)).cells) (oneCell_terms _) (by unfold maxLen; omega) (by omega) hB2.size ?_)
              intro v3 w3 hown3 hgrow3 hnil3
              obtain ⟨g3, cap3, hg3b, rfl⟩ := notNil hown3 hnil3
              have hB3 : Below w.heap.size w w3 := hB2.grown hgrow3 hB2.size (fun j ej => by cases ej; exact hg2b)
              have HO3 := Lib.hid hown3
              clear hown3 hgrow3 hnil3
              go_wp2
              go_ret

              have e1 : addT ts ⟨c, s⟩ = ts.take k ++ ([⟨z, s⟩] ++ ts.drop (k + 1)) := by rw [HA.out c, if_pos HS.out]; show _ ++ (nz ⟨c + t.c, s⟩ ++ _) = _; rw [HZ.out, len_nz1 HZ0.out]
              exact addEnd (us := addT ts ⟨c, s⟩) hB3 HO3.out (by rw [e1]; have h := lenCat1 ts k (k + 1) ⟨z, s⟩ (by rw [HN.out]; omega); rw [HN.out] at h; omega) (by rw [e1]; first | exact cat1 _ _ _ _ | exact cat3 _ _ _ _) (by rw [e1]; have h := lenCat1 ts k (k + 1) ⟨z, s⟩ (by rw [HN.out]; omega); rw [HN.out] at h; omega)
        · have HS := Lib.hid hts
          have hst : (t.s.toList == s.toList) = false := by
            rw [beq_eq_false_iff_ne]; exact fun e => HS.out (bytes_ext2 e)
          clear hts
          by_cases hz0 : c = 0
          · have HZ0 := Lib.hid hz0
            have hzb : (c != 0) = false := by rw [hz0]; rfl
            clear hz0
            go_wp2_with fail
            refine (l2Less_any _ _ _).mono ?_
            rintro e w' ⟨rfl, rfl⟩
            have hll := HL.out
            rw [hll]
            clear hll

            go_wp2_with (at_builtin; refine wpList_append_own _ rfl _ _ 23 rfl w.heap.size TI i0 (.agg #[.int .i64 0, .string ByteArray.empty]) 2 24 Try.underlying23 hi hz0 hz1 hz2 rfl (by decide) _ _ _ rfl hmade ⟨g, 0, none⟩ k cap (termsV (ts.take k)) rfl (HLt.out k (by omega)) (HCt.out k) (oneCell_terms _) (by unfold maxLen; omega) (by omega) (by simp) ?_)
            intro v1 w1 hown1 hgrow1 hnil1
            obtain ⟨g1, cap1, hg1b, rfl⟩ := notNil hown1 hnil1
            have hB1 : Below w.heap.size w w1 := ((Below.refl _ w).alloc (Nat.le_refl _) _).grown hgrow1 (by simp) (fun j ej => by cases ej; exact Nat.le_refl _)
            have HX1 := Lib.hid (HX.out.below hB1)
            have HO1 := Lib.hid hown1
            clear hown1 hgrow1 hnil1

            have r0 := (hB1.cell (p := ⟨g, k * 2, none⟩) HX.out.1).trans q0
            have r1 := (hB1.cell (p := ⟨g, k * 2 + 1, none⟩) HX.out.1).trans q1

            go_wp2_with (at_builtin; refine wpList_append_own _ rfl _ _ 23 rfl w.heap.size TI i0 (.agg #[.int .i64 0, .string ByteArray.empty]) 2 24 Try.underlying23 hi hz0 hz1 hz2 rfl (by decide) _ _ _ rfl HO1.out ⟨g, (k) * 2, none⟩ (n - (k)) _ (termsV (ts.drop (k))) rfl (by rw [termsV_len, List.length_drop, HN.out]; first | done | omega) ((HX1.out.dropAt (k)).cells) (oneCell_terms _) (by unfold maxLen; omega) (by omega) hB1.size ?_)
            intro v3 w3 hown3 hgrow3 hnil3
            obtain ⟨g3, cap3, hg3b, rfl⟩ := notNil hown3 hnil3
            have hB3 : Below w.heap.size w w3 := hB1.grown hgrow3 hB1.size (fun j ej => by cases ej; exact hg1b)
            have HO3 := Lib.hid hown3
            clear hown3 hgrow3 hnil3
            go_wp2
            go_ret

            have e1 : addT ts ⟨c, s⟩ = ts.take k ++ ([] ++ ts.drop k) := by rw [HA.out c, if_neg HS.out, len_nz0 HZ0.out]
            exact addEnd (us := addT ts ⟨c, s⟩) hB3 HO3.out (by rw [e1]; have h := lenCat0 ts k (k) (by rw [HN.out]; omega); rw [HN.out] at h; omega) (by rw [e1]; first | exact cat0 _ _ | exact cat2 _ _) (by rw [e1]; have h := lenCat0 ts k (k) (by rw [HN.out]; omega); rw [HN.out] at h; omega)
          · have HZ0 := Lib.hid hz0
            have hzb : (c != 0) = true := by simpa using hz0
            clear hz0
            go_wp2_with fail
            refine (l2Less_any _ _ _).mono ?_
            rintro e w' ⟨rfl, rfl⟩
            have hll := HL.out
            rw [hll]
            clear hll

            go_wp2_with (at_builtin; refine wpList_append_own _ rfl _ _ 23 rfl w.heap.size TI i0 (.agg #[.int .i64 0, .string ByteArray.empty]) 2 24 Try.underlying23 hi hz0 hz1 hz2 rfl (by decide) _ _ _ rfl hmade ⟨g, 0, none⟩ k cap (termsV (ts.take k)) rfl (HLt.out k (by omega)) (HCt.out k) (oneCell_terms _) (by unfold maxLen; omega) (by omega) (by simp) ?_)
            intro v1 w1 hown1 hgrow1 hnil1
            obtain ⟨g1, cap1, hg1b, rfl⟩ := notNil hown1 hnil1
            have hB1 : Below w.heap.size w w1 := ((Below.refl _ w).alloc (Nat.le_refl _) _).grown hgrow1 (by simp) (fun j ej => by cases ej; exact Nat.le_refl _)
            have HX1 := Lib.hid (HX.out.below hB1)
            have HO1 := Lib.hid hown1
            clear hown1 hgrow1 hnil1

            have r0 := (hB1.cell (p := ⟨g, k * 2, none⟩) HX.out.1).trans q0
            have r1 := (hB1.cell (p := ⟨g, k * 2 + 1, none⟩) HX.out.1).trans q1

            go_wp2_with (at_builtin; refine wpList_append_own _ rfl _ _ 23 rfl w.heap.size TI i0 (.agg #[.int .i64 0, .string ByteArray.empty]) 2 24 Try.underlying23 hi hz0 hz1 hz2 rfl (by decide) _ _ _ rfl (HO1.out.alloc _) ⟨w1.heap.size, 0, none⟩ 1 1 [.int .i64 c, .string s] rfl rfl (cell_pair_new _ _ _ _) (fun u hu => by simp at hu; rcases hu with rfl | rfl <;> rfl) (by unfold maxLen; omega) (by omega) (by have := hB1.size; simp; omega) ?_)
            intro v2 w2 hown2 hgrow2 hnil2
            obtain ⟨g2, cap2, hg2b, rfl⟩ := notNil hown2 hnil2
            have hB2 : Below w.heap.size w w2 := (hB1.alloc hB1.size _).grown hgrow2 (by have := hB1.size; simp; omega) (fun j ej => by cases ej; exact hg1b)
            have HX2 := Lib.hid (HX.out.below hB2)
            have HO2 := Lib.hid hown2
            clear hown2 hgrow2 hnil2

            go_wp2_with (at_builtin; refine wpList_append_own _ rfl _ _ 23 rfl w.heap.size TI i0 (.agg #[.int .i64 0, .string ByteArray.empty]) 2 24 Try.underlying23 hi hz0 hz1 hz2 rfl (by decide) _ _ _ rfl HO2.out ⟨g, (k) * 2, none⟩ (n - (k)) _ (termsV (ts.drop (k))) rfl (by rw [termsV_len, List.length_drop, HN.out]; first | done | omega) ((HX2.out.dropAt (k)).cells) (oneCell_terms _) (by unfold maxLen; omega) (by omega) hB2.size ?_)
            intro v3 w3 hown3 hgrow3 hnil3
            obtain ⟨g3, cap3, hg3b, rfl⟩ := notNil hown3 hnil3
            have hB3 : Below w.heap.size w w3 := hB2.grown hgrow3 hB2.size (fun j ej => by cases ej; exact hg2b)
            have HO3 := Lib.hid hown3
            clear hown3 hgrow3 hnil3
            go_wp2
            go_ret

            have e1 : addT ts ⟨c, s⟩ = ts.take k ++ ([⟨c, s⟩] ++ ts.drop k) := by rw [HA.out c, if_neg HS.out, len_nz1 HZ0.out]
            exact addEnd (us := addT ts ⟨c, s⟩) hB3 HO3.out (by rw [e1]; have h := lenCat1 ts k (k) ⟨c, s⟩ (by rw [HN.out]; omega); rw [HN.out] at h; omega) (by rw [e1]; first | exact cat1 _ _ _ _ | exact cat3 _ _ _ _) (by rw [e1]; have h := lenCat1 ts k (k) ⟨c, s⟩ (by rw [HN.out]; omega); rw [HN.out] at h; omega)
    · obtain rfl : k = n := by omega
      have HE := Lib.hid (fun c' => addT_end (ts := ts) (t := ⟨c', s⟩) (fun j hj => HJ.out j hj (by rw [← HN.out]; exact hj)))
      by_cases hcap0 : cap = 0
      · obtain rfl : k = 0 := by omega
        have HTn : Hid (ts = []) := Lib.hid (List.length_eq_zero_iff.1 HN.out)
        subst hcap0
        have HM := Lib.hid hmade
        clear hmade
        by_cases hz0 : c = 0
        · have HZ0 := Lib.hid hz0
          have hzb : (c != 0) = false := by rw [hz0]; rfl
          clear hz0
          go_wp2
          go_ret
          have e1 : addT ts ⟨c, s⟩ = [] := by rw [HTn.out, addT, len_nz0 HZ0.out]
          exact addEnd (us := addT ts ⟨c, s⟩) ((Below.refl _ w).alloc (Nat.le_refl _) _) HM.out (by rw [e1]; rfl) (by rw [e1]; rfl) (by rw [e1]; rfl)
        · have HZ0 := Lib.hid hz0
          have hzb : (c != 0) = true := by simpa using hz0
          clear hz0
          have HPN := Lib.hid (cell_pair_new (w.alloc (.cells #[] TI)) (.int .i64 c) (.string s) TI)
          simp only [World.size_alloc] at HPN

          go_wp2_with (at_builtin; refine wpList_append_own _ rfl _ _ 23 rfl w.heap.size TI i0 (.agg #[.int .i64 0, .string ByteArray.empty]) 2 24 Try.underlying23 hi hz0 hz1 hz2 rfl (by decide) _ _ _ rfl (HM.out.alloc _) ⟨w.heap.size + 1, 0, none⟩ 1 1 [.int .i64 c, .string s] rfl rfl (HPN.out) (fun u hu => by simp at hu; rcases hu with rfl | rfl <;> rfl) (by unfold maxLen; omega) (by omega) (by simp; omega) ?_)
          intro v2 w2 hown2 hgrow2 hnil2
          obtain ⟨g2, cap2, hg2b, rfl⟩ := notNil hown2 hnil2
          have hB2 : Below w.heap.size w w2 := (((Below.refl _ w).alloc (Nat.le_refl _) _).alloc (by simp) _).grown hgrow2 (by simp; omega) (fun j ej => by cases ej; exact Nat.le_refl _)
          have HO2 := Lib.hid hown2
          clear hown2 hgrow2 hnil2
          go_wp2_with (at_builtin; refine wpList_append_own _ rfl _ _ 23 rfl w.heap.size TI i0 (.agg #[.int .i64 0, .string ByteArray.empty]) 2 24 Try.underlying23 hi hz0 hz1 hz2 rfl (by decide) _ _ _ rfl HO2.out ⟨g, 0, none⟩ 0 _ [] rfl rfl (fun j u h => by simp at h) (fun u hu => by cases hu) (by unfold maxLen; omega) (by omega) hB2.size ?_)
          intro v3 w3 hown3 hgrow3 hnil3
          obtain ⟨g3, cap3, hg3b, rfl⟩ := notNil hown3 hnil3
          have hB3 : Below w.heap.size w w3 := hB2.grown hgrow3 hB2.size (fun j ej => by cases ej; exact hg2b)
          have HO3 := Lib.hid hown3
          clear hown3 hgrow3 hnil3
          go_wp2
          go_ret
          have e1 : addT ts ⟨c, s⟩ = [⟨c, s⟩] := by rw [HTn.out, addT, len_nz1 HZ0.out]
          exact addEnd (us := addT ts ⟨c, s⟩) hB3 HO3.out (by rw [e1]; rfl) (by rw [e1]; rfl) (by rw [e1]; rfl)
      by_cases hz0 : c = 0
      · have HZ0 := Lib.hid hz0
        have hzb : (c != 0) = false := by rw [hz0]; rfl
        clear hz0
        by_cases hck : cap = k
        · have hck2 := hck.symm
          clear hck
          subst hck2
          go_wp2_with (at_builtin; refine wpList_append_own _ rfl _ _ 23 rfl w.heap.size TI i0 (.agg #[.int .i64 0, .string ByteArray.empty]) 2 24 Try.underlying23 hi hz0 hz1 hz2 rfl (by decide) _ _ _ rfl hmade ⟨g, 0, none⟩ k k (termsV (ts.take k)) rfl (HLt.out k (by omega)) (HCt.out k) (oneCell_terms _) (by unfold maxLen; omega) (by omega) (by simp) ?_)
          intro v1 w1 hown1 hgrow1 hnil1
          obtain ⟨g1, cap1, hg1b, rfl⟩ := notNil hown1 hnil1
          have hB1 : Below w.heap.size w w1 := ((Below.refl _ w).alloc (Nat.le_refl _) _).grown hgrow1 (by simp) (fun j ej => by cases ej; exact Nat.le_refl _)
          have HX1 := Lib.hid (HX.out.below hB1)
          have HO1 := Lib.hid hown1
          clear hown1 hgrow1 hnil1

          go_wp2_with (at_builtin; refine wpList_append_own _ rfl _ _ 23 rfl w.heap.size TI i0 (.agg #[.int .i64 0, .string ByteArray.empty]) 2 24 Try.underlying23 hi hz0 hz1 hz2 rfl (by decide) _ _ _ rfl HO1.out ⟨g, 0, none⟩ (0) _ (termsV (ts.drop k)) rfl (by rw [List.drop_of_length_le (by rw [HN.out]; omega)]; show 0 = _; omega) (fun j u h => by rw [List.drop_of_length_le (by rw [HN.out]; omega)] at h; simp [termsV] at h) (oneCell_terms _) (by unfold maxLen; omega) (by omega) hB1.size ?_)
          intro v3 w3 hown3 hgrow3 hnil3
          obtain ⟨g3, cap3, hg3b, rfl⟩ := notNil hown3 hnil3
          have hB3 : Below w.heap.size w w3 := hB1.grown hgrow3 hB1.size (fun j ej => by cases ej; exact hg1b)
          have HO3 := Lib.hid hown3
          clear hown3 hgrow3 hnil3
          go_wp2
          go_ret

          have e1 : addT ts ⟨c, s⟩ = ts.take k ++ ([] ++ ts.drop k) := by rw [HE.out c, len_nz0 HZ0.out, List.take_of_length_le (by rw [HN.out]; exact Nat.le_refl _), List.drop_of_length_le (by rw [HN.out]; exact Nat.le_refl _)]; rfl
          exact addEnd (us := addT ts ⟨c, s⟩) hB3 HO3.out (by rw [e1]; have h := lenCat0 ts k (k) (by rw [HN.out]; omega); rw [HN.out] at h; omega) (by rw [e1]; first | exact cat0 _ _ | exact cat2 _ _) (by rw [e1]; have h := lenCat0 ts k (k) (by rw [HN.out]; omega); rw [HN.out] at h; omega)
        · have hcp := hcap
          go_wp2_with (at_builtin; refine wpList_append_own _ rfl _ _ 23 rfl w.heap.size TI i0 (.agg #[.int .i64 0, .string ByteArray.empty]) 2 24 Try.underlying23 hi hz0 hz1 hz2 rfl (by decide) _ _ _ rfl hmade ⟨g, 0, none⟩ k cap (termsV (ts.take k)) rfl (HLt.out k (by omega)) (HCt.out k) (oneCell_terms _) (by unfold maxLen; omega) (by omega) (by simp) ?_)
          intro v1 w1 hown1 hgrow1 hnil1
          obtain ⟨g1, cap1, hg1b, rfl⟩ := notNil hown1 hnil1
          have hB1 : Below w.heap.size w w1 := ((Below.refl _ w).alloc (Nat.le_refl _) _).grown hgrow1 (by simp) (fun j ej => by cases ej; exact Nat.le_refl _)
          have HX1 := Lib.hid (HX.out.below hB1)
          have HO1 := Lib.hid hown1
          clear hown1 hgrow1 hnil1

          go_wp2_with (at_builtin; refine wpList_append_own _ rfl _ _ 23 rfl w.heap.size TI i0 (.agg #[.int .i64 0, .string ByteArray.empty]) 2 24 Try.underlying23 hi hz0 hz1 hz2 rfl (by decide) _ _ _ rfl HO1.out ⟨g, (k) * 2, none⟩ (0) _ (termsV (ts.drop k)) rfl (by rw [termsV_len, List.length_drop, HN.out]; first | done | omega) ((HX1.out.dropAt k).cells) (oneCell_terms _) (by unfold maxLen; omega) (by omega) hB1.size ?_)
          intro v3 w3 hown3 hgrow3 hnil3
          obtain ⟨g3, cap3, hg3b, rfl⟩ := notNil hown3 hnil3
          have hB3 : Below w.heap.size w w3 := hB1.grown hgrow3 hB1.size (fun j ej => by cases ej; exact hg1b)
          have HO3 := Lib.hid hown3
          clear hown3 hgrow3 hnil3
          go_wp2
          go_ret

          have e1 : addT ts ⟨c, s⟩ = ts.take k ++ ([] ++ ts.drop k) := by rw [HE.out c, len_nz0 HZ0.out, List.take_of_length_le (by rw [HN.out]; exact Nat.le_refl _), List.drop_of_length_le (by rw [HN.out]; exact Nat.le_refl _)]; rfl
          exact addEnd (us := addT ts ⟨c, s⟩) hB3 HO3.out (by rw [e1]; have h := lenCat0 ts k (k) (by rw [HN.out]; omega); rw [HN.out] at h; omega) (by rw [e1]; first | exact cat0 _ _ | exact cat2 _ _) (by rw [e1]; have h := lenCat0 ts k (k) (by rw [HN.out]; omega); rw [HN.out] at h; omega)
      · have HZ0 := Lib.hid hz0
        have hzb : (c != 0) = true := by simpa using hz0
        clear hz0
        by_cases hck : cap = k
        · have hck2 := hck.symm
          clear hck
          subst hck2
          go_wp2_with (at_builtin; refine wpList_append_own _ rfl _ _ 23 rfl w.heap.size TI i0 (.agg #[.int .i64 0, .string ByteArray.empty]) 2 24 Try.underlying23 hi hz0 hz1 hz2 rfl (by decide) _ _ _ rfl hmade ⟨g, 0, none⟩ k k (termsV (ts.take k)) rfl (HLt.out k (by omega)) (HCt.out k) (oneCell_terms _) (by unfold maxLen; omega) (by omega) (by simp) ?_)
          intro v1 w1 hown1 hgrow1 hnil1
          obtain ⟨g1, cap1, hg1b, rfl⟩ := notNil hown1 hnil1
          have hB1 : Below w.heap.size w w1 := ((Below.refl _ w).alloc (Nat.le_refl _) _).grown hgrow1 (by simp) (fun j ej => by cases ej; exact Nat.le_refl _)
          have HX1 := Lib.hid (HX.out.below hB1)
          have HO1 := Lib.hid hown1
          clear hown1 hgrow1 hnil1

          go_wp2_with (at_builtin; refine wpList_append_own _ rfl _ _ 23 rfl w.heap.size TI i0 (.agg #[.int .i64 0, .string ByteArray.empty]) 2 24 Try.underlying23 hi hz0 hz1 hz2 rfl (by decide) _ _ _ rfl (HO1.out.alloc _) ⟨w1.heap.size, 0, none⟩ 1 1 [.int .i64 c, .string s] rfl rfl (cell_pair_new _ _ _ _) (fun u hu => by simp at hu; rcases hu with rfl | rfl <;> rfl) (by unfold maxLen; omega) (by omega) (by have := hB1.size; simp; omega) ?_)
          intro v2 w2 hown2 hgrow2 hnil2
          obtain ⟨g2, cap2, hg2b, rfl⟩ := notNil hown2 hnil2
          have hB2 : Below w.heap.size w w2 := (hB1.alloc hB1.size _).grown hgrow2 (by have := hB1.size; simp; omega) (fun j ej => by cases ej; exact hg1b)
          have HX2 := Lib.hid (HX.out.below hB2)
          have HO2 := Lib.hid hown2
          clear hown2 hgrow2 hnil2

          go_wp2_with (at_builtin; refine wpList_append_own _ rfl _ _ 23 rfl w.heap.size TI i0 (.agg #[.int .i64 0, .string ByteArray.empty]) 2 24 Try.underlying23 hi hz0 hz1 hz2 rfl (by decide) _ _ _ rfl HO2.out ⟨g, 0, none⟩ (0) _ (termsV (ts.drop k)) rfl (by rw [List.drop_of_length_le (by rw [HN.out]; omega)]; show 0 = _; omega) (fun j u h => by rw [List.drop_of_length_le (by rw [HN.out]; omega)] at h; simp [termsV] at h) (oneCell_terms _) (by unfold maxLen; omega) (by omega) hB2.size ?_)
          intro v3 w3 hown3 hgrow3 hnil3
          obtain ⟨g3, cap3, hg3b, rfl⟩ := notNil hown3 hnil3
          have hB3 : Below w.heap.size w w3 := hB2.grown hgrow3 hB2.size (fun j ej => by cases ej; exact hg2b)
          have HO3 := Lib.hid hown3
          clear hown3 hgrow3 hnil3
          go_wp2
          go_ret

          have e1 : addT ts ⟨c, s⟩ = ts.take k ++ ([⟨c, s⟩] ++ ts.drop k) := by rw [HE.out c, len_nz1 HZ0.out, List.take_of_length_le (by rw [HN.out]; exact Nat.le_refl _), List.drop_of_length_le (by rw [HN.out]; exact Nat.le_refl _)]; rfl
          exact addEnd (us := addT ts ⟨c, s⟩) hB3 HO3.out (by rw [e1]; have h := lenCat1 ts k (k) ⟨c, s⟩ (by rw [HN.out]; omega); rw [HN.out] at h; omega) (by rw [e1]; first | exact cat1 _ _ _ _ | exact cat3 _ _ _ _) (by rw [e1]; have h := lenCat1 ts k (k) ⟨c, s⟩ (by rw [HN.out]; omega); rw [HN.out] at h; omega)
        · have hcp := hcap
          go_wp2_with (at_builtin; refine wpList_append_own _ rfl _ _ 23 rfl w.heap.size TI i0 (.agg #[.int .i64 0, .string ByteArray.empty]) 2 24 Try.underlying23 hi hz0 hz1 hz2 rfl (by decide) _ _ _ rfl hmade ⟨g, 0, none⟩ k cap (termsV (ts.take k)) rfl (HLt.out k (by omega)) (HCt.out k) (oneCell_terms _) (by unfold maxLen; omega) (by omega) (by simp) ?_)
          intro v1 w1 hown1 hgrow1 hnil1
          obtain ⟨g1, cap1, hg1b, rfl⟩ := notNil hown1 hnil1
          have hB1 : Below w.heap.size w w1 := ((Below.refl _ w).alloc (Nat.le_refl _) _).grown hgrow1 (by simp) (fun j ej => by cases ej; exact Nat.le_refl _)
          have HX1 := Lib.hid (HX.out.below hB1)
          have HO1 := Lib.hid hown1
          clear hown1 hgrow1 hnil1

          go_wp2_with (at_builtin; refine wpList_append_own _ rfl _ _ 23 rfl w.heap.size TI i0 (.agg #[.int .i64 0, .string ByteArray.empty]) 2 24 Try.underlying23 hi hz0 hz1 hz2 rfl (by decide) _ _ _ rfl (HO1.out.alloc _) ⟨w1.heap.size, 0, none⟩ 1 1 [.int .i64 c, .string s] rfl rfl (cell_pair_new _ _ _ _) (fun u hu => by simp at hu; rcases hu with rfl | rfl <;> rfl) (by unfold maxLen; omega) (by omega) (by have := hB1.size; simp; omega) ?_)
          intro v2 w2 hown2 hgrow2 hnil2
          obtain ⟨g2, cap2, hg2b, rfl⟩ := notNil hown2 hnil2
          have hB2 : Below w.heap.size w w2 := (hB1.alloc hB1.size _).grown hgrow2 (by have := hB1.size; simp; omega) (fun j ej => by cases ej; exact hg1b)
          have HX2 := Lib.hid (HX.out.below hB2)
          have HO2 := Lib.hid hown2
          clear hown2 hgrow2 hnil2

          go_wp2_with (at_builtin; refine wpList_append_own _ rfl _ _ 23 rfl w.heap.size TI i0 (.agg #[.int .i64 0, .string ByteArray.empty]) 2 24 Try.underlying23 hi hz0 hz1 hz2 rfl (by decide) _ _ _ rfl HO2.out ⟨g, (k) * 2, none⟩ (0) _ (termsV (ts.drop k)) rfl (by rw [termsV_len, List.length_drop, HN.out]; first | done | omega) ((HX2.out.dropAt k).cells) (oneCell_terms _) (by unfold maxLen; omega) (by omega) hB2.size ?_)
          intro v3 w3 hown3 hgrow3 hnil3
          obtain ⟨g3, cap3, hg3b, rfl⟩ := notNil hown3 hnil3
          have hB3 : Below w.heap.size w w3 := hB2.grown hgrow3 hB2.size (fun j ej => by cases ej; exact hg2b)
          have HO3 := Lib.hid hown3
          clear hown3 hgrow3 hnil3
          go_wp2
          go_ret

          have e1 : addT ts ⟨c, s⟩ = ts.take k ++ ([⟨c, s⟩] ++ ts.drop k) := by rw [HE.out c, len_nz1 HZ0.out, List.take_of_length_le (by rw [HN.out]; exact Nat.le_refl _), List.drop_of_length_le (by rw [HN.out]; exact Nat.le_refl _)]; rfl
          exact addEnd (us := addT ts ⟨c, s⟩) hB3 HO3.out (by rw [e1]; have h := lenCat1 ts k (k) ⟨c, s⟩ (by rw [HN.out]; omega); rw [HN.out] at h; omega) (by rw [e1]; first | exact cat1 _ _ _ _ | exact cat3 _ _ _ _) (by rw [e1]; have h := lenCat1 ts k (k) ⟨c, s⟩ (by rw [HN.out]; omega); rw [HN.out] at h; omega)

end Go.Proofs.Ytebgcebjlbhjjaa

/- The contracts of the model's 'l2Done' and 'SumOf'. -/

namespace Go.Proofs.Ytebgcebjlbhjjaa
open Go.RowKit Go.Shelf

/-- A slice value of the call's own that holds terms; nil where there are none, maybe. -/
def OwnT (base : Nat) (w : World) (v : Value) (ts : List Tm) : Prop := w.ownsRow base TI 2 v ts.length (termsV ts)
theorem OwnTerms.own {base : Nat} {w : World} {v : Value} {ts : List Tm} (h : OwnTerms base w v ts) : OwnT base w v ts := by obtain ⟨g, cap, _, h⟩ := h; exact h
theorem OwnT.mono {b1 b2 : Nat} {w : World} {v : Value} {ts : List Tm} (h : OwnT b1 w v ts) (hb : b2 ≤ b1) : OwnT b2 w v ts := ownsRow_base h hb
theorem OwnT.below {base : Nat} {w w' : World} {v : Value} {ts : List Tm} (h : OwnT base w v ts) (hb : Below w.heap.size w w') : OwnT base w' v ts :=
  h.kept ⟨hb.os, hb.tape, hb.output, hb.size, fun j hj _ => hb.block j hj⟩ (row := none) (by
    rcases h.2 with ⟨rfl, _⟩ | ⟨g, cap, cur, rfl, _⟩
    · exact .inl rfl
    · exact .inr (by simp [Value.ownBlock]))
theorem OwnTerms.below {base : Nat} {w w' : World} {v : Value} {ts : List Tm} (h : OwnTerms base w v ts) (hb : Below w.heap.size w w') : OwnTerms base w' v ts := by
  have h2 := h.own.below hb
  obtain ⟨g, cap, e, _⟩ := h
  exact ⟨g, cap, e, h2⟩
theorem OwnTerms.mono {b1 b2 : Nat} {w : World} {v : Value} {ts : List Tm} (h : OwnTerms b1 w v ts) (hb : b2 ≤ b1) : OwnTerms b2 w v ts := by
  obtain ⟨g, cap, e, h⟩ := h
  exact ⟨g, cap, e, ownsRow_base h hb⟩
/-- What fits into an integer of 64 bits and into a text. -/
def SmallT (ts : List Tm) : Prop := ts.length ≤ maxLen ∧ ∀ t ∈ ts, t.s.size ≤ maxLen ∧ -9223372036854775808 ≤ t.c ∧ t.c ≤ 9223372036854775807
theorem OwnT.isTerms {base : Nat} {w : World} {v : Value} {ts : List Tm} (h : OwnT base w v ts) (hs : SmallT ts) : ∃ a cap, v = .slice a ts.length cap ∧ IsTerms w a ts.length ts := by
  rcases h.2 with ⟨rfl, h0⟩ | ⟨g, cap, cur, rfl, hb, hg, hn, hc, _⟩
  · exact ⟨none, 0, by rw [h0], rfl, hs.1, fun hp => absurd hp (by omega), hs.2⟩
  · exact ⟨_, cap, rfl, rfl, hs.1, fun _ => ⟨_, rfl, termsAt_of_owns rfl h⟩, hs.2⟩
theorem OwnTerms.form {base : Nat} {w : World} {v : Value} {ts : List Tm} (h : OwnTerms base w v ts) : ∃ g cap, v = .slice (some ⟨g, 0, none⟩) ts.length cap ∧ TermsAt w ⟨g, 0, none⟩ ts ∧ ts.length ≤ cap ∧ cap ≤ maxLen ∧ base ≤ g := by
  obtain ⟨g, cap, rfl, h⟩ := h
  obtain ⟨h1, h2, h3, _⟩ := ownsRow_cap h
  exact ⟨g, cap, rfl, termsAt_of_owns rfl h, h1, h2, h3⟩
theorem ownEmpty (w : World) : OwnTerms w.heap.size (w.alloc (.cells #[] TI)) (.slice (some ⟨w.heap.size, 0, none⟩) 0 0) [] :=
  ⟨_, _, rfl, World.ownsRow_made w #[] 0 (Nat.le_refl _) (Nat.zero_le _) rfl⟩

theorem add_bound {t : Tm} {B C : Int} (hC : 0 ≤ C) (ht : -C ≤ t.c ∧ t.c ≤ C) : ∀ {ts : List Tm}, (∀ u ∈ ts, -B ≤ u.c ∧ u.c ≤ B) → 0 ≤ B → ∀ u ∈ addT ts t, -(B + C) ≤ u.c ∧ u.c ≤ B + C
  | [], _, hB, u, hu => by rw [addT] at hu; rw [(nz_mem hu).1]; omega
  | x :: r, h, hB, u, hu => by
    rw [addT] at hu
    have hx := h x (by simp)
    split at hu
    · rcases List.mem_cons.1 hu with rfl | hu
      · omega
      · exact add_bound hC ht (fun v hv => h v (by simp [hv])) hB u hu
    · split at hu
      · rcases List.mem_append.1 hu with hu | hu
        · rw [(nz_mem hu).1]; show -(B + C) ≤ t.c + x.c ∧ t.c + x.c ≤ B + C; omega
        · have := h u (by simp [hu]); omega
      · rcases List.mem_append.1 hu with hu | hu
        · rw [(nz_mem hu).1]; omega
        · have := h u hu; omega
theorem add_len (t : Tm) : ∀ ts : List Tm, (addT ts t).length ≤ ts.length + 1
  | [] => by rw [addT]; unfold nz; split <;> simp
  | x :: r => by
    have h0 : ∀ y : Tm, (nz y).length ≤ 1 := fun y => by unfold nz; split <;> simp
    rw [addT]
    split
    · have := add_len t r; simp only [List.length_cons]; omega
    · split
      · have := h0 ⟨t.c + x.c, t.s⟩; simp only [List.length_append, List.length_cons]; omega
      · have := h0 t; simp only [List.length_append, List.length_cons]; omega
theorem add_small {t : Tm} {ts : List Tm} {M : Nat} (ht : t.s.size ≤ M) (h : ∀ u ∈ ts, u.s.size ≤ M) : ∀ u ∈ addT ts t, u.s.size ≤ M := fun u hu => by
  rcases add_words hu with e | ⟨v, hv, e⟩
  · rw [e]; exact ht
  · rw [← e]; exact h v hv

/-- A list that grows term by term. -/
structure Acc (base : Nat) (w : World) (v : Value) (acc : List Tm) (N : Nat) (B : Int) : Prop where
  own : OwnTerms base w v acc
  len : acc.length ≤ N
  bnd : ∀ u ∈ acc, -B ≤ u.c ∧ u.c ≤ B
  sml : ∀ u ∈ acc, u.s.size ≤ 60
theorem Acc.below {base : Nat} {w w' : World} {v : Value} {acc : List Tm} {N : Nat} {B : Int} (h : Acc base w v acc N B) (hb : Below w.heap.size w w') : Acc base w' v acc N B := ⟨h.own.below hb, h.len, h.bnd, h.sml⟩
theorem Acc.small {base : Nat} {w : World} {v : Value} {acc : List Tm} {N : Nat} {B : Int} (h : Acc base w v acc N B) (hN : N ≤ 200000) (hB : B ≤ 4000000000000000000) : SmallT acc :=
  ⟨by have := h.len; unfold maxLen; omega, fun u hu => by
    have h1 := h.bnd u hu
    have h2 := h.sml u hu
    unfold maxLen
    omega⟩

/-- The model's step: one term more. -/
theorem step_any (base : Nat) (v : Value) (acc : List Tm) (N : Nat) (B C : Int) (c : Int) (s : ByteArray) (w : World) (h : Acc base w v acc N B) (hN : N ≤ 200000) (hB : 0 ≤ B) (hC : 0 ≤ C) (hBC : B + C ≤ 4000000000000000000)
    (hc : -C ≤ c ∧ c ≤ C) (hs : s.size ≤ 60) (hbase : base ≤ w.heap.size) :
    Calls Try.prog 65 #[v, .int .i64 c, .string s] w fun e w' => (∃ v', e = .returned v' ∧ Acc base w' v' (addT acc ⟨c, s⟩) (N + 1) (B + C)) ∧ Below w.heap.size w w' := by
  obtain ⟨g, cap, rfl, h1, h2, h3, h4⟩ := h.own.form
  refine (l2Add_any g cap acc.length acc c s w rfl (by have := h.len; omega) h1 h2 h3 (by omega) (by omega) (fun t ht => by have := h.bnd t ht; omega)).mono ?_
  rintro e w' ⟨⟨v', rfl, ho⟩, hb⟩
  exact ⟨⟨v', rfl, ho.mono hbase, by have := add_len ⟨c, s⟩ acc; have := h.len; omega, add_bound hC hc h.bnd hB, add_small hs h.sml⟩, hb⟩

/-- What a function of the model hands back: a list and true, or an empty one and false. -/
def STold (w : World) (b : Bool) (us : List Tm) (e : Ending) (w' : World) : Prop := (∃ v', e = .returned (.tuple #[v', .bool b]) ∧ OwnTerms w.heap.size w' v' (cond b us [])) ∧ Below w.heap.size w w'

theorem sDone_any (base : Nat) (v : Value) (ts : List Tm) (b : Bool) (w : World) (h : OwnTerms base w v ts) (hs : SmallT ts) (hbase : base ≤ w.heap.size) (hb : sumB ts = b) :
    Calls Try.prog 66 #[v] w fun e w' => (∃ v', e = .returned (.tuple #[v', .bool b]) ∧ OwnTerms base w' v' (cond b ts [])) ∧ Below w.heap.size w w' := by
  obtain ⟨g, cap, rfl, h1, h2, h3, h4⟩ := h.form
  have HI : Hid (IsTerms w (some ⟨g, 0, none⟩) ts.length ts) := Lib.hid ⟨rfl, hs.1, fun _ => ⟨_, rfl, h1⟩, hs.2⟩
  obtain ⟨n, hn⟩ : ∃ n, ts.length = n := ⟨_, rfl⟩
  have HH := Lib.hid h
  rw [hn] at HI HH ⊢
  have HB := Lib.hid hb
  have HN := Lib.hid hn
  clear h h1 h2 h3 hs hb hn
  cases b with
  | true =>
    go_enter Try.func66, Try.ntmps66
    go_wp2_with fail
    refine (sSumIn_any _ cap n ts _ HI.out).mono ?_
    rintro e w' ⟨rfl, hb⟩
    have hbb := HB.out
    rw [hbb]
    clear hbb
    go_wp2
    go_ret2
    exact ⟨⟨_, rfl, HH.out.below hb⟩, hb⟩
  | false =>
    go_enter Try.func66, Try.ntmps66
    go_wp2_with fail
    refine (sSumIn_any _ cap n ts _ HI.out).mono ?_
    rintro e w' ⟨rfl, hb⟩
    have hbb := HB.out
    rw [hbb]
    clear hbb
    go_wp2
    go_ret2
    exact ⟨⟨_, rfl, (ownEmpty w').mono (Nat.le_trans hbase hb.size)⟩, hb.trans (((Below.refl _ _).alloc (Nat.le_refl _) _).mono hb.size)⟩

end Go.Proofs.Ytebgcebjlbhjjaa

/- The contract of the model's 'SumOf'. -/

namespace Go.Proofs.Ytebgcebjlbhjjaa
open Go.RowKit Go.Shelf

theorem acc_zero (w : World) : Acc w.heap.size (w.alloc (.cells #[] TI)) (.slice (some ⟨w.heap.size, 0, none⟩) 0 0) [] 0 0 := ⟨ownEmpty w, Nat.le_refl _, fun u h => (by cases h), fun u h => (by cases h)⟩
theorem termB_iff {t : Tm} (h : termB t = true) : t.s.size ≤ 60 ∧ -1000000 ≤ t.c ∧ t.c ≤ 1000000 := by
  unfold termB inR at h
  simp only [Bool.and_eq_true, decide_eq_true_eq] at h
  exact ⟨by have := ((wordB_iff _).1 h.1).1; simpa using this, h.2⟩
theorem fold_succ (ts : List Tm) (k : Nat) (h : k < ts.length) : (ts.take (k + 1)).foldl addT [] = addT ((ts.take k).foldl addT []) ts[k] := by
  rw [List.take_succ_eq_append_getElem h, List.foldl_append]; rfl

/-- What SumOf answers. -/
def ofB (ts : List Tm) : Bool := twB ts && sumB (canonT ts)

set_option maxRecDepth 100000 in
set_option maxHeartbeats 4000000 in
theorem sSumOf_any (a : Option Addr) (cap n : Nat) (ts : List Tm) (b : Bool) (w : World) (hs : IsTerms w a n ts) (hb : ofB ts = b) :
    Calls Try.prog 22 #[.slice a n cap] w (STold w b (canonT ts)) := by
  have hm := hs.max
  have HN := Lib.hid hs.len
  have HS := Lib.hid hs
  have HB := Lib.hid hb
  have hmx : Try.prog.follows .mixedOrders = true := by kernel_rfl
  clear hs hb
  unfold maxLen at hm
  go_enter Try.func22, Try.ntmps22
  go_wp2
  go_loopw [4, 5] (fun v i wr => ∃ k : Nat, k ≤ n ∧ i = .int .i64 k ∧ Hid ((∀ j (h : j < ts.length), j < k → termB ts[j] = true) ∧ (0 < k → n ≤ 300) ∧ Acc w.heap.size wr v ((ts.take k).foldl addT []) k (1000000 * k)) ∧ Below w.heap.size w wr) (fun _ i _ => n - (intOf i).toNat)
  case atStart => exact ⟨0, Nat.zero_le _, rfl, Lib.hid ⟨fun j _ h => absurd h (Nat.not_lt_zero _), fun h => absurd h (Nat.lt_irrefl _), acc_zero w⟩, (Below.refl _ _).alloc (Nat.le_refl _) _⟩
  case round =>
    obtain ⟨k, hk, rfl, HA, hB⟩ := hrel
    by_cases hlt : k < n
    · have hkz : k < ts.length := by rw [HN.out]; exact hlt
      obtain ⟨x, rfl, hx⟩ := HS.out.at_ (by omega)
      obtain ⟨t, ht⟩ : ∃ t, ts[k] = t := ⟨_, rfl⟩
      have hsm : t.s.size ≤ maxLen := by rw [← ht]; exact (HS.out.small _ (List.getElem_mem hkz)).1
      have hxw := hx.below hB
      have hc := hxw.2 k hkz
      have hbx := hxw.1
      rw [ht, addr_next] at hc
      obtain ⟨c0, c1⟩ := hc
      have HT := Lib.hid ht
      clear ht hx hxw
      cases hc : inR (-1000000) 1000000 t.c with
      | false =>
        have HC := Lib.hid hc
        clear hc
        go_wp2_with fail
        refine (l6In_is _ _ _ false _ HC.out).mono ?_
        rintro e w2 ⟨rfl, hb2⟩
        go_wp2
        go_ret2
        have hbf : b = false := by rw [← HB.out]; unfold ofB; rw [twB_at hkz (by rw [HT.out]; unfold termB; rw [HC.out, Bool.and_false])]; rfl
        subst hbf
        have hB2 : Below w.heap.size w w2 := hB.trans (hb2.mono hB.size)
        exact ⟨⟨_, rfl, (ownEmpty w2).mono hB2.size⟩, hB2.alloc hB2.size _⟩
      | true =>
        have HC := Lib.hid hc
        clear hc
        cases hw : wordB t.s.data.toList with
        | false =>
          have HW := Lib.hid hw
          clear hw
          go_wp2_with fail
          refine (l6In_is _ _ _ true _ HC.out).mono ?_
          rintro e w1 ⟨rfl, hb1⟩
          have d1 := (hb1.cell (p := ⟨(x.add (k * 2)).block, (x.add (k * 2)).off + 1, none⟩) (by show (x.add (k * 2)).block < _; rw [addr_add_block]; exact hbx)).trans c1
          go_wp2_with fail
          refine (sWordIn_is _ false _ hsm HW.out).mono ?_
          rintro e w2 ⟨rfl, hb2'⟩
          have hb2 := hb1.trans (hb2'.mono hb1.size)
          go_wp2
          go_ret2
          have hbf : b = false := by rw [← HB.out]; unfold ofB; rw [twB_at hkz (by rw [HT.out]; unfold termB; rw [HW.out]; rfl)]; rfl
          subst hbf
          have hB2 : Below w.heap.size w w2 := hB.trans (hb2.mono hB.size)
          exact ⟨⟨_, rfl, (ownEmpty w2).mono hB2.size⟩, hB2.alloc hB2.size _⟩
        | true =>
          have HW := Lib.hid hw
          clear hw
          by_cases h300 : n ≤ 300
          · have hd3 : decide (300 < n) = false := by simp; omega
            have hbd : -1000000 ≤ t.c ∧ t.c ≤ 1000000 := by have h := HC.out; unfold inR at h; simpa using h
            have hsz : t.s.size ≤ 60 := by have := ((wordB_iff _).1 HW.out).1; simpa using this
            have HBd := Lib.hid hbd
            clear hbd
            go_wp2_with fail
            refine (l6In_is _ _ _ true _ HC.out).mono ?_
            rintro e w1 ⟨rfl, hb1⟩
            have d1 := (hb1.cell (p := ⟨(x.add (k * 2)).block, (x.add (k * 2)).off + 1, none⟩) (by show (x.add (k * 2)).block < _; rw [addr_add_block]; exact hbx)).trans c1
            go_wp2_with fail
            refine (sWordIn_is _ true _ hsm HW.out).mono ?_
            rintro e w2 ⟨rfl, hb2'⟩
            have hb2 := hb1.trans (hb2'.mono hb1.size)
            have hbx2 := Nat.lt_of_lt_of_le hbx hb2.size
            have v0 := (hb2.cell (p := x.add (k * 2)) (by rw [addr_add_block]; exact hbx)).trans c0
            have v1 := (hb2.cell (p := ⟨(x.add (k * 2)).block, (x.add (k * 2)).off + 1, none⟩) (by show (x.add (k * 2)).block < _; rw [addr_add_block]; exact hbx)).trans c1
            have hB2 : Below w.heap.size w w2 := hB.trans (hb2.mono hB.size)
            have HAcc := Lib.hid ((HA.out.2.2).below hb2)
            clear d1 hb1 hb2'
            go_wp2
            go_still_tail 11, hmx
            change wpList _ _ _ _ _ w2.drew
            go_wp2_with fail
            refine (step_any w.heap.size u4 _ k (1000000 * k) 1000000 t.c t.s w2.drew (HAcc.out.below (Below.refl _ _).drew) (by omega) (by omega) (by omega) (by omega) HBd.out hsz hB2.size).mono ?_
            rintro e w3 ⟨⟨v', rfl, ho⟩, hb3⟩
            have hB3 : Below w.heap.size w w3 := hB2.trans (((Below.refl _ _).drew.trans hb3).mono hB2.size)
            have HO := Lib.hid ho
            clear ho hb3
            go_wp2
            go_roundw
            case rel =>
              refine ⟨k + 1, by omega, by go_num, Lib.hid ⟨fun j hj hjk => ?_, fun _ => h300, ?_⟩, hB3⟩
              · by_cases e : j = k
                · subst e; rw [HT.out]; unfold termB; rw [HW.out, HC.out]; rfl
                · exact HA.out.1 j hj (by omega)
              · have h := HO.out
                rw [fold_succ ts k hkz, HT.out]
                rw [show (1000000 : Int) * ((k + 1 : Nat) : Int) = 1000000 * k + 1000000 by omega]
                exact h
            case measure => simp [intOf]; omega
          · have hd3 : decide (300 < n) = true := by simp; omega
            go_wp2_with fail
            refine (l6In_is _ _ _ true _ HC.out).mono ?_
            rintro e w1 ⟨rfl, hb1⟩
            have d1 := (hb1.cell (p := ⟨(x.add (k * 2)).block, (x.add (k * 2)).off + 1, none⟩) (by show (x.add (k * 2)).block < _; rw [addr_add_block]; exact hbx)).trans c1
            go_wp2_with fail
            refine (sWordIn_is _ true _ hsm HW.out).mono ?_
            rintro e w2 ⟨rfl, hb2'⟩
            have hb2 := hb1.trans (hb2'.mono hb1.size)
            go_wp2
            go_ret2
            have hbf : b = false := by rw [← HB.out]; unfold ofB; rw [twB_len (by rw [HN.out]; exact h300)]; rfl
            subst hbf
            have hB2 : Below w.heap.size w w2 := hB.trans (hb2.mono hB.size)
            exact ⟨⟨_, rfl, (ownEmpty w2).mono hB2.size⟩, hB2.alloc hB2.size _⟩
    · obtain rfl : k = n := by omega
      have hall := HA.out.1
      have htw : twB ts = true := by
        by_cases h0 : 0 < k
        · exact twB_of (by rw [HN.out]; exact HA.out.2.1 h0) (fun j hj => hall j hj (by rw [← HN.out]; exact hj))
        · exact twB_of (by rw [HN.out]; omega) (fun j hj => by have := HN.out; omega)
      have h300 : k ≤ 300 := by have h : ts.length ≤ 300 := (by unfold twB at htw; simp only [Bool.and_eq_true, decide_eq_true_eq] at htw; exact htw.1); rw [HN.out] at h; exact h
      have hacc := HA.out.2.2
      rw [List.take_of_length_le (by rw [HN.out]; exact Nat.le_refl _)] at hacc
      have HAcc : Hid (Acc w.heap.size wr u4 (canonT ts) k (1000000 * k)) := Lib.hid hacc
      have hsb : sumB (canonT ts) = b := by rw [← HB.out]; unfold ofB; rw [htw, Bool.true_and]
      have HSb := Lib.hid hsb
      clear hall htw hacc hsb
      go_wp2_with fail
      refine (sDone_any w.heap.size u4 (canonT ts) b wr HAcc.out.own (HAcc.out.small (by omega) (by omega)) hB.size HSb.out).mono ?_
      rintro e w2 ⟨⟨v', rfl, ho⟩, hb2⟩
      have HO := Lib.hid ho
      clear ho
      go_wp2
      go_ret2
      exact ⟨⟨_, rfl, HO.out⟩, hB.trans (hb2.mono hB.size)⟩

end Go.Proofs.Ytebgcebjlbhjjaa

/- The contracts of the program's 'sumWords' and 'SumIn'. -/

namespace Go.Proofs.Ytebgcebjlbhjjaa
open Go.RowKit Go.Shelf

theorem sumB_eq (ts : List Tm) : sumB ts = (twB ts && !hasZero ts && ascB ts) := by
  have hg : ∀ j (h : j < ts.length), ts.getD j default = ts[j] := fun j h => by rw [List.getD_eq_getElem?_getD, List.getElem?_eq_getElem h]; rfl
  rw [Bool.eq_iff_iff]
  unfold sumB twB hasZero ascB allGood
  simp only [Bool.and_eq_true, List.all_eq_true, List.mem_range, decide_eq_true_eq, Bool.not_eq_true', List.any_eq_false]
  constructor
  · rintro ⟨h1, h2⟩
    refine ⟨⟨⟨h2, fun t ht => ?_⟩, fun t ht => ?_⟩, fun j hj => ?_⟩
    · obtain ⟨j, hj, rfl⟩ := List.getElem_of_mem ht
      have := h1 j hj
      unfold goodAt at this
      simp only [hg j hj, Bool.and_eq_true] at this
      unfold termB
      rw [this.1.2, this.1.1.2]; rfl
    · obtain ⟨j, hj, rfl⟩ := List.getElem_of_mem ht
      have := h1 j hj
      unfold goodAt at this
      simp only [hg j hj, Bool.and_eq_true] at this
      simpa using this.1.1.1
    · have := h1 j hj
      unfold goodAt at this
      simp only [Bool.and_eq_true] at this
      exact this.2
  · rintro ⟨⟨⟨h1, h2⟩, h3⟩, h4⟩
    refine ⟨fun j hj => ?_, h1⟩
    have a2 := h2 _ (List.getElem_mem hj)
    have a3 := h3 _ (List.getElem_mem hj)
    unfold termB at a2
    simp only [Bool.and_eq_true] at a2
    unfold goodAt
    simp only [hg j hj, Bool.and_eq_true]
    exact ⟨⟨⟨by simpa using a3, a2.2⟩, a2.1⟩, by have := h4 j hj; rw [hg j hj] at this; exact this⟩

set_option maxRecDepth 100000 in
set_option maxHeartbeats 2000000 in
theorem sumWords_any (a : Option Addr) (cap n : Nat) (ts : List Tm) (w : World) (hs : IsTerms w a n ts) :
    Calls Try.prog 54 #[.slice a n cap] w fun e w' =>
      ((e = .returned (.tuple #[.slice none 0 0, .bool false]) ∧ sumB ts = false) ∨
       (∃ g vals, e = .returned (.tuple #[.slice (some ⟨g, 0, none⟩) n n, .bool true]) ∧ sumB ts = true ∧ w'.ownsRow w.heap.size WT 1 (.slice (some ⟨g, 0, none⟩) n n) n vals ∧
        ∀ j (h : j < ts.length) v, vals[j]? = some v → WordAt w.heap.size w' v ts[j].s.data.toList)) ∧ Below w.heap.size w w' := by
  have HS := Lib.hid hs
  have HE := Lib.hid (sumB_eq ts)
  clear hs
  cases h1 : twB ts with
  | false =>
    have H1 := Lib.hid h1
    clear h1
    go_enter Try.func54, Try.ntmps54
    go_wp2_with fail
    refine (termWords_any a cap n ts _ HS.out).mono ?_
    rintro e w1 ⟨⟨rfl, _⟩ | ⟨_, _, _, h, _⟩, hb1⟩
    · go_wp2
      go_ret2
      exact ⟨.inl ⟨rfl, by rw [HE.out, H1.out]; rfl⟩, hb1.trans (((Below.refl _ _).alloc (Nat.le_refl _) _).mono hb1.size)⟩
    · rw [H1.out] at h; cases h
  | true =>
    have H1 := Lib.hid h1
    clear h1
    cases h2 : hasZero ts with
    | true =>
      have H2 := Lib.hid h2
      clear h2
      go_enter Try.func54, Try.ntmps54
      go_wp2_with fail
      refine (termWords_any a cap n ts _ HS.out).mono ?_
      rintro e w1 ⟨⟨rfl, h⟩ | ⟨g, vals, rfl, _, hrow, hv⟩, hb1⟩
      · rw [H1.out] at h; cases h
      · have HR := Lib.hid hrow
        have HV := Lib.hid hv
        clear hrow hv
        go_wp2_with fail
        have hb2 : Below w.heap.size w (w1.alloc (.cells #[.slice a n cap, .func (.func 88) #[] #[]] 102)) := hb1.alloc hb1.size _
        have HS2 := Lib.hid (HS.out.below hb2)
        refine (containsZero_is a cap n ts true _ HS2.out H2.out).mono ?_
        rintro e w3 ⟨rfl, hb3⟩
        go_wp2
        go_ret2
        exact ⟨.inl ⟨rfl, by rw [HE.out, H2.out, Bool.not_true, Bool.and_false]; rfl⟩, hb2.trans (hb3.mono hb2.size)⟩
    | false =>
      have H2 := Lib.hid h2
      clear h2
      cases h3 : ascB ts with
      | false =>
        have H3 := Lib.hid h3
        clear h3
        go_enter Try.func54, Try.ntmps54
        go_wp2_with fail
        refine (termWords_any a cap n ts _ HS.out).mono ?_
        rintro e w1 ⟨⟨rfl, h⟩ | ⟨g, vals, rfl, _, hrow, hv⟩, hb1⟩
        · rw [H1.out] at h; cases h
        · have HR := Lib.hid hrow
          have HV := Lib.hid hv
          clear hrow hv
          go_wp2_with fail
          have hb2 : Below w.heap.size w (w1.alloc (.cells #[.slice a n cap, .func (.func 88) #[] #[]] 102)) := hb1.alloc hb1.size _
          have HS2 := Lib.hid (HS.out.below hb2)
          have hn0 : w1.heap.size < (w1.alloc (.cells #[.slice a n cap, .func (.func 88) #[] #[]] 102)).heap.size := by simp
          refine (containsZero_is a cap n ts false _ HS2.out H2.out).mono ?_
          rintro e w3 ⟨rfl, hb3⟩
          have d0 : w3.cell? ⟨w1.heap.size, 0, none⟩ = some (.slice a n cap) := (hb3.cell (p := ⟨w1.heap.size, 0, none⟩) hn0).trans ((World.cell?_alloc_at _ _ _ _ (by simp)).trans rfl)
          have d1 : w3.cell? ⟨w1.heap.size, 1, none⟩ = some (.func (.func 88) #[] #[]) := (hb3.cell (p := ⟨w1.heap.size, 1, none⟩) hn0).trans ((World.cell?_alloc_at _ _ _ _ (by simp)).trans rfl)
          have HS3 := Lib.hid (HS2.out.below hb3)
          have hb3' : Below w.heap.size w w3 := hb2.trans (hb3.mono hb2.size)
          have hlt3 : w1.heap.size < w3.heap.size := Nat.lt_of_lt_of_le hn0 hb3.size
          clear hn0 hb2
          go_wp2_with fail
          refine (ascends_any w1.heap.size a cap n ts _ HS3.out hlt3 d0 d1).mono ?_
          rintro e w4 ⟨rfl, hb4⟩
          have H3' := H3.out
          rw [H3']
          clear H3'
          go_wp2
          go_ret2
          exact ⟨.inl ⟨rfl, by rw [HE.out, H3.out, Bool.and_false]⟩, hb3'.trans (hb4.mono hb3'.size)⟩
      | true =>
        have H3 := Lib.hid h3
        clear h3
        go_enter Try.func54, Try.ntmps54
        go_wp2_with fail
        refine (termWords_any a cap n ts _ HS.out).mono ?_
        rintro e w1 ⟨⟨rfl, h⟩ | ⟨g, vals, rfl, _, hrow, hv⟩, hb1⟩
        · rw [H1.out] at h; cases h
        · have HR := Lib.hid hrow
          have HV := Lib.hid hv
          clear hrow hv
          go_wp2_with fail
          have hb2 : Below w.heap.size w (w1.alloc (.cells #[.slice a n cap, .func (.func 88) #[] #[]] 102)) := hb1.alloc hb1.size _
          have hb12 : Below w1.heap.size w1 (w1.alloc (.cells #[.slice a n cap, .func (.func 88) #[] #[]] 102)) := (Below.refl _ _).alloc (Nat.le_refl _) _
          have HS2 := Lib.hid (HS.out.below hb2)
          have hn0 : w1.heap.size < (w1.alloc (.cells #[.slice a n cap, .func (.func 88) #[] #[]] 102)).heap.size := by simp
          refine (containsZero_is a cap n ts false _ HS2.out H2.out).mono ?_
          rintro e w3 ⟨rfl, hb3⟩
          have d0 : w3.cell? ⟨w1.heap.size, 0, none⟩ = some (.slice a n cap) := (hb3.cell (p := ⟨w1.heap.size, 0, none⟩) hn0).trans ((World.cell?_alloc_at _ _ _ _ (by simp)).trans rfl)
          have d1 : w3.cell? ⟨w1.heap.size, 1, none⟩ = some (.func (.func 88) #[] #[]) := (hb3.cell (p := ⟨w1.heap.size, 1, none⟩) hn0).trans ((World.cell?_alloc_at _ _ _ _ (by simp)).trans rfl)
          have HS3 := Lib.hid (HS2.out.below hb3)
          have hb3' : Below w.heap.size w w3 := hb2.trans (hb3.mono hb2.size)
          have hb13 : Below w1.heap.size w1 w3 := hb12.trans (hb3.mono hb12.size)
          have hlt3 : w1.heap.size < w3.heap.size := Nat.lt_of_lt_of_le hn0 hb3.size
          clear hn0 hb2 hb12
          go_wp2_with fail
          refine (ascends_any w1.heap.size a cap n ts _ HS3.out hlt3 d0 d1).mono ?_
          rintro e w4 ⟨rfl, hb4⟩
          have H3' := H3.out
          rw [H3']
          clear H3'
          have hb14 := Lib.hid (hb13.trans (hb4.mono hb13.size))
          go_wp2
          go_ret2
          refine ⟨.inr ⟨g, vals, rfl, by rw [HE.out, H1.out, H2.out, H3.out]; rfl, ?_, fun j hj v hv => (HV.out j hj v hv).below hb14.out⟩, hb3'.trans (hb4.mono hb3'.size)⟩
          exact HR.out.kept ⟨hb14.out.os, hb14.out.tape, hb14.out.output, hb14.out.size, fun j hj _ => hb14.out.block j hj⟩ (row := none) (.inr (by simp [Value.ownBlock]))

theorem iSumIn_any (a : Option Addr) (cap n : Nat) (ts : List Tm) (w : World) (hs : IsTerms w a n ts) :
    Calls Try.prog 16 #[.slice a n cap] w fun e w' => e = .returned (.bool (sumB ts)) ∧ Below w.heap.size w w' := by
  have HS := Lib.hid hs
  clear hs
  go_enter Try.func16, Try.ntmps16
  go_wp2_with fail
  refine (sumWords_any a cap n ts _ HS.out).mono ?_
  rintro e w1 ⟨⟨rfl, h⟩ | ⟨g, vals, rfl, h, _, _⟩, hb1⟩
  · have H := Lib.hid h
    clear h
    go_wp2
    go_ret
    exact ⟨ret_bool H.out.symm, hb1⟩
  · have H := Lib.hid h
    clear h
    go_wp2
    go_ret
    exact ⟨ret_bool H.out.symm, hb1⟩

end Go.Proofs.Ytebgcebjlbhjjaa

/- Canonical lists of terms are sums where their terms are as told. -/

namespace Go.Proofs.Ytebgcebjlbhjjaa
open Go.RowKit Go.Shelf

theorem canon_of (ts : List Tm) : Canon (canonT ts) := (canon_foldl ts [] ⟨List.Pairwise.nil, fun t h => by cases h⟩).1
theorem hasZero_canon {ts : List Tm} (h : Canon ts) : hasZero ts = false := by
  unfold hasZero
  refine List.any_eq_false.2 fun t ht => ?_
  simpa using h.2 t ht
theorem ascB_canon {ts : List Tm} (h : Canon ts) : ascB ts = true := by
  refine ascB_true fun k hk hk0 => ?_
  rw [List.getD_eq_getElem?_getD, List.getD_eq_getElem?_getD, List.getElem?_eq_getElem hk, List.getElem?_eq_getElem (by omega : k - 1 < ts.length)]
  exact List.pairwise_iff_getElem.1 h.1 (k - 1) k (by omega) hk (by omega)
theorem sumB_canon {ts : List Tm} (h : Canon ts) : sumB ts = twB ts := by
  rw [sumB_eq, hasZero_canon h, ascB_canon h]
  simp

theorem canon_len_words {ts : List Tm} (h : twB ts = true) : ts.length ≤ 300 ∧ ∀ t ∈ ts, termB t = true := by
  unfold twB at h
  simp only [Bool.and_eq_true, decide_eq_true_eq, List.all_eq_true] at h
  exact h

end Go.Proofs.Ytebgcebjlbhjjaa

/- The contract of the model's 'SumAdd'; sums as canonical lists. -/

namespace Go.Proofs.Ytebgcebjlbhjjaa
open Go.RowKit Go.Shelf

theorem sSumIn_is (a : Option Addr) (cap n : Nat) (ts : List Tm) (b : Bool) (w : World) (hs : IsTerms w a n ts) (hb : sumB ts = b) :
    Calls Try.prog 17 #[.slice a n cap] w fun e w' => e = .returned (.bool b) ∧ Below w.heap.size w w' := by
  subst hb; exact sSumIn_any a cap n ts w hs
theorem iSumIn_is (a : Option Addr) (cap n : Nat) (ts : List Tm) (b : Bool) (w : World) (hs : IsTerms w a n ts) (hb : sumB ts = b) :
    Calls Try.prog 16 #[.slice a n cap] w fun e w' => e = .returned (.bool b) ∧ Below w.heap.size w w' := by
  subst hb; exact iSumIn_any a cap n ts w hs

theorem pairwise_lessW {ts : List Tm} (h : ∀ k, k < ts.length → 0 < k → lessW (ts.getD (k - 1) default).s (ts.getD k default).s = true) : ts.Pairwise (fun a b => lessW a.s b.s = true) := by
  rw [List.pairwise_iff_getElem]
  have key : ∀ d i (hi : i < ts.length) (hj : i + (d + 1) < ts.length), lessW ts[i].s ts[i + (d + 1)].s = true := by
    intro d
    induction d with
    | zero =>
      intro i hi hj
      have := h (i + 1) hj (by omega)
      rw [show i + 1 - 1 = i by omega, List.getD_eq_getElem?_getD, List.getD_eq_getElem?_getD, List.getElem?_eq_getElem hj, List.getElem?_eq_getElem hi] at this
      exact this
    | succ d ih =>
      intro i hi hj
      have h1 := ih i hi (by omega)
      have h2 := h (i + (d + 1) + 1) hj (by omega)
      rw [show i + (d + 1) + 1 - 1 = i + (d + 1) by omega, List.getD_eq_getElem?_getD, List.getD_eq_getElem?_getD, List.getElem?_eq_getElem (by omega : i + (d + 1) < ts.length), List.getElem?_eq_getElem (by omega : i + (d + 1) + 1 < ts.length)] at h2
      exact lessW_trans h1 h2
  intro i j hi hj hij
  obtain ⟨d, rfl⟩ : ∃ d, j = i + (d + 1) := ⟨j - i - 1, by omega⟩
  exact key d i hi hj
theorem sumB_parts {ts : List Tm} (h : sumB ts = true) : twB ts = true ∧ Canon ts := by
  rw [sumB_eq] at h
  simp only [Bool.and_eq_true, Bool.not_eq_true'] at h
  obtain ⟨⟨h1, h2⟩, h3⟩ := h
  refine ⟨h1, pairwise_lessW fun k hk hk0 => ?_, fun t ht => ?_⟩
  · unfold ascB at h3
    have := List.all_eq_true.1 h3 k (List.mem_range.2 hk)
    simp only [Bool.or_eq_true, decide_eq_true_eq] at this
    rcases this with h | h
    · omega
    · exact h
  · unfold hasZero at h2
    have := List.any_eq_false.1 h2 t ht
    simpa using this
theorem canonT_of_canon {ts : List Tm} (h : Canon ts) : canonT ts = ts := (canonT_unique h fun _ => rfl).symm
theorem canonT_append {x : List Tm} (y : List Tm) (h : Canon x) : canonT (x ++ y) = y.foldl addT x := by
  have h2 := canonT_of_canon h
  unfold canonT at h2 ⊢
  rw [List.foldl_append, h2]
theorem fold_succ2 (x ts : List Tm) (k : Nat) (h : k < ts.length) : (ts.take (k + 1)).foldl addT x = addT ((ts.take k).foldl addT x) ts[k] := by
  rw [List.take_succ_eq_append_getElem h, List.foldl_append]; rfl

/-- What SumAdd answers. -/
def addB (x y : List Tm) : Bool := sumB x && (sumB y && twB (canonT (x ++ y)))

set_option maxRecDepth 100000 in
set_option maxHeartbeats 4000000 in
theorem sSumAdd_no (a1 a2 : Option Addr) (c1 c2 n m : Nat) (x y : List Tm) (w : World) (hx : IsTerms w a1 n x) (hy : IsTerms w a2 m y) (hb : sumB x = false ∨ sumB y = false) :
    Calls Try.prog 25 #[.slice a1 n c1, .slice a2 m c2] w (STold w false []) := by
  have HX := Lib.hid hx
  have HY := Lib.hid hy
  clear hx hy
  cases hbx : sumB x with
  | false =>
    have HBX := Lib.hid hbx
    clear hbx hb
    go_enter Try.func25, Try.ntmps25
    go_wp2_with fail
    refine (sSumIn_is a1 c1 n x false _ HX.out HBX.out).mono ?_
    rintro e w1 ⟨rfl, hb1⟩
    have HB1 := Lib.hid hb1
    clear hb1
    go_wp2
    go_ret2
    exact ⟨⟨_, rfl, (ownEmpty w1).mono HB1.out.size⟩, HB1.out.alloc HB1.out.size _⟩
  | true =>
    have hby : sumB y = false := by rcases hb with h | h; · rw [h] at hbx; cases hbx
                                    · exact h
    have HBX := Lib.hid hbx
    have HBY := Lib.hid hby
    clear hbx hby hb
    go_enter Try.func25, Try.ntmps25
    go_wp2_with fail
    refine (sSumIn_is a1 c1 n x true _ HX.out HBX.out).mono ?_
    rintro e w1 ⟨rfl, hb1⟩
    have HB1 := Lib.hid hb1
    clear hb1
    go_wp2_with fail
    refine (sSumIn_is a2 c2 m y false _ (HY.out.below HB1.out) HBY.out).mono ?_
    rintro e w2 ⟨rfl, hb2⟩
    have HB2 := Lib.hid (HB1.out.trans (hb2.mono HB1.out.size))
    clear hb2
    go_wp2
    go_ret2
    exact ⟨⟨_, rfl, (ownEmpty w2).mono HB2.out.size⟩, HB2.out.alloc HB2.out.size _⟩

theorem acc_start {base : Nat} {w : World} {v : Value} {x : List Tm} (h : OwnTerms base w v x) (ht : twB x = true) : Acc base w v x 300 1000000 := by
  obtain ⟨h1, h2⟩ := canon_len_words ht
  exact ⟨h, h1, fun u hu => by have := (termB_iff (h2 u hu)).2; omega, fun u hu => (termB_iff (h2 u hu)).1⟩

theorem isTerms_cells {w : World} {ad : Addr} {n : Nat} {x : List Tm} (h : IsTerms w (some ad) n x) : ∀ j u, (termsV x)[j]? = some u → w.cell? (ad.add j) = some u := by
  intro j u hu
  rcases Nat.eq_zero_or_pos n with h0 | h0
  · have : x = [] := List.length_eq_zero_iff.1 (h.len.trans h0)
    subst this
    simp [termsV] at hu
  · obtain ⟨z, e, h2⟩ := h.at_ h0
    cases e
    exact h2.cells j u hu

set_option maxRecDepth 100000 in
set_option maxHeartbeats 4000000 in
theorem sSumAdd_yes (ad1 : Addr) (a2 : Option Addr) (c1 c2 n m : Nat) (x y : List Tm) (b : Bool) (w : World) (hx : IsTerms w (some ad1) n x) (hy : IsTerms w a2 m y) (hbx : sumB x = true) (hby : sumB y = true) (hb : twB (canonT (x ++ y)) = b) :
    Calls Try.prog 25 #[.slice (some ad1) n c1, .slice a2 m c2] w (STold w b (canonT (x ++ y))) := by
  obtain ⟨i0, hi, hz0, hz1, hz2⟩ := info_parts infoTerm
  obtain ⟨htx, hcx⟩ := sumB_parts hbx
  obtain ⟨hty, hcy⟩ := sumB_parts hby
  obtain ⟨hlx, hwx⟩ := canon_len_words htx
  obtain ⟨hly, hwy⟩ := canon_len_words hty
  have hn : n ≤ 300 := by rw [← hx.len]; exact hlx
  have hm : m ≤ 300 := by rw [← hy.len]; exact hly
  have HX := Lib.hid hx
  have HY := Lib.hid hy
  have HBX := Lib.hid hbx
  have HBY := Lib.hid hby
  have HTX := Lib.hid htx
  have HCX := Lib.hid hcx
  have HWY := Lib.hid hwy
  have HBB := Lib.hid hb
  have hmx : Try.prog.follows .mixedOrders = true := by kernel_rfl
  clear hx hy hbx hby htx hcx hty hcy hlx hwx hly hwy hb
  go_enter Try.func25, Try.ntmps25
  go_wp2_with fail
  refine (sSumIn_is (some ad1) c1 n x true _ HX.out HBX.out).mono ?_
  rintro e w1 ⟨rfl, hb1⟩
  have HB1 := Lib.hid hb1
  clear hb1
  go_wp2_with fail
  refine (sSumIn_is a2 c2 m y true _ (HY.out.below HB1.out) HBY.out).mono ?_
  rintro e w2 ⟨rfl, hb2⟩
  have HB2 := Lib.hid (HB1.out.trans (hb2.mono HB1.out.size))
  clear hb2
  have hmade := World.ownsRow_made (base := w2.heap.size) (e := TI) (size := 2) w2 #[] 0 (Nat.le_refl _) (Nat.zero_le _) rfl
  have hba : Below w2.heap.size w2 (w2.alloc (.cells #[] TI)) := (Below.refl _ _).alloc (Nat.le_refl _) _
  have HBA := Lib.hid hba
  have HXC := Lib.hid (isTerms_cells ((HX.out.below HB2.out).below hba))
  have HLX : Hid ((termsV x).length = n * 2) := Lib.hid (by rw [termsV_len, HX.out.len])
  clear hba
  go_wp2_with (at_builtin; refine wpList_append_own _ rfl _ _ 23 rfl w2.heap.size TI i0 (.agg #[.int .i64 0, .string ByteArray.empty]) 2 24 Try.underlying23 hi hz0 hz1 hz2 rfl (by decide) _ _ _ rfl hmade ad1 n c1 (termsV x) rfl HLX.out HXC.out (oneCell_terms _) (by unfold maxLen; omega) (by omega) (by simp) ?_)
  intro v1 w3 hown1 hgrow1 hnil1
  obtain ⟨g1, cap1, hg1, rfl⟩ := notNil hown1 hnil1
  have hown2 : OwnTerms w2.heap.size w3 (.slice (some ⟨g1, 0, none⟩) n cap1) x := by
    have hl := HX.out.len
    subst hl
    exact ⟨g1, cap1, rfl, hown1⟩
  have hb3 : Below w2.heap.size w2 w3 := HBA.out.grown hgrow1 (by simp) (fun k e => by simp [Value.ownBlock] at e; omega)
  have HO := Lib.hid (acc_start (hown2.mono HB2.out.size) HTX.out)
  have HB3 := Lib.hid (HB2.out.trans (hb3.mono HB2.out.size))
  clear hown1 hgrow1 hnil1 hown2 hb3 hmade
  go_wp2_with fail
  go_loopw [6, 7] (fun v i wr => ∃ k : Nat, k ≤ m ∧ i = .int .i64 k ∧ Hid (Acc w.heap.size wr v ((y.take k).foldl addT x) (300 + k) (1000000 + 1000000 * k)) ∧ Below w.heap.size w wr) (fun _ i _ => m - (intOf i).toNat)
  case atStart => exact ⟨0, Nat.zero_le _, rfl, Lib.hid (by simpa using HO.out), HB3.out⟩
  case round =>
    obtain ⟨k, hk, rfl, HA, hB⟩ := hrel
    by_cases hlt : k < m
    · have hky : k < y.length := by rw [HY.out.len]; exact hlt
      obtain ⟨z, rfl, hz⟩ := HY.out.at_ (by omega)
      obtain ⟨t, ht⟩ : ∃ t, y[k] = t := ⟨_, rfl⟩
      have hzw := hz.below hB
      have hc := hzw.2 k hky
      have hbz := hzw.1
      rw [ht, addr_next] at hc
      obtain ⟨c0, d1⟩ := hc
      have htb := termB_iff (HWY.out _ (List.getElem_mem hky))
      rw [ht] at htb
      have HT := Lib.hid ht
      have HTB := Lib.hid htb
      have HAcc := HA
      clear ht hz hzw htb
      go_wp2
      go_still_tail 11, hmx
      change wpList _ _ _ _ _ wr.drew
      go_wp2_with fail
      refine (step_any w.heap.size u6 _ (300 + k) (1000000 + 1000000 * k) 1000000 t.c t.s wr.drew (HAcc.out.below (Below.refl _ _).drew) (by omega) (by omega) (by omega) (by omega) HTB.out.2 HTB.out.1 hB.size).mono ?_
      rintro e w4 ⟨⟨v', rfl, ho⟩, hb4⟩
      have hB4 : Below w.heap.size w w4 := hB.trans (((Below.refl _ _).drew.trans hb4).mono hB.size)
      have HO := Lib.hid ho
      clear ho hb4
      go_wp2
      go_roundw
      case rel =>
        refine ⟨k + 1, by omega, by go_num, Lib.hid ?_, hB4⟩
        have h := HO.out
        rw [fold_succ2 x y k hky, HT.out]
        rw [show (1000000 : Int) + 1000000 * ((k + 1 : Nat) : Int) = 1000000 + 1000000 * k + 1000000 by omega]
        exact h
      case measure => simp [intOf]; omega
    · obtain rfl : k = m := by omega
      have hacc := HA.out
      rw [List.take_of_length_le (by rw [HY.out.len]; exact Nat.le_refl _), ← canonT_append y HCX.out] at hacc
      have HAcc := Lib.hid hacc
      have HSb : Hid (sumB (canonT (x ++ y)) = b) := Lib.hid (by rw [sumB_canon (canon_of _)]; exact HBB.out)
      clear hacc
      go_wp2_with fail
      refine (sDone_any w.heap.size u6 (canonT (x ++ y)) b wr HAcc.out.own (HAcc.out.small (by omega) (by omega)) hB.size HSb.out).mono ?_
      rintro e w2 ⟨⟨v', rfl, ho⟩, hb2⟩
      have HO := Lib.hid ho
      clear ho
      go_wp2
      go_ret2
      exact ⟨⟨_, rfl, HO.out⟩, hB.trans (hb2.mono hB.size)⟩

end Go.Proofs.Ytebgcebjlbhjjaa

/- Derivatives of words as lists of terms in the order of letters; sums of such lists. -/

namespace Go.Proofs.Ytebgcebjlbhjjaa
open Go.RowKit

/-- The term of one letter behind p. -/
def foxT (g c : Int) (p : List UInt8) (x : UInt8) : List Tm := if (idxB x : Int) = g then [⟨c * sgnB x, bstr (if 97 ≤ x.toNat then p else p ++ [x])⟩] else []
/-- The terms of the first k letters. -/
def foxN (g c : Int) (l : List UInt8) : Nat → List Tm
  | 0 => []
  | k + 1 => foxN g c l k ++ foxT g c (l.take k) (l.getD k 0)
def foxL (g c : Int) (l : List UInt8) : List Tm := foxN g c l l.length
theorem foxN_succ (g c : Int) (l : List UInt8) (k : Nat) (hk : k < l.length) : foxN g c l (k + 1) = foxN g c l k ++ foxT g c (l.take k) l[k] := by
  rw [foxN, List.getD_eq_getElem?_getD, List.getElem?_eq_getElem hk]; rfl
theorem foxT_no {g c : Int} {p : List UInt8} {x : UInt8} (h : (idxB x : Int) ≠ g) : foxT g c p x = [] := if_neg h
theorem foxT_hi {g c : Int} {p : List UInt8} {x : UInt8} (h : (idxB x : Int) = g) (hx : 97 ≤ x.toNat) : foxT g c p x = [⟨c * sgnB x, bstr p⟩] := by
  unfold foxT; rw [if_pos h, if_pos hx]
theorem foxT_lo {g c : Int} {p : List UInt8} {x : UInt8} (h : (idxB x : Int) = g) (hx : ¬ 97 ≤ x.toNat) : foxT g c p x = [⟨c * sgnB x, bstr (p ++ [x])⟩] := by
  unfold foxT; rw [if_pos h, if_neg hx]
theorem sgnB_bnd (x : UInt8) : -1 ≤ sgnB x ∧ sgnB x ≤ 1 := by unfold sgnB; split <;> omega
theorem mul_sgn {c C : Int} (hc : -C ≤ c ∧ c ≤ C) (x : UInt8) : -C ≤ c * sgnB x ∧ c * sgnB x ≤ C := by
  unfold sgnB; split <;> omega
theorem foxN_len (g c : Int) (l : List UInt8) : ∀ k, (foxN g c l k).length ≤ k
  | 0 => Nat.le_refl _
  | k + 1 => by
    have := foxN_len g c l k
    rw [foxN, List.length_append]
    have h2 : (foxT g c (l.take k) (l.getD k 0)).length ≤ 1 := by unfold foxT; split <;> simp
    omega
theorem foxN_mem {g c C : Int} (hc : -C ≤ c ∧ c ≤ C) {l : List UInt8} {t : Tm} : ∀ {k}, k ≤ l.length → t ∈ foxN g c l k → (-C ≤ t.c ∧ t.c ≤ C) ∧ ∃ j, j ≤ k ∧ t.s = bstr (l.take j)
  | 0, _, h => by cases h
  | k + 1, hk, h => by
    rw [foxN_succ g c l k (by omega)] at h
    rcases List.mem_append.1 h with h | h
    · obtain ⟨h1, j, hj, h2⟩ := foxN_mem hc (by omega) h
      exact ⟨h1, j, by omega, h2⟩
    · by_cases hi : (idxB l[k] : Int) = g
      · by_cases hx : 97 ≤ l[k].toNat
        · rw [foxT_hi hi hx] at h
          obtain rfl := List.mem_singleton.1 h
          exact ⟨mul_sgn hc _, k, by omega, rfl⟩
        · rw [foxT_lo hi hx] at h
          obtain rfl := List.mem_singleton.1 h
          refine ⟨mul_sgn hc _, k + 1, by omega, ?_⟩
          show bstr (l.take k ++ [l[k]]) = _
          rw [← take_snoc l k (by omega)]
      · rw [foxT_no hi] at h; cases h
theorem word_take {l : List UInt8} (h : wordB l = true) (j : Nat) : wordB (l.take j) = true := by
  obtain ⟨h1, h2, h3⟩ := (wordB_iff _).1 h
  refine (wordB_iff _).2 ⟨by rw [List.length_take]; omega, letL_of_mem _ _ h2 fun _ hc => List.mem_of_mem_take hc, (red_iff _).2 ?_⟩
  have := (red_iff _).1 h3
  rw [← List.take_append_drop j l] at this
  exact noC_left this

/-! ### Coefficients -/
def scaleT (c : Int) (ts : List Tm) : List Tm := ts.map fun t => ⟨c * t.c, t.s⟩
theorem coefAt_scale (s : ByteArray) (c : Int) : ∀ ts, coefAt s (scaleT c ts) = c * coefAt s ts
  | [] => by simp [scaleT, coefAt]
  | t :: r => by
    have ih := coefAt_scale s c r
    unfold scaleT at *
    rw [List.map_cons, coefAt, coefAt, ih, Int.mul_add]
    show (if t.s = s then c * t.c else 0) + _ = _
    split
    · rfl
    · simp
theorem foxT_scale (g c : Int) (p : List UInt8) (x : UInt8) : foxT g c p x = scaleT c (foxT g 1 p x) := by
  unfold foxT scaleT
  split
  · simp
  · rfl
theorem foxN_scale (g c : Int) (l : List UInt8) : ∀ k, foxN g c l k = scaleT c (foxN g 1 l k)
  | 0 => rfl
  | k + 1 => by
    rw [foxN, foxN, foxN_scale g c l k, foxT_scale]
    unfold scaleT; rw [List.map_append]
theorem foxL_scale (g c : Int) (l : List UInt8) : foxL g c l = scaleT c (foxL g 1 l) := foxN_scale g c l _
theorem coefAt_flat (s : ByteArray) {f h : Tm → List Tm} (hfh : ∀ t, coefAt s (f t) = coefAt s (h t)) : ∀ a : List Tm, coefAt s (a.flatMap f) = coefAt s (a.flatMap h)
  | [] => rfl
  | t :: r => by rw [List.flatMap_cons, List.flatMap_cons, coefAt_append, coefAt_append, hfh, coefAt_flat s hfh r]
theorem canonT_congr {a b : List Tm} (h : ∀ s, coefAt s a = coefAt s b) : canonT a = canonT b :=
  canonT_unique (canonT_spec a).1 fun s => by rw [(canonT_spec a).2, h]

/-- The terms of the derivative of a sum: as the program gathers them, and as the model does. -/
def foxI (g : Int) (a : List Tm) : List Tm := a.flatMap fun t => foxL g t.c t.s.data.toList
def foxM (g : Int) (a : List Tm) : List Tm := a.flatMap fun t => scaleT t.c (canonT (foxL g 1 t.s.data.toList))
theorem foxIM (g : Int) (a : List Tm) : canonT (foxM g a) = canonT (foxI g a) :=
  canonT_congr fun s => coefAt_flat s (fun t => by rw [coefAt_scale, (canonT_spec _).2, foxL_scale g t.c, coefAt_scale]) a

/-! ### Sizes -/
theorem fold_bound {C : Int} (hC : 0 ≤ C) : ∀ (ts acc : List Tm) (B : Int), 0 ≤ B → (∀ t ∈ ts, -C ≤ t.c ∧ t.c ≤ C) → (∀ u ∈ acc, -B ≤ u.c ∧ u.c ≤ B) → ∀ u ∈ ts.foldl addT acc, -(B + C * ts.length) ≤ u.c ∧ u.c ≤ B + C * ts.length
  | [], acc, B, _, _, h, u, hu => by have := h u hu; simpa using this
  | t :: r, acc, B, hB, ht, h, u, hu => by
    have h1 := fold_bound hC r (addT acc t) (B + C) (by omega) (fun v hv => ht v (by simp [hv])) (add_bound hC (ht t (by simp)) h hB) u hu
    rw [List.length_cons, show ((r.length + 1 : Nat) : Int) = (r.length : Int) + 1 by omega, Int.mul_add, Int.mul_one]
    omega
theorem fold_words : ∀ (ts acc : List Tm), ∀ u ∈ ts.foldl addT acc, (∃ v ∈ acc, v.s = u.s) ∨ ∃ v ∈ ts, v.s = u.s
  | [], acc, u, hu => .inl ⟨u, hu, rfl⟩
  | t :: r, acc, u, hu => by
    rcases fold_words r (addT acc t) u hu with ⟨v, hv, e⟩ | ⟨v, hv, e⟩
    · rcases add_words hv with h | ⟨x, hx, h⟩
      · exact .inr ⟨t, by simp, by rw [← h, e]⟩
      · exact .inl ⟨x, hx, by rw [h, e]⟩
    · exact .inr ⟨v, by simp [hv], e⟩
theorem canon_words {ts : List Tm} {u : Tm} (h : u ∈ canonT ts) : ∃ v ∈ ts, v.s = u.s := by
  rcases fold_words ts [] u h with ⟨v, hv, _⟩ | h
  · cases hv
  · exact h
theorem fold_len : ∀ (ts acc : List Tm), (ts.foldl addT acc).length ≤ acc.length + ts.length
  | [], acc => Nat.le_refl _
  | t :: r, acc => by
    have := fold_len r (addT acc t)
    have h2 := add_len t acc
    rw [List.length_cons]
    show (r.foldl addT (addT acc t)).length ≤ _
    omega
/-- A derivative of a word is a sum. -/
theorem fox_tw {g : Int} {l : List UInt8} (h : wordB l = true) : twB (canonT (foxL g 1 l)) = true := by
  have hl := ((wordB_iff _).1 h).1
  have hn := foxN_len g 1 l l.length
  have hlen : (canonT (foxL g 1 l)).length ≤ 60 := by
    have := fold_len (foxL g 1 l) []
    unfold foxL canonT at *
    simp only [List.length_nil] at this
    omega
  refine twB_of (by omega) fun j hj => ?_
  have hm := List.getElem_mem hj
  have hb := fold_bound (C := 1) (by omega) (foxL g 1 l) [] 0 (by omega) (fun t ht => (foxN_mem (C := 1) (by omega) (Nat.le_refl _) ht).1) (fun u hu => by cases hu) _ hm
  have hb2 : (foxL g 1 l).length ≤ 60 := by unfold foxL; omega
  obtain ⟨v, hv, e⟩ := canon_words hm
  obtain ⟨_, k, _, e2⟩ := foxN_mem (C := 1) (by omega) (Nat.le_refl _) hv
  unfold termB
  rw [← e, e2, bstr_toList, word_take h, Bool.true_and]
  unfold inR
  simp only [Bool.and_eq_true, decide_eq_true_eq]
  omega
theorem foxI_succ (g : Int) (a : List Tm) (k : Nat) (h : k < a.length) : foxI g (a.take (k + 1)) = foxI g (a.take k) ++ foxL g a[k].c a[k].s.data.toList := by
  unfold foxI; rw [List.take_succ_eq_append_getElem h, List.flatMap_append]; simp
theorem foxM_succ (g : Int) (a : List Tm) (k : Nat) (h : k < a.length) : foxM g (a.take (k + 1)) = foxM g (a.take k) ++ scaleT a[k].c (canonT (foxL g 1 a[k].s.data.toList)) := by
  unfold foxM; rw [List.take_succ_eq_append_getElem h, List.flatMap_append]; simp
theorem foxI_len (g : Int) : ∀ (a : List Tm), (∀ t ∈ a, t.s.size ≤ 60) → (foxI g a).length ≤ 60 * a.length
  | [], _ => by simp [foxI]
  | t :: r, h => by
    have ih := foxI_len g r fun u hu => h u (by simp [hu])
    have h1 := foxN_len g t.c t.s.data.toList t.s.data.toList.length
    have h2 := h t (by simp)
    unfold foxI foxL at *
    rw [List.flatMap_cons, List.length_append, List.length_cons]
    have h3 : t.s.data.toList.length = t.s.size := by simp
    omega
theorem foxI_mem {g : Int} {a : List Tm} (h : ∀ t ∈ a, t.s.size ≤ 60 ∧ -1000000 ≤ t.c ∧ t.c ≤ 1000000) {u : Tm} (hu : u ∈ foxI g a) : u.s.size ≤ 60 ∧ -1000000 ≤ u.c ∧ u.c ≤ 1000000 := by
  obtain ⟨t, ht, hu⟩ := List.mem_flatMap.1 hu
  obtain ⟨h1, h2⟩ := h t ht
  obtain ⟨h3, j, _, e⟩ := foxN_mem (C := 1000000) h2 (Nat.le_refl _) hu
  refine ⟨?_, h3⟩
  rw [e, bstr_size, List.length_take]
  have : t.s.data.toList.length = t.s.size := by simp
  omega

end Go.Proofs.Ytebgcebjlbhjjaa

/- Monomials and series: what they are; the contracts of the model's 'l4Mono' and 'SeriesIn'. -/

namespace Go.Proofs.Ytebgcebjlbhjjaa
open Go.RowKit

def genB (c : UInt8) : Bool := decide (97 ≤ c.toNat) && decide (c.toNat ≤ 100)
/-- Is this a monomial? -/
def monoB (s : ByteArray) : Bool := s.data.toList.all genB && decide (s.size ≤ 4)
theorem genB_false (s : ByteArray) (k : Nat) (hk : k < s.data.toList.length) (h : genB s.data.toList[k] = false) : monoB s = false := by
  unfold monoB; rw [List.all_eq_false.2 ⟨_, List.getElem_mem hk, by rw [h]; exact Bool.false_ne_true⟩]; rfl

/-- Is the term at j as a series wants it, beside the one ahead of it? -/
def serAt (ts : List Tm) (j : Nat) : Bool :=
  (ts.getD j default).c != 0 && inR (-1000000) 1000000 (ts.getD j default).c && monoB (ts.getD j default).s && (decide (j = 0) || lessW (ts.getD (j - 1) default).s (ts.getD j default).s)
def allSer (ts : List Tm) (n : Nat) : Bool := (List.range n).all (serAt ts)
theorem allSer_succ (ts : List Tm) (n : Nat) : allSer ts (n + 1) = (allSer ts n && serAt ts n) := by simp [allSer, List.range_succ]
theorem allSer_false (ts : List Tm) (n k : Nat) (hk : k < n) (h : serAt ts k = false) : allSer ts n = false :=
  List.all_eq_false.2 ⟨k, List.mem_range.2 hk, by simp [h]⟩
/-- Is this a series? -/
def serB (ts : List Tm) : Bool := allSer ts ts.length && decide (ts.length ≤ 400)

theorem serB_false (ts : List Tm) (k : Nat) (hk : k < ts.length) (h : serAt ts k = false) : serB ts = false := by
  unfold serB; rw [allSer_false ts _ k hk h, Bool.false_and]
theorem serAt_c (ts : List Tm) (k : Nat) (t : Tm) (ht : ts.getD k default = t) (h : t.c = 0) : serAt ts k = false := by
  unfold serAt; rw [ht, h]; rfl
theorem serAt_r (ts : List Tm) (k : Nat) (t : Tm) (ht : ts.getD k default = t) (h : inR (-1000000) 1000000 t.c = false) : serAt ts k = false := by
  unfold serAt; rw [ht, h]; simp
theorem serAt_w (ts : List Tm) (k : Nat) (t : Tm) (ht : ts.getD k default = t) (h : monoB t.s = false) : serAt ts k = false := by
  unfold serAt; rw [ht, h]; simp
theorem serAt_zero (ts : List Tm) (k : Nat) (t : Tm) (hk : k = 0) (ht : ts.getD k default = t) (h0 : ¬ t.c = 0) (h1 : inR (-1000000) 1000000 t.c = true) (h2 : monoB t.s = true) : serAt ts k = true := by
  unfold serAt; rw [ht, h1, h2]; simp [h0, hk]
theorem serAt_succ (ts : List Tm) (k : Nat) (t p : Tm) (hk : 0 < k) (ht : ts.getD k default = t) (hp : ts.getD (k - 1) default = p) (h0 : ¬ t.c = 0) (h1 : inR (-1000000) 1000000 t.c = true) (h2 : monoB t.s = true) : serAt ts k = lessW p.s t.s := by
  have h3 : ¬ k = 0 := by omega
  unfold serAt; rw [ht, hp, h1, h2]; simp [h0, h3]

end Go.Proofs.Ytebgcebjlbhjjaa

/- The contracts of the laws' own helpers on slices of ints: are two equal, put marks in, are the marks still there. -/

namespace Go.Proofs.Ytebgcebjlbhjjaa
open Go.RowKit

def intsV (zs : List Int) : List Value := zs.map (Value.int .i64)
theorem intsV_len (zs : List Int) : (intsV zs).length = zs.length := by simp [intsV]
theorem infoInt : (Try.prog.info? 3).map (fun i => (i.zero, i.size, i.bytes)) = some (some (.int .i64 0), 1, 8) := by kernel_rfl

/-- The value v is a slice of the call's own that holds the ints zs, in a block from base on. -/
def IntRow (base : Nat) (w : World) (v : Value) (zs : List Int) : Prop := w.ownsRow base 3 1 v zs.length (intsV zs)

theorem IntRow.shape {base : Nat} {w : World} {v : Value} {zs : List Int} (h : IntRow base w v zs) :
    ∃ a g cap, v = .slice a zs.length cap ∧ (0 < zs.length → a = some ⟨g, 0, none⟩ ∧ base ≤ g ∧ g < w.heap.size) ∧ zs.length ≤ maxLen ∧ ∀ j (hj : j < zs.length), w.cell? ⟨g, j, none⟩ = some (.int .i64 zs[j]) ∧ w.frozen? ⟨g, j, none⟩ = false := by
  rcases h.2 with ⟨rfl, h0⟩ | ⟨g, cap, cur, rfl, hb, hg, hn, hc, _⟩
  · exact ⟨none, 0, 0, by rw [h0], fun h => by omega, by rw [h0]; exact Nat.zero_le _, fun j hj => by omega⟩
  · refine ⟨some ⟨g, 0, none⟩, g, cap, rfl, fun _ => ⟨rfl, hb, (Array.getElem?_eq_some_iff.1 hg).1⟩, Nat.le_trans hn hc, fun j hj => ⟨?_, h.frozenAt j⟩⟩
    rw [h.cellAt j (by omega)]
    simp [intsV, hj]
theorem IntRow.below {base : Nat} {w w' : World} {v : Value} {zs : List Int} (h : IntRow base w v zs) (hb : Below w.heap.size w w') : IntRow base w' v zs :=
  h.kept ⟨hb.os, hb.tape, hb.output, hb.size, fun j hj _ => hb.block j hj⟩ (row := none) (by
    rcases h.2 with ⟨rfl, _⟩ | ⟨g, cap, cur, rfl, _⟩
    · exact .inl rfl
    · exact .inr (by simp [Value.ownBlock]))
theorem IntRow.mono {b1 b2 : Nat} {w : World} {v : Value} {zs : List Int} (h : IntRow b1 w v zs) (hb : b2 ≤ b1) : IntRow b2 w v zs := ownsRow_base h hb

/-- The marks k, k + 1, .. -/
def marks (k n : Nat) : List Int := (List.range n).map fun i => ((k + i : Nat) : Int)
theorem marks_succ (k j : Nat) : marks k (j + 1) = marks k j ++ [((k + j : Nat) : Int)] := by simp [marks, List.range_succ]
theorem marks_len (k n : Nat) : (marks k n).length = n := by simp [marks]

end Go.Proofs.Ytebgcebjlbhjjaa

/- The contracts of the model's sums of letters. -/

namespace Go.Proofs.Ytebgcebjlbhjjaa
open Go.RowKit

theorem sIndex_any (c : UInt8) (w : World) (h : letB c = true) :
    Calls Try.prog 104 #[.int .u8 (c.toNat : Int)] w fun e w' => e = .returned (.int .i64 (idxB c : Int)) ∧ w = w' := by
  have hc := (letB_iff c).1 h
  clear h
  by_cases h97 : 97 ≤ c.toNat
  · have H : Hid ((idxB c : Int) = (c.toNat : Int) - 97) := Lib.hid (by unfold idxB; rw [if_pos h97]; omega)
    have h2 : c.toNat ≤ 100 := by omega
    clear hc
    go_enter Try.func104, Try.ntmps104
    go_wp2
    go_ret
    exact ⟨ret_int H.out.symm, rfl⟩
  · have H : Hid ((idxB c : Int) = (c.toNat : Int) - 65) := Lib.hid (by unfold idxB; rw [if_neg h97]; omega)
    have h2 : c.toNat ≤ 68 := by omega
    have h3 : 65 ≤ c.toNat := by omega
    clear hc
    go_enter Try.func104, Try.ntmps104
    go_wp2
    go_ret
    exact ⟨ret_int H.out.symm, rfl⟩

end Go.Proofs.Ytebgcebjlbhjjaa

/- A drawn region whose head makes memory but has fixed values, and whose tail comes in one order only. -/

namespace Go.Proofs.Ytebgcebjlbhjjaa
open Go.RowKit

section
variable {P : Program} {ops : Array Oper} {md : Region.Mode} {C : World → Prop}

/-- The head in whatever order, up to the place where L holds. -/
def headQ (P : Program) (md : Region.Mode) (ops : Array Oper) (C : World → Prop) (n : Nat) (L : Array Bool → Act → Prop) : Nat → Array Bool → Act → Prop
  | 0, listed, a => L listed a
  | f + 1, listed, a => Region.ready md ops listed ≠ [] ∧ ∀ i ∈ Region.ready md ops listed, i < n ∧ qOp P ops C i (headQ P md ops C n L f (listed.setIfInBounds i true)) a

theorem wpAny_headQ {n g : Nat} {L : Array Bool → Act → Prop} {Q' : Exit → Act → World → Prop} (hL : ∀ listed a w, C w → L listed a → wpAny P md ops Q' g listed a w) :
    ∀ (f : Nat) (listed : Array Bool) (a : Act) (w : World), C w → headQ P md ops C n L f listed a → wpAny P md ops Q' (f + g) listed a w
  | 0, _, _, _, hw, h => by rw [Nat.zero_add]; exact hL _ _ _ hw h
  | f + 1, listed, a, w, hw, h => by
    rw [Nat.succ_add]
    exact ⟨fun h0 => absurd h0 h.1, fun i hi => wpOp_of_qOp hw (fun a' w' hw' h' => wpAny_headQ hL f _ a' w' hw' h') (h.2 i hi).2⟩

theorem headQ_first {n i : Nat} {oi : Oper} {v : Value} {L : Array Bool → Act → Prop} (hi : ops[i]? = some oi) (hsel : ∀ (j : Nat) (o : Oper) cs b, ops[j]? = some o → o.op ≠ .select cs b)
    (hs : Region.sinkB md ops n = true) (hc : Region.chainB md ops n = true) (hn : n < ops.size) (hin : i < n) (hdone : ∀ listed a, L listed a → ∀ j ∈ Region.ready md ops listed, n ≤ j) :
    ∀ (f : Nat) (listed : Array Bool) (a : Act), HeadInv md ops n listed →
      (∀ j oj, ops[j]? = some oj → j ≠ i → listed.getD j true = false → (∀ e ∈ oj.after, Region.binds md e = true → e.on ≠ i) → oi.apart ops oj = true) →
      i ∈ Region.ready md ops listed → YieldsIn P ops C oi v a →
      headQ P md ops C n L f (listed.setIfInBounds i true) (a.put oi.dst v) → headQ P md ops C n L (f + 1) listed a := by
  intro f
  induction f with
  | zero =>
    intro listed a inv _ hr hy H
    refine ⟨fun h => (by rw [h] at hr; cases hr), fun j hj => ?_⟩
    have hjn : j < n := Nat.lt_of_not_le fun h => tail_waits hs hc hn inv _ i rfl hin (mem_ready.1 hr).1 j h hj
    refine ⟨hjn, ?_⟩
    by_cases hji : j = i
    · subst hji; exact hy.qOp hi H
    · exact absurd (hdone _ _ H j (ready_mono hj hji)) (by omega)
  | succ f ih =>
    intro listed a inv hfree hr hy H
    have hun := (mem_ready.1 hr).1
    refine ⟨fun h => (by rw [h] at hr; cases hr), fun j hj => ?_⟩
    have hjn : j < n := Nat.lt_of_not_le fun h => tail_waits hs hc hn inv _ i rfl hin hun j h hj
    refine ⟨hjn, ?_⟩
    by_cases hji : j = i
    · subst hji; exact hy.qOp hi H
    · obtain ⟨hjun, oj, hoj, hall⟩ := mem_ready.1 hj
      have hnot : ∀ e ∈ oj.after, Region.binds md e = true → e.on ≠ i := fun e he hb heq => by
        have h1 := hall e he hb
        rw [heq, getD_both hun] at h1
        cases h1
      have h2 := qOp_put hoj (hfree j oj hoj hji hjun hnot) (fun cs b => hsel i oi cs b hi) (fun cs b => hsel j oj cs b hoj) hy (H.2 j (ready_mono hj hji)).2
      refine qOp_mono (fun a' h3 => ih _ a' (inv.set hj hjn) (fun k ok hk hki hu hno => hfree k ok hk hki ?_ hno) (ready_mono hr (Ne.symm hji)) h3.1 ?_) h2
      · by_cases hjk : j = k
        · subst hjk; exact hjun
        · rw [getD_set_ne true hjk] at hu; exact hu
      · rw [Array.setIfInBounds_comm _ _ hji]
        exact h3.2

theorem headQ_lex {n g : Nat} {Lq : Act → Prop} (hsel : Region.noSelect ops = true) (hs : Region.sinkB md ops n = true) (hc : Region.chainB md ops n = true) (hn : n < ops.size) :
    ∀ (l : List Oper) (k : Nat) (listed : Array Bool) (a : Act), (∀ j, j < l.length → l[j]? = ops[k + j]?) → k + l.length = n → HeadInv md ops n listed →
    Region.lexHead md ops g l.length k listed = true → wpQuiet P ops C Lq l a → headQ P md ops C n (fun listed' a' => Region.seqB md ops g n listed' = true ∧ Lq a') l.length listed a
  | [], k, listed, a, _, hk, _, hB, h => by
    obtain rfl : k = n := by simpa using hk
    exact ⟨by simpa [Region.lexHead] using hB, h⟩
  | o :: l, k, listed, a, hl, hk, inv, hB, h => by
    have h0 : ops[k]? = some o := by simpa using (hl 0 (by simp)).symm
    simp only [List.length_cons, Region.lexHead, Bool.and_eq_true] at hB
    have hkn : k < n := by simp only [List.length_cons] at hk; omega
    have hr' : k ∈ Region.ready md ops listed := by simpa using hB.1.1
    have hst : qOp P ops C k (wpQuiet P ops C Lq l) a := by unfold qOp; simp only [h0]; exact h
    obtain ⟨v, hy, hK⟩ := yieldsIn_of_qOp h0 hst
    exact headQ_first h0 (Region.noSelect_spec hsel) hs hc hn hkn (fun listed' a' hL => seqB_ready hL.1) l.length listed a inv (Region.free_spec h0 hB.1.2) hr' hy
      (headQ_lex hsel hs hc hn l (k + 1) _ _ (fun j hj => by have := hl (j + 1) (by simp; omega); simpa [Nat.add_assoc, Nat.add_comm 1 j] using this) (by simp only [List.length_cons] at hk; omega) (inv.set hr' hkn) hB.2 hK)

/-- The head walked once, in every world of the class; then the tail. -/
theorem wp_region_quiet_tail {id : Nat} {Q : Exit → Act → World → Prop} {a : Act} {w : World} {l : List Oper} (n : Nat) (hm : P.follows .mixedOrders = true) (hB : Region.lexTailB .any l.toArray n = true) (hC : C { w with drawn := w.drawn + 1 })
    (h : wpQuiet P l.toArray C (fun a' => ∀ w', C w' → wpList P l.toArray Q (l.drop n) a' w') (l.take n) a) : (Code.region id l.toArray true).wp P Q a w := by
  simp only [Region.lexTailB, Bool.and_eq_true, decide_eq_true_eq] at hB
  obtain ⟨⟨⟨⟨hsel, hn⟩, hs⟩, hc⟩, hlex⟩ := hB
  have hn' : n < l.length := by simpa using hn
  have htl : (l.take n).length = n := by simp; omega
  have hdl : (l.drop n).length = l.toArray.size - n := by simp
  have inv0 : HeadInv .any l.toArray n (Array.replicate l.toArray.size false) :=
    ⟨by simp, fun j oj _ hl => (by rw [getD_replicate_false] at hl; cases hl), fun t _ ht => getD_in (by simpa using ht) (getD_replicate_false _ _)⟩
  have H := headQ_lex (md := .any) (g := l.toArray.size - n) hsel hs hc hn (l.take n) 0 _ a (fun j hj => by
    have hj' : j < n := by rw [htl] at hj; exact hj
    simp [hj']) (by simpa using htl) inv0 (by rw [htl]; exact hlex) h
  refine wp_region_any hm ?_
  have := wpAny_headQ (Q' := Q) (g := l.toArray.size - n) (fun listed a' w' hw' hL => by
    have := wpAny_of_seq (md := .any) (Q' := Q) (l.drop n) n listed a' w' (fun j => by simp [List.getElem?_drop]) (by rw [hdl]; exact hL.1) (hL.2 w' hw')
    rwa [hdl] at this) _ _ _ _ hC H
  rw [htl, show n + (l.toArray.size - n) = l.toArray.size by omega] at this
  exact this
/-- At the worlds behind w. -/
theorem wp_region_below_tail {id : Nat} {Q : Exit → Act → World → Prop} {a : Act} {w : World} {l : List Oper} (n : Nat) (hm : P.follows .mixedOrders = true) (hB : Region.lexTailB .any l.toArray n = true)
    (h : wpQuiet P l.toArray (fun w' => ∃ p : BelowBy w, w' = p.world) (fun a' => ∀ w', (∃ p : BelowBy w, w' = p.world) → wpList P l.toArray Q (l.drop n) a' w') (l.take n) a) : (Code.region id l.toArray true).wp P Q a w :=
  wp_region_quiet_tail n hm hB ⟨⟨w.drew, (Below.refl _ _).drew⟩, rfl⟩ h
end

end Go.Proofs.Ytebgcebjlbhjjaa

/- The contracts of the model's 'l3Fox' and 'FoxOf'. -/

namespace Go.Proofs.Ytebgcebjlbhjjaa
open Go.RowKit Go.Shelf

theorem Acc.more {base : Nat} {w : World} {v : Value} {acc : List Tm} {N N' : Nat} {B B' : Int} (h : Acc base w v acc N B) (hN : N ≤ N') (hB : B ≤ B') : Acc base w v acc N' B' :=
  ⟨h.own, Nat.le_trans h.len hN, fun u hu => by have := h.bnd u hu; omega, h.sml⟩
theorem extract_take (s : ByteArray) (k : Nat) : s.extract 0 k = bstr (s.data.toList.take k) := by
  apply bytes_ext
  rw [Lib.extract_data, bstr_toList]; simp

set_option maxRecDepth 100000 in
set_option maxHeartbeats 2000000 in
theorem l3Fox_any (s : ByteArray) (g : Int) (w : World) (hs : s.size ≤ 60) (hl : letL s.data.toList = true) :
    Calls Try.prog 80 #[.string s, .int .i64 g] w fun e w' => (∃ v, e = .returned v ∧ Acc w.heap.size w' v (canonT (foxL g 1 s.data.toList)) 60 60) ∧ Below w.heap.size w w' := by
  have HL := Lib.hid hl
  clear hl
  go_enter Try.func80, Try.ntmps80
  go_wp2
  go_loopw [5, 6] (fun v i wr => ∃ k : Nat, k ≤ s.size ∧ i = .int .i64 k ∧ Hid (Acc w.heap.size wr v ((foxN g 1 s.data.toList k).foldl addT []) k k) ∧ Below w.heap.size w wr) (fun _ i _ => s.size - (intOf i).toNat)
  case atStart => exact ⟨0, Nat.zero_le _, rfl, Lib.hid (acc_zero w), (Below.refl _ _).alloc (Nat.le_refl _) _⟩
  case round =>
    obtain ⟨k, hk, rfl, HA, hB⟩ := hrel
    by_cases hlt : k < s.size
    · have hl : k < s.data.toList.length := by simpa using hlt
      have hlet : letB s[k] = true := letL_get _ HL.out k hl
      have HLet := Lib.hid hlet
      have hsucc := foxN_succ g 1 s.data.toList k hl
      rw [show s.data.toList[k] = s[k] from rfl] at hsucc
      obtain ⟨q, hq⟩ : ∃ q, idxB s[k] = q := ⟨_, rfl⟩
      have HQ := Lib.hid hq
      by_cases hg : (q : Int) = g
      · have hgg : (idxB s[k] : Int) = g := by rw [hq]; exact hg
        have hdg : decide ((q : Int) = g) = true := decide_eq_true hg
        by_cases h97 : 97 ≤ s[k].toNat
        · have hsg : sgnB s[k] = 1 := by unfold sgnB; rw [if_pos h97]
          rw [foxT_hi hgg h97, hsg, ← extract_take] at hsucc
          have HS := Lib.hid hsucc
          clear hsucc hgg hlet hq hsg
          obtain ⟨x, hx⟩ : ∃ x, s.extract 0 k = x := ⟨_, rfl⟩
          have hxs : x.size ≤ 60 := by rw [← hx, extract_take, bstr_size, List.length_take]; omega
          have HX := Lib.hid hx
          go_wp2_with fail
          refine (sIndex_any _ _ HLet.out).mono ?_
          rw [HQ.out]
          rintro e w2 ⟨rfl, rfl⟩
          go_wp2_with fail
          clear hx
          refine (step_any w.heap.size u5 _ k k 1 1 x wr HA.out (by omega) (by omega) (by omega) (by omega) (by omega) hxs hB.size).mono ?_
          rintro e w4 ⟨⟨v', rfl, ho⟩, hb4⟩
          have HO := Lib.hid ho
          have hB4 : Below w.heap.size w w4 := hB.trans (hb4.mono hB.size)
          clear ho hb4
          go_wp2
          go_roundw
          case rel =>
            refine ⟨k + 1, by omega, by go_num, Lib.hid ?_, hB4⟩
            rw [HS.out, List.foldl_append, HX.out]
            exact HO.out.more (by omega) (by omega)
          case measure => simp [intOf]; omega
        · have hsg : sgnB s[k] = -1 := by unfold sgnB; rw [if_neg h97]
          rw [foxT_lo hgg h97, hsg, show s[k] = s.data.toList[k] from rfl, ← take_snoc _ k hl, ← extract_take] at hsucc
          have HS := Lib.hid hsucc
          clear hsucc hgg hlet hq hsg
          obtain ⟨x, hx⟩ : ∃ x, s.extract 0 (k + 1) = x := ⟨_, rfl⟩
          have hxs : x.size ≤ 60 := by rw [← hx, extract_take, bstr_size, List.length_take]; omega
          have HX := Lib.hid hx
          go_wp2_with fail
          refine (sIndex_any _ _ HLet.out).mono ?_
          rw [HQ.out]
          rintro e w2 ⟨rfl, rfl⟩
          go_wp2_with fail
          clear hx
          refine (step_any w.heap.size u5 _ k k 1 (-1) x wr HA.out (by omega) (by omega) (by omega) (by omega) (by omega) hxs hB.size).mono ?_
          rintro e w4 ⟨⟨v', rfl, ho⟩, hb4⟩
          have HO := Lib.hid ho
          have hB4 : Below w.heap.size w w4 := hB.trans (hb4.mono hB.size)
          clear ho hb4
          go_wp2
          go_roundw
          case rel =>
            refine ⟨k + 1, by omega, by go_num, Lib.hid ?_, hB4⟩
            rw [HS.out, List.foldl_append, HX.out]
            exact HO.out.more (by omega) (by omega)
          case measure => simp [intOf]; omega
      · have hgg : ¬ (idxB s[k] : Int) = g := by rw [hq]; exact hg
        have hdg : decide ((q : Int) = g) = false := decide_eq_false hg
        rw [foxT_no hgg, List.append_nil] at hsucc
        have HS := Lib.hid hsucc
        clear hsucc hgg hlet hq
        go_wp2_with fail
        refine (sIndex_any _ _ HLet.out).mono ?_
        rw [HQ.out]
        rintro e w2 ⟨rfl, rfl⟩
        go_wp2_with fail
        go_roundw
        case rel =>
          refine ⟨k + 1, by omega, by go_num, Lib.hid ?_, hB⟩
          rw [HS.out]
          exact HA.out.more (by omega) (by omega)
        case measure => simp [intOf]; omega
    · have HE : Hid (s.size = k) := by have : s.size = k := by omega
                                       exact this
      go_wp2_with fail
      go_ret
      refine ⟨⟨_, rfl, ?_⟩, hB⟩
      have h := HA.out
      have hk2 : k = s.data.toList.length := by rw [← HE.out]; simp
      unfold foxL canonT
      rw [← hk2]
      exact h.more (by omega) (by omega)

end Go.Proofs.Ytebgcebjlbhjjaa

/- The contracts of the model's 'l1Four', 'l1Put' and 'WordPut'. -/

namespace Go.Proofs.Ytebgcebjlbhjjaa
open Go.RowKit

def wordsB (zs : List ByteArray) : Bool := zs.all fun s => wordB s.data.toList
/-- Are these four words? -/
def fourB (zs : List ByteArray) : Bool := wordsB zs && decide (zs.length = 4)

theorem wordsB_false (zs : List ByteArray) (k : Nat) (hk : k < zs.length) (h : wordB zs[k].data.toList = false) : wordsB zs = false :=
  List.all_eq_false.2 ⟨_, List.getElem_mem hk, by simp [h]⟩
theorem wordsB_of (zs : List ByteArray) (h : ∀ j (hj : j < zs.length), wordB zs[j].data.toList = true) : wordsB zs = true :=
  List.all_eq_true.2 fun s hs => by
    obtain ⟨j, hj, rfl⟩ := List.mem_iff_getElem.1 hs
    exact h j hj

set_option maxRecDepth 100000 in
set_option maxHeartbeats 1000000 in
theorem four_any (a : Option Addr) (cap n : Nat) (zs : List ByteArray) (w : World) (hn : zs.length = n) (hm : n ≤ maxLen) (hs : StrsAt w a zs) :
    Calls Try.prog 77 #[.slice a n cap] w fun e w' => e = .returned (.bool (fourB zs)) ∧ Below w.heap.size w w' := by
  have HS := Lib.hid hs
  have HN := Lib.hid hn
  clear hs hn
  have hm0 := hm
  unfold maxLen at hm
  have ht : ((n : Int) == 4) = decide (zs.length = 4) := by rw [HN.out, Bool.eq_iff_iff]; simp; omega
  go_enter Try.func77, Try.ntmps77
  go_wp2
  go_loopw [3] (fun i wr => ∃ k : Nat, k ≤ n ∧ i = .int .i64 k ∧ Hid (∀ j (h : j < zs.length), j < k → wordB zs[j].data.toList = true) ∧ Below w.heap.size w wr) (fun i _ => n - (intOf i).toNat)
  case atStart => exact ⟨0, Nat.zero_le _, rfl, Lib.hid (fun j _ h => absurd h (Nat.not_lt_zero _)), Below.refl _ _⟩
  case round =>
    obtain ⟨k, hk, rfl, HJ, hB⟩ := hrel
    by_cases hlt : k < n
    · have hkz : k < zs.length := by rw [HN.out]; exact hlt
      obtain ⟨x, rfl, hb, hc⟩ := HS.out.cells (by omega)
      obtain ⟨s, hs⟩ : ∃ s, zs[k] = s := ⟨_, rfl⟩
      have hck : wr.cell? (x.add k) = some (.string s) := by rw [← hs]; exact (hB.cell (p := x.add k) (by rw [addr_add_block]; exact hb)).trans (hc k hkz)
      have hsm : s.size ≤ maxLen := by rw [← hs]; exact HS.out.small _ (List.getElem_mem hkz)
      have HE := Lib.hid hs
      have HK := Lib.hid hkz
      clear hs hc
      cases hw : wordB s.data.toList with
      | true =>
        have HW := Lib.hid hw
        clear hw
        go_wp2_with fail
        refine (sWordIn_is s true _ hsm HW.out).mono ?_
        rintro e w2 ⟨rfl, hb2⟩
        go_wp2_with fail
        go_roundw
        case rel =>
          refine ⟨k + 1, by omega, by go_num, Lib.hid ?_, hB.trans (hb2.mono hB.size)⟩
          intro j hj hjk
          by_cases e : j = k
          · subst e; rw [HE.out]; exact HW.out
          · exact HJ.out j hj (by omega)
        case measure => simp [intOf]; omega
      | false =>
        have HW := Lib.hid hw
        clear hw
        go_wp2_with fail
        refine (sWordIn_is s false _ hsm HW.out).mono ?_
        rintro e w2 ⟨rfl, hb2⟩
        go_wp2_with fail
        go_ret
        refine ⟨?_, hB.trans (hb2.mono hB.size)⟩
        rw [show fourB zs = false by unfold fourB; rw [wordsB_false zs k HK.out (by rw [HE.out]; exact HW.out)]; rfl]
        rfl
    · obtain rfl : k = n := by omega
      have HT := Lib.hid ht
      clear ht
      go_wp2
      go_ret
      refine ⟨ret_bool ?_, hB⟩
      have hw : wordsB zs = true := wordsB_of zs fun j hj => HJ.out j hj (by rw [← HN.out]; exact hj)
      have := HT.out
      unfold fourB
      rw [hw, Bool.true_and]
      simpa using this

theorem four_is (b : Bool) (a : Option Addr) (cap n : Nat) (zs : List ByteArray) (w : World) (hn : zs.length = n) (hm : n ≤ maxLen) (hs : StrsAt w a zs) (h : fourB zs = b) :
    Calls Try.prog 77 #[.slice a n cap] w fun e w' => e = .returned (.bool b) ∧ Below w.heap.size w w' := by
  rw [← h]; exact four_any a cap n zs w hn hm hs

/-- The image of a letter, and of a row of letters. -/
def imgL (zs : List ByteArray) (c : UInt8) : List UInt8 := if c.toNat < 97 then backL (zs.getD (idxB c) ByteArray.empty).data.toList else (zs.getD (idxB c) ByteArray.empty).data.toList
def putL (zs : List ByteArray) (l : List UInt8) : List UInt8 := (l.map (imgL zs)).flatten
theorem putL_snoc (zs : List ByteArray) (l : List UInt8) (c : UInt8) : putL zs (l ++ [c]) = putL zs l ++ imgL zs c := by simp [putL]
theorem imgL_len (zs : List ByteArray) (c : UInt8) (h : ∀ z ∈ zs, z.size ≤ 60) (hc : idxB c < zs.length) : (imgL zs c).length ≤ 60 := by
  have h1 : (zs.getD (idxB c) ByteArray.empty) ∈ zs := by
    rw [List.getD_eq_getElem?_getD, List.getElem?_eq_getElem hc]; exact List.getElem_mem hc
  have h2 := h _ h1
  unfold imgL
  split
  · rw [backL_length]; simpa using h2
  · simpa using h2

set_option maxRecDepth 100000 in
set_option maxHeartbeats 1000000 in
theorem put_any (s : ByteArray) (a : Option Addr) (cap : Nat) (zs : List ByteArray) (w : World) (hs : s.size ≤ 60) (hl : letL s.data.toList = true) (hn : zs.length = 4) (hz : ∀ z ∈ zs, z.size ≤ 60) (hst : StrsAt w a zs) :
    Calls Try.prog 78 #[.string s, .slice a 4 cap] w fun e w' => e = .returned (.string (bstr (redL [] (putL zs s.data.toList)))) ∧ Below w.heap.size w w' := by
  obtain ⟨x, rfl, hb, hc⟩ := hst.cells (by omega)
  have HL := Lib.hid hl
  have HN := Lib.hid hn
  have HZ := Lib.hid hz
  have HC := Lib.hid hc
  clear hl hn hz hc hst
  go_enter Try.func78, Try.ntmps78
  go_wp2
  go_loopw [5, 6, 7] (fun o i q7 wr => ∃ (k : Nat) (t : ByteArray), k ≤ s.size ∧ o = .string t ∧ i = .int .i64 k ∧ t.size ≤ 60 * k ∧ Hid (t = bstr (redL [] (putL zs (s.data.toList.take k))) ∧ (putL zs (s.data.toList.take k)).length ≤ 60 * k) ∧ Below w.heap.size w wr) (fun _ i _ _ => s.size - (intOf i).toNat)
  case atStart => exact ⟨0, ByteArray.empty, Nat.zero_le _, rfl, rfl, by simp, Lib.hid ⟨rfl, by simp [putL]⟩, Below.refl _ _⟩
  case round =>
    obtain ⟨k, t, hk, rfl, rfl, htz, HT, hB⟩ := hrel
    by_cases hlt : k < s.size
    · have hl : k < s.data.toList.length := by simpa using hlt
      have hlet : letB s[k] = true := letL_get _ HL.out k hl
      have hid := idxB_lt _ hlet
      obtain ⟨z, hzz⟩ : ∃ z, zs[idxB s[k]]'(by rw [HN.out]; exact hid) = z := ⟨_, rfl⟩
      have hck : wr.cell? (x.add (idxB s[k])) = some (.string z) := by rw [← hzz]; exact (hB.cell (p := x.add (idxB s[k])) (by rw [addr_add_block]; exact hb)).trans (HC.out _ (by rw [HN.out]; exact hid))
      have hz60 : z.size ≤ 60 := by rw [← hzz]; exact HZ.out _ (List.getElem_mem _)
      have hgd : zs.getD (idxB s[k]) ByteArray.empty = z := by
        rw [List.getD_eq_getElem?_getD, List.getElem?_eq_getElem (by rw [HN.out]; exact hid)]; exact hzz
      have hpn : putL zs (s.data.toList.take (k + 1)) = putL zs (s.data.toList.take k) ++ imgL zs s[k] := by rw [take_snoc _ k hl, putL_snoc]; rfl
      have himl := imgL_len zs s[k] HZ.out (by rw [HN.out]; exact hid)
      have HP := Lib.hid hpn
      have HG := Lib.hid hgd
      have HLt := Lib.hid hlet
      have HI := Lib.hid himl
      clear hpn hgd hlet himl hzz
      by_cases hc97 : s[k].toNat < 97
      · have himg : imgL zs s[k] = backL z.data.toList := by unfold imgL; rw [if_pos hc97, HG.out]
        have HM := Lib.hid himg
        obtain ⟨bz, hbz⟩ : ∃ b, bstr (backL z.data.toList) = b := ⟨_, rfl⟩
        have hbs : bz.size ≤ 60 := by rw [← hbz, bstr_size, backL_length]; simpa using hz60
        have hbl : bz.data.toList = backL z.data.toList := by rw [← hbz, bstr_toList]
        have hbk : ∀ W, Calls Try.prog 72 #[.string z] W fun e w' => e = .returned (.string bz) ∧ Below W.heap.size W w' := fun W => by rw [← hbz]; exact back_any z W (by omega)
        have HBK := Lib.hid hbk
        have HBL := Lib.hid hbl
        clear himg hbz hbl hbk
        go_wp2_with fail
        refine (sIndex_any s[k] _ HLt.out).mono ?_
        rintro e w1 ⟨rfl, rfl⟩
        go_wp2_with fail
        refine (HBK.out _).mono ?_
        rintro e w2 ⟨rfl, hb2⟩
        go_wp2_with fail
        refine (reduce_any (t ++ bz) _ (by rw [append_size]; omega)).mono ?_
        rintro e w3 ⟨rfl, hb3⟩
        go_wp2_with fail
        go_roundw
        case rel =>
          have hlen2 : (putL zs (s.data.toList.take (k + 1))).length ≤ 60 * (k + 1) := by rw [HP.out, List.length_append]; have := HT.out.2; have := HI.out; omega
          have he : redL [] (t.data.toList ++ bz.data.toList) = redL [] (putL zs (s.data.toList.take (k + 1))) := by
            rw [HT.out.1, bstr_toList, HBL.out, red_append, HP.out, HM.out]
          refine ⟨k + 1, _, by omega, rfl, by go_num, ?_, Lib.hid ⟨by rw [he], hlen2⟩, hB.trans ((hb2.trans (hb3.mono hb2.size)).mono hB.size)⟩
          simp only [bstr_size]
          rw [he]
          exact Nat.le_trans (redL_len _ []) (by simpa using hlen2)
        case measure => simp [intOf]; omega
      · have himg : imgL zs s[k] = z.data.toList := by unfold imgL; rw [if_neg hc97, HG.out]
        have HM := Lib.hid himg
        clear himg
        go_wp2_with fail
        refine (sIndex_any s[k] _ HLt.out).mono ?_
        rintro e w1 ⟨rfl, rfl⟩
        go_wp2_with fail
        refine (reduce_any (t ++ z) _ (by rw [append_size]; omega)).mono ?_
        rintro e w3 ⟨rfl, hb3⟩
        go_wp2_with fail
        go_roundw
        case rel =>
          have hlen2 : (putL zs (s.data.toList.take (k + 1))).length ≤ 60 * (k + 1) := by rw [HP.out, List.length_append]; have := HT.out.2; have := HI.out; omega
          have he : redL [] (t.data.toList ++ z.data.toList) = redL [] (putL zs (s.data.toList.take (k + 1))) := by
            rw [HT.out.1, bstr_toList, red_append, HP.out, HM.out]
          refine ⟨k + 1, _, by omega, rfl, by go_num, ?_, Lib.hid ⟨by rw [he], hlen2⟩, hB.trans (hb3.mono hB.size)⟩
          simp only [bstr_size]
          rw [he]
          exact Nat.le_trans (redL_len _ []) (by simpa using hlen2)
        case measure => simp [intOf]; omega
    · obtain rfl : k = s.size := by omega
      go_wp2
      go_ret
      exact ⟨ret_string (by rw [HT.out.1, List.take_of_length_le (by simp)]), hB⟩

theorem put_is (r : ByteArray) (s : ByteArray) (a : Option Addr) (cap : Nat) (zs : List ByteArray) (w : World) (hs : s.size ≤ 60) (hl : letL s.data.toList = true) (hn : zs.length = 4) (hz : ∀ z ∈ zs, z.size ≤ 60) (hst : StrsAt w a zs) (h : bstr (redL [] (putL zs s.data.toList)) = r) :
    Calls Try.prog 78 #[.string s, .slice a 4 cap] w fun e w' => e = .returned (.string r) ∧ Below w.heap.size w w' := by
  rw [← h]; exact put_any s a cap zs w hs hl hn hz hst

theorem fourB_iff (zs : List ByteArray) : fourB zs = true ↔ zs.length = 4 ∧ ∀ z ∈ zs, wordB z.data.toList = true := by
  unfold fourB wordsB
  rw [Bool.and_eq_true, List.all_eq_true, decide_eq_true_iff, and_comm]

end Go.Proofs.Ytebgcebjlbhjjaa

/- The contracts of the model's 'SumTurned' and 'SumPut'. -/

namespace Go.Proofs.Ytebgcebjlbhjjaa
open Go.RowKit Go.Shelf

/-- A term whose word is changed. -/
def mapT (f : List UInt8 → List UInt8) (t : Tm) : Tm := ⟨t.c, bstr (f t.s.data.toList)⟩
def fitB (ts : List Tm) : Bool := ts.all fun t => decide (t.s.size ≤ 60)
theorem fitB_at {ts : List Tm} {k : Nat} (hk : k < ts.length) (h : ¬ ts[k].s.size ≤ 60) : fitB ts = false :=
  List.all_eq_false.2 ⟨_, List.getElem_mem hk, by simpa using h⟩
theorem fitB_of {ts : List Tm} (h : ∀ j (hj : j < ts.length), ts[j].s.size ≤ 60) : fitB ts = true :=
  List.all_eq_true.2 fun t ht => by
    obtain ⟨j, hj, rfl⟩ := List.getElem_of_mem ht
    simpa using h j hj
theorem termB_word {t : Tm} (h : termB t = true) : wordB t.s.data.toList = true := by unfold termB at h; simp only [Bool.and_eq_true] at h; exact h.1

set_option maxRecDepth 100000 in
set_option maxHeartbeats 4000000 in
theorem sSumTurned_no (a : Option Addr) (cap n : Nat) (x : List Tm) (w : World) (hx : IsTerms w a n x) (hb : sumB x = false) :
    Calls Try.prog 31 #[.slice a n cap] w (STold w false []) := by
  have HX := Lib.hid hx
  have HBX := Lib.hid hb
  have hba : Below w.heap.size w (w.alloc (.cells #[] TI)) := (Below.refl _ _).alloc (Nat.le_refl _) _
  have HBA := Lib.hid hba
  clear hx hb hba
  go_enter Try.func31, Try.ntmps31
  go_wp2_with fail
  refine (sSumIn_is a cap n x false _ (HX.out.below HBA.out) HBX.out).mono ?_
  rintro e w1 ⟨rfl, hb1⟩
  have HB1 := Lib.hid (HBA.out.trans (hb1.mono HBA.out.size))
  have HE := Lib.hid ((ownEmpty w).below hb1)
  clear hb1
  go_wp2
  go_ret2
  exact ⟨⟨_, rfl, HE.out⟩, HB1.out⟩

set_option maxRecDepth 100000 in
set_option maxHeartbeats 4000000 in
theorem sSumTurned_yes (a : Option Addr) (cap n : Nat) (x : List Tm) (b : Bool) (w : World) (hx : IsTerms w a n x) (hbx : sumB x = true) (hb : twB (canonT (x.map (mapT backL))) = b) :
    Calls Try.prog 31 #[.slice a n cap] w (STold w b (canonT (x.map (mapT backL)))) := by
  obtain ⟨htx, hcx⟩ := sumB_parts hbx
  obtain ⟨hlx, hwx⟩ := canon_len_words htx
  have hn : n ≤ 300 := by rw [← hx.len]; exact hlx
  have hyn : (x.map (mapT backL)).length = n := by rw [List.length_map, hx.len]
  obtain ⟨ys, hys⟩ : ∃ ys, x.map (mapT backL) = ys := ⟨_, rfl⟩
  rw [hys] at hb hyn ⊢
  have HX := Lib.hid hx
  have HBX := Lib.hid hbx
  have HWX := Lib.hid hwx
  have HBB := Lib.hid hb
  have HYS := Lib.hid hys
  have HYN := Lib.hid hyn
  have hmx : Try.prog.follows .mixedOrders = true := by kernel_rfl
  have hba : Below w.heap.size w (w.alloc (.cells #[] TI)) := (Below.refl _ _).alloc (Nat.le_refl _) _
  have HBA := Lib.hid hba
  clear hx hbx htx hcx hlx hwx hb hba hys hyn
  go_enter Try.func31, Try.ntmps31
  go_wp2_with fail
  refine (sSumIn_is a cap n x true _ (HX.out.below HBA.out) HBX.out).mono ?_
  rintro e w1 ⟨rfl, hb1⟩
  have HB1 := Lib.hid (HBA.out.trans (hb1.mono HBA.out.size))
  have HE := Lib.hid ((acc_zero w).below hb1)
  clear hb1
  go_wp2_with fail
  go_loopw [4, 5] (fun v i wr => ∃ k : Nat, k ≤ n ∧ i = .int .i64 k ∧ Hid (Acc w.heap.size wr v ((ys.take k).foldl addT []) k (1000000 * k)) ∧ Below w.heap.size w wr) (fun _ i _ => n - (intOf i).toNat)
  case atStart => exact ⟨0, Nat.zero_le _, rfl, HE, HB1.out⟩
  case round =>
    obtain ⟨k, hk, rfl, HA, hB⟩ := hrel
    by_cases hlt : k < n
    · have hkx : k < x.length := by rw [HX.out.len]; exact hlt
      have hky : k < ys.length := by rw [HYN.out]; exact hlt
      obtain ⟨z, rfl, hz⟩ := HX.out.at_ (by omega)
      obtain ⟨t, ht⟩ : ∃ t, x[k] = t := ⟨_, rfl⟩
      have hyk : ys[k] = mapT backL t := by have h := HYS.out; subst h; rw [List.getElem_map, ht]
      have hzw := hz.below hB
      have hc := hzw.2 k hkx
      have hbz := hzw.1
      rw [ht, addr_next] at hc
      obtain ⟨c0, d1⟩ := hc
      have htb := HWX.out _ (List.getElem_mem hkx)
      rw [ht] at htb
      have htw := termB_word htb
      have hti := termB_iff htb
      obtain ⟨r, hr⟩ : ∃ r, bstr (backL t.s.data.toList) = r := ⟨_, rfl⟩
      have hrs : r.size ≤ 60 := by rw [← hr, bstr_size, backL_length]; have := hti.1; simpa using this
      have HT : Hid (∀ W : World, Calls Try.prog 72 #[.string t.s] W fun e w' => e = .returned (.string r) ∧ Below W.heap.size W w') :=
        Lib.hid fun W => by rw [← hr]; exact back_any t.s W (by omega)
      have HTI := Lib.hid hti
      have HYK : Hid (ys[k] = ⟨t.c, r⟩) := Lib.hid (by rw [hyk, ← hr]; rfl)
      have v0 := BelowBy.cell (w := wr) (by rw [addr_add_block]; exact hbz) c0
      have v1 := BelowBy.cell (w := wr) (by show (z.add (k * 2)).block < _; rw [addr_add_block]; exact hbz) d1
      clear ht hz hzw htb htw hti hr hyk c0 d1
      go_wp2
      refine wp_region_below_tail 12 hmx (by kernel_rfl) ?_
      simp only [List.take_succ_cons, List.take_zero, List.drop_succ_cons, List.drop_zero]
      repeat (((with_reducible refine wpQuiet_step (fun K hK => ?_)); go_simp; first | ((with_reducible refine hK _ ?_); clear hK K) | (refine (if_neg (by decide)).mpr ?_; (with_reducible refine hK _ ?_); clear hK K) | (apply Exists.intro; (with_reducible refine ⟨fun _ => ?_, hK _ ?_⟩); (go_at_call 72; exact Calls.bel (HT.out _)); clear hK K)))
      with_reducible refine wpQuiet_nil ?_
      rintro W ⟨⟨W, hW⟩, rfl⟩
      clear v0 v1
      have hBW : Below w.heap.size w W := hB.trans (hW.mono hB.size)
      change wpList _ _ _ _ _ W
      go_wp2_with fail
      refine (step_any w.heap.size u4 _ k (1000000 * k) 1000000 t.c r W (HA.out.below hW) (by omega) (by omega) (by omega) (by omega) HTI.out.2 hrs hBW.size).mono ?_
      rintro e w4 ⟨⟨v', rfl, ho⟩, hb4⟩
      have hB4 : Below w.heap.size w w4 := hBW.trans (hb4.mono hBW.size)
      have HO := Lib.hid ho
      clear ho hb4
      go_wp2
      go_roundw
      case rel =>
        refine ⟨k + 1, by omega, by go_num, Lib.hid ?_, hB4⟩
        have h := HO.out
        rw [fold_succ ys k hky, HYK.out]
        rw [show (1000000 : Int) * ((k + 1 : Nat) : Int) = 1000000 * k + 1000000 by omega]
        exact h
      case measure => simp [intOf]; omega
    · obtain rfl : k = n := by omega
      have hacc := HA.out
      rw [List.take_of_length_le (by rw [HYN.out]; exact Nat.le_refl _)] at hacc
      have HAcc : Hid (Acc w.heap.size wr u4 (canonT ys) k (1000000 * k)) := Lib.hid hacc
      have HSb : Hid (sumB (canonT ys) = b) := Lib.hid (by rw [sumB_canon (canon_of _)]; exact HBB.out)
      clear hacc
      go_wp2_with fail
      refine (sDone_any w.heap.size u4 (canonT ys) b wr HAcc.out.own (HAcc.out.small (by omega) (by omega)) hB.size HSb.out).mono ?_
      rintro e w2 ⟨⟨v', rfl, ho⟩, hb2⟩
      have HO := Lib.hid ho
      clear ho
      go_wp2
      go_ret2
      exact ⟨⟨_, rfl, HO.out⟩, hB.trans (hb2.mono hB.size)⟩

/-! ### SumPut -/

def putF (zs : List ByteArray) (l : List UInt8) : List UInt8 := redL [] (putL zs l)

set_option maxRecDepth 100000 in
set_option maxHeartbeats 4000000 in
theorem sSumPut_no (a a2 : Option Addr) (cap cap2 n m : Nat) (x : List Tm) (zs : List ByteArray) (w : World) (hx : IsTerms w a n x) (hz : zs.length = m) (hm : m ≤ maxLen) (hs : StrsAt w a2 zs) (hb : sumB x = false ∨ fourB zs = false) :
    Calls Try.prog 36 #[.slice a n cap, .slice a2 m cap2] w (STold w false []) := by
  have HX := Lib.hid hx
  have HZ := Lib.hid hz
  have HS := Lib.hid hs
  have HM := Lib.hid hm
  have hba : Below w.heap.size w (w.alloc (.cells #[] TI)) := (Below.refl _ _).alloc (Nat.le_refl _) _
  have HBA := Lib.hid hba
  clear hx hba hz hs hm
  cases hbx : sumB x with
  | false =>
    have HBX := Lib.hid hbx
    clear hbx hb
    go_enter Try.func36, Try.ntmps36
    go_wp2_with fail
    refine (sSumIn_is a cap n x false _ (HX.out.below HBA.out) HBX.out).mono ?_
    rintro e w1 ⟨rfl, hb1⟩
    have HB1 := Lib.hid (HBA.out.trans (hb1.mono HBA.out.size))
    have HE := Lib.hid ((ownEmpty w).below hb1)
    clear hb1
    go_wp2
    go_ret2
    exact ⟨⟨_, rfl, HE.out⟩, HB1.out⟩
  | true =>
    have hbf : fourB zs = false := by rcases hb with h | h; · rw [h] at hbx; cases hbx
                                      · exact h
    have HBX := Lib.hid hbx
    have HBF := Lib.hid hbf
    clear hbx hbf hb
    go_enter Try.func36, Try.ntmps36
    go_wp2_with fail
    refine (sSumIn_is a cap n x true _ (HX.out.below HBA.out) HBX.out).mono ?_
    rintro e w1 ⟨rfl, hb1⟩
    have HB1 := Lib.hid (HBA.out.trans (hb1.mono HBA.out.size))
    have HE := Lib.hid ((ownEmpty w).below hb1)
    clear hb1
    go_wp2_with fail
    refine (four_is false a2 cap2 m zs _ HZ.out HM.out (HS.out.below HB1.out) HBF.out).mono ?_
    rintro e w2 ⟨rfl, hb2⟩
    have HB2 := Lib.hid (HB1.out.trans (hb2.mono HB1.out.size))
    have HE2 := Lib.hid (HE.out.below hb2)
    clear hb2
    go_wp2
    go_ret2
    exact ⟨⟨_, rfl, HE2.out⟩, HB2.out⟩

set_option maxRecDepth 100000 in
set_option maxHeartbeats 4000000 in
theorem sSumPut_yes (a a2 : Option Addr) (cap cap2 n : Nat) (x : List Tm) (zs : List ByteArray) (b : Bool) (w : World) (hx : IsTerms w a n x) (hs : StrsAt w a2 zs) (hbx : sumB x = true) (hf : fourB zs = true)
    (hb : (fitB (x.map (mapT (putF zs))) && twB (canonT (x.map (mapT (putF zs))))) = b) :
    Calls Try.prog 36 #[.slice a n cap, .slice a2 4 cap2] w (STold w b (canonT (x.map (mapT (putF zs))))) := by
  obtain ⟨htx, hcx⟩ := sumB_parts hbx
  obtain ⟨hlx, hwx⟩ := canon_len_words htx
  obtain ⟨hz4, hzw⟩ := (fourB_iff zs).1 hf
  have hn : n ≤ 300 := by rw [← hx.len]; exact hlx
  have hyn : (x.map (mapT (putF zs))).length = n := by rw [List.length_map, hx.len]
  obtain ⟨ys, hys⟩ : ∃ ys, x.map (mapT (putF zs)) = ys := ⟨_, rfl⟩
  rw [hys] at hb hyn ⊢
  have HX := Lib.hid hx
  have HBX := Lib.hid hbx
  have HF := Lib.hid hf
  have HS := Lib.hid hs
  have HZ4 := Lib.hid hz4
  have HZW := Lib.hid (fun z hz => by have := ((wordB_iff _).1 (hzw z hz)).1; simpa using this : ∀ z ∈ zs, z.size ≤ 60)
  have HWX := Lib.hid hwx
  have HBB := Lib.hid hb
  have HYS := Lib.hid hys
  have HYN := Lib.hid hyn
  have hba : Below w.heap.size w (w.alloc (.cells #[] TI)) := (Below.refl _ _).alloc (Nat.le_refl _) _
  have HBA := Lib.hid hba
  clear hx hbx htx hcx hlx hwx hb hba hys hyn hf hs hz4 hzw
  go_enter Try.func36, Try.ntmps36
  go_wp2_with fail
  refine (sSumIn_is a cap n x true _ (HX.out.below HBA.out) HBX.out).mono ?_
  rintro e w1 ⟨rfl, hb1⟩
  have HB1 := Lib.hid (HBA.out.trans (hb1.mono HBA.out.size))
  have HE := Lib.hid ((acc_zero w).below hb1)
  clear hb1
  go_wp2_with fail
  refine (four_is true a2 cap2 4 zs _ HZ4.out (by unfold maxLen; omega) (HS.out.below HB1.out) HF.out).mono ?_
  rintro e w2 ⟨rfl, hb2⟩
  have HB2 := Lib.hid (HB1.out.trans (hb2.mono HB1.out.size))
  have HE2 := Lib.hid (HE.out.below hb2)
  clear hb2
  go_wp2_with fail
  go_loopw [6, 7] (fun v i wr => ∃ k : Nat, k ≤ n ∧ i = .int .i64 k ∧ Hid ((∀ j (h : j < ys.length), j < k → ys[j].s.size ≤ 60) ∧ Acc w.heap.size wr v ((ys.take k).foldl addT []) k (1000000 * k)) ∧ Below w.heap.size w wr) (fun _ i _ => n - (intOf i).toNat)
  case atStart => exact ⟨0, Nat.zero_le _, rfl, Lib.hid ⟨fun j _ h => absurd h (Nat.not_lt_zero _), HE2.out⟩, HB2.out⟩
  case round =>
    obtain ⟨k, hk, rfl, HA, hB⟩ := hrel
    by_cases hlt : k < n
    · have hkx : k < x.length := by rw [HX.out.len]; exact hlt
      have hky : k < ys.length := by rw [HYN.out]; exact hlt
      obtain ⟨z, rfl, hz⟩ := HX.out.at_ (by omega)
      obtain ⟨t, ht⟩ : ∃ t, x[k] = t := ⟨_, rfl⟩
      have hyk : ys[k] = mapT (putF zs) t := by have h := HYS.out; subst h; rw [List.getElem_map, ht]
      have hzw := hz.below hB
      have hc := hzw.2 k hkx
      have hbz := hzw.1
      rw [ht, addr_next] at hc
      obtain ⟨c0, d1⟩ := hc
      have htb := HWX.out _ (List.getElem_mem hkx)
      rw [ht] at htb
      have htw := ((wordB_iff _).1 (termB_word htb)).2.1
      have hti := termB_iff htb
      obtain ⟨r, hr⟩ : ∃ r, bstr (redL [] (putL zs t.s.data.toList)) = r := ⟨_, rfl⟩
      have HT : Hid (∀ (W : World), StrsAt W a2 zs → Calls Try.prog 78 #[.string t.s, .slice a2 4 cap2] W fun e w' => e = .returned (.string r) ∧ Below W.heap.size W w') :=
        Lib.hid fun W hW => put_is r t.s a2 cap2 zs W hti.1 htw HZ4.out HZW.out hW hr
      have HTI := Lib.hid hti
      have HYK : Hid (ys[k] = ⟨t.c, r⟩) := Lib.hid (by rw [hyk, ← hr]; rfl)
      have HBZ := Lib.hid hbz
      have HC0 := Lib.hid c0
      clear ht hz hzw htb htw hti hr hyk
      go_wp2_with fail
      refine (HT.out _ (HS.out.below hB)).mono ?_
      rintro e w3 ⟨rfl, hb3⟩
      have c3 := (hb3.cell (p := z.add (k * 2)) (by rw [addr_add_block]; exact HBZ.out)).trans HC0.out
      have hB3 : Below w.heap.size w w3 := hB.trans (hb3.mono hB.size)
      have HA3 := Lib.hid (HA.out.2.below hb3)
      clear hb3
      by_cases hrs : r.size ≤ 60
      · go_wp2_with fail
        refine (step_any w.heap.size u6 _ k (1000000 * k) 1000000 t.c r _ HA3.out (by omega) (by omega) (by omega) (by omega) HTI.out.2 hrs hB3.size).mono ?_
        rintro e w4 ⟨⟨v', rfl, ho⟩, hb4⟩
        have hB4 : Below w.heap.size w w4 := hB3.trans (hb4.mono hB3.size)
        have HO := Lib.hid ho
        clear ho hb4
        go_wp2
        go_roundw
        case rel =>
          refine ⟨k + 1, by omega, by go_num, Lib.hid ⟨fun j hj hjk => ?_, ?_⟩, hB4⟩
          · by_cases e : j = k
            · subst e; rw [HYK.out]; exact hrs
            · exact HA.out.1 j hj (by omega)
          · have h := HO.out
            rw [fold_succ ys k hky, HYK.out]
            rw [show (1000000 : Int) * ((k + 1 : Nat) : Int) = 1000000 * k + 1000000 by omega]
            exact h
        case measure => simp [intOf]; omega
      · go_wp2
        go_ret2
        have hbf : b = false := by rw [← HBB.out, fitB_at hky (by rw [HYK.out]; exact hrs)]; rfl
        subst hbf
        exact ⟨⟨_, rfl, (ownEmpty w3).mono hB3.size⟩, hB3.alloc hB3.size _⟩
    · obtain rfl : k = n := by omega
      have hacc := HA.out.2
      rw [List.take_of_length_le (by rw [HYN.out]; exact Nat.le_refl _)] at hacc
      have HAcc : Hid (Acc w.heap.size wr u6 (canonT ys) k (1000000 * k)) := Lib.hid hacc
      have HSb : Hid (sumB (canonT ys) = b) := Lib.hid (by
        have h := HBB.out
        rw [fitB_of (fun j hj => HA.out.1 j hj (by rw [← HYN.out]; exact hj)), Bool.true_and] at h
        rw [sumB_canon (canon_of _)]; exact h)
      clear hacc
      go_wp2_with fail
      refine (sDone_any w.heap.size u6 (canonT ys) b wr HAcc.out.own (HAcc.out.small (by omega) (by omega)) hB.size HSb.out).mono ?_
      rintro e w2 ⟨⟨v', rfl, ho⟩, hb2⟩
      have HO := Lib.hid ho
      clear ho
      go_wp2
      go_ret2
      exact ⟨⟨_, rfl, HO.out⟩, hB.trans (hb2.mono hB.size)⟩

end Go.Proofs.Ytebgcebjlbhjjaa

/- The contracts of the model's 'l2Times' and 'SumTimes'. -/

namespace Go.Proofs.Ytebgcebjlbhjjaa
open Go.RowKit Go.Shelf

/-- The product of two terms, and those of all pairs. -/
def pairT (t u : Tm) : Tm := ⟨t.c * u.c, bstr (redL [] (t.s.data.toList ++ u.s.data.toList))⟩
def pairsT (x y : List Tm) : List Tm := x.flatMap fun t => y.map (pairT t)
theorem pairs_succ (x y : List Tm) (k : Nat) (h : k < x.length) : pairsT (x.take (k + 1)) y = pairsT (x.take k) y ++ y.map (pairT x[k]) := by
  unfold pairsT
  rw [List.take_succ_eq_append_getElem h, List.flatMap_append]
  simp
theorem pairs_zero (y : List Tm) : pairsT [] y = [] := rfl
theorem pairs_len (x y : List Tm) : (pairsT x y).length = x.length * y.length := by
  unfold pairsT
  induction x with
  | nil => simp
  | cons t r ih => rw [List.flatMap_cons, List.length_append, ih, List.length_map, List.length_cons, Nat.succ_mul]; omega
theorem map_succ (f : Tm → Tm) (y : List Tm) (j : Nat) (h : j < y.length) : (y.take (j + 1)).map f = (y.take j).map f ++ [f y[j]] := by
  rw [List.take_succ_eq_append_getElem h, List.map_append]; rfl
theorem mul_bnd {a b : Int} (ha : -1000000 ≤ a ∧ a ≤ 1000000) (hb : -1000000 ≤ b ∧ b ≤ 1000000) : -1000000000000 ≤ a * b ∧ a * b ≤ 1000000000000 := by
  have h : (a * b).natAbs ≤ 1000000 * 1000000 := by
    rw [Int.natAbs_mul]
    exact Nat.mul_le_mul (by omega) (by omega)
  omega

/-- What has been added up so far: the terms of L. -/
structure AccL (base : Nat) (w : World) (v : Value) (L : List Tm) : Prop where
  fit : ∀ t ∈ L, t.s.size ≤ 60
  acc : Acc base w v (L.foldl addT []) L.length (1000000000000 * L.length)
theorem AccL.below {base : Nat} {w w' : World} {v : Value} {L : List Tm} (h : AccL base w v L) (hb : Below w.heap.size w w') : AccL base w' v L := ⟨h.fit, h.acc.below hb⟩
theorem AccL.snoc {base : Nat} {w w' : World} {v v' : Value} {L : List Tm} {t : Tm} (h : AccL base w v L) (ht : t.s.size ≤ 60) (h2 : Acc base w' v' (addT (L.foldl addT []) t) (L.length + 1) (1000000000000 * L.length + 1000000000000)) : AccL base w' v' (L ++ [t]) :=
  ⟨fun u hu => by
    rcases List.mem_append.1 hu with hu | hu
    · exact h.fit u hu
    · rw [List.mem_singleton.1 hu]; exact ht, by
    rw [List.foldl_append, List.length_append]
    rw [show (1000000000000 : Int) * ((L.length + [t].length : Nat) : Int) = 1000000000000 * L.length + 1000000000000 by rw [List.length_singleton]; omega]
    exact h2⟩
theorem AccL.nil (w : World) : AccL w.heap.size (w.alloc (.cells #[] TI)) (.slice (some ⟨w.heap.size, 0, none⟩) 0 0) [] := ⟨fun t h => (by cases h), acc_zero w⟩

/-- What l2Times hands back. -/
def TimesYes (w : World) (ts : List Tm) (e : Ending) (w' : World) : Prop := ∃ v, e = .returned (.tuple #[v, .bool true]) ∧ OwnTerms w.heap.size w' v (canonT ts) ∧ SmallT (canonT ts) ∧ Below w.heap.size w w'
def TimesNo (w : World) (e : Ending) (w' : World) : Prop := ∃ g n cap, e = .returned (.tuple #[.slice (some ⟨g, 0, none⟩) n cap, .bool false]) ∧ Below w.heap.size w w'
def TimesAny (w : World) (b : Bool) (ts : List Tm) (e : Ending) (w' : World) : Prop := (b = true ∧ TimesYes w ts e w') ∨ (b = false ∧ TimesNo w e w')

set_option maxRecDepth 100000 in
set_option maxHeartbeats 8000000 in
theorem l2Times_any (a1 a2 : Option Addr) (c1 c2 n m : Nat) (x y : List Tm) (b : Bool) (w : World) (hx : IsTerms w a1 n x) (hy : IsTerms w a2 m y) (htx : twB x = true) (hty : twB y = true) (hb : fitB (pairsT x y) = b) :
    Calls Try.prog 69 #[.slice a1 n c1, .slice a2 m c2] w (TimesAny w b (pairsT x y)) := by
  obtain ⟨hlx, hwx⟩ := canon_len_words htx
  obtain ⟨hly, hwy⟩ := canon_len_words hty
  have hn : n ≤ 300 := by rw [← hx.len]; exact hlx
  have hm : m ≤ 300 := by rw [← hy.len]; exact hly
  have HX := Lib.hid hx
  have HY := Lib.hid hy
  have HWX := Lib.hid hwx
  have HWY := Lib.hid hwy
  have HBB := Lib.hid hb
  have hmx : Try.prog.follows .mixedOrders = true := by kernel_rfl
  have HLEN : Hid (∀ k j, k < n → j ≤ m → ∀ t : Tm, (pairsT (x.take k) y ++ (y.take j).map (pairT t)).length ≤ 90000 ∧ (pairsT (x.take k) y).length ≤ 90000) := Lib.hid fun k j hk hj t => by
    have h1 := pairs_len (x.take k) y
    have h2 : (x.take k).length * y.length ≤ 299 * 300 := Nat.mul_le_mul (by rw [List.length_take]; omega) hly
    rw [List.length_append, List.length_map, List.length_take]
    omega
  have HLENN : Hid ((pairsT x y).length ≤ 90000) := Lib.hid (by rw [pairs_len]; exact Nat.mul_le_mul hlx hly)
  have HN := Lib.hid (AccL.nil w)
  clear hx hy htx hty hlx hwx hly hwy hb
  go_enter Try.func69, Try.ntmps69
  go_wp2
  go_loopw [6, 7] (fun v i wr => ∃ k : Nat, k ≤ n ∧ i = .int .i64 k ∧ Hid (AccL w.heap.size wr v (pairsT (x.take k) y)) ∧ Below w.heap.size w wr) (fun _ i _ => n - (intOf i).toNat)
  case atStart => exact ⟨0, Nat.zero_le _, rfl, HN, (Below.refl _ _).alloc (Nat.le_refl _) _⟩
  case round =>
    obtain ⟨k, hk, rfl, HA, hB⟩ := hrel
    by_cases hlt : k < n
    · have hkx : k < x.length := by rw [HX.out.len]; exact hlt
      obtain ⟨z, rfl, hz⟩ := HX.out.at_ (by omega)
      obtain ⟨t, ht⟩ : ∃ t, x[k] = t := ⟨_, rfl⟩
      have htb := HWX.out _ (List.getElem_mem hkx)
      rw [ht] at htb
      have HTI := Lib.hid (termB_iff htb)
      have HT := Lib.hid ht
      have HZ := Lib.hid hz
      clear ht htb hz
      go_wp2
      go_loopw [6, 8] (fun v i wr => ∃ j : Nat, j ≤ m ∧ i = .int .i64 j ∧ Hid (AccL w.heap.size wr v (pairsT (x.take k) y ++ (y.take j).map (pairT t))) ∧ Below w.heap.size w wr) (fun _ i _ => m - (intOf i).toNat)
      case atStart => exact ⟨0, Nat.zero_le _, rfl, Lib.hid (by simpa using HA.out), hB⟩
      case round =>
        obtain ⟨j, hj, rfl, HAj, hBj⟩ := hrel
        by_cases hltj : j < m
        · have hjy : j < y.length := by rw [HY.out.len]; exact hltj
          obtain ⟨zy, rfl, hzy⟩ := HY.out.at_ (by omega)
          obtain ⟨u, hu⟩ : ∃ u, y[j] = u := ⟨_, rfl⟩
          have hub := HWY.out _ (List.getElem_mem hjy)
          rw [hu] at hub
          have hui := termB_iff hub
          have hti := HTI.out
          have hzw := HZ.out.below hBj
          have hzyw := hzy.below hBj
          have hc := hzw.2 k hkx
          have hcy := hzyw.2 j hjy
          have hbz := hzw.1
          have hbzy := hzyw.1
          rw [HT.out, addr_next] at hc
          rw [hu, addr_next] at hcy
          obtain ⟨c0, d1⟩ := hc
          obtain ⟨e0, f1⟩ := hcy
          obtain ⟨r, hr⟩ : ∃ r, bstr (redL [] (t.s.data.toList ++ u.s.data.toList)) = r := ⟨_, rfl⟩
          have hpt : pairT t u = ⟨t.c * u.c, r⟩ := by rw [← hr]; rfl
          have hcs : (t.s ++ u.s).size ≤ 1048576 := by rw [append_size]; omega
          have hnot : ¬ 9223372036854775807 < t.s.size + u.s.size := by omega
          have HR : Hid (∀ W : World, Calls Try.prog 93 #[.string (t.s ++ u.s)] W fun e w' => e = .returned (.string r) ∧ Below W.heap.size W w') :=
            Lib.hid fun W => reduce_is (t.s ++ u.s) r W hcs (by rw [append_toList]; exact hr)
          have HPT := Lib.hid hpt
          have HU := Lib.hid hu
          have HUI := Lib.hid hui
          have HMB := Lib.hid (mul_bnd hti.2 hui.2)
          have hmul : IntKind.i64.wrap (t.c * u.c) = t.c * u.c := by have := HMB.out; exact IntWalk.i64_in _ (by omega)
          have HMUL := Lib.hid hmul
          have v0 := BelowBy.cell (w := wr) (by show (z.add (k * 2)).block < _; rw [addr_add_block]; exact hbz) d1
          have v1 := BelowBy.cell (w := wr) (by show (zy.add (j * 2)).block < _; rw [addr_add_block]; exact hbzy) f1
          have HC0 := Lib.hid c0
          have HE0 := Lib.hid e0
          have HBZ := Lib.hid hbz
          have HBZY := Lib.hid hbzy
          have hsz := HAj.out.acc
          clear hu hub hui hti hzw hzyw hzy c0 d1 e0 f1 hr hpt hcs hsz hmul
          go_wp2
          refine wp_region_below hmx (by kernel_rfl) ?_
          repeat (((with_reducible refine wpQuiet_step (fun K hK => ?_)); go_simp; first | ((with_reducible refine hK _ ?_); clear hK K) | (refine (if_neg (by decide)).mpr ?_; (with_reducible refine hK _ ?_); clear hK K) | (apply Exists.intro; (with_reducible refine ⟨fun _ => ?_, hK _ ?_⟩); (go_at_call 93; exact Calls.bel (HR.out _)); clear hK K)))
          with_reducible refine wpQuiet_nil ?_
          rintro W ⟨⟨W, hW⟩, rfl⟩
          clear v0 v1
          have hBW : Below w.heap.size w W := hBj.trans (hW.mono hBj.size)
          have HAW := Lib.hid (HAj.out.below hW)
          have c0 := (hW.cell (p := z.add (k * 2)) (by rw [addr_add_block]; exact HBZ.out)).trans HC0.out
          have e0 := (hW.cell (p := zy.add (j * 2)) (by rw [addr_add_block]; exact HBZY.out)).trans HE0.out
          have hmul := HMUL.out
          change Exit.then _ _ _ _ W
          by_cases hrs : r.size ≤ 60
          · go_wp2
            go_still_tail 13, hmx
            change wpList _ _ _ _ _ W.drew
            go_wp2_with fail
            obtain ⟨hl1, hl2⟩ := HLEN.out k j hlt (by omega) t
            refine (step_any w.heap.size u6 _ _ _ 1000000000000 (t.c * u.c) r W.drew (HAW.out.acc.below (Below.refl _ _).drew) (by omega) (by omega) (by omega) (by omega) HMB.out hrs hBW.size).mono ?_
            rintro e w4 ⟨⟨v', rfl, ho⟩, hb4⟩
            have hB4 : Below w.heap.size w w4 := hBW.trans (((Below.refl _ _).drew.trans hb4).mono hBW.size)
            have HO := Lib.hid (HAW.out.snoc (t := ⟨t.c * u.c, r⟩) hrs ho)
            clear ho hb4 hl1 hl2
            go_wp2
            go_roundw
            case rel =>
              refine ⟨j + 1, by omega, by go_num, Lib.hid ?_, hB4⟩
              have h := HO.out
              rw [map_succ (pairT t) y j hjy, HU.out, HPT.out, ← List.append_assoc]
              exact h
            case measure => simp [intOf]; omega
          · obtain ⟨gv, cv, rfl, _⟩ := HAW.out.acc.own.form
            go_wp2
            go_ret2
            have hbf : b = false := by
              rw [← HBB.out]
              refine List.all_eq_false.2 ⟨pairT t u, ?_, by rw [HPT.out]; simpa using hrs⟩
              unfold pairsT
              exact List.mem_flatMap.2 ⟨t, by rw [← HT.out]; exact List.getElem_mem hkx, List.mem_map.2 ⟨u, by rw [← HU.out]; exact List.getElem_mem hjy, rfl⟩⟩
            exact .inr ⟨hbf, gv, _, cv, rfl, hBW⟩
        · obtain rfl : j = m := by omega
          go_wp2
          go_roundw
          case rel =>
            refine ⟨k + 1, by omega, by go_num, Lib.hid ?_, hBj⟩
            have h := HAj.out
            have hty : y.take j = y := List.take_of_length_le (by rw [HY.out.len]; exact Nat.le_refl _)
            rw [hty, ← HT.out, ← pairs_succ x y k hkx] at h
            exact h
          case measure => simp [intOf]; omega
    · obtain rfl : k = n := by omega
      have hacc := HA.out
      rw [List.take_of_length_le (by rw [HX.out.len]; exact Nat.le_refl _)] at hacc
      have HAcc := Lib.hid hacc
      clear hacc
      obtain ⟨gv, cv, rfl, hf1, _⟩ := HAcc.out.acc.own.form
      have hf1 := Lib.hid hf1
      go_wp2
      go_ret2
      have hbt : b = true := by rw [← HBB.out]; exact List.all_eq_true.2 fun t ht => by simpa using HAcc.out.fit t ht
      have hlen := HLENN.out
      exact .inl ⟨hbt, _, rfl, HAcc.out.acc.own, HAcc.out.acc.small (by omega) (by omega), hB⟩

/-! ### SumTimes -/

set_option maxRecDepth 100000 in
set_option maxHeartbeats 4000000 in
theorem sSumTimes_no (a1 a2 : Option Addr) (c1 c2 n m : Nat) (x y : List Tm) (w : World) (hx : IsTerms w a1 n x) (hy : IsTerms w a2 m y) (hb : sumB x = false ∨ sumB y = false) :
    Calls Try.prog 28 #[.slice a1 n c1, .slice a2 m c2] w (STold w false []) := by
  have HX := Lib.hid hx
  have HY := Lib.hid hy
  clear hx hy
  cases hbx : sumB x with
  | false =>
    have HBX := Lib.hid hbx
    clear hbx hb
    go_enter Try.func28, Try.ntmps28
    go_wp2_with fail
    refine (sSumIn_is a1 c1 n x false _ HX.out HBX.out).mono ?_
    rintro e w1 ⟨rfl, hb1⟩
    have HB1 := Lib.hid hb1
    clear hb1
    go_wp2
    go_ret2
    exact ⟨⟨_, rfl, (ownEmpty w1).mono HB1.out.size⟩, HB1.out.alloc HB1.out.size _⟩
  | true =>
    have hby : sumB y = false := by rcases hb with h | h; · rw [h] at hbx; cases hbx
                                    · exact h
    have HBX := Lib.hid hbx
    have HBY := Lib.hid hby
    clear hbx hby hb
    go_enter Try.func28, Try.ntmps28
    go_wp2_with fail
    refine (sSumIn_is a1 c1 n x true _ HX.out HBX.out).mono ?_
    rintro e w1 ⟨rfl, hb1⟩
    have HB1 := Lib.hid hb1
    clear hb1
    go_wp2_with fail
    refine (sSumIn_is a2 c2 m y false _ (HY.out.below HB1.out) HBY.out).mono ?_
    rintro e w2 ⟨rfl, hb2⟩
    have HB2 := Lib.hid (HB1.out.trans (hb2.mono HB1.out.size))
    clear hb2
    go_wp2
    go_ret2
    exact ⟨⟨_, rfl, (ownEmpty w2).mono HB2.out.size⟩, HB2.out.alloc HB2.out.size _⟩

set_option maxRecDepth 100000 in
set_option maxHeartbeats 4000000 in
theorem sSumTimes_yes (a1 a2 : Option Addr) (c1 c2 n m : Nat) (x y : List Tm) (b : Bool) (w : World) (hx : IsTerms w a1 n x) (hy : IsTerms w a2 m y) (hbx : sumB x = true) (hby : sumB y = true)
    (hb : (fitB (pairsT x y) && twB (canonT (pairsT x y))) = b) :
    Calls Try.prog 28 #[.slice a1 n c1, .slice a2 m c2] w (STold w b (canonT (pairsT x y))) := by
  have HX := Lib.hid hx
  have HY := Lib.hid hy
  have HBX := Lib.hid hbx
  have HBY := Lib.hid hby
  have HBB := Lib.hid hb
  obtain ⟨f, hf⟩ : ∃ f, fitB (pairsT x y) = f := ⟨_, rfl⟩
  have HFF := Lib.hid hf
  have HT : Hid (∀ W, IsTerms W a1 n x → IsTerms W a2 m y → Calls Try.prog 69 #[.slice a1 n c1, .slice a2 m c2] W (TimesAny W f (pairsT x y))) :=
    Lib.hid fun W h1 h2 => l2Times_any a1 a2 c1 c2 n m x y f W h1 h2 (sumB_parts HBX.out).1 (sumB_parts HBY.out).1 HFF.out
  clear hx hy hbx hby hb hf
  go_enter Try.func28, Try.ntmps28
  go_wp2_with fail
  refine (sSumIn_is a1 c1 n x true _ HX.out HBX.out).mono ?_
  rintro e w1 ⟨rfl, hb1⟩
  have HB1 := Lib.hid hb1
  clear hb1
  go_wp2_with fail
  refine (sSumIn_is a2 c2 m y true _ (HY.out.below HB1.out) HBY.out).mono ?_
  rintro e w2 ⟨rfl, hb2⟩
  have HB2 := Lib.hid (HB1.out.trans (hb2.mono HB1.out.size))
  clear hb2
  go_wp2_with fail
  refine (HT.out _ (HX.out.below HB2.out) (HY.out.below HB2.out)).mono ?_
  rintro e w3 (⟨hft, v, rfl, ho, hsm, hb3⟩ | ⟨hff, g, l, cap, rfl, hb3⟩)
  · have HO := Lib.hid ho
    have HSM := Lib.hid hsm
    have HB3 := Lib.hid (HB2.out.trans (hb3.mono HB2.out.size))
    have HFT := Lib.hid hft
    obtain ⟨gv, cv, rfl, _⟩ := ho.form
    have HSb : Hid (sumB (canonT (pairsT x y)) = b) := Lib.hid (by
      have h := HBB.out
      rw [HFF.out, HFT.out, Bool.true_and] at h
      rw [sumB_canon (canon_of _)]; exact h)
    have hbs := HB2.out.size
    have hbs3 := hb3.size
    clear ho hsm hb3 hft
    go_wp2_with fail
    refine (sDone_any w.heap.size _ (canonT (pairsT x y)) b _ (HO.out.mono hbs) HSM.out HB3.out.size HSb.out).mono ?_
    rintro e w4 ⟨⟨v', rfl, ho⟩, hb4⟩
    have HO4 := Lib.hid ho
    clear ho
    go_wp2
    go_ret2
    exact ⟨⟨_, rfl, HO4.out⟩, HB3.out.trans (hb4.mono HB3.out.size)⟩
  · have HB3 := Lib.hid (HB2.out.trans (hb3.mono HB2.out.size))
    have hbf : b = false := by rw [← HBB.out, HFF.out, hff]; rfl
    subst hbf
    clear hb3 hff
    go_wp2
    go_ret2
    exact ⟨⟨_, rfl, (ownEmpty _).mono HB3.out.size⟩, HB3.out.alloc HB3.out.size _⟩

end Go.Proofs.Ytebgcebjlbhjjaa

/- The contract of the model's 'FoxSum'. -/

namespace Go.Proofs.Ytebgcebjlbhjjaa
open Go.RowKit Go.Shelf

theorem mul_bnd60 {a b : Int} (ha : -1000000 ≤ a ∧ a ≤ 1000000) (hb : -60 ≤ b ∧ b ≤ 60) : -60000000 ≤ a * b ∧ a * b ≤ 60000000 := by
  have h : (a * b).natAbs ≤ 1000000 * 60 := by
    rw [Int.natAbs_mul]
    exact Nat.mul_le_mul (by omega) (by omega)
  omega
theorem scale_succ (c : Int) (ds acc : List Tm) (j : Nat) (h : j < ds.length) : (scaleT c (ds.take (j + 1))).foldl addT acc = addT ((scaleT c (ds.take j)).foldl addT acc) ⟨c * ds[j].c, ds[j].s⟩ := by
  unfold scaleT
  rw [List.take_succ_eq_append_getElem h, List.map_append, List.foldl_append]; rfl

/-- What FoxSum answers. -/
def foxSumB (x : List Tm) (g : Int) : Bool := sumB x && (inR 0 3 g && twB (canonT (foxI g x)))

set_option maxRecDepth 100000 in
set_option maxHeartbeats 4000000 in
theorem sFoxSum_no (a : Option Addr) (cap n : Nat) (x : List Tm) (g : Int) (w : World) (hx : IsTerms w a n x) (hb : sumB x = false ∨ inR 0 3 g = false) :
    Calls Try.prog 46 #[.slice a n cap, .int .i64 g] w (STold w false []) := by
  have HX := Lib.hid hx
  have hba : Below w.heap.size w (w.alloc (.cells #[] TI)) := (Below.refl _ _).alloc (Nat.le_refl _) _
  have HBA := Lib.hid hba
  clear hx hba
  cases hbx : sumB x with
  | false =>
    have HBX := Lib.hid hbx
    clear hbx hb
    go_enter Try.func46, Try.ntmps46
    go_wp2_with fail
    refine (sSumIn_is a cap n x false _ (HX.out.below HBA.out) HBX.out).mono ?_
    rintro e w1 ⟨rfl, hb1⟩
    have HB1 := Lib.hid (HBA.out.trans (hb1.mono HBA.out.size))
    have HE := Lib.hid ((ownEmpty w).below hb1)
    clear hb1
    go_wp2
    go_ret2
    exact ⟨⟨_, rfl, HE.out⟩, HB1.out⟩
  | true =>
    have hbf : inR 0 3 g = false := by rcases hb with h | h; · rw [h] at hbx; cases hbx
                                       · exact h
    have HBX := Lib.hid hbx
    have HBF := Lib.hid hbf
    clear hbx hbf hb
    go_enter Try.func46, Try.ntmps46
    go_wp2_with fail
    refine (sSumIn_is a cap n x true _ (HX.out.below HBA.out) HBX.out).mono ?_
    rintro e w1 ⟨rfl, hb1⟩
    have HB1 := Lib.hid (HBA.out.trans (hb1.mono HBA.out.size))
    have HE := Lib.hid ((ownEmpty w).below hb1)
    clear hb1
    go_wp2_with fail
    refine (l6In_is _ _ _ false _ HBF.out).mono ?_
    rintro e w2 ⟨rfl, hb2⟩
    have HB2 := Lib.hid (HB1.out.trans (hb2.mono HB1.out.size))
    have HE2 := Lib.hid (HE.out.below hb2)
    clear hb2
    go_wp2
    go_ret2
    exact ⟨⟨_, rfl, HE2.out⟩, HB2.out⟩

set_option maxRecDepth 100000 in
set_option maxHeartbeats 4000000 in
theorem sFoxSum_yes (a : Option Addr) (cap n : Nat) (x : List Tm) (g : Int) (b : Bool) (w : World) (hx : IsTerms w a n x) (hbx : sumB x = true) (hg : inR 0 3 g = true) (hb : twB (canonT (foxI g x)) = b) :
    Calls Try.prog 46 #[.slice a n cap, .int .i64 g] w (STold w b (canonT (foxI g x))) := by
  obtain ⟨htx, hcx⟩ := sumB_parts hbx
  obtain ⟨hlx, hwx⟩ := canon_len_words htx
  have hn : n ≤ 300 := by rw [← hx.len]; exact hlx
  have HX := Lib.hid hx
  have HBX := Lib.hid hbx
  have HG := Lib.hid hg
  have HWX := Lib.hid hwx
  have HBB := Lib.hid hb
  have hmx : Try.prog.follows .mixedOrders = true := by kernel_rfl
  have hba : Below w.heap.size w (w.alloc (.cells #[] TI)) := (Below.refl _ _).alloc (Nat.le_refl _) _
  have HBA := Lib.hid hba
  clear hx hbx htx hcx hlx hwx hb hba hg
  go_enter Try.func46, Try.ntmps46
  go_wp2_with fail
  refine (sSumIn_is a cap n x true _ (HX.out.below HBA.out) HBX.out).mono ?_
  rintro e w1 ⟨rfl, hb1⟩
  have HB1 := Lib.hid (HBA.out.trans (hb1.mono HBA.out.size))
  have HE := Lib.hid ((acc_zero w).below hb1)
  clear hb1
  go_wp2_with fail
  refine (l6In_is _ _ _ true _ HG.out).mono ?_
  rintro e w2 ⟨rfl, hb2⟩
  have HB2 := Lib.hid (HB1.out.trans (hb2.mono HB1.out.size))
  have HE2 := Lib.hid (HE.out.below hb2)
  clear hb2
  go_wp2_with fail
  go_loopw [6, 7] (fun v i wr => ∃ k : Nat, k ≤ n ∧ i = .int .i64 k ∧ Hid (Acc w.heap.size wr v ((foxM g (x.take k)).foldl addT []) (60 * k) (3600000000 * k)) ∧ Below w.heap.size w wr) (fun _ i _ => n - (intOf i).toNat)
  case atStart => exact ⟨0, Nat.zero_le _, rfl, HE2, HB2.out⟩
  case round =>
    obtain ⟨k, hk, rfl, HA, hB⟩ := hrel
    by_cases hlt : k < n
    · have hkx : k < x.length := by rw [HX.out.len]; exact hlt
      obtain ⟨z, rfl, hz⟩ := HX.out.at_ (by omega)
      obtain ⟨t, ht⟩ : ∃ t, x[k] = t := ⟨_, rfl⟩
      have hzw := hz.below hB
      have hc := hzw.2 k hkx
      have hbz := hzw.1
      rw [ht, addr_next] at hc
      obtain ⟨c0, d1⟩ := hc
      have htb := HWX.out _ (List.getElem_mem hkx)
      rw [ht] at htb
      have hti := termB_iff htb
      have HTI := Lib.hid hti
      have hlet := ((wordB_iff _).1 (termB_word htb)).2.1
      have HT := Lib.hid ht
      obtain ⟨ds, hds⟩ : ∃ ds, canonT (foxL g 1 t.s.data.toList) = ds := ⟨_, rfl⟩
      have HF : Hid (∀ W : World, Calls Try.prog 80 #[.string t.s, .int .i64 g] W fun e w' => (∃ v, e = .returned v ∧ Acc W.heap.size w' v ds 60 60) ∧ Below W.heap.size W w') :=
        Lib.hid fun W => by rw [← hds]; exact l3Fox_any t.s g W hti.1 hlet
      have HDS := Lib.hid hds
      have HBZ := Lib.hid hbz
      have HC0 := Lib.hid c0
      clear ht hz hzw htb hti hds hlet c0
      go_wp2_with fail
      refine (HF.out _).mono ?_
      rintro e w3 ⟨⟨vd, rfl, had⟩, hb3⟩
      obtain ⟨gd, capd, rfl, hd1, hd2, hd3, hd4⟩ := had.own.form
      obtain ⟨zd, hzd⟩ : ∃ zd : Addr, (⟨gd, 0, none⟩ : Addr) = zd := ⟨_, rfl⟩
      rw [hzd] at hd1 ⊢
      have HAD := Lib.hid had
      have HD1 := Lib.hid hd1
      have HA3 := Lib.hid (HA.out.below hb3)
      have hB3 : Below w.heap.size w w3 := hB.trans (hb3.mono hB.size)
      have HC3 := Lib.hid ((hb3.cell (p := z.add (k * 2)) (by rw [addr_add_block]; exact HBZ.out)).trans HC0.out)
      have HBZ3 := Lib.hid (Nat.lt_of_lt_of_le HBZ.out hb3.size)
      have hm60 : ds.length ≤ 60 := HAD.out.len
      obtain ⟨m, hm⟩ : ∃ m, ds.length = m := ⟨_, rfl⟩
      rw [hm] at hm60 hd2 ⊢
      have HM := Lib.hid hm
      have hbs3 := hb3.size
      clear had hzd hd1 hb3 hm d1
      go_wp2_with fail
      go_loopw [6, 9] (fun v i wr2 => ∃ j : Nat, j ≤ m ∧ i = .int .i64 j ∧ Hid (Acc w.heap.size wr2 v ((scaleT t.c (ds.take j)).foldl addT ((foxM g (x.take k)).foldl addT [])) (60 * k + j) (3600000000 * k + 60000000 * j)) ∧ Below w3.heap.size w3 wr2) (fun _ i _ => m - (intOf i).toNat)
      case atStart => exact ⟨0, Nat.zero_le _, rfl, Lib.hid (by simpa [scaleT] using HA3.out), Below.refl _ _⟩
      case round =>
        obtain ⟨j, hj, rfl, HAj, hBj⟩ := hrel
        by_cases hltj : j < m
        · have hjd : j < ds.length := by rw [HM.out]; exact hltj
          obtain ⟨u, hu⟩ : ∃ u, ds[j] = u := ⟨_, rfl⟩
          have hzdw := HD1.out.below hBj
          have hcd := hzdw.2 j hjd
          have hbzd := hzdw.1
          rw [hu, addr_next] at hcd
          obtain ⟨e0, f1⟩ := hcd
          have hub := HAD.out.bnd _ (List.getElem_mem hjd)
          have hus := HAD.out.sml _ (List.getElem_mem hjd)
          rw [hu] at hub hus
          have c0 := (hBj.cell (p := z.add (k * 2)) (by rw [addr_add_block]; exact HBZ3.out)).trans HC3.out
          have hbz := Nat.lt_of_lt_of_le HBZ3.out hBj.size
          have HMB := Lib.hid (mul_bnd60 HTI.out.2 hub)
          have hmul : IntKind.i64.wrap (t.c * u.c) = t.c * u.c := by have := HMB.out; exact IntWalk.i64_in _ (by omega)
          have HU := Lib.hid hu
          have hBw : Below w.heap.size w wr := hB3.trans (hBj.mono hB3.size)
          clear hu hzdw hub
          go_wp2
          go_still_tail 17, hmx
          change wpList _ _ _ _ _ wr.drew
          go_wp2_with fail
          refine (step_any w.heap.size u6 _ _ _ 60000000 (t.c * u.c) u.s wr.drew (HAj.out.below (Below.refl _ _).drew) (by omega) (by omega) (by omega) (by omega) HMB.out hus hBw.size).mono ?_
          rintro e w4 ⟨⟨v', rfl, ho⟩, hb4⟩
          have hB4 : Below w3.heap.size w3 w4 := hBj.trans (((Below.refl _ _).drew.trans hb4).mono hBj.size)
          have HO := Lib.hid ho
          clear ho hb4
          go_wp2
          go_roundw
          case rel =>
            refine ⟨j + 1, by omega, by go_num, Lib.hid ?_, hB4⟩
            rw [scale_succ t.c ds _ j hjd, HU.out]
            exact HO.out.more (by omega) (by omega)
          case measure => simp [intOf]; omega
        · obtain rfl : j = m := by omega
          go_wp2
          go_roundw
          case rel =>
            refine ⟨k + 1, by omega, by go_num, Lib.hid ?_, hB3.trans (hBj.mono hB3.size)⟩
            have h := HAj.out
            rw [show ds.take j = ds from List.take_of_length_le (by rw [HM.out]; exact Nat.le_refl _)] at h
            rw [foxM_succ g x k hkx, HT.out, HDS.out, List.foldl_append]
            exact h.more (by omega) (by omega)
          case measure => simp [intOf]; omega
    · obtain rfl : k = n := by omega
      have hacc := HA.out
      rw [List.take_of_length_le (by rw [HX.out.len]; exact Nat.le_refl _)] at hacc
      change Acc _ _ _ (canonT (foxM g x)) _ _ at hacc
      rw [foxIM] at hacc
      have HAcc := Lib.hid hacc
      have HSb : Hid (sumB (canonT (foxI g x)) = b) := Lib.hid (by rw [sumB_canon (canon_of _)]; exact HBB.out)
      clear hacc
      go_wp2_with fail
      refine (sDone_any w.heap.size u6 (canonT (foxI g x)) b wr HAcc.out.own (HAcc.out.small (by omega) (by omega)) hB.size HSb.out).mono ?_
      rintro e w2 ⟨⟨v', rfl, ho⟩, hb2⟩
      have HO := Lib.hid ho
      clear ho
      go_wp2
      go_ret2
      exact ⟨⟨_, rfl, HO.out⟩, hB.trans (hb2.mono hB.size)⟩

/-! ### As a law wants it -/
theorem foxSumB_tw {x : List Tm} {g : Int} {b : Bool} (h : foxSumB x g = b) : b = true → twB (canonT (foxI g x)) = true := by
  intro hb
  subst hb
  unfold foxSumB at h
  simp only [Bool.and_eq_true] at h
  exact h.2.2
theorem sFoxSum_any (a : Option Addr) (cap n : Nat) (x : List Tm) (g : Int) (b : Bool) (w : World) (hx : IsTerms w a n x) (hb : foxSumB x g = b) :
    Calls Try.prog 46 #[.slice a n cap, .int .i64 g] w (STold w b (canonT (foxI g x))) := by
  unfold foxSumB at hb
  cases hbx : sumB x with
  | false => rw [hbx] at hb; subst hb; exact sFoxSum_no _ _ _ x g w hx (.inl hbx)
  | true =>
    cases hbg : inR 0 3 g with
    | false => rw [hbx, hbg] at hb; subst hb; exact sFoxSum_no _ _ _ x g w hx (.inr hbg)
    | true => rw [hbx, hbg] at hb; exact sFoxSum_yes _ _ _ x g b w hx hbx hbg hb

end Go.Proofs.Ytebgcebjlbhjjaa

/- The contracts of the model's 'l4Times', 'l4Done' and 'SeriesTimes'. -/

namespace Go.Proofs.Ytebgcebjlbhjjaa
open Go.RowKit Go.Shelf

/-- The product of two terms whose words are put one behind the other; those of all pairs that are not too long. -/
def pairS (t u : Tm) : Tm := ⟨t.c * u.c, t.s ++ u.s⟩
def short (t : Tm) : Bool := decide (t.s.size ≤ 4)
def pairsS (x y : List Tm) : List Tm := x.flatMap fun t => (y.map (pairS t)).filter short
theorem pairsS_succ (x y : List Tm) (k : Nat) (h : k < x.length) : pairsS (x.take (k + 1)) y = pairsS (x.take k) y ++ (y.map (pairS x[k])).filter short := by
  unfold pairsS
  rw [List.take_succ_eq_append_getElem h, List.flatMap_append]
  simp
def rowS (t : Tm) (y : List Tm) : List Tm := (y.map (pairS t)).filter short
theorem rowS_succ (t : Tm) (y : List Tm) (j : Nat) (h : j < y.length) : rowS t (y.take (j + 1)) = rowS t (y.take j) ++ (if (t.s ++ y[j].s).size ≤ 4 then [pairS t y[j]] else []) := by
  unfold rowS
  rw [map_succ (pairS t) y j h, List.filter_append, List.filter_cons, List.filter_nil]
  congr 1
  by_cases hs : (t.s ++ y[j].s).size ≤ 4
  · rw [if_pos (show short (pairS t y[j]) = true from decide_eq_true hs), if_pos hs]
  · rw [if_neg (show ¬ short (pairS t y[j]) = true by unfold short pairS; simpa using hs), if_neg hs]

/-- What fits into the products of series. -/
def SerL (x : List Tm) : Prop := x.length ≤ 400 ∧ ∀ t ∈ x, t.s.size ≤ 4 ∧ -1000000 ≤ t.c ∧ t.c ≤ 1000000

theorem serB_is (ts : List Tm) : serB ts = ((List.range ts.length).all (serAt ts) && decide (ts.length ≤ 400)) := rfl
theorem serB_parts {ts : List Tm} (h : serB ts = true) : ts.length ≤ 400 ∧ (∀ t ∈ ts, t.c ≠ 0 ∧ (-1000000 ≤ t.c ∧ t.c ≤ 1000000) ∧ monoB t.s = true) ∧ Canon ts := by
  rw [serB_is] at h
  simp only [Bool.and_eq_true, decide_eq_true_eq] at h
  obtain ⟨h1, h2⟩ := h
  have hat : ∀ j (hj : j < ts.length), ts[j].c ≠ 0 ∧ (-1000000 ≤ ts[j].c ∧ ts[j].c ≤ 1000000) ∧ monoB ts[j].s = true ∧ (j = 0 ∨ lessW (ts.getD (j - 1) default).s (ts.getD j default).s = true) := fun j hj => by
    have h3 := List.all_eq_true.1 h1 j (List.mem_range.2 hj)
    have hg : ts.getD j default = ts[j] := by rw [List.getD_eq_getElem?_getD, List.getElem?_eq_getElem hj]; rfl
    unfold serAt inR at h3
    simp only [Bool.and_eq_true, bne_iff_ne, ne_eq, Bool.or_eq_true, decide_eq_true_eq] at h3
    rw [hg] at h3 ⊢
    exact ⟨h3.1.1.1, h3.1.1.2, h3.1.2, h3.2⟩
  refine ⟨h2, fun t ht => ?_, pairwise_lessW fun k hk hk0 => ?_, fun t ht => ?_⟩
  · obtain ⟨j, hj, rfl⟩ := List.getElem_of_mem ht
    exact ⟨(hat j hj).1, (hat j hj).2.1, (hat j hj).2.2.1⟩
  · rcases (hat k hk).2.2.2 with h | h
    · omega
    · exact h
  · obtain ⟨j, hj, rfl⟩ := List.getElem_of_mem ht
    exact (hat j hj).1
theorem mono_size {s : ByteArray} (h : monoB s = true) : s.size ≤ 4 := by
  unfold monoB at h
  simp only [Bool.and_eq_true, decide_eq_true_eq] at h
  exact h.2
theorem serL_of {ts : List Tm} (h : serB ts = true) : SerL ts := by
  obtain ⟨h1, h2, _⟩ := serB_parts h
  exact ⟨h1, fun t ht => ⟨mono_size (h2 t ht).2.2, (h2 t ht).2.1⟩⟩
/-- For canonical lists only the terms have to be looked at. -/
def twS (ts : List Tm) : Bool := decide (ts.length ≤ 400) && ts.all fun t => inR (-1000000) 1000000 t.c && monoB t.s
theorem serB_canon {ts : List Tm} (h : Canon ts) : serB ts = twS ts := by
  rw [serB_is, Bool.and_comm]
  unfold twS
  congr 1
  have hg : ∀ j (h : j < ts.length), ts.getD j default = ts[j] := fun j h => by rw [List.getD_eq_getElem?_getD, List.getElem?_eq_getElem h]; rfl
  rw [Bool.eq_iff_iff]
  simp only [List.all_eq_true, List.mem_range]
  constructor
  · intro h1 t ht
    obtain ⟨j, hj, rfl⟩ := List.getElem_of_mem ht
    have h3 := h1 j hj
    unfold serAt at h3
    rw [hg j hj] at h3
    simp only [Bool.and_eq_true] at h3 ⊢
    exact ⟨h3.1.1.2, h3.1.2⟩
  · intro h1 j hj
    have h3 := h1 _ (List.getElem_mem hj)
    simp only [Bool.and_eq_true] at h3
    unfold serAt
    rw [hg j hj, h3.1, h3.2]
    have h4 : (ts[j].c != 0) = true := by simpa using h.2 _ (List.getElem_mem hj)
    rw [h4]
    by_cases hj0 : j = 0
    · simp [hj0]
    · have h5 := List.pairwise_iff_getElem.1 h.1 (j - 1) j (by omega) hj (by omega)
      rw [hg (j - 1) (by omega), h5]
      simp
theorem twS_parts {ts : List Tm} (h : twS ts = true) : ts.length ≤ 400 ∧ ∀ t ∈ ts, (-1000000 ≤ t.c ∧ t.c ≤ 1000000) ∧ monoB t.s = true := by
  unfold twS inR at h
  simp only [Bool.and_eq_true, decide_eq_true_eq, List.all_eq_true] at h
  exact h
theorem told_smallS {b : Bool} {L us : List Tm} (h : b = true → twS L = true) (hus : cond b L [] = us) : SmallT us ∧ us.length ≤ 400 := by
  cases b with
  | false => subst hus; exact ⟨⟨Nat.zero_le _, fun t h => by cases h⟩, Nat.zero_le _⟩
  | true =>
    have hus : L = us := hus
    subst hus
    obtain ⟨h1, h2⟩ := twS_parts (h rfl)
    exact ⟨⟨by unfold maxLen; omega, fun t ht => by have := h2 t ht; have := mono_size this.2; unfold maxLen; omega⟩, h1⟩
/-- What SeriesTimes answers. -/
def serProdB (x y : List Tm) : Bool := serB x && (serB y && twS (canonT (pairsS x y)))
theorem serProdB_tw {x y : List Tm} {b : Bool} (h : serProdB x y = b) : b = true → twS (canonT (pairsS x y)) = true := by
  intro hb
  subst hb
  unfold serProdB at h
  simp only [Bool.and_eq_true] at h
  exact h.2.2

end Go.Proofs.Ytebgcebjlbhjjaa

/- How great the coefficients of the series of a word get, and how many terms it has. -/

namespace Go.Proofs.Ytebgcebjlbhjjaa
open Go.RowKit

/-- The sum of the sizes of the coefficients of degree d; of those up to degree d. -/
def nrm (d : Nat) : List Tm → Nat
  | [] => 0
  | t :: r => (if t.s.size = d then t.c.natAbs else 0) + nrm d r
def cum (d : Nat) : List Tm → Nat
  | [] => 0
  | t :: r => (if t.s.size ≤ d then t.c.natAbs else 0) + cum d r
theorem nrm_append (d : Nat) (a b : List Tm) : nrm d (a ++ b) = nrm d a + nrm d b := by
  induction a with
  | nil => simp [nrm]
  | cons t r ih => rw [List.cons_append, nrm, nrm, ih]; omega
theorem nrm_nz (d : Nat) (t : Tm) : nrm d (nz t) = if t.s.size = d then t.c.natAbs else 0 := by
  unfold nz
  by_cases h : t.c = 0
  · rw [if_pos h, h]; simp [nrm]
  · rw [if_neg h]; simp [nrm]
theorem nrm_add (d : Nat) (t : Tm) : ∀ ts, nrm d (addT ts t) ≤ nrm d ts + if t.s.size = d then t.c.natAbs else 0
  | [] => by rw [addT, nrm_nz, nrm]; omega
  | x :: r => by
    rw [addT]
    by_cases h : lessW x.s t.s = true
    · rw [if_pos h, nrm, nrm]
      have := nrm_add d t r
      omega
    · rw [if_neg h]
      by_cases h2 : x.s = t.s
      · rw [if_pos h2, nrm_append, nrm_nz, nrm, h2]
        by_cases h3 : t.s.size = d
        · simp only [h3, if_true]; omega
        · simp only [h3, if_false]; omega
      · rw [if_neg h2, nrm_append, nrm_nz]; omega
theorem nrm_fold (d : Nat) : ∀ (ts acc : List Tm), nrm d (ts.foldl addT acc) ≤ nrm d acc + nrm d ts
  | [], acc => by simp [nrm]
  | t :: r, acc => by
    have h1 := nrm_fold d r (addT acc t)
    have h2 := nrm_add d t acc
    rw [List.foldl_cons, nrm]
    omega
theorem nrm_canon (d : Nat) (ts : List Tm) : nrm d (canonT ts) ≤ nrm d ts := by
  have h := nrm_fold d ts []
  rw [show nrm d [] = 0 from rfl, Nat.zero_add] at h
  exact h
theorem cum_zero : ∀ ts, cum 0 ts = nrm 0 ts
  | [] => rfl
  | t :: r => by rw [cum, nrm, cum_zero r]; simp only [Nat.le_zero_eq]
theorem cum_succ (d : Nat) : ∀ ts, cum (d + 1) ts = cum d ts + nrm (d + 1) ts
  | [] => rfl
  | t :: r => by
    rw [cum, cum, nrm, cum_succ d r]
    by_cases h : t.s.size ≤ d
    · rw [if_pos (by omega), if_pos h, if_neg (by omega)]; omega
    · by_cases h2 : t.s.size = d + 1
      · rw [if_pos (by omega), if_neg h, if_pos h2]; omega
      · rw [if_neg (by omega), if_neg h, if_neg h2]; omega
theorem cum_le (d : Nat) : ∀ {ts : List Tm} {t : Tm}, t ∈ ts → t.s.size ≤ d → t.c.natAbs ≤ cum d ts
  | u :: r, t, h, hd => by
    rw [cum]
    rcases List.mem_cons.1 h with rfl | h
    · rw [if_pos hd]; omega
    · have := cum_le d h hd; omega
theorem nrm_row (d : Nat) (t : Tm) {y : List Tm} (hy : ∀ e, nrm e y ≤ 1) : nrm d (rowS t y) ≤ if t.s.size ≤ d then t.c.natAbs else 0 := by
  have key : ∀ z : List Tm, nrm d (rowS t z) ≤ if t.s.size ≤ d then t.c.natAbs * nrm (d - t.s.size) z else 0 := by
    intro z
    induction z with
    | nil => simp [rowS, nrm]
    | cons u r ih =>
      have e : rowS t (u :: r) = (if short (pairS t u) = true then [pairS t u] else []) ++ rowS t r := by
        unfold rowS
        rw [List.map_cons, List.filter_cons]
        split <;> simp
      have h1 : nrm d (if short (pairS t u) = true then [pairS t u] else []) ≤ if t.s.size + u.s.size = d then t.c.natAbs * u.c.natAbs else 0 := by
        have hs : (pairS t u).s.size = t.s.size + u.s.size := by unfold pairS; exact ByteArray.size_append
        split
        · rw [nrm, nrm, hs]
          split
          · unfold pairS; rw [Int.natAbs_mul]; omega
          · omega
        · simp [nrm]
      rw [e, nrm_append, nrm]
      by_cases h : t.s.size ≤ d
      · rw [if_pos h] at ih ⊢
        rw [Nat.mul_add]
        have h2 : (if t.s.size + u.s.size = d then t.c.natAbs * u.c.natAbs else 0) ≤ t.c.natAbs * (if u.s.size = d - t.s.size then u.c.natAbs else 0) := by
          by_cases h3 : t.s.size + u.s.size = d
          · rw [if_pos h3, if_pos (by omega)]; exact Nat.le_refl _
          · rw [if_neg h3]; exact Nat.zero_le _
        omega
      · rw [if_neg h] at ih ⊢
        have h3 : ¬ t.s.size + u.s.size = d := by omega
        rw [if_neg h3] at h1
        omega
  have h := key y
  by_cases hd : t.s.size ≤ d
  · rw [if_pos hd] at h ⊢
    have := Nat.mul_le_mul_left t.c.natAbs (hy (d - t.s.size))
    omega
  · rw [if_neg hd] at h ⊢; exact h
theorem nrm_pairs (d : Nat) {y : List Tm} (hy : ∀ e, nrm e y ≤ 1) : ∀ x, nrm d (pairsS x y) ≤ cum d x
  | [] => by simp [pairsS, nrm]
  | t :: r => by
    have h1 := nrm_pairs d hy r
    have h2 := nrm_row d t hy
    have e : pairsS (t :: r) y = rowS t y ++ pairsS r y := by unfold pairsS rowS; rw [List.flatMap_cons]
    rw [e, nrm_append, cum]
    omega

/-- How many ways there are to choose: of degree 0 to 4. -/
def stepW (p : Nat × Nat × Nat × Nat × Nat) : Nat × Nat × Nat × Nat × Nat := (p.1, p.1 + p.2.1, p.1 + p.2.1 + p.2.2.1, p.1 + p.2.1 + p.2.2.1 + p.2.2.2.1, p.1 + p.2.1 + p.2.2.1 + p.2.2.2.1 + p.2.2.2.2)
def waysT : Nat → Nat × Nat × Nat × Nat × Nat
  | 0 => (1, 1, 1, 1, 1)
  | k + 1 => stepW (waysT k)
theorem ways_le {k n : Nat} (h : k ≤ n) : (waysT k).2.2.2.2 ≤ (waysT n).2.2.2.2 := by
  induction h with
  | refl => exact Nat.le_refl _
  | step _ ih => exact Nat.le_trans ih (by rw [waysT, stepW]; simp only []; omega)
theorem ways_max : (waysT 60).2.2.2.2 = 635376 := by decide +kernel
def WaysIn (k : Nat) (x : List Tm) : Prop := cum 0 x ≤ (waysT k).1 ∧ cum 1 x ≤ (waysT k).2.1 ∧ cum 2 x ≤ (waysT k).2.2.1 ∧ cum 3 x ≤ (waysT k).2.2.2.1 ∧ cum 4 x ≤ (waysT k).2.2.2.2
theorem ways_step {k : Nat} {x y : List Tm} (hy : ∀ e, nrm e y ≤ 1) (h : WaysIn k x) : WaysIn (k + 1) (canonT (pairsS x y)) := by
  obtain ⟨h0, h1, h2, h3, h4⟩ := h
  have hn : ∀ d, nrm d (canonT (pairsS x y)) ≤ cum d x := fun d => Nat.le_trans (nrm_canon d _) (nrm_pairs d hy x)
  have n0 := hn 0
  have n1 := hn 1
  have n2 := hn 2
  have n3 := hn 3
  have n4 := hn 4
  have e0 := cum_zero (canonT (pairsS x y))
  have e1 := cum_succ 0 (canonT (pairsS x y))
  have e2 := cum_succ 1 (canonT (pairsS x y))
  have e3 := cum_succ 2 (canonT (pairsS x y))
  have e4 := cum_succ 3 (canonT (pairsS x y))
  simp only [Nat.zero_add, Nat.reduceAdd] at e1 e2 e3 e4
  unfold WaysIn
  rw [waysT, stepW]
  simp only []
  omega
theorem ways_coef {k : Nat} {x : List Tm} (h : WaysIn k x) (hk : k ≤ 60) {t : Tm} (ht : t ∈ x) (hs : t.s.size ≤ 4) : -1000000 ≤ t.c ∧ t.c ≤ 1000000 := by
  have h1 := cum_le 4 ht hs
  have h2 := h.2.2.2.2
  have h3 := ways_le hk
  rw [ways_max] at h3
  omega

/-! ### How many terms -/
theorem nodup_len {α : Type} [BEq α] [LawfulBEq α] : ∀ (l m : List α), l.Nodup → (∀ x ∈ l, x ∈ m) → l.length ≤ m.length
  | [], _, _, _ => Nat.zero_le _
  | x :: r, m, h, hs => by
    obtain ⟨h1, h2⟩ := List.nodup_cons.1 h
    have hx := hs x (by simp)
    have := nodup_len r (m.erase x) h2 fun y hy => (List.mem_erase_of_ne (fun e => h1 (by rw [← e]; exact hy))).2 (hs y (by simp [hy]))
    rw [List.length_erase_of_mem hx] at this
    have : 0 < m.length := List.length_pos_of_mem hx
    rw [List.length_cons]; omega
def monosN : Nat → List (List UInt8)
  | 0 => [[]]
  | n + 1 => (monosN n).flatMap fun l => [97 :: l, 98 :: l, 99 :: l, 100 :: l]
theorem mem_monos : ∀ (l : List UInt8), l.all genB = true → l ∈ monosN l.length
  | [], _ => by simp [monosN]
  | c :: r, h => by
    rw [List.all_cons, Bool.and_eq_true] at h
    obtain ⟨hc, hr⟩ := h
    have ih := mem_monos r hr
    have h4 : c = 97 ∨ c = 98 ∨ c = 99 ∨ c = 100 := by
      unfold genB at hc
      simp only [Bool.and_eq_true, decide_eq_true_eq] at hc
      have : c.toNat = 97 ∨ c.toNat = 98 ∨ c.toNat = 99 ∨ c.toNat = 100 := by omega
      rcases this with h | h | h | h
      · exact .inl (UInt8.toNat_inj.1 h)
      · exact .inr (.inl (UInt8.toNat_inj.1 h))
      · exact .inr (.inr (.inl (UInt8.toNat_inj.1 h)))
      · exact .inr (.inr (.inr (UInt8.toNat_inj.1 h)))
    rw [List.length_cons, monosN]
    refine List.mem_flatMap.2 ⟨r, ih, ?_⟩
    rcases h4 with rfl | rfl | rfl | rfl <;> simp
def monosAll : List (List UInt8) := (List.range 5).flatMap monosN
theorem monosAll_len : monosAll.length = 341 := by decide +kernel
theorem mono_mem {s : ByteArray} (h : monoB s = true) : s.data.toList ∈ monosAll := by
  unfold monoB at h
  simp only [Bool.and_eq_true, decide_eq_true_eq] at h
  have hl : s.data.toList.length ≤ 4 := by simpa using h.2
  exact List.mem_flatMap.2 ⟨_, List.mem_range.2 (by omega), mem_monos _ h.1⟩
theorem canon_len341 {ts : List Tm} (hc : Canon ts) (h : ∀ t ∈ ts, monoB t.s = true) : ts.length ≤ 341 := by
  have := nodup_len (ts.map fun t => t.s.data.toList) monosAll (by
    rw [List.nodup_iff_pairwise_ne, List.pairwise_map]
    exact hc.1.imp fun hl e => lessW_ne hl (bytes_ext e)) (fun l hl => by
    obtain ⟨t, ht, rfl⟩ := List.mem_map.1 hl
    exact mono_mem (h t ht))
  rwa [List.length_map, monosAll_len] at this
theorem mono_append {a b : ByteArray} (ha : monoB a = true) (hb : monoB b = true) (h : (a ++ b).size ≤ 4) : monoB (a ++ b) = true := by
  unfold monoB at *
  simp only [Bool.and_eq_true, decide_eq_true_eq] at *
  refine ⟨?_, h⟩
  rw [append_toList, List.all_append, ha.1, hb.1]; rfl
theorem pairsS_mono {x y : List Tm} (hx : ∀ t ∈ x, monoB t.s = true) (hy : ∀ t ∈ y, monoB t.s = true) : ∀ t ∈ pairsS x y, monoB t.s = true := fun t ht => by
  obtain ⟨u, hu, ht⟩ := List.mem_flatMap.1 ht
  obtain ⟨h1, h2⟩ := List.mem_filter.1 ht
  obtain ⟨v, hv, rfl⟩ := List.mem_map.1 h1
  exact mono_append (hx u hu) (hy v hv) (of_decide_eq_true h2)

end Go.Proofs.Ytebgcebjlbhjjaa

/- The contracts of the model's powers of words. -/

namespace Go.Proofs.Ytebgcebjlbhjjaa
open Go.RowKit

theorem l6In_same (k lo hi : Int) (b : Bool) (w : World) (h : (decide (lo ≤ k) && decide (k ≤ hi)) = b) :
    Calls Try.prog 55 #[.int .i64 k, .int .i64 lo, .int .i64 hi] w fun e w' => e = .returned (.bool b) ∧ w = w' := by
  by_cases h1 : lo ≤ k
  · by_cases h2 : k ≤ hi
    · have H : Hid (b = true) := Lib.hid (by rw [← h, decide_eq_true h1, decide_eq_true h2]; rfl)
      clear h
      go_enter Try.func55, Try.ntmps55
      go_wp2
      go_ret
      exact ⟨ret_bool H.out.symm, rfl⟩
    · have H : Hid (b = false) := Lib.hid (by rw [← h, decide_eq_false h2, Bool.and_false])
      clear h
      have h3 : hi < k := by omega
      go_enter Try.func55, Try.ntmps55
      go_wp2
      go_ret
      exact ⟨ret_bool H.out.symm, rfl⟩
  · have H : Hid (b = false) := Lib.hid (by rw [← h, decide_eq_false h1]; rfl)
    clear h
    have h3 : k < lo := by omega
    go_enter Try.func55, Try.ntmps55
    go_wp2
    go_ret
    exact ⟨ret_bool H.out.symm, rfl⟩

end Go.Proofs.Ytebgcebjlbhjjaa

/- The contracts of slices.Grow and slices.Concat at terms. -/

namespace Go.Proofs.Ytebgcebjlbhjjaa
open Go.RowKit Go.Shelf

set_option maxRecDepth 100000 in
set_option maxHeartbeats 2000000 in
theorem growNil_any (n : Nat) (w : World) (hn : n ≤ 200000) :
    Calls Try.prog 102 #[.slice none 0 0, .int .i64 n] w fun e w' => (∃ v, e = .returned v ∧ w'.ownsRow w.heap.size TI 2 v 0 []) ∧ Below w.heap.size w w' := by
  by_cases h0 : n = 0
  · subst h0
    go_enter Try.func102, Try.ntmps102
    go_wp2
    go_ret
    exact ⟨⟨_, rfl, World.ownsRow_nil _ _ _ _⟩, Below.refl _ _⟩
  · obtain ⟨i0, hi, hz0, hz1, hz2⟩ := info_parts infoTerm
    have hp : 0 < n := by omega
    have hold : (Builtin.firstCells i0.size 0 (.slice none 0 0)).run Try.prog w.drew = .ok (#[] : Array Value) w.drew := run_firstCells_none w.drew i0.size 0 0 0
    have hrz : ∀ ty, (Builtin.append_ #[23, 3] ty #[.slice none 0 0, .int .i64 (n : Int)]).run Try.prog w =
        .ok (.slice (some ⟨w.heap.size, 0, none⟩) (0 + n) (grownCap w (0 + n) 0 TI)) (w.drew.alloc (.cells ((#[] : Array Value) ++ Builtin.zeroCells (Value.agg #[.int .i64 0, .string ByteArray.empty]).cells n ++ Builtin.zeroCells (Value.agg #[.int .i64 0, .string ByteArray.empty]).cells (grownCap w (0 + n) 0 TI - (0 + n))) TI)) := fun ty =>
      Lib.run_append_grow_zeros (olds := []) w 23 3 ty TI i0 _ .i64 .i64 Try.underlying23 Try.underlying3 hi hz0 none 0 0 hold n hp (by omega) (by omega) (by omega) (by rw [hz2]; omega) (growslice_fits (by omega) (by rw [hz2]; omega))
    have hG := grownCap_ge w (0 + n) 0 TI
    have hGm := grownCap_le_maxLen w (0 + n) 0 TI (by unfold maxLen; omega)
    obtain ⟨cur, hcur⟩ : ∃ cur, ((#[] : Array Value) ++ Builtin.zeroCells (Value.agg #[.int .i64 0, .string ByteArray.empty]).cells n ++ Builtin.zeroCells (Value.agg #[.int .i64 0, .string ByteArray.empty]).cells (grownCap w (0 + n) 0 TI - (0 + n))) = cur := ⟨_, rfl⟩
    obtain ⟨G, hGG⟩ : ∃ G, grownCap w (0 + n) 0 TI = G := ⟨_, rfl⟩
    have hcs : cur.size = G * 2 := by
      rw [← hcur, hGG]
      rw [hGG] at hG
      simp [Builtin.zeroCells, Value.cells]
      omega
    rw [hcur, hGG, Nat.zero_add] at hrz
    rw [hGG] at hG hGm
    have HCS := Lib.hid hcs
    have hmade := Lib.hid (World.ownsRow_made (base := w.heap.size) (e := TI) (size := 2) w.drew cur G (Nat.le_refl _) hGm hcs)
    unfold maxLen at hGm
    rw [Nat.zero_add] at hG
    clear hold hcur hGG hcs
    go_enter Try.func102, Try.ntmps102
    go_wp2_with (at_builtin; refine Lib.wpList_append_run _ rfl _ _ _ _ rfl _ _ rfl rfl _ _ (hrz _) ?_)
    go_ret
    exact ⟨⟨_, rfl, hmade.out⟩, ((Below.refl _ _).drew).alloc (Nat.le_refl _) _⟩

theorem ownsRow_low {W : World} {base : Nat} {e : TypeId} {size : Nat} {v : Value} {n : Nat} {xs : List Value} (h : W.ownsRow base e size v n xs) : ∀ j, v.ownBlock = some j → base ≤ j := fun j ej => (h.lt j ej).1

/-- A slice of terms that may be nil. -/
def PartT (w : World) (v : Value) (ts : List Tm) : Prop := (v = .slice none 0 0 ∧ ts = []) ∨ ∃ x cap, v = .slice (some x) ts.length cap ∧ ∀ j u, (termsV ts)[j]? = some u → w.cell? (x.add j) = some u ∧ x.block < w.heap.size
theorem PartT.below {w w' : World} {v : Value} {ts : List Tm} (h : PartT w v ts) (hb : Below w.heap.size w w') : PartT w' v ts := by
  rcases h with h | ⟨x, cap, e, h⟩
  · exact .inl h
  · exact .inr ⟨x, cap, e, fun j u hu => by
      obtain ⟨h1, h2⟩ := h j u hu
      exact ⟨(hb.cell (p := x.add j) (by rw [addr_add_block]; exact h2)).trans h1, Nat.lt_of_lt_of_le h2 hb.size⟩⟩
theorem partT_of {w : World} {ad : Addr} {n cap : Nat} {ts : List Tm} (h : IsTerms w (some ad) n ts) : PartT w (.slice (some ad) n cap) ts := by
  refine .inr ⟨ad, cap, by rw [h.len], fun j u hu => ?_⟩
  rcases Nat.eq_zero_or_pos n with h0 | h0
  · have : ts = [] := List.length_eq_zero_iff.1 (h.len.trans h0)
    subst this
    simp [termsV] at hu
  · obtain ⟨z, e, h2⟩ := h.at_ h0
    cases e
    exact ⟨h2.cells j u hu, h2.1⟩
theorem partT_own {base : Nat} {w : World} {v : Value} {ts : List Tm} (h : OwnT base w v ts) : PartT w v ts := by
  rcases h.2 with ⟨rfl, h0⟩ | ⟨g, cap, cur, rfl, _, hg, _⟩
  · exact .inl ⟨rfl, List.length_eq_zero_iff.1 h0⟩
  · exact .inr ⟨_, cap, rfl, fun j u hu => ⟨(termsAt_of_owns rfl h).cells j u hu, (ownsRow_cap h).2.2.2⟩⟩
theorem PartT.len {w : World} {v : Value} {ts : List Tm} (h : PartT w v ts) : ∃ a cap, v = .slice a ts.length cap := by
  rcases h with ⟨rfl, rfl⟩ | ⟨x, cap, e, _⟩
  · exact ⟨_, _, rfl⟩
  · exact ⟨_, _, e⟩

def lens (ps : List (Value × List Tm)) : Nat := (ps.map fun p => p.2.length).sum
def flatT (ps : List (Value × List Tm)) : List Tm := (ps.map Prod.snd).flatten
theorem lens_succ (ps : List (Value × List Tm)) (k : Nat) (h : k < ps.length) : lens (ps.take (k + 1)) = lens (ps.take k) + ps[k].2.length := by
  unfold lens
  rw [List.take_succ_eq_append_getElem h, List.map_append, List.sum_append]; simp
theorem flatT_succ (ps : List (Value × List Tm)) (k : Nat) (h : k < ps.length) : flatT (ps.take (k + 1)) = flatT (ps.take k) ++ ps[k].2 := by
  unfold flatT
  rw [List.take_succ_eq_append_getElem h, List.map_append, List.flatten_append]; simp
theorem flatT_len (ps : List (Value × List Tm)) : (flatT ps).length = lens ps := by
  unfold flatT lens
  rw [List.length_flatten, List.map_map]; rfl
theorem lens_take (ps : List (Value × List Tm)) (k : Nat) : lens (ps.take k) ≤ lens ps := by
  have h : lens ps = lens (ps.take k) + lens (ps.drop k) := by
    conv => lhs; rw [← List.take_append_drop k ps]
    unfold lens
    rw [List.map_append, List.sum_append]
  omega

set_option maxRecDepth 100000 in
set_option maxHeartbeats 4000000 in
theorem concat_any (g cap n : Nat) (ps : List (Value × List Tm)) (w : World) (hl : ps.length = n) (hn : n ≤ 100000) (hg : g < w.heap.size) (hc : ∀ i (h : i < ps.length), w.cell? ⟨g, i, none⟩ = some ps[i].1) (hp : ∀ p ∈ ps, PartT w p.1 p.2) (hs : lens ps ≤ 200000) :
    Calls Try.prog 68 #[.slice (some ⟨g, 0, none⟩) n cap] w fun e w' => (∃ v, e = .returned v ∧ OwnT w.heap.size w' v (flatT ps)) ∧ Below w.heap.size w w' := by
  obtain ⟨i0, hi, hz0, hz1, hz2⟩ := info_parts infoTerm
  have HL := Lib.hid hl
  have HC := Lib.hid hc
  have HP := Lib.hid hp
  have HT := Lib.hid (lens_take ps)
  clear hl hc hp
  go_enter Try.func68, Try.ntmps68
  go_wp2
  go_loop [3, 11] (fun s i => ∃ k : Nat, k ≤ n ∧ i = .int .i64 k ∧ s = .int .i64 (lens (ps.take k) : Nat)) (fun _ i => n - (intOf i).toNat)
  case atStart => exact ⟨0, Nat.zero_le _, rfl, rfl⟩
  case round =>
    obtain ⟨k, hk, rfl, rfl⟩ := hrel
    by_cases hlt : k < n
    · have hkp : k < ps.length := by rw [HL.out]; exact hlt
      have hck := HC.out k hkp
      obtain ⟨a, c, ev⟩ := (HP.out _ (List.getElem_mem hkp)).len
      rw [ev] at hck
      have hsu := lens_succ ps k hkp
      have hle := HT.out (k + 1)
      obtain ⟨L, hL⟩ : ∃ L, lens (ps.take k) = L := ⟨_, rfl⟩
      obtain ⟨M, hM⟩ : ∃ M, ps[k].2.length = M := ⟨_, rfl⟩
      rw [hL, hM] at hsu
      rw [hM] at hck
      rw [hL]
      have HSU := Lib.hid hsu
      have hLM : L + M ≤ 200000 := by omega
      clear hsu hle ev hL hM
      go_wp2
      go_round
      case rel => exact ⟨k + 1, by omega, by go_num, by rw [HSU.out]; go_num⟩
      case measure => simp [intOf]; omega
    · obtain rfl : n = k := by omega
      have hle := HT.out n
      obtain ⟨L, hL⟩ : ∃ L, lens (ps.take n) = L := ⟨_, rfl⟩
      rw [hL] at hle ⊢
      have hL2 : L ≤ 200000 := by omega
      clear hle hL
      go_wp2_with fail
      refine (growNil_any L _ hL2).mono ?_
      rintro e w2 ⟨⟨v, rfl, ho⟩, hb2⟩
      have HO : Hid (OwnT w.heap.size w2 v (flatT (ps.take 0))) := Lib.hid ho
      have HB2 := Lib.hid hb2
      clear ho hb2
      go_wp2_with fail
      go_loopw [6, 27] (fun v i wr => ∃ k : Nat, k ≤ n ∧ i = .int .i64 k ∧ Hid (OwnT w.heap.size wr v (flatT (ps.take k))) ∧ Below w.heap.size w wr) (fun _ i _ => n - (intOf i).toNat)
      case atStart => exact ⟨0, Nat.zero_le _, rfl, HO, HB2.out⟩
      case round =>
        obtain ⟨k, hk2, rfl, HA, hB⟩ := hrel
        by_cases hlt2 : k < n
        · have hkp : k < ps.length := by rw [HL.out]; exact hlt2
          have hck := (hB.cell (p := ⟨g, k, none⟩) hg).trans (HC.out k hkp)
          have hPk := (HP.out _ (List.getElem_mem hkp)).below hB
          have HFS := Lib.hid (flatT_succ ps k hkp)
          have hle := HT.out (k + 1)
          have hsu := lens_succ ps k hkp
          have hown := HA.out
          unfold OwnT at hown
          obtain ⟨N, hN⟩ : ∃ N, (flatT (ps.take k)).length = N := ⟨_, rfl⟩
          rw [hN] at hown
          rw [flatT_len] at hN
          rw [hN] at hsu
          have HOWN := Lib.hid hown
          have HN := Lib.hid hN
          rcases hPk with ⟨ev, ez⟩ | ⟨x, cp, ev, hx⟩
          · rw [ev] at hck
            have HEZ := Lib.hid ez
            clear ez ev hle hsu hown hN
            go_wp2_with (at_builtin; refine wpList_append_own_none rfl _ _ 23 rfl w.heap.size TI i0 2 Try.underlying23 hi _ _ _ rfl HOWN.out rfl ?_)
            go_roundw
            case rel =>
              refine ⟨k + 1, by omega, by go_num, Lib.hid ?_, hB⟩
              rw [HFS.out, HEZ.out, List.append_nil]
              exact HA.out
            case measure => simp [intOf]; omega
          · obtain ⟨us, hus⟩ : ∃ us, ps[k].2 = us := ⟨_, rfl⟩
            rw [hus] at hx ev hsu
            obtain ⟨M, hM⟩ : ∃ M, us.length = M := ⟨_, rfl⟩
            rw [hM] at hsu ev
            rw [ev] at hck
            have hNM : N + M ≤ 200000 := by omega
            have HX := Lib.hid hx
            have HM := Lib.hid hM
            have HUS := Lib.hid hus
            have hbs := hB.size
            clear hx ev hsu hus hM hle hown hN
            go_wp2_with (at_builtin; refine wpList_append_own _ rfl _ _ 23 rfl w.heap.size TI i0 (.agg #[.int .i64 0, .string ByteArray.empty]) 2 24 Try.underlying23 hi hz0 hz1 hz2 rfl (by decide) _ _ _ rfl HOWN.out x M cp (termsV us) rfl (by rw [termsV_len, HM.out]) (fun j u hu => (HX.out j u hu).1) (oneCell_terms _) (by unfold maxLen; omega) (by omega) hbs ?_)
            intro v3 w3 hown3 hgrow3 _
            have hB3 : Below w.heap.size w w3 := hB.grown hgrow3 hbs (fun j e => (ownsRow_low HOWN.out) j e)
            have HO3 := Lib.hid hown3
            clear hown3 hgrow3
            go_wp2
            go_roundw
            case rel =>
              refine ⟨k + 1, by omega, by go_num, Lib.hid ?_, hB3⟩
              rw [HFS.out, HUS.out]
              unfold OwnT
              rw [List.length_append, flatT_len, HN.out, HM.out, termsV_append]
              exact HO3.out
            case measure => simp [intOf]; omega
        · obtain rfl : n = k := by omega
          have hall : flatT (ps.take n) = flatT ps := by rw [List.take_of_length_le (by rw [HL.out]; exact Nat.le_refl _)]
          rw [hall] at HA
          clear hall
          go_wp2
          go_ret
          exact ⟨⟨_, rfl, HA.out⟩, hB⟩

end Go.Proofs.Ytebgcebjlbhjjaa

/- The contracts of the model's 'l4Letter' and 'SeriesOf'. -/

namespace Go.Proofs.Ytebgcebjlbhjjaa
open Go.RowKit Go.Shelf

def letX (c : UInt8) : List UInt8 := [UInt8.ofNat (97 + idxB c)]
/-- The sign of a power of an inverse letter. -/
def altZ (i : Nat) : Int := if i % 2 = 0 then 1 else -1
def powT (c : UInt8) (i : Nat) : Tm := ⟨altZ i, bstr (repL i (letX c))⟩
/-- The series of a letter. -/
def letS (c : UInt8) : List Tm := if 97 ≤ c.toNat then [⟨1, { data := #[] }⟩, ⟨1, bstr (letX c)⟩] else (List.range 5).map (powT c)
theorem let_cases {P : UInt8 → Prop} (h : ∀ n : Fin 8, P (UInt8.ofNat (if n.val < 4 then 97 + n.val else 61 + n.val))) {c : UInt8} (hc : letB c = true) : P c := by
  have h2 := (letB_iff c).1 hc
  have : ∃ n : Fin 8, c = UInt8.ofNat (if n.val < 4 then 97 + n.val else 61 + n.val) := by
    rcases h2 with h2 | h2
    · exact ⟨⟨c.toNat - 97, by omega⟩, UInt8.toNat_inj.1 (by rw [if_pos (by show c.toNat - 97 < 4; omega)]; rw [UInt8.toNat_ofNat', Nat.mod_eq_of_lt (by show 97 + (c.toNat - 97) < _; omega)]; show c.toNat = 97 + (c.toNat - 97); omega)⟩
    · exact ⟨⟨c.toNat - 61, by omega⟩, UInt8.toNat_inj.1 (by rw [if_neg (by show ¬ c.toNat - 61 < 4; omega)]; rw [UInt8.toNat_ofNat', Nat.mod_eq_of_lt (by show 61 + (c.toNat - 61) < _; omega)]; show c.toNat = 61 + (c.toNat - 61); omega)⟩
  obtain ⟨n, rfl⟩ := this
  exact h n
theorem letS_facts : ∀ n : Fin 8, (letS (UInt8.ofNat (if n.val < 4 then 97 + n.val else 61 + n.val))).all (fun t => monoB t.s && (inR (-1) 1 t.c)) = true ∧ (letS (UInt8.ofNat (if n.val < 4 then 97 + n.val else 61 + n.val))).length ≤ 5 ∧
    (List.range 5).all (fun e => decide (nrm e (letS (UInt8.ofNat (if n.val < 4 then 97 + n.val else 61 + n.val))) ≤ 1)) = true := by decide +kernel
theorem nrm_far {d : Nat} : ∀ {ts : List Tm}, (∀ t ∈ ts, t.s.size ≠ d) → nrm d ts = 0
  | [], _ => rfl
  | t :: r, h => by rw [nrm, if_neg (h t (by simp)), nrm_far fun u hu => h u (by simp [hu])]
theorem letS_ok {c : UInt8} (hc : letB c = true) : (∀ t ∈ letS c, monoB t.s = true ∧ -1 ≤ t.c ∧ t.c ≤ 1) ∧ (letS c).length ≤ 5 ∧ ∀ e, nrm e (letS c) ≤ 1 := by
  obtain ⟨h1, h2, h3⟩ := let_cases (P := fun c => (letS c).all (fun t => monoB t.s && (inR (-1) 1 t.c)) = true ∧ (letS c).length ≤ 5 ∧ (List.range 5).all (fun e => decide (nrm e (letS c) ≤ 1)) = true) letS_facts hc
  have h4 : ∀ t ∈ letS c, monoB t.s = true ∧ -1 ≤ t.c ∧ t.c ≤ 1 := fun t ht => by
    have := List.all_eq_true.1 h1 t ht
    unfold inR at this
    simp only [Bool.and_eq_true, decide_eq_true_eq] at this
    exact this
  refine ⟨h4, h2, fun e => ?_⟩
  by_cases he : e < 5
  · exact of_decide_eq_true (List.all_eq_true.1 h3 e (List.mem_range.2 he))
  · rw [nrm_far fun t ht => by have := mono_size (h4 t ht).1; omega]; omega
theorem letS_ser {c : UInt8} (hc : letB c = true) : SerL (letS c) := by
  obtain ⟨h1, h2, _⟩ := letS_ok hc
  exact ⟨by omega, fun t ht => by have := h1 t ht; have := mono_size this.1; omega⟩

/-- The series of a word. -/
def oneT : List Tm := [⟨1, { data := #[] }⟩]
def serW (l : List UInt8) : List Tm := l.foldl (fun out c => canonT (pairsS out (letS c))) oneT
theorem serW_snoc (l : List UInt8) (c : UInt8) : serW (l ++ [c]) = canonT (pairsS (serW l) (letS c)) := by unfold serW; rw [List.foldl_append]; rfl
structure SerOK (k : Nat) (x : List Tm) : Prop where
  ways : WaysIn k x
  canon : Canon x
  mono : ∀ t ∈ x, monoB t.s = true
theorem serOK_one : SerOK 0 oneT :=
  ⟨by unfold WaysIn; decide, ⟨by simp [oneT], fun t ht => by rw [List.mem_singleton.1 ht]; exact Int.one_ne_zero⟩, fun t ht => by rw [List.mem_singleton.1 ht]; decide⟩
theorem SerOK.step {k : Nat} {x : List Tm} {c : UInt8} (h : SerOK k x) (hc : letB c = true) : SerOK (k + 1) (canonT (pairsS x (letS c))) :=
  ⟨ways_step (letS_ok hc).2.2 h.ways, canon_of _, fun t ht => by
    obtain ⟨v, hv, e⟩ := canon_words ht
    rw [← e]
    exact pairsS_mono h.mono (fun u hu => ((letS_ok hc).1 u hu).1) v hv⟩
theorem SerOK.ser {k : Nat} {x : List Tm} (h : SerOK k x) (hk : k ≤ 60) : SerL x :=
  ⟨by have := canon_len341 h.canon h.mono; omega, fun t ht => by
    have h1 := mono_size (h.mono t ht)
    exact ⟨h1, ways_coef h.ways hk ht h1⟩⟩
theorem SerOK.told {k : Nat} {x : List Tm} (h : SerOK k x) (hk : k ≤ 60) : twS x = true := by
  obtain ⟨h1, h2⟩ := h.ser hk
  unfold twS inR
  rw [decide_eq_true h1, Bool.true_and]
  refine List.all_eq_true.2 fun t ht => ?_
  have := h2 t ht
  rw [h.mono t ht, decide_eq_true this.2.1, decide_eq_true this.2.2]; rfl
theorem serW_ok : ∀ (l : List UInt8), letL l = true → SerOK l.length (serW l) := by
  intro l
  generalize hn : l.length = n
  induction n generalizing l with
  | zero => intro _; rw [List.length_eq_zero_iff.1 hn]; exact serOK_one
  | succ n ih =>
    intro hl
    obtain ⟨p, c, rfl⟩ := last_split l (by omega)
    rw [letL_append, Bool.and_eq_true] at hl
    rw [serW_snoc]
    have hp : p.length = n := by rw [List.length_append] at hn; simp at hn; exact hn
    exact (ih p hp hl.1).step (by have := hl.2; simp [letL] at this; exact this)

theorem isTerms_ser {w : World} {ad : Option Addr} {n : Nat} {x : List Tm} (h : IsTerms w ad n x) : x.length = n := h.len

theorem acc_ser {base : Nat} {w : World} {v : Value} {x : List Tm} {N : Nat} {B : Int} (h : Acc base w v x N B) (hs : SerL x) : ∃ g cap, v = .slice (some ⟨g, 0, none⟩) x.length cap ∧ IsTerms w (some ⟨g, 0, none⟩) x.length x := by
  obtain ⟨g, cap, rfl, h1, h2, h3, h4⟩ := h.own.form
  exact ⟨g, cap, rfl, rfl, by have := hs.1; unfold maxLen; omega, fun _ => ⟨_, rfl, h1⟩, fun t ht => by have := hs.2 t ht; unfold maxLen; omega⟩
theorem own_ser {base : Nat} {w : World} {v : Value} {x : List Tm} (h : OwnTerms base w v x) (hs : SerL x) : ∃ g cap, v = .slice (some ⟨g, 0, none⟩) x.length cap ∧ IsTerms w (some ⟨g, 0, none⟩) x.length x := by
  obtain ⟨g, cap, rfl, h1, h2, h3, h4⟩ := h.form
  exact ⟨g, cap, rfl, rfl, by have := hs.1; unfold maxLen; omega, fun _ => ⟨_, rfl, h1⟩, fun t ht => by have := hs.2 t ht; unfold maxLen; omega⟩
theorem serL_small {x : List Tm} (h : SerL x) : SmallT x := ⟨by have := h.1; unfold maxLen; omega, fun t ht => by have := h.2 t ht; unfold maxLen; omega⟩

theorem serW_tw {s : ByteArray} {b : Bool} (h : wordB s.data.toList = b) : b = true → twS (serW s.data.toList) = true := by
  intro hb
  subst hb
  obtain ⟨h1, h2, _⟩ := (wordB_iff _).1 h
  exact (serW_ok _ h2).told h1
end Go.Proofs.Ytebgcebjlbhjjaa

/- The contracts of the model's 'SeriesCoef' and 'SeriesDepth'. -/

namespace Go.Proofs.Ytebgcebjlbhjjaa
open Go.RowKit Go.Shelf

theorem coefAt_get : ∀ {ts : List Tm} {t : Tm}, Canon ts → t ∈ ts → coefAt t.s ts = t.c
  | x :: r, t, h, ht => by
    obtain ⟨h1, h2⟩ := List.pairwise_cons.1 h.1
    rw [coefAt]
    rcases List.mem_cons.1 ht with rfl | ht
    · rw [if_pos rfl, coefAt_none fun u hu => (lessW_ne (h1 u hu)).symm]; omega
    · rw [if_neg (lessW_ne (h1 t ht)), coefAt_get ⟨h2, fun u hu => h.2 u (by simp [hu])⟩ ht]; omega
/-- The degree of the first monomial that is not 1. -/
def depthT : List Tm → Nat
  | [] => 0
  | t :: r => if t.s.size = 0 then depthT r else t.s.size
theorem depthT_skip : ∀ (ts : List Tm) (k : Nat), (∀ j (h : j < ts.length), j < k → ts[j].s.size = 0) → depthT ts = depthT (ts.drop k)
  | ts, 0, _ => by simp
  | [], k + 1, _ => by simp
  | t :: r, k + 1, h => by
    rw [depthT, if_pos (show t.s.size = 0 from h 0 (by simp) (by omega)), List.drop_succ_cons]
    exact depthT_skip r k fun j hj hk => by have := h (j + 1) (by simp; omega) (by omega); simpa using this

end Go.Proofs.Ytebgcebjlbhjjaa

/- Sums over products in whatever order; how great they get, how many monomials there are. -/

namespace Go.Proofs.Ytebgcebjlbhjjaa
open Go.RowKit

/-- The products of all entries of X with one; with all of Y, in Y's order. -/
def rowQ (u : Tm) (X : List Tm) : List Tm := (X.map fun t => pairS t u).filter short
def pairsQ (Y X : List Tm) : List Tm := Y.flatMap fun u => rowQ u X
theorem rowQ_snoc (u : Tm) (X : List Tm) (t : Tm) : rowQ u (X ++ [t]) = rowQ u X ++ (if (t.s ++ u.s).size ≤ 4 then [⟨t.c * u.c, t.s ++ u.s⟩] else []) := by
  unfold rowQ
  rw [List.map_append, List.filter_append, List.map_cons, List.map_nil, List.filter_cons, List.filter_nil]
  congr 1
  by_cases hs : (t.s ++ u.s).size ≤ 4
  · rw [if_pos (show short (pairS t u) = true from decide_eq_true hs), if_pos hs]; rfl
  · rw [if_neg (show ¬ short (pairS t u) = true by unfold short pairS; simpa using hs), if_neg hs]
theorem rowQ_perm (u : Tm) {X X' : List Tm} (h : X.Perm X') : (rowQ u X).Perm (rowQ u X') := (h.map _).filter _
theorem pairsQ_snoc (Y X : List Tm) (u : Tm) : pairsQ (Y ++ [u]) X = pairsQ Y X ++ rowQ u X := by unfold pairsQ; rw [List.flatMap_append]; simp
theorem rowQ_cons (u t : Tm) (X : List Tm) : rowQ u (t :: X) = [pairS t u].filter short ++ rowQ u X := by
  unfold rowQ
  rw [List.map_cons, List.filter_cons, List.filter_cons, List.filter_nil]
  split <;> simp
theorem rowS_cons (t u : Tm) (Y : List Tm) : rowS t (u :: Y) = [pairS t u].filter short ++ rowS t Y := by
  unfold rowS
  rw [List.map_cons, List.filter_cons, List.filter_cons, List.filter_nil]
  split <;> simp
theorem pairsQ_cons (k : ByteArray) (t : Tm) (X : List Tm) : ∀ Y, coefAt k (pairsQ Y (t :: X)) = coefAt k (rowS t Y) + coefAt k (pairsQ Y X)
  | [] => by simp [pairsQ, rowS, coefAt]
  | u :: r => by
    have ih := pairsQ_cons k t X r
    have e1 : ∀ Z, pairsQ (u :: r) Z = rowQ u Z ++ pairsQ r Z := fun Z => by unfold pairsQ; rw [List.flatMap_cons]
    rw [e1, e1, rowQ_cons, rowS_cons, coefAt_append, coefAt_append, coefAt_append, coefAt_append, ih]
    omega
theorem pairsQ_swap (k : ByteArray) (Y : List Tm) : ∀ X, coefAt k (pairsQ Y X) = coefAt k (pairsS X Y)
  | [] => by
    have : pairsQ Y [] = [] := by
      unfold pairsQ
      rw [List.flatMap_eq_nil_iff]
      intro u _; rfl
    rw [this]; rfl
  | t :: X => by
    have e : pairsS (t :: X) Y = rowS t Y ++ pairsS X Y := by unfold pairsS rowS; rw [List.flatMap_cons]
    rw [pairsQ_cons, e, coefAt_append, pairsQ_swap k Y X]
theorem pairsQ_perm {Y Y' : List Tm} (X : List Tm) (h : Y.Perm Y') : (pairsQ Y X).Perm (pairsQ Y' X) := h.flatMap_right _
theorem rowQ_len (u : Tm) (X : List Tm) : (rowQ u X).length ≤ X.length := by
  unfold rowQ
  exact Nat.le_trans (List.length_filter_le _ _) (by rw [List.length_map]; exact Nat.le_refl _)
theorem pairsQ_len (X : List Tm) : ∀ Y, (pairsQ Y X).length ≤ Y.length * X.length
  | [] => by simp [pairsQ]
  | u :: r => by
    have ih := pairsQ_len X r
    have h1 := rowQ_len u X
    have e : pairsQ (u :: r) X = rowQ u X ++ pairsQ r X := by unfold pairsQ; rw [List.flatMap_cons]
    rw [e, List.length_append, List.length_cons, Nat.succ_mul]
    omega
/-- Coefficients of at most M. -/
def BndT (M : Int) (ts : List Tm) : Prop := ∀ t ∈ ts, -M ≤ t.c ∧ t.c ≤ M
def MonoT (ts : List Tm) : Prop := ∀ t ∈ ts, monoB t.s = true
theorem BndT.perm {M : Int} {a b : List Tm} (h : BndT M a) (hp : a.Perm b) : BndT M b := fun t ht => h t (hp.mem_iff.2 ht)
theorem MonoT.perm {a b : List Tm} (h : MonoT a) (hp : a.Perm b) : MonoT b := fun t ht => h t (hp.mem_iff.2 ht)
theorem bndQ {X : List Tm} {u : Tm} (hX : BndT 1000000 X) (hu : -1000000 ≤ u.c ∧ u.c ≤ 1000000) : BndT 1000000000000 (rowQ u X) := fun t ht => by
  obtain ⟨v, hv, rfl⟩ := List.mem_map.1 (List.mem_filter.1 ht).1
  exact mul_bnd (hX v hv) hu
theorem bndQQ {X Y : List Tm} (hX : BndT 1000000 X) (hY : BndT 1000000 Y) : BndT 1000000000000 (pairsQ Y X) := fun t ht => by
  obtain ⟨u, hu, ht⟩ := List.mem_flatMap.1 ht
  exact bndQ hX (hY u hu) t ht
theorem coef_bnd {M : Int} (hM : 0 ≤ M) (k : ByteArray) : ∀ {ts : List Tm}, BndT M ts → -(M * ts.length) ≤ coefAt k ts ∧ coefAt k ts ≤ M * ts.length
  | [], _ => by simp [coefAt]
  | t :: r, h => by
    have ih := coef_bnd hM k (fun u hu => h u (List.mem_cons_of_mem _ hu))
    have ht := h t (by simp)
    have ec : coefAt k (t :: r) = (if t.s = k then t.c else 0) + coefAt k r := rfl
    have em : M * ((t :: r).length : Int) = M * (r.length : Int) + M := by rw [List.length_cons]; push_cast; rw [Int.mul_add, Int.mul_one]
    rw [ec, em]
    split <;> omega
theorem apart_len341 {ts : List Tm} (ha : Apart ts) (h : MonoT ts) : ts.length ≤ 341 := by
  have := nodup_len (ts.map fun t => t.s.data.toList) monosAll (by
    rw [List.nodup_iff_pairwise_ne, List.pairwise_map]
    exact ha.imp fun hl e => hl (bytes_ext e)) (fun l hl => by
    obtain ⟨t, ht, rfl⟩ := List.mem_map.1 hl
    exact mono_mem (h t ht))
  rwa [List.length_map, monosAll_len] at this
theorem mono_put {ts : List Tm} {s : ByteArray} {v : Int} (h : MonoT ts) (hs : monoB s = true) : MonoT (putT ts s v) := fun t ht => by
  rcases mem_put ht with rfl | ht
  · exact hs
  · exact h t ht
/-- One product more: what the map reads as, behind it. -/
theorem put_add {ts L : List Tm} (s : ByteArray) (d : Int) (h : ∀ k, coefAt k ts = coefAt k L) (k : ByteArray) : coefAt k (putT ts s (coefAt s ts + d)) = coefAt k (L ++ [⟨d, s⟩]) := by
  have ec : coefAt k [(⟨d, s⟩ : Tm)] = (if s = k then d else 0) + 0 := rfl
  rw [coefAt_put, coefAt_append, ec, Int.add_zero]
  by_cases hk : k = s
  · subst hk; simp [h]
  · simp [hk, Ne.symm hk, h]
theorem canon_same {ts us : List Tm} (h : ∀ k, coefAt k ts = coefAt k us) : canonT ts = canonT us := canonT_unique (canon_of ts) fun s => by rw [(canonT_spec ts).2, h]
theorem apart_bnd {M : Int} {ts : List Tm} (ha : Apart ts) (h : ∀ t ∈ canonT ts, -M ≤ t.c ∧ t.c ≤ M) (hM : 0 ≤ M) : BndT M ts := fun t ht => by
  by_cases h0 : t.c = 0
  · rw [h0]; omega
  · have hc : coefAt t.s (canonT ts) = t.c := by rw [(canonT_spec ts).2, apart_unique ha ht]
    by_cases hm : ∃ u ∈ canonT ts, u.s = t.s
    · obtain ⟨u, hu, e⟩ := hm
      rw [← e, coefAt_get (canon_of ts) hu] at hc
      rw [← hc]; exact h u hu
    · rw [coefAt_none fun u hu e => hm ⟨u, hu, e⟩] at hc
      exact absurd hc.symm h0

end Go.Proofs.Ytebgcebjlbhjjaa

/- The coefficient of 1 in products and in the series of a word; the depth out of the second term. -/

namespace Go.Proofs.Ytebgcebjlbhjjaa
open Go.RowKit

abbrev noS : ByteArray := { data := #[] }
theorem no_iff {s : ByteArray} : s = noS ↔ s.size = 0 := ⟨fun h => by rw [h]; rfl, fun h => bytes_ext (by rw [List.eq_nil_of_length_eq_zero (show s.data.toList.length = 0 by simpa using h)])⟩
theorem no_row (t : Tm) : ∀ y : List Tm, coefAt noS (rowS t y) = if t.s = noS then t.c * coefAt noS y else 0
  | [] => by simp [rowS, coefAt]
  | u :: r => by
    have e1 : coefAt noS ([pairS t u].filter short) = if t.s = noS ∧ u.s = noS then t.c * u.c else 0 := by
      have hz : (pairS t u).s = noS ↔ t.s = noS ∧ u.s = noS := by
        rw [no_iff, no_iff, no_iff]; unfold pairS; rw [append_size]; omega
      rw [List.filter_cons, List.filter_nil]
      by_cases hs : t.s = noS ∧ u.s = noS
      · rw [if_pos hs, if_pos (show short (pairS t u) = true from decide_eq_true (by rw [no_iff.1 (hz.2 hs)]; omega)), coefAt, if_pos (hz.2 hs)]; simp [coefAt, pairS]
      · rw [if_neg hs]
        split
        · rw [coefAt, if_neg (fun h => hs (hz.1 h))]; rfl
        · rfl
    rw [rowS_cons, coefAt_append, e1, no_row t r, coefAt]
    by_cases ht : t.s = noS <;> by_cases hu : u.s = noS <;> simp [ht, hu, Int.mul_add]
theorem no_pairs : ∀ x y : List Tm, coefAt noS (pairsS x y) = coefAt noS x * coefAt noS y
  | [], y => by simp [pairsS, coefAt]
  | t :: r, y => by
    have e : pairsS (t :: r) y = rowS t y ++ pairsS r y := by unfold pairsS rowS; rw [List.flatMap_cons]
    rw [e, coefAt_append, no_row, no_pairs r y, coefAt, Int.add_mul]
    by_cases ht : t.s = noS <;> simp [ht]
theorem letS_no_facts : ∀ n : Fin 8, coefAt noS (letS (UInt8.ofNat (if n.val < 4 then 97 + n.val else 61 + n.val))) = 1 := by decide +kernel
theorem letS_no {c : UInt8} (hc : letB c = true) : coefAt noS (letS c) = 1 := let_cases (P := fun c => coefAt noS (letS c) = 1) letS_no_facts hc
theorem serW_no (l : List UInt8) : letL l = true → coefAt noS (serW l) = 1 := by
  generalize hn : l.length = n
  induction n generalizing l with
  | zero => intro _; rw [List.length_eq_zero_iff.1 hn]; decide
  | succ n ih =>
    intro hl
    obtain ⟨p, c, rfl⟩ := last_split l (by omega)
    rw [letL_append, Bool.and_eq_true] at hl
    have hp : p.length = n := by rw [List.length_append] at hn; simp at hn; exact hn
    rw [serW_snoc, (canonT_spec _).2, no_pairs, ih p hp hl.1, letS_no (by have := hl.2; simp [letL] at this; exact this)]; rfl
theorem less_no {a : ByteArray} : lessW a noS = false := by
  by_cases h : a = noS
  · rw [h]; exact lessW_irrefl _
  · have h0 : ¬ a.size = 0 := fun e => h (no_iff.2 e)
    unfold lessW
    rw [if_neg (show ¬ a.size = noS.size from h0)]
    exact decide_eq_false (by show ¬ a.size < 0; omega)
theorem canon_first {ts : List Tm} (hc : Canon ts) (h1 : coefAt noS ts = 1) : ∃ u r, ts = u :: r ∧ u.s = noS ∧ u.c = 1 ∧ ∀ t ∈ r, t.s.size ≠ 0 := by
  cases ts with
  | nil => simp [coefAt] at h1
  | cons u r =>
    obtain ⟨h2, h3⟩ := List.pairwise_cons.1 hc.1
    have hr : ∀ t ∈ r, t.s.size ≠ 0 := fun t ht h0 => by
      have := h2 t ht
      rw [no_iff.2 h0, less_no] at this
      cases this
    have hu : u.s = noS := by
      by_cases h : u.s = noS
      · exact h
      · rw [coefAt_none (fun t ht e => by
          rcases List.mem_cons.1 ht with rfl | ht
          · exact h e
          · exact hr t ht (no_iff.1 e))] at h1
        cases h1
    refine ⟨u, r, rfl, hu, ?_, hr⟩
    rw [coefAt, if_pos hu, coefAt_none (fun t ht e => hr t ht (no_iff.1 e))] at h1
    omega
theorem depth_one {ts : List Tm} (hc : Canon ts) (h1 : coefAt noS ts = 1) (hl : ts.length = 1) : depthT ts = 0 := by
  obtain ⟨u, r, rfl, hu, _, _⟩ := canon_first hc h1
  have : r = [] := List.eq_nil_of_length_eq_zero (by simpa using hl)
  subst this
  rw [depthT, if_pos (no_iff.1 hu)]; rfl
theorem depth_two {ts : List Tm} (hc : Canon ts) (h1 : coefAt noS ts = 1) (hl : 1 < ts.length) : depthT ts = ts[1].s.size := by
  obtain ⟨u, r, rfl, hu, _, hr⟩ := canon_first hc h1
  cases r with
  | nil => simp at hl
  | cons t r =>
    rw [depthT, if_pos (no_iff.1 hu), depthT, if_neg (hr t (by simp))]
    rfl
theorem first_pos {ts : List Tm} (hc : Canon ts) (h1 : coefAt noS ts = 1) : 0 < ts.length := by
  obtain ⟨u, r, rfl, _⟩ := canon_first hc h1
  simp

end Go.Proofs.Ytebgcebjlbhjjaa

/- Products of series depend on the coefficients alone. -/

namespace Go.Proofs.Ytebgcebjlbhjjaa
open Go.RowKit

/-- The sum of coefficients times what a function says of their texts. -/
def linT (f : ByteArray → Int) : List Tm → Int
  | [] => 0
  | t :: r => t.c * f t.s + linT f r
theorem linT_append (f : ByteArray → Int) (a b : List Tm) : linT f (a ++ b) = linT f a + linT f b := by
  induction a with
  | nil => simp [linT]
  | cons t r ih => rw [List.cons_append, linT, linT, ih]; omega
theorem linT_nz (f : ByteArray → Int) (t : Tm) : linT f (nz t) = t.c * f t.s := by
  unfold nz
  by_cases h : t.c = 0
  · rw [if_pos h, h]; simp [linT]
  · rw [if_neg h]; simp [linT]
theorem linT_add (f : ByteArray → Int) (t : Tm) : ∀ ts, linT f (addT ts t) = linT f ts + t.c * f t.s
  | [] => by rw [addT, linT_nz, linT]; omega
  | x :: r => by
    rw [addT]
    by_cases h : lessW x.s t.s = true
    · rw [if_pos h, linT, linT, linT_add f t r]; omega
    · rw [if_neg h]
      by_cases h2 : x.s = t.s
      · rw [if_pos h2, linT_append, linT_nz, linT, h2]
        show (t.c + x.c) * f t.s + linT f r = x.c * f t.s + linT f r + t.c * f t.s
        rw [Int.add_mul]; omega
      · rw [if_neg h2, linT_append, linT_nz, linT]; omega
theorem linT_fold (f : ByteArray → Int) : ∀ ts acc, linT f (ts.foldl addT acc) = linT f acc + linT f ts
  | [], acc => by simp [linT]
  | t :: r, acc => by rw [List.foldl_cons, linT_fold f r, linT_add, linT]; omega
theorem linT_canon (f : ByteArray → Int) (ts : List Tm) : linT f (canonT ts) = linT f ts := by unfold canonT; rw [linT_fold]; simp [linT]
theorem linT_same {x y : List Tm} (h : ∀ q, coefAt q x = coefAt q y) (f : ByteArray → Int) : linT f x = linT f y := by rw [← linT_canon f x, ← linT_canon f y, canon_same h]
theorem row_one (q : ByteArray) (t : Tm) : ∀ y, coefAt q (rowS t y) = t.c * coefAt q (rowS ⟨1, t.s⟩ y)
  | [] => by simp [rowS, coefAt]
  | u :: r => by
    rw [rowS_cons, rowS_cons, coefAt_append, coefAt_append, row_one q t r, Int.mul_add]
    congr 1
    rw [List.filter_cons, List.filter_nil, List.filter_cons, List.filter_nil]
    by_cases hs : (t.s ++ u.s).size ≤ 4
    · rw [if_pos (show short (pairS t u) = true from decide_eq_true hs), if_pos (show short (pairS ⟨1, t.s⟩ u) = true from decide_eq_true hs), coefAt, coefAt, coefAt]
      show (if t.s ++ u.s = q then t.c * u.c else 0) + 0 = t.c * ((if t.s ++ u.s = q then 1 * u.c else 0) + 0)
      split <;> simp
    · rw [if_neg (show ¬ short (pairS t u) = true by unfold short pairS; simpa using hs), if_neg (show ¬ short (pairS ⟨1, t.s⟩ u) = true by unfold short pairS; simpa using hs)]
      simp [coefAt]
theorem row_lin (q : ByteArray) (t : Tm) : ∀ y, coefAt q (rowS t y) = linT (fun s => if (t.s ++ s).size ≤ 4 ∧ t.s ++ s = q then t.c else 0) y
  | [] => by simp [rowS, coefAt, linT]
  | u :: r => by
    rw [rowS_cons, coefAt_append, row_lin q t r, linT]
    congr 1
    rw [List.filter_cons, List.filter_nil]
    by_cases hs : (t.s ++ u.s).size ≤ 4
    · rw [if_pos (show short (pairS t u) = true from decide_eq_true hs), coefAt, coefAt]
      show (if t.s ++ u.s = q then t.c * u.c else 0) + 0 = u.c * (if (t.s ++ u.s).size ≤ 4 ∧ t.s ++ u.s = q then t.c else 0)
      by_cases hq : t.s ++ u.s = q
      · rw [if_pos hq, if_pos ⟨hs, hq⟩, Int.mul_comm]; omega
      · rw [if_neg hq, if_neg fun h => hq h.2]; simp
    · rw [if_neg (show ¬ short (pairS t u) = true by unfold short pairS; simpa using hs), if_neg fun h => hs h.1]
      simp [coefAt]
theorem pairs_lin (q : ByteArray) (y : List Tm) : ∀ x, coefAt q (pairsS x y) = linT (fun s => coefAt q (rowS ⟨1, s⟩ y)) x
  | [] => rfl
  | t :: r => by
    have e : pairsS (t :: r) y = rowS t y ++ pairsS r y := by unfold pairsS rowS; rw [List.flatMap_cons]
    rw [e, coefAt_append, row_one, pairs_lin q y r, linT]
theorem pairs_same1 {x x' : List Tm} (h : ∀ q, coefAt q x = coefAt q x') (y : List Tm) (q : ByteArray) : coefAt q (pairsS x y) = coefAt q (pairsS x' y) := by
  rw [pairs_lin, pairs_lin]; exact linT_same h _
theorem pairs_same2 {y y' : List Tm} (h : ∀ q, coefAt q y = coefAt q y') (q : ByteArray) : ∀ x, coefAt q (pairsS x y) = coefAt q (pairsS x y')
  | [] => rfl
  | t :: r => by
    have e : ∀ z, pairsS (t :: r) z = rowS t z ++ pairsS r z := fun z => by unfold pairsS rowS; rw [List.flatMap_cons]
    rw [e, e, coefAt_append, coefAt_append, pairs_same2 h q r, row_lin, row_lin, linT_same h]
theorem canon_id {ts : List Tm} (h : Canon ts) : canonT ts = ts := (canonT_unique h fun _ => rfl).symm

end Go.Proofs.Ytebgcebjlbhjjaa

/- The contracts of the model's and of the program's 'SumPlain'. -/

namespace Go.Proofs.Ytebgcebjlbhjjaa
open Go.RowKit Go.Shelf

/-- The sum of all coefficients. -/
def plainZ (ts : List Tm) : Int := (ts.map Tm.c).sum
theorem plainZ_succ (ts : List Tm) (k : Nat) (h : k < ts.length) : plainZ (ts.take (k + 1)) = plainZ (ts.take k) + ts[k].c := by
  unfold plainZ; rw [List.take_succ_eq_append_getElem h, List.map_append, List.sum_append]; simp
theorem sumB_coef {ts : List Tm} (h : sumB ts = true) : ts.length ≤ 300 ∧ ∀ j (hj : j < ts.length), -1000000 ≤ ts[j].c ∧ ts[j].c ≤ 1000000 := by
  unfold sumB allGood at h
  simp only [Bool.and_eq_true, List.all_eq_true, List.mem_range, decide_eq_true_eq] at h
  refine ⟨h.2, fun j hj => ?_⟩
  have := h.1 j hj
  unfold goodAt inR at this
  rw [List.getD_eq_getElem?_getD, List.getElem?_eq_getElem hj] at this
  simp at this
  exact this.1.1.2
theorem ret_plain {z z' : Int} (h : z' = z) : Ending.returned (.tuple #[.int .i64 z, .bool true]) = .returned (.tuple #[.int .i64 z', .bool true]) := by rw [h]
def plainV (b : Bool) (z : Int) : Value := if b then .tuple #[.int .i64 z, .bool true] else .tuple #[.int .i64 0, .bool false]

set_option maxRecDepth 100000 in
set_option maxHeartbeats 1000000 in
theorem sSumPlain_yes (a : Option Addr) (cap n : Nat) (ts : List Tm) (w : World) (hs : IsTerms w a n ts) (hb : sumB ts = true) :
    Calls Try.prog 33 #[.slice a n cap] w fun e w' => e = .returned (.tuple #[.int .i64 (plainZ ts), .bool true]) ∧ Below w.heap.size w w' := by
  obtain ⟨h300, hcf⟩ := sumB_coef hb
  have hn : n ≤ 300 := by rw [← hs.len]; exact h300
  have HN := Lib.hid hs.len
  have HS := Lib.hid hs
  have HB := Lib.hid hb
  have HC := Lib.hid hcf
  clear hs hb hcf h300
  go_enter Try.func33, Try.ntmps33
  go_wp2_with fail
  refine (sSumIn_any a cap n ts _ HS.out).mono ?_
  rintro e w1 ⟨rfl, hb1⟩
  have hbb := HB.out
  rw [hbb]
  clear hbb
  go_wp2
  go_loopw [4, 5] (fun q i wr => ∃ (k : Nat) (z : Int), k ≤ n ∧ i = .int .i64 k ∧ q = .int .i64 z ∧ -1000000 * (k : Int) ≤ z ∧ z ≤ 1000000 * (k : Int) ∧ Hid (z = plainZ (ts.take k)) ∧ Below w.heap.size w wr) (fun _ i _ => n - (intOf i).toNat)
  case atStart => exact ⟨0, 0, Nat.zero_le _, rfl, rfl, by omega, by omega, Lib.hid rfl, hb1⟩
  case round =>
    obtain ⟨k, z, hk, rfl, rfl, hz1, hz2, HZ, hB⟩ := hrel
    by_cases hlt : k < n
    · have hkz : k < ts.length := by rw [HN.out]; exact hlt
      obtain ⟨x, rfl, hx⟩ := HS.out.at_ (by omega)
      obtain ⟨t, ht⟩ : ∃ t, ts[k] = t := ⟨_, rfl⟩
      have hcc := HC.out k hkz
      rw [ht] at hcc
      obtain ⟨hc1, hc2⟩ := hcc
      have hc := (hx.below hB).2 k hkz
      rw [ht, addr_next] at hc
      obtain ⟨c0, c1⟩ := hc
      have HT := Lib.hid ht
      clear ht hx
      go_wp2
      go_roundw
      case rel => exact ⟨k + 1, _, by omega, by go_num, rfl, by omega, by omega, Lib.hid (by rw [plainZ_succ ts k hkz, HT.out, HZ.out]), by first | exact hB | exact hB.alloc hB.size _⟩
      case measure => simp [intOf]; omega
    · obtain rfl : k = n := by omega
      have hz : plainZ ts = z := by rw [HZ.out, List.take_of_length_le (by rw [HN.out]; exact Nat.le_refl _)]
      have HZ2 := Lib.hid hz
      clear hz
      go_wp2
      go_ret2
      exact ⟨ret_plain HZ2.out, hB⟩

theorem sSumPlain_no (a : Option Addr) (cap n : Nat) (ts : List Tm) (w : World) (hs : IsTerms w a n ts) (hb : sumB ts = false) :
    Calls Try.prog 33 #[.slice a n cap] w fun e w' => e = .returned (.tuple #[.int .i64 0, .bool false]) ∧ Below w.heap.size w w' := by
  have HS := Lib.hid hs
  have HB := Lib.hid hb
  clear hs hb
  go_enter Try.func33, Try.ntmps33
  go_wp2_with fail
  refine (sSumIn_any a cap n ts _ HS.out).mono ?_
  rintro e w1 ⟨rfl, hb1⟩
  have hbb := HB.out
  rw [hbb]
  clear hbb
  go_wp2
  go_ret2
  exact ⟨rfl, hb1⟩

theorem sSumPlain_is (a : Option Addr) (cap n : Nat) (ts : List Tm) (b : Bool) (z : Int) (w : World) (hs : IsTerms w a n ts) (h : plainV (sumB ts) (plainZ ts) = .tuple #[.int .i64 z, .bool b]) :
    Calls Try.prog 33 #[.slice a n cap] w fun e w' => e = .returned (.tuple #[.int .i64 z, .bool b]) ∧ Below w.heap.size w w' := by
  rw [← h]
  cases hb : sumB ts with
  | true => exact sSumPlain_yes a cap n ts w hs hb
  | false => exact sSumPlain_no a cap n ts w hs hb

set_option maxRecDepth 100000 in
set_option maxHeartbeats 1000000 in
theorem iSumPlain_yes (a : Option Addr) (cap n : Nat) (ts : List Tm) (w : World) (hs : IsTerms w a n ts) (hb : sumB ts = true) :
    Calls Try.prog 26 #[.slice a n cap] w fun e w' => e = .returned (.tuple #[.int .i64 (plainZ ts), .bool true]) ∧ Below w.heap.size w w' := by
  obtain ⟨h300, hcf⟩ := sumB_coef hb
  have hn : n ≤ 300 := by rw [← hs.len]; exact h300
  have HN := Lib.hid hs.len
  have HS := Lib.hid hs
  have HB := Lib.hid hb
  have HC := Lib.hid hcf
  clear hs hb hcf h300
  go_enter Try.func26, Try.ntmps26
  go_wp2_with fail
  refine (iSumIn_any a cap n ts _ HS.out).mono ?_
  rintro e w1 ⟨rfl, hb1⟩
  have hbb := HB.out
  rw [hbb]
  clear hbb
  go_wp2
  go_loopw [4, 12] (fun q i wr => ∃ (k : Nat) (z : Int), k ≤ n ∧ i = .int .i64 k ∧ q = .int .i64 z ∧ -1000000 * (k : Int) ≤ z ∧ z ≤ 1000000 * (k : Int) ∧ Hid (z = plainZ (ts.take k)) ∧ Below w.heap.size w wr) (fun _ i _ => n - (intOf i).toNat)
  case atStart => exact ⟨0, 0, Nat.zero_le _, rfl, rfl, by omega, by omega, Lib.hid rfl, hb1⟩
  case round =>
    obtain ⟨k, z, hk, rfl, rfl, hz1, hz2, HZ, hB⟩ := hrel
    by_cases hlt : k < n
    · have hkz : k < ts.length := by rw [HN.out]; exact hlt
      obtain ⟨x, rfl, hx⟩ := HS.out.at_ (by omega)
      obtain ⟨t, ht⟩ : ∃ t, ts[k] = t := ⟨_, rfl⟩
      have hcc := HC.out k hkz
      rw [ht] at hcc
      obtain ⟨hc1, hc2⟩ := hcc
      have hc := (hx.below hB).2 k hkz
      rw [ht, addr_next] at hc
      obtain ⟨c0, c1⟩ := hc
      have HT := Lib.hid ht
      clear ht hx
      go_wp2
      go_roundw
      case rel => exact ⟨k + 1, _, by omega, by go_num, rfl, by omega, by omega, Lib.hid (by rw [plainZ_succ ts k hkz, HT.out, HZ.out]), by first | exact hB | exact hB.alloc hB.size _⟩
      case measure => simp [intOf]; omega
    · obtain rfl : k = n := by omega
      have hz : plainZ ts = z := by rw [HZ.out, List.take_of_length_le (by rw [HN.out]; exact Nat.le_refl _)]
      have HZ2 := Lib.hid hz
      clear hz
      go_wp2
      go_ret2
      exact ⟨ret_plain HZ2.out, hB⟩

theorem iSumPlain_no (a : Option Addr) (cap n : Nat) (ts : List Tm) (w : World) (hs : IsTerms w a n ts) (hb : sumB ts = false) :
    Calls Try.prog 26 #[.slice a n cap] w fun e w' => e = .returned (.tuple #[.int .i64 0, .bool false]) ∧ Below w.heap.size w w' := by
  have HS := Lib.hid hs
  have HB := Lib.hid hb
  clear hs hb
  go_enter Try.func26, Try.ntmps26
  go_wp2_with fail
  refine (iSumIn_any a cap n ts _ HS.out).mono ?_
  rintro e w1 ⟨rfl, hb1⟩
  have hbb := HB.out
  rw [hbb]
  clear hbb
  go_wp2
  go_ret2
  exact ⟨rfl, hb1⟩

theorem iSumPlain_is (a : Option Addr) (cap n : Nat) (ts : List Tm) (b : Bool) (z : Int) (w : World) (hs : IsTerms w a n ts) (h : plainV (sumB ts) (plainZ ts) = .tuple #[.int .i64 z, .bool b]) :
    Calls Try.prog 26 #[.slice a n cap] w fun e w' => e = .returned (.tuple #[.int .i64 z, .bool b]) ∧ Below w.heap.size w w' := by
  rw [← h]
  cases hb : sumB ts with
  | true => exact iSumPlain_yes a cap n ts w hs hb
  | false => exact iSumPlain_no a cap n ts w hs hb

end Go.Proofs.Ytebgcebjlbhjjaa

/- Letters as a free group: reducing goes along, inverses cancel, sums of letters, powers, commutators, putting. -/

namespace Go.Proofs.Ytebgcebjlbhjjaa
open Go.RowKit

theorem toList_size (s : ByteArray) : s.data.toList.length = s.size := by simp
theorem letL_step {l : List UInt8} {c : UInt8} (hl : letL l = true) (hc : letB c = true) : letL (redStep l c) = true := by
  unfold redStep
  split
  · exact letL_of_mem l _ hl fun _ h => List.dropLast_subset _ h
  · rw [letL_append, hl, letL_cons, hc]; rfl
theorem letL_red2 : ∀ (s acc : List UInt8), letL s = true → letL acc = true → letL (redL acc s) = true
  | [], _, _, h => h
  | c :: s, acc, h, ha => by
    rw [letL_cons, Bool.and_eq_true] at h
    exact letL_red2 s (redStep acc c) h.2 (letL_step ha h.1)
theorem step_cancel {l : List UInt8} (hn : noC l) {x : UInt8} (hx : letB x = true) : redStep (redStep l x) (turnB x) = l := by
  obtain ⟨ht, hx2⟩ := turn_turn x hx
  by_cases h : l.getLast? = some (turnB x)
  · obtain ⟨p, y, rfl⟩ := last_split l (by cases l with | nil => simp at h | cons a l => simp)
    have hy : y = turnB x := by simpa using h
    subst hy
    rw [redStep_pop p (turnB x) x rfl]
    by_cases h2 : p.getLast? = some (turnB (turnB x))
    · exfalso
      obtain ⟨q, z, rfl⟩ := last_split p (by cases p with | nil => simp at h2 | cons a l => simp)
      have hz : z = turnB (turnB x) := by simpa using h2
      exact hn q z (turnB x) [] (by simp) hz
    · unfold redStep; rw [if_neg h2]
  · have e : redStep l x = l ++ [x] := by unfold redStep; rw [if_neg h]
    rw [e, redStep_pop l x (turnB x) ht.symm]
theorem red_through : ∀ (y acc : List UInt8), noC acc → letL y = true → redL acc (redL [] y) = redL acc y := by
  intro y
  generalize hn : y.length = n
  induction n generalizing y with
  | zero => intro acc _ _; rw [List.length_eq_zero_iff.1 hn]; rfl
  | succ n ih =>
    intro acc ha hl
    obtain ⟨p, c, rfl⟩ := last_split y (by omega)
    have hp : p.length = n := by rw [List.length_append] at hn; simp at hn; exact hn
    rw [letL_append, Bool.and_eq_true] at hl
    have hc : letB c = true := by have := hl.2; simp [letL] at this; exact this
    have h1 := ih p hp acc ha hl.1
    rw [redL_snoc, redL_snoc]
    by_cases h : (redL [] p).getLast? = some (turnB c)
    · obtain ⟨q, z, hq⟩ := last_split (redL [] p) (by cases hr : redL [] p with | nil => rw [hr] at h; simp at h | cons a l => simp)
      rw [hq] at h h1 ⊢
      have hz : z = turnB c := by simpa using h
      subst hz
      rw [redStep_pop q (turnB c) c rfl, ← h1, redL_snoc]
      have := step_cancel (noC_red q acc ha) (turn_turn c hc).2
      rw [(turn_turn c hc).1] at this
      exact this.symm
    · have e : redStep (redL [] p) c = redL [] p ++ [c] := by unfold redStep; rw [if_neg h]
      rw [e, redL_snoc, h1]
/-- Reducing parts first. -/
theorem red_both {a b : List UInt8} (hb : letL b = true) : redL [] (redL [] a ++ redL [] b) = redL [] (a ++ b) := by
  rw [red_append, redL_append, redL_append, red_through b _ (noC_red a [] noC_nil) hb]
theorem red_right {a b : List UInt8} (hb : letL b = true) : redL [] (a ++ redL [] b) = redL [] (a ++ b) := by
  rw [redL_append, redL_append, red_through b _ (noC_red a [] noC_nil) hb]
/-- A word and its inverse. -/
theorem red_cancel : ∀ (s acc : List UInt8), noC acc → letL s = true → redL (redL acc s) (backL s) = acc := by
  intro s
  induction s with
  | nil => intro acc _ _; rfl
  | cons c s ih =>
    intro acc ha hl
    rw [letL_cons, Bool.and_eq_true] at hl
    have e : backL (c :: s) = backL s ++ [turnB c] := by simp [backL]
    have e2 : redL acc (c :: s) = redL (redStep acc c) s := rfl
    rw [e, redL_append, e2, ih _ (noC_step acc c ha) hl.2]
    exact step_cancel ha hl.1
theorem red_inv {s : List UInt8} (hl : letL s = true) (a : List UInt8) : redL [] (a ++ s ++ backL s) = redL [] a := by
  rw [redL_append, redL_append]
  exact red_cancel s _ (noC_red a [] noC_nil) hl
theorem red_inv2 {s : List UInt8} (hl : letL s = true) (a : List UInt8) : redL [] (a ++ backL s ++ s) = redL [] a := by
  have := red_inv (letL_back s hl) a
  rwa [back_back s hl] at this
/-- Words that are the same behind each other's inverse. -/
theorem red_unique {a b : List UInt8} (hb : letL b = true) (h : redL [] (a ++ backL b) = []) : redL [] a = redL [] b := by
  have h1 : redL [] (a ++ backL b ++ b) = redL [] a := red_inv2 hb a
  rw [← h1, redL_append, h]
theorem back_red {s : List UInt8} (hl : letL s = true) : backL (redL [] s) = redL [] (backL s) := by
  have hr := letL_red2 s [] hl rfl
  have h1 : redL [] (backL (redL [] s)) = backL (redL [] s) := red_back _ hr (red_red s)
  rw [← h1]
  refine red_unique (letL_back s hl) ?_
  rw [back_back s hl, ← red_right hl]
  have := red_inv2 hr []
  rw [List.nil_append] at this
  exact this
/-! ### Sums of letters -/
theorem sgnB_bnd2 (x : UInt8) : -1 ≤ sgnB x ∧ sgnB x ≤ 1 := by unfold sgnB; split <;> omega
def sgL (i : Nat) : List UInt8 → Int
  | [] => 0
  | c :: r => (if idxB c = i then sgnB c else 0) + sgL i r
theorem sgL_append (i : Nat) : ∀ a b : List UInt8, sgL i (a ++ b) = sgL i a + sgL i b
  | [], b => by simp [sgL]
  | c :: r, b => by rw [List.cons_append, sgL, sgL, sgL_append i r b]; omega
theorem sg_turn {c : UInt8} (hc : letB c = true) : idxB (turnB c) = idxB c ∧ sgnB (turnB c) = - sgnB c := by
  have h := (letB_iff c).1 hc
  unfold idxB sgnB
  rcases h with h | h
  · have := turnB_hi c h.1
    rw [if_neg (by omega), if_pos (by omega), if_neg (by omega), if_pos (by omega)]; omega
  · have := turnB_lo c (by omega)
    rw [if_pos (by omega), if_neg (by omega), if_pos (by omega), if_neg (by omega)]; omega
theorem sgL_turn (i : Nat) {c : UInt8} (hc : letB c = true) : sgL i [turnB c] = - sgL i [c] := by
  obtain ⟨h1, h2⟩ := sg_turn hc
  simp only [sgL]
  rw [h1, h2]; split <;> omega
theorem sgL_back (i : Nat) : ∀ s : List UInt8, letL s = true → sgL i (backL s) = - sgL i s
  | [], _ => by simp [sgL, backL]
  | c :: s, h => by
    rw [letL_cons, Bool.and_eq_true] at h
    have e : backL (c :: s) = backL s ++ [turnB c] := by simp [backL]
    rw [e, sgL_append, sgL_back i s h.2, sgL_turn i h.1, show c :: s = [c] ++ s from rfl, sgL_append]; omega
theorem sgL_step (i : Nat) {l : List UInt8} {c : UInt8} (hc : letB c = true) : sgL i (redStep l c) = sgL i l + sgL i [c] := by
  by_cases h : l.getLast? = some (turnB c)
  · obtain ⟨p, y, rfl⟩ := last_split l (by cases l with | nil => simp at h | cons a l => simp)
    have hy : y = turnB c := by simpa using h
    subst hy
    rw [redStep_pop p (turnB c) c rfl, sgL_append, sgL_turn i hc]; omega
  · have e : redStep l c = l ++ [c] := by unfold redStep; rw [if_neg h]
    rw [e, sgL_append]
theorem sgL_red (i : Nat) : ∀ (s acc : List UInt8), letL s = true → sgL i (redL acc s) = sgL i acc + sgL i s
  | [], acc, _ => by simp [redL_nil, sgL]
  | c :: s, acc, h => by
    rw [letL_cons, Bool.and_eq_true] at h
    have e : redL acc (c :: s) = redL (redStep acc c) s := rfl
    rw [e, sgL_red i s _ h.2, sgL_step i h.1, show c :: s = [c] ++ s from rfl, sgL_append]; omega
theorem sums_get : ∀ (s : List UInt8), letL s = true → ∀ i (h : i < (sumsL s).length), (sumsL s)[i] = sgL i s := by
  intro s
  generalize hn : s.length = n
  induction n generalizing s with
  | zero =>
    intro _ i h
    obtain rfl := List.length_eq_zero_iff.1 hn
    have h4 : i < 4 := h
    rcases (show i = 0 ∨ i = 1 ∨ i = 2 ∨ i = 3 by omega) with rfl | rfl | rfl | rfl <;> rfl
  | succ n ih =>
    intro hl i h
    obtain ⟨p, c, rfl⟩ := last_split s (by omega)
    have hp : p.length = n := by rw [List.length_append] at hn; simp at hn; exact hn
    rw [letL_append, Bool.and_eq_true] at hl
    have hc : letB c = true := by have := hl.2; simp [letL] at this; exact this
    have h4 := (sumsL_inv p hl.1).1
    have hi := idxB_lt c hc
    have h4s := (sumsL_inv (p ++ [c]) (by rw [letL_append, hl.1, hl.2]; rfl)).1
    have hi4 : i < (sumsL p).length := by omega
    have h1 := ih p hp hl.1 i hi4
    have e : sumsL (p ++ [c]) = (sumsL p).set (idxB c) ((sumsL p)[idxB c]?.getD 0 + sgnB c) := sumsL_snoc p c
    simp only [e]
    rw [List.getElem_set, sgL_append, ← h1]
    simp only [sgL]
    by_cases hic : idxB c = i
    · subst hic
      rw [if_pos rfl, if_pos rfl, List.getElem?_eq_getElem hi4]
      simp
    · rw [if_neg hic, if_neg hic]; omega
theorem sums_eq {s t : List UInt8} (hs : letL s = true) (ht : letL t = true) (h : ∀ i, i < 4 → sgL i s = sgL i t) : sumsL s = sumsL t := by
  have h1 := (sumsL_inv s hs).1
  have h2 := (sumsL_inv t ht).1
  refine List.ext_getElem (by omega) fun i hi hj => ?_
  rw [sums_get s hs, sums_get t ht]
  exact h i (by omega)
/-! ### Powers -/
theorem powL_next {s : List UInt8} (hl : letL s = true) (n : Int) : redL [] (powL (n + 1) s) = redL [] (powL n s ++ s) := by
  unfold powL
  by_cases h : n < 0
  · rw [if_pos h]
    obtain ⟨m, hm⟩ : ∃ m : Nat, n.natAbs = m + 1 := ⟨n.natAbs - 1, by omega⟩
    have e1 : repL n.natAbs (backL s) = repL m (backL s) ++ backL s := by rw [hm, ← repL_add m 1, repL_one]
    rw [e1, red_inv2 hl]
    by_cases h2 : n + 1 < 0
    · rw [if_pos h2, show (n + 1).natAbs = m by omega]
    · rw [if_neg h2, show (n + 1).natAbs = 0 by omega, show m = 0 by omega]; rfl
  · rw [if_neg h, if_neg (show ¬ n + 1 < 0 by omega), show (n + 1).natAbs = n.natAbs + 1 by omega, ← repL_add n.natAbs 1, repL_one]

end Go.Proofs.Ytebgcebjlbhjjaa

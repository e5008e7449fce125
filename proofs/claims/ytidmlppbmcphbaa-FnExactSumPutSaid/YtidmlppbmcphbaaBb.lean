/- What the laws' proofs stand on, part 2 of 4. -/
import Derived.StillTailTactics
import Derived.Laws.EntriesVeiled
import Derived.Laws.AppendOwnNone
import Derived.StillTail
import Derived.Lib.AppendZerosOnto
import Derived.Lib.SliceRun
import Derived.IntWalk
import Derived.Deep.RegionHeld3
import Derived.Shelf.SlSortCmp.WholeK
import Derived.Shelf.SlSortCmp.NoneTotal
import Derived.Test.YtidmlppbmcphbaaBa

/- The contract of the model's 'l2Add'. -/

namespace Go.Proofs.Ytidmlppbmcphbaa
open Go.RowKit Go.Shelf

theorem termsV_cells {w : World} {x : Addr} {ts : List Tm} (h : TermsAt w x ts) : ∀ j u, (termsV ts)[j]? = some u → w.cell? (x.add j) = some u := fun j u hu => by
  have hj : j < ts.length * 2 := by rw [← termsV_len]; exact (List.getElem?_eq_some_iff.1 hu).1
  have hg := termsV_get ts (j / 2) (by omega)
  have hc := h.2 (j / 2) (by omega)
  rcases Nat.mod_two_eq_zero_or_one j with e | e
  · have e2 : j / 2 * 2 = j := by omega
    rw [e2] at hg hc
    rw [hg.1] at hu; cases hu; exact hc.1
  · have e2 : j / 2 * 2 + 1 = j := by omega
    rw [e2] at hg hc
    rw [hg.2] at hu; cases hu; exact hc.2
theorem TermsAt.cells {w : World} {x : Addr} {ts : List Tm} (h : TermsAt w x ts) : ∀ j u, (termsV ts)[j]? = some u → w.cell? (x.add j) = some u := termsV_cells h
theorem TermsAt.takeAt {w : World} {x : Addr} {ts : List Tm} (h : TermsAt w x ts) (k : Nat) : TermsAt w x (ts.take k) :=
  ⟨h.1, fun i hi => by
    simp only [List.length_take] at hi
    rw [List.getElem_take]
    exact h.2 i (by omega)⟩
theorem TermsAt.dropAt {w : World} {g : Nat} {ts : List Tm} (h : TermsAt w ⟨g, 0, none⟩ ts) (k : Nat) : TermsAt w ⟨g, k * 2, none⟩ (ts.drop k) := by
  refine ⟨h.1, fun i hi => ?_⟩
  simp only [List.length_drop] at hi
  have ha : ∀ o j, (⟨g, o, none⟩ : Addr).add j = ⟨g, o + j, none⟩ := fun o j => by unfold Addr.add; split <;> simp_all
  have := h.2 (k + i) (by omega)
  rw [ha, ha] at this
  rw [ha, ha, List.getElem_drop, show k * 2 + i * 2 = 0 + (k + i) * 2 by omega, show k * 2 + (i * 2 + 1) = 0 + ((k + i) * 2 + 1) by omega]
  exact this
theorem oneCell_terms (ts : List Tm) : ∀ u ∈ termsV ts, u.oneCell' = true := by
  induction ts with
  | nil => intro u h; cases h
  | cons t r ih =>
    intro u h
    rw [termsV_cons] at h
    rcases List.mem_cons.1 h with rfl | h
    · rfl
    · rcases List.mem_cons.1 h with rfl | h
      · rfl
      · exact ih u h
theorem notNil {w : World} {base n : Nat} {e : TypeId} {size : Nat} {v : Value} {xs : List Value} (h : w.ownsRow base e size v n xs) (hn : v ≠ .slice none 0 0) : ∃ g cap, base ≤ g ∧ v = .slice (some ⟨g, 0, none⟩) n cap := by
  rcases h.2 with ⟨e, _⟩ | ⟨g, cap, cur, e, hb, _⟩
  · exact absurd e hn
  · exact ⟨g, cap, hb, e⟩
theorem cell_pair_new (w : World) (a b : Value) (t : TypeId) : ∀ j u, [a, b][j]? = some u → (w.alloc (.cells #[a, b] t)).cell? ((⟨w.heap.size, 0, none⟩ : Addr).add j) = some u := fun j u hu => by
  have ha : (⟨w.heap.size, 0, none⟩ : Addr).add j = ⟨w.heap.size, j, none⟩ := by unfold Addr.add; split <;> simp_all
  rw [ha, World.cell?_alloc_at _ _ _ _ rfl]
  match j, hu with
  | 0, hu => cases hu; rfl
  | 1, hu => cases hu; rfl
  | j + 2, hu => simp at hu

/-- A slice of the call's own that holds terms, not nil. -/
def OwnTerms (base : Nat) (w : World) (v : Value) (ts : List Tm) : Prop := ∃ g cap, v = .slice (some ⟨g, 0, none⟩) ts.length cap ∧ w.ownsRow base TI 2 v ts.length (termsV ts)
theorem addEnd {w w3 : World} {base g3 cap3 n m : Nat} {xs : List Value} {us : List Tm} (hB : Below base w w3) (h : w3.ownsRow base TI 2 (.slice (some ⟨g3, 0, none⟩) m cap3) m xs) (hm : m = us.length) (he : xs = termsV us) (hn : n = us.length) :
    (∃ v, Ending.returned (.slice (some ⟨g3, 0, none⟩) n cap3) = .returned v ∧ OwnTerms base w3 v us) ∧ Below base w w3 := by
  subst hm he hn
  exact ⟨⟨_, rfl, g3, cap3, rfl, h⟩, hB⟩

theorem addT_less : ∀ {ts : List Tm} {t : Tm} {k : Nat}, (∀ j (h : j < ts.length), j < k → lessW ts[j].s t.s = true) → k ≤ ts.length → addT ts t = ts.take k ++ addT (ts.drop k) t
  | _, _, 0, _, _ => by simp
  | [], _, k + 1, _, hk => by simp at hk
  | x :: r, t, k + 1, h, hk => by
    have h0 := h 0 (by simp) (by omega)
    have ih := addT_less (ts := r) (t := t) (k := k) (fun j hj hjk => by have := h (j + 1) (by simpa using hj) (by omega); simpa using this) (by simpa using hk)
    rw [List.take_succ_cons, List.drop_succ_cons, addT, if_pos (by simpa using h0), ih]
    rfl
theorem addT_end {ts : List Tm} {t : Tm} (h : ∀ j (h : j < ts.length), lessW ts[j].s t.s = true) : addT ts t = ts ++ nz t := by
  rw [addT_less (k := ts.length) (fun j hj _ => h j hj) (Nat.le_refl _), List.drop_length, List.take_length]
  rfl
theorem addT_at {ts : List Tm} {t u : Tm} {k : Nat} (hk : k < ts.length) (h : ∀ j (h : j < ts.length), j < k → lessW ts[j].s t.s = true) (hu : ts[k] = u) (hl : lessW u.s t.s = false) :
    addT ts t = ts.take k ++ (if u.s = t.s then nz ⟨t.c + u.c, t.s⟩ ++ ts.drop (k + 1) else nz t ++ ts.drop k) := by
  rw [addT_less h (Nat.le_of_lt hk), List.drop_eq_getElem_cons hk, hu, addT, if_neg (by rw [hl]; simp)]
theorem cat0 (a b : List Tm) : [] ++ termsV a ++ termsV b = termsV (a ++ ([] ++ b)) := by rw [List.nil_append, List.nil_append, termsV_append]
theorem cat1 (a b : List Tm) (c : Int) (s : ByteArray) : [] ++ termsV a ++ [.int .i64 c, .string s] ++ termsV b = termsV (a ++ ([⟨c, s⟩] ++ b)) := by rw [List.nil_append, termsV_append, termsV_append, List.append_assoc]; rfl
theorem cat2 (a b : List Tm) : termsV a ++ termsV b = termsV (a ++ ([] ++ b)) := cat0 a b
theorem cat3 (a b : List Tm) (c : Int) (s : ByteArray) : termsV a ++ .int .i64 c :: .string s :: termsV b = termsV (a ++ ([⟨c, s⟩] ++ b)) := by rw [termsV_append, termsV_append]; rfl
theorem lenCat0 (ts : List Tm) (k j : Nat) (hk : k ≤ ts.length) : (ts.take k ++ ([] ++ ts.drop j)).length = k + (ts.length - j) := by
  rw [List.length_append, List.nil_append, List.length_take, List.length_drop, Nat.min_eq_left hk]
theorem lenCat1 (ts : List Tm) (k j : Nat) (x : Tm) (hk : k ≤ ts.length) : (ts.take k ++ ([x] ++ ts.drop j)).length = k + (1 + (ts.length - j)) := by
  rw [List.length_append, List.length_append, List.length_take, List.length_drop, Nat.min_eq_left hk]; rfl
theorem len_nz0 {t : Tm} (h : t.c = 0) : nz t = [] := if_pos h
theorem len_nz1 {t : Tm} (h : t.c ≠ 0) : nz t = [t] := if_neg h

set_option maxRecDepth 100000 in
set_option maxHeartbeats 8000000 in
theorem l2Add_any (g cap n : Nat) (ts : List Tm) (c : Int) (s : ByteArray) (w : World) (hlen : ts.length = n) (hn : n ≤ 200000) (hx : TermsAt w ⟨g, 0, none⟩ ts) (hcap : n ≤ cap) (hcm : cap ≤ maxLen)
    (hc1 : -4000000000000000000 ≤ c) (hc2 : c ≤ 4000000000000000000) (hts : ∀ t ∈ ts, -4000000000000000000 ≤ t.c ∧ t.c ≤ 4000000000000000000) :
    Calls Try.prog 60 #[.slice (some ⟨g, 0, none⟩) n cap, .int .i64 c, .string s] w fun e w' => (∃ v, e = .returned v ∧ OwnTerms w.heap.size w' v (addT ts ⟨c, s⟩)) ∧ Below w.heap.size w w' := by
  obtain ⟨i0, hi, hz0, hz1, hz2⟩ := info_parts infoTerm
  have HN := Lib.hid hlen
  have HX := Lib.hid hx
  have HTs := Lib.hid hts
  have hmade := World.ownsRow_made (base := w.heap.size) (e := TI) (size := 2) w #[] 0 (Nat.le_refl _) (Nat.zero_le _) rfl
  have HLt : Hid (∀ k, k ≤ n → (termsV (ts.take k)).length = k * 2) := Lib.hid (fun k hk => by rw [termsV_len, List.length_take, Nat.min_eq_left (by omega)])
  have HCt : Hid (∀ k j u, (termsV (ts.take k))[j]? = some u → (w.alloc (.cells #[] TI)).cell? ((⟨g, 0, none⟩ : Addr).add j) = some u) := Lib.hid (fun k j u hu => by
    have h := ((hx.takeAt k).cells j u hu)
    exact (World.cell?_alloc_lt _ _ _ (World.block_lt_of_cell? _ _ h)).trans h)
  clear hlen hx hts
  unfold maxLen at hcm
  go_enter Try.func60, Try.ntmps60
  go_wp2
  go_loop [7] (fun i => ∃ k : Nat, k ≤ n ∧ i = .int .i64 k ∧ Hid (∀ j (h : j < ts.length), j < k → lessW ts[j].s s = true)) (fun i => n - (intOf i).toNat)
  case atStart => exact ⟨0, Nat.zero_le _, rfl, Lib.hid (fun j _ h => absurd h (Nat.not_lt_zero _))⟩
  case round =>
    obtain ⟨k, hk, rfl, HJ⟩ := hrel
    by_cases hlt : k < n
    · have hkz : k < ts.length := by rw [HN.out]; exact hlt
      obtain ⟨t, ht⟩ : ∃ t, ts[k] = t := ⟨_, rfl⟩
      have hcc := HTs.out t (by rw [← ht]; exact List.getElem_mem hkz)
      obtain ⟨hc3, hc4⟩ := hcc
      have ha : ∀ j, (⟨g, 0, none⟩ : Addr).add j = ⟨g, j, none⟩ := fun j => by unfold Addr.add; split <;> simp_all
      have hcl := HX.out.2 k hkz
      rw [ht, ha, ha] at hcl
      obtain ⟨q0, q1⟩ := hcl
      have HT := Lib.hid ht
      clear ht ha
      cases hl : lessW t.s s with
      | true =>
        have HL := Lib.hid hl
        clear hl
        go_wp2_with fail
        refine (l2Less_any _ _ _).mono ?_
        rintro e w' ⟨rfl, rfl⟩
        have hll := HL.out
        rw [hll]
        clear hll
        go_wp2
        go_round
        case rel =>
          refine ⟨k + 1, by omega, by go_num, Lib.hid ?_⟩
          intro j hj hjk
          by_cases e : j = k
          · subst e; rw [HT.out]; exact HL.out
          · exact HJ.out j hj (by omega)
        case measure => simp [intOf]; omega
      | false =>
        have HL := Lib.hid hl
        have hck : ¬ cap = k := by omega
        clear hl
        have HA := Lib.hid (fun c' => addT_at (t := ⟨c', s⟩) hkz HJ.out HT.out HL.out)
        by_cases hts : t.s = s
        · have HS := Lib.hid hts
          have hst : (t.s.toList == s.toList) = true := by rw [hts]; simp
          clear hts
          obtain ⟨z, hz⟩ : ∃ z, c + t.c = z := ⟨_, rfl⟩
          have hwz : IntKind.i64.wrap (c + t.c) = z := by rw [IntWalk.i64_in _ (by omega)]; exact hz
          have HZ := Lib.hid hz
          clear hz
          by_cases hz0 : z = 0
          · have HZ0 := Lib.hid hz0
            have hzb : (z != 0) = false := by rw [hz0]; rfl
            clear hz0
            by_cases hck1 : cap = k + 1
            · obtain rfl : n = k + 1 := by omega
              subst hck1
              go_wp2_with fail
              refine (l2Less_any _ _ _).mono ?_
              rintro e w' ⟨rfl, rfl⟩
              have hll := HL.out
              rw [hll]
              clear hll

              go_wp2_with (at_builtin; refine wpList_append_own _ rfl _ _ 25 rfl w.heap.size TI i0 (.agg #[.int .i64 0, .string ByteArray.empty]) 2 24 Try.underlying25 hi hz0 hz1 hz2 rfl (by decide) _ _ _ rfl hmade ⟨g, 0, none⟩ k (k + 1) (termsV (ts.take k)) rfl (HLt.out k (by omega)) (HCt.out k) (oneCell_terms _) (by unfold maxLen; omega) (by omega) (by simp) ?_)
              intro v1 w1 hown1 hgrow1 hnil1
              obtain ⟨g1, cap1, hg1b, rfl⟩ := notNil hown1 hnil1
              have hB1 : Below w.heap.size w w1 := ((Below.refl _ w).alloc (Nat.le_refl _) _).grown hgrow1 (by simp) (fun j ej => by cases ej; exact Nat.le_refl _)
              have HX1 := Lib.hid (HX.out.below hB1)
              have HO1 := Lib.hid hown1
              clear hown1 hgrow1 hnil1

              have r0 := (hB1.cell (p := ⟨g, k * 2, none⟩) HX.out.1).trans q0
              have r1 := (hB1.cell (p := ⟨g, k * 2 + 1, none⟩) HX.out.1).trans q1

              go_wp2_with (at_builtin; refine wpList_append_own _ rfl _ _ 25 rfl w.heap.size TI i0 (.agg #[.int .i64 0, .string ByteArray.empty]) 2 24 Try.underlying25 hi hz0 hz1 hz2 rfl (by decide) _ _ _ rfl HO1.out ⟨g, 0, none⟩ (0) _ (termsV (ts.drop (k + 1))) rfl (by rw [List.drop_of_length_le (by rw [HN.out]; omega)]; show 0 = _; omega) (fun j u h => by rw [List.drop_of_length_le (by rw [HN.out]; omega)] at h; simp [termsV] at h) (oneCell_terms _) (by unfold maxLen; omega) (by omega) hB1.size ?_)
              intro v3 w3 hown3 hgrow3 hnil3
              obtain ⟨g3, cap3, hg3b, rfl⟩ := notNil hown3 hnil3
              have hB3 : Below w.heap.size w w3 := hB1.grown hgrow3 hB1.size (fun j ej => by cases ej; exact hg1b)
              have HO3 := Lib.hid hown3
              clear hown3 hgrow3 hnil3
              go_wp2
              go_ret

              have e1 : addT ts ⟨c, s⟩ = ts.take k ++ ([] ++ ts.drop (k + 1)) := by rw [HA.out c, if_pos HS.out]; show _ ++ (nz ⟨c + t.c, s⟩ ++ _) = _; rw [HZ.out, len_nz0 HZ0.out]
              exact addEnd (us := addT ts ⟨c, s⟩) hB3 HO3.out (by rw [e1]; have h := lenCat0 ts k (k + 1) (by rw [HN.out]; omega); rw [HN.out] at h; omega) (by rw [e1]; first | exact cat0 _ _ | exact cat2 _ _) (by rw [e1]; have h := lenCat0 ts k (k + 1) (by rw [HN.out]; omega); rw [HN.out] at h; omega)
            · have hkn : k + 1 ≤ n := by omega
              go_wp2_with fail
              refine (l2Less_any _ _ _).mono ?_
              rintro e w' ⟨rfl, rfl⟩
              have hll := HL.out
              rw [hll]
              clear hll

              go_wp2_with (at_builtin; refine wpList_append_own _ rfl _ _ 25 rfl w.heap.size TI i0 (.agg #[.int .i64 0, .string ByteArray.empty]) 2 24 Try.underlying25 hi hz0 hz1 hz2 rfl (by decide) _ _ _ rfl hmade ⟨g, 0, none⟩ k cap (termsV (ts.take k)) rfl (HLt.out k (by omega)) (HCt.out k) (oneCell_terms _) (by unfold maxLen; omega) (by omega) (by simp) ?_)
              intro v1 w1 hown1 hgrow1 hnil1
              obtain ⟨g1, cap1, hg1b, rfl⟩ := notNil hown1 hnil1
              have hB1 : Below w.heap.size w w1 := ((Below.refl _ w).alloc (Nat.le_refl _) _).grown hgrow1 (by simp) (fun j ej => by cases ej; exact Nat.le_refl _)
              have HX1 := Lib.hid (HX.out.below hB1)
              have HO1 := Lib.hid hown1
              clear hown1 hgrow1 hnil1

              have r0 := (hB1.cell (p := ⟨g, k * 2, none⟩) HX.out.1).trans q0
              have r1 := (hB1.cell (p := ⟨g, k * 2 + 1, none⟩) HX.out.1).trans q1

              go_wp2_with (at_builtin; refine wpList_append_own _ rfl _ _ 25 rfl w.heap.size TI i0 (.agg #[.int .i64 0, .string ByteArray.empty]) 2 24 Try.underlying25 hi hz0 hz1 hz2 rfl (by decide) _ _ _ rfl HO1.out ⟨g, (k + 1) * 2, none⟩ (n - (k + 1)) _ (termsV (ts.drop (k + 1))) rfl (by rw [termsV_len, List.length_drop, HN.out]; first | done | omega) ((HX1.out.dropAt (k + 1)).cells) (oneCell_terms _) (by unfold maxLen; omega) (by omega) hB1.size ?_)
              intro v3 w3 hown3 hgrow3 hnil3
              obtain ⟨g3, cap3, hg3b, rfl⟩ := notNil hown3 hnil3
              have hB3 : Below w.heap.size w w3 := hB1.grown hgrow3 hB1.size (fun j ej => by cases ej; exact hg1b)
              have HO3 := Lib.hid hown3
              clear hown3 hgrow3 hnil3
              go_wp2
              go_ret

              have e1 : addT ts ⟨c, s⟩ = ts.take k ++ ([] ++ ts.drop (k + 1)) := by rw [HA.out c, if_pos HS.out]; show _ ++ (nz ⟨c + t.c, s⟩ ++ _) = _; rw [HZ.out, len_nz0 HZ0.out]
              exact addEnd (us := addT ts ⟨c, s⟩) hB3 HO3.out (by rw [e1]; have h := lenCat0 ts k (k + 1) (by rw [HN.out]; omega); rw [HN.out] at h; omega) (by rw [e1]; first | exact cat0 _ _ | exact cat2 _ _) (by rw [e1]; have h := lenCat0 ts k (k + 1) (by rw [HN.out]; omega); rw [HN.out] at h; omega)
          · have HZ0 := Lib.hid hz0
            have hzb : (z != 0) = true := by simpa using hz0
            clear hz0
            by_cases hck1 : cap = k + 1
            · obtain rfl : n = k + 1 := by omega
              subst hck1
              go_wp2_with fail
              refine (l2Less_any _ _ _).mono ?_
              rintro e w' ⟨rfl, rfl⟩
              have hll := HL.out
              rw [hll]
              clear hll

              go_wp2_with (at_builtin; refine wpList_append_own _ rfl _ _ 25 rfl w.heap.size TI i0 (.agg #[.int .i64 0, .string ByteArray.empty]) 2 24 Try.underlying25 hi hz0 hz1 hz2 rfl (by decide) _ _ _ rfl hmade ⟨g, 0, none⟩ k (k + 1) (termsV (ts.take k)) rfl (HLt.out k (by omega)) (HCt.out k) (oneCell_terms _) (by unfold maxLen; omega) (by omega) (by simp) ?_)
              intro v1 w1 hown1 hgrow1 hnil1
              obtain ⟨g1, cap1, hg1b, rfl⟩ := notNil hown1 hnil1
              have hB1 : Below w.heap.size w w1 := ((Below.refl _ w).alloc (Nat.le_refl _) _).grown hgrow1 (by simp) (fun j ej => by cases ej; exact Nat.le_refl _)
              have HX1 := Lib.hid (HX.out.below hB1)
              have HO1 := Lib.hid hown1
              clear hown1 hgrow1 hnil1

              have r0 := (hB1.cell (p := ⟨g, k * 2, none⟩) HX.out.1).trans q0
              have r1 := (hB1.cell (p := ⟨g, k * 2 + 1, none⟩) HX.out.1).trans q1

              go_wp2_with (at_builtin; refine wpList_append_own _ rfl _ _ 25 rfl w.heap.size TI i0 (.agg #[.int .i64 0, .string ByteArray.empty]) 2 24 Try.underlying25 hi hz0 hz1 hz2 rfl (by decide) _ _ _ rfl (HO1.out.alloc _) ⟨w1.heap.size, 0, none⟩ 1 1 [.int .i64 z, .string s] rfl rfl (cell_pair_new _ _ _ _) (fun u hu => by simp at hu; rcases hu with rfl | rfl <;> rfl) (by unfold maxLen; omega) (by omega) (by have := hB1.size; simp; omega) ?_)
              intro v2 w2 hown2 hgrow2 hnil2
              obtain ⟨g2, cap2, hg2b, rfl⟩ := notNil hown2 hnil2
              have hB2 : Below w.heap.size w w2 := (hB1.alloc hB1.size _).grown hgrow2 (by have := hB1.size; simp; omega) (fun j ej => by cases ej; exact hg1b)
              have HX2 := Lib.hid (HX.out.below hB2)
              have HO2 := Lib.hid hown2
              clear hown2 hgrow2 hnil2

              go_wp2_with (at_builtin; refine wpList_append_own _ rfl _ _ 25 rfl w.heap.size TI i0 (.agg #[.int .i64 0, .string ByteArray.empty]) 2 24 Try.underlying25 hi hz0 hz1 hz2 rfl (by decide) _ _ _ rfl HO2.out ⟨g, 0, none⟩ (0) _ (termsV (ts.drop (k + 1))) rfl (by rw [List.drop_of_length_le (by rw [HN.out]; omega)]; show 0 = _; omega) (fun j u h => by rw [List.drop_of_length_le (by rw [HN.out]; omega)] at h; simp [termsV] at h) (oneCell_terms _) (by unfold maxLen; omega) (by omega) hB2.size ?_)
              intro v3 w3 hown3 hgrow3 hnil3
              obtain ⟨g3, cap3, hg3b, rfl⟩ := notNil hown3 hnil3
              have hB3 : Below w.heap.size w w3 := hB2.grown hgrow3 hB2.size (fun j ej => by cases ej; exact hg2b)
              have HO3 := Lib.hid hown3
              clear hown3 hgrow3 hnil3
              go_wp2
              go_ret

              have e1 : addT ts ⟨c, s⟩ = ts.take k ++ ([⟨z, s⟩] ++ ts.drop (k + 1)) := by rw [HA.out c, if_pos HS.out]; show _ ++ (nz ⟨c + t.c, s⟩ ++ _) = _; rw [HZ.out, len_nz1 HZ0.out]
              exact addEnd (us := addT ts ⟨c, s⟩) hB3 HO3.out (by rw [e1]; have h := lenCat1 ts k (k + 1) ⟨z, s⟩ (by rw [HN.out]; omega); rw [HN.out] at h; omega) (by rw [e1]; first | exact cat1 _ _ _ _ | exact cat3 _ _ _ _) (by rw [e1]; have h := lenCat1 ts k (k + 1) ⟨z, s⟩ (by rw [HN.out]; omega); rw [HN.out] at h; omega)
            · have hkn : k + 1 ≤ n := by omega
              go_wp2_with fail
              refine (l2Less_any _ _ _).mono ?_
              rintro e w' ⟨rfl, rfl⟩
              have hll := HL.out
              rw [hll]
              clear hll

              go_wp2_with (at_builtin; refine wpList_append_own _ rfl _ _ 25 rfl w.heap.size TI i0 (.agg #[.int .i64 0, .string ByteArray.empty]) 2 24 Try.underlying25 hi hz0 hz1 hz2 rfl (by decide) _ _ _ rfl hmade ⟨g, 0, none⟩ k cap (termsV (ts.take k)) rfl (HLt.out k (by omega)) (HCt.out k) (oneCell_terms _) (by unfold maxLen; omega) (by omega) (by simp) ?_)
              intro v1 w1 hown1 hgrow1 hnil1
              obtain ⟨g1, cap1, hg1b, rfl⟩ := notNil hown1 hnil1
              have hB1 : Below w.heap.size w w1 := ((Below.refl _ w).alloc (Nat.le_refl _) _).grown hgrow1 (by simp) (fun j ej => by cases ej; exact Nat.le_refl _)
              have HX1 := Lib.hid (HX.out.below hB1)
              have HO1 := Lib.hid hown1
              clear hown1 hgrow1 hnil1

              have r0 := (hB1.cell (p := ⟨g, k * 2, none⟩) HX.out.1).trans q0
              have r1 := (hB1.cell (p := ⟨g, k * 2 + 1, none⟩) HX.out.1).trans q1

              go_wp2_with (at_builtin; refine wpList_append_own _ rfl _ _ 25 rfl w.heap.size TI i0 (.agg #[.int .i64 0, .string ByteArray.empty]) 2 24 Try.underlying25 hi hz0 hz1 hz2 rfl (by decide) _ _ _ rfl (HO1.out.alloc _) ⟨w1.heap.size, 0, none⟩ 1 1 [.int .i64 z, .string s] rfl rfl (cell_pair_new _ _ _ _) (fun u hu => by simp at hu; rcases hu with rfl | rfl <;> rfl) (by unfold maxLen; omega) (by omega) (by have := hB1.size; simp; omega) ?_)
              intro v2 w2 hown2 hgrow2 hnil2
              obtain ⟨g2, cap2, hg2b, rfl⟩ := notNil hown2 hnil2
              have hB2 : Below w.heap.size w w2 := (hB1.alloc hB1.size _).grown hgrow2 (by have := hB1.size; simp; omega) (fun j ej => by cases ej; exact hg1b)
              have HX2 := Lib.hid (HX.out.below hB2)
              have HO2 := Lib.hid hown2
              clear hown2 hgrow2 hnil2

              go_wp2_with (at_builtin; refine wpList_append_own _ rfl _ _ 25 rfl w.heap.size TI i0 (.agg #[.int .i64 0, .string ByteArray.empty]) 2 24 Try.underlying25 hi hz0 hz1 hz2 rfl (by decide) _ _ _ rfl HO2.out ⟨g, (k + 1) * 2, none⟩ (n - (k + 1)) _ (termsV (ts.drop (k + 1))) rfl (by rw [termsV_len, List.length_drop, HN.out]; first | done | omega) ((HX2.out.dropAt (k + 1)).cells) (oneCell_terms _) (by unfold maxLen; omega) (by omega) hB2.size ?_)
              intro v3 w3 hown3 hgrow3 hnil3
              obtain ⟨g3, cap3, hg3b, rfl⟩ := notNil hown3 hnil3
              have hB3 : Below w.heap.size w w3 := hB2.grown hgrow3 hB2.size (fun j ej => by cases ej; exact hg2b)
              have HO3 := Lib.hid hown3
              clear hown3 hgrow3 hnil3
              go_wp2
              go_ret

              have e1 : addT ts ⟨c, s⟩ = ts.take k ++ ([⟨z, s⟩] ++ ts.drop (k + 1)) := by rw [HA.out c, if_pos HS.out]; show _ ++ (nz ⟨c + t.c, s⟩ ++ _) = _; rw [HZ.out, len_nz1 HZ0.out]
              exact addEnd (us := addT ts ⟨c, s⟩) hB3 HO3.out (by rw [e1]; have h := lenCat1 ts k (k + 1) ⟨z, s⟩ (by rw [HN.out]; omega); rw [HN.out] at h; omega) (by rw [e1]; first | exact cat1 _ _ _ _ | exact cat3 _ _ _ _) (by rw [e1]; have h := lenCat1 ts k (k + 1) ⟨z, s⟩ (by rw [HN.out]; omega); rw [HN.out] at h; omega)
        · have HS := Lib.hid hts
          have hst : (t.s.toList == s.toList) = false := by
            rw [beq_eq_false_iff_ne]; exact fun e => HS.out (bytes_ext2 e)
          clear hts
          by_cases hz0 : c = 0
          · have HZ0 := Lib.hid hz0
            have hzb : (c != 0) = false := by rw [hz0]; rfl
            clear hz0
            go_wp2_with fail
            refine (l2Less_any _ _ _).mono ?_
            rintro e w' ⟨rfl, rfl⟩
            have hll := HL.out
            rw [hll]
            clear hll

            go_wp2_with (at_builtin; refine wpList_append_own _ rfl _ _ 25 rfl w.heap.size TI i0 (.agg #[.int .i64 0, .string ByteArray.empty]) 2 24 Try.underlying25 hi hz0 hz1 hz2 rfl (by decide) _ _ _ rfl hmade ⟨g, 0, none⟩ k cap (termsV (ts.take k)) rfl (HLt.out k (by omega)) (HCt.out k) (oneCell_terms _) (by unfold maxLen; omega) (by omega) (by simp) ?_)
            intro v1 w1 hown1 hgrow1 hnil1
            obtain ⟨g1, cap1, hg1b, rfl⟩ := notNil hown1 hnil1
            have hB1 : Below w.heap.size w w1 := ((Below.refl _ w).alloc (Nat.le_refl _) _).grown hgrow1 (by simp) (fun j ej => by cases ej; exact Nat.le_refl _)
            have HX1 := Lib.hid (HX.out.below hB1)
            have HO1 := Lib.hid hown1
            clear hown1 hgrow1 hnil1

            have r0 := (hB1.cell (p := ⟨g, k * 2, none⟩) HX.out.1).trans q0
            have r1 := (hB1.cell (p := ⟨g, k * 2 + 1, none⟩) HX.out.1).trans q1

            go_wp2_with (at_builtin; refine wpList_append_own _ rfl _ _ 25 rfl w.heap.size TI i0 (.agg #[.int .i64 0, .string ByteArray.empty]) 2 24 Try.underlying25 hi hz0 hz1 hz2 rfl (by decide) _ _ _ rfl HO1.out ⟨g, (k) * 2, none⟩ (n - (k)) _ (termsV (ts.drop (k))) rfl (by rw [termsV_len, List.length_drop, HN.out]; first | done | omega) ((HX1.out.dropAt (k)).cells) (oneCell_terms _) (by unfold maxLen; omega) (by omega) hB1.size ?_)
            intro v3 w3 hown3 hgrow3 hnil3
            obtain ⟨g3, cap3, hg3b, rfl⟩ := notNil hown3 hnil3
            have hB3 : Below w.heap.size w w3 := hB1.grown hgrow3 hB1.size (fun j ej => by cases ej; exact hg1b)
            have HO3 := Lib.hid hown3
            clear hown3 hgrow3 hnil3
            go_wp2
            go_ret

            have e1 : addT ts ⟨c, s⟩ = ts.take k ++ ([] ++ ts.drop k) := by rw [HA.out c, if_neg HS.out, len_nz0 HZ0.out]
            exact addEnd (us := addT ts ⟨c, s⟩) hB3 HO3.out (by rw [e1]; have h := lenCat0 ts k (k) (by rw [HN.out]; omega); rw [HN.out] at h; omega) (by rw [e1]; first | exact cat0 _ _ | exact cat2 _ _) (by rw [e1]; have h := lenCat0 ts k (k) (by rw [HN.out]; omega); rw [HN.out] at h; omega)
          · have HZ0 := Lib.hid hz0
            have hzb : (c != 0) = true := by simpa using hz0
            clear hz0
            go_wp2_with fail
            refine (l2Less_any _ _ _).mono ?_
            rintro e w' ⟨rfl, rfl⟩
            have hll := HL.out
            rw [hll]
            clear hll

            go_wp2_with (at_builtin; refine wpList_append_own _ rfl _ _ 25 rfl w.heap.size TI i0 (.agg #[.int .i64 0, .string ByteArray.empty]) 2 24 Try.underlying25 hi hz0 hz1 hz2 rfl (by decide) _ _ _ rfl hmade ⟨g, 0, none⟩ k cap (termsV (ts.take k)) rfl (HLt.out k (by omega)) (HCt.out k) (oneCell_terms _) (by unfold maxLen; omega) (by omega) (by simp) ?_)
            intro v1 w1 hown1 hgrow1 hnil1
            obtain ⟨g1, cap1, hg1b, rfl⟩ := notNil hown1 hnil1
            have hB1 : Below w.heap.size w w1 := ((Below.refl _ w).alloc (Nat.le_refl _) _).grown hgrow1 (by simp) (fun j ej => by cases ej; exact Nat.le_refl _)
            have HX1 := Lib.hid (HX.out.below hB1)
            have HO1 := Lib.hid hown1
            clear hown1 hgrow1 hnil1

            have r0 := (hB1.cell (p := ⟨g, k * 2, none⟩) HX.out.1).trans q0
            have r1 := (hB1.cell (p := ⟨g, k * 2 + 1, none⟩) HX.out.1).trans q1

            go_wp2_with (at_builtin; refine wpList_append_own _ rfl _ _ 25 rfl w.heap.size TI i0 (.agg #[.int .i64 0, .string ByteArray.empty]) 2 24 Try.underlying25 hi hz0 hz1 hz2 rfl (by decide) _ _ _ rfl (HO1.out.alloc _) ⟨w1.heap.size, 0, none⟩ 1 1 [.int .i64 c, .string s] rfl rfl (cell_pair_new _ _ _ _) (fun u hu => by simp at hu; rcases hu with rfl | rfl <;> rfl) (by unfold maxLen; omega) (by omega) (by have := hB1.size; simp; omega) ?_)
            intro v2 w2 hown2 hgrow2 hnil2
            obtain ⟨g2, cap2, hg2b, rfl⟩ := notNil hown2 hnil2
            have hB2 : Below w.heap.size w w2 := (hB1.alloc hB1.size _).grown hgrow2 (by have := hB1.size; simp; omega) (fun j ej => by cases ej; exact hg1b)
            have HX2 := Lib.hid (HX.out.below hB2)
            have HO2 := Lib.hid hown2
            clear hown2 hgrow2 hnil2

            go_wp2_with (at_builtin; refine wpList_append_own _ rfl _ _ 25 rfl w.heap.size TI i0 (.agg #[.int .i64 0, .string ByteArray.empty]) 2 24 Try.underlying25 hi hz0 hz1 hz2 rfl (by decide) _ _ _ rfl HO2.out ⟨g, (k) * 2, none⟩ (n - (k)) _ (termsV (ts.drop (k))) rfl (by rw [termsV_len, List.length_drop, HN.out]; first | done | omega) ((HX2.out.dropAt (k)).cells) (oneCell_terms _) (by unfold maxLen; omega) (by omega) hB2.size ?_)
            intro v3 w3 hown3 hgrow3 hnil3
            obtain ⟨g3, cap3, hg3b, rfl⟩ := notNil hown3 hnil3
            have hB3 : Below w.heap.size w w3 := hB2.grown hgrow3 hB2.size (fun j ej => by cases ej; exact hg2b)
            have HO3 := Lib.hid hown3
            clear hown3 hgrow3 hnil3
            go_wp2
            go_ret

            have e1 : addT ts ⟨c, s⟩ = ts.take k ++ ([⟨c, s⟩] ++ ts.drop k) := by rw [HA.out c, if_neg HS.out, len_nz1 HZ0.out]
            exact addEnd (us := addT ts ⟨c, s⟩) hB3 HO3.out (by rw [e1]; have h := lenCat1 ts k (k) ⟨c, s⟩ (by rw [HN.out]; omega); rw [HN.out] at h; omega) (by rw [e1]; first | exact cat1 _ _ _ _ | exact cat3 _ _ _ _) (by rw [e1]; have h := lenCat1 ts k (k) ⟨c, s⟩ (by rw [HN.out]; omega); rw [HN.out] at h; omega)
    · obtain rfl : k = n := by omega
      have HE := Lib.hid (fun c' => addT_end (ts := ts) (t := ⟨c', s⟩) (fun j hj => HJ.out j hj (by rw [← HN.out]; exact hj)))
      by_cases hcap0 : cap = 0
      · obtain rfl : k = 0 := by omega
        have HTn : Hid (ts = []) := Lib.hid (List.length_eq_zero_iff.1 HN.out)
        subst hcap0
        have HM := Lib.hid hmade
        clear hmade
        by_cases hz0 : c = 0
        · have HZ0 := Lib.hid hz0
          have hzb : (c != 0) = false := by rw [hz0]; rfl
          clear hz0
          go_wp2
          go_ret
          have e1 : addT ts ⟨c, s⟩ = [] := by rw [HTn.out, addT, len_nz0 HZ0.out]
          exact addEnd (us := addT ts ⟨c, s⟩) ((Below.refl _ w).alloc (Nat.le_refl _) _) HM.out (by rw [e1]; rfl) (by rw [e1]; rfl) (by rw [e1]; rfl)
        · have HZ0 := Lib.hid hz0
          have hzb : (c != 0) = true := by simpa using hz0
          clear hz0
          have HPN := Lib.hid (cell_pair_new (w.alloc (.cells #[] TI)) (.int .i64 c) (.string s) TI)
          simp only [World.size_alloc] at HPN

          go_wp2_with (at_builtin; refine wpList_append_own _ rfl _ _ 25 rfl w.heap.size TI i0 (.agg #[.int .i64 0, .string ByteArray.empty]) 2 24 Try.underlying25 hi hz0 hz1 hz2 rfl (by decide) _ _ _ rfl (HM.out.alloc _) ⟨w.heap.size + 1, 0, none⟩ 1 1 [.int .i64 c, .string s] rfl rfl (HPN.out) (fun u hu => by simp at hu; rcases hu with rfl | rfl <;> rfl) (by unfold maxLen; omega) (by omega) (by simp; omega) ?_)
          intro v2 w2 hown2 hgrow2 hnil2
          obtain ⟨g2, cap2, hg2b, rfl⟩ := notNil hown2 hnil2
          have hB2 : Below w.heap.size w w2 := (((Below.refl _ w).alloc (Nat.le_refl _) _).alloc (by simp) _).grown hgrow2 (by simp; omega) (fun j ej => by cases ej; exact Nat.le_refl _)
          have HO2 := Lib.hid hown2
          clear hown2 hgrow2 hnil2
          go_wp2_with (at_builtin; refine wpList_append_own _ rfl _ _ 25 rfl w.heap.size TI i0 (.agg #[.int .i64 0, .string ByteArray.empty]) 2 24 Try.underlying25 hi hz0 hz1 hz2 rfl (by decide) _ _ _ rfl HO2.out ⟨g, 0, none⟩ 0 _ [] rfl rfl (fun j u h => by simp at h) (fun u hu => by cases hu) (by unfold maxLen; omega) (by omega) hB2.size ?_)
          intro v3 w3 hown3 hgrow3 hnil3
          obtain ⟨g3, cap3, hg3b, rfl⟩ := notNil hown3 hnil3
          have hB3 : Below w.heap.size w w3 := hB2.grown hgrow3 hB2.size (fun j ej => by cases ej; exact hg2b)
          have HO3 := Lib.hid hown3
          clear hown3 hgrow3 hnil3
          go_wp2
          go_ret
          have e1 : addT ts ⟨c, s⟩ = [⟨c, s⟩] := by rw [HTn.out, addT, len_nz1 HZ0.out]
          exact addEnd (us := addT ts ⟨c, s⟩) hB3 HO3.out (by rw [e1]; rfl) (by rw [e1]; rfl) (by rw [e1]; rfl)
      by_cases hz0 : c = 0
      · have HZ0 := Lib.hid hz0
        have hzb : (c != 0) = false := by rw [hz0]; rfl
        clear hz0
        by_cases hck : cap = k
        · have hck2 := hck.symm
          clear hck
          subst hck2
          go_wp2_with (at_builtin; refine wpList_append_own _ rfl _ _ 25 rfl w.heap.size TI i0 (.agg #[.int .i64 0, .string ByteArray.empty]) 2 24 Try.underlying25 hi hz0 hz1 hz2 rfl (by decide) _ _ _ rfl hmade ⟨g, 0, none⟩ k k (termsV (ts.take k)) rfl (HLt.out k (by omega)) (HCt.out k) (oneCell_terms _) (by unfold maxLen; omega) (by omega) (by simp) ?_)
          intro v1 w1 hown1 hgrow1 hnil1
          obtain ⟨g1, cap1, hg1b, rfl⟩ := notNil hown1 hnil1
          have hB1 : Below w.heap.size w w1 := ((Below.refl _ w).alloc (Nat.le_refl _) _).grown hgrow1 (by simp) (fun j ej => by cases ej; exact Nat.le_refl _)
          have HX1 := Lib.hid (HX.out.below hB1)
          have HO1 := Lib.hid hown1
          clear hown1 hgrow1 hnil1

          go_wp2_with (at_builtin; refine wpList_append_own _ rfl _ _ 25 rfl w.heap.size TI i0 (.agg #[.int .i64 0, .string ByteArray.empty]) 2 24 Try.underlying25 hi hz0 hz1 hz2 rfl (by decide) _ _ _ rfl HO1.out ⟨g, 0, none⟩ (0) _ (termsV (ts.drop k)) rfl (by rw [List.drop_of_length_le (by rw [HN.out]; omega)]; show 0 = _; omega) (fun j u h => by rw [List.drop_of_length_le (by rw [HN.out]; omega)] at h; simp [termsV] at h) (oneCell_terms _) (by unfold maxLen; omega) (by omega) hB1.size ?_)
          intro v3 w3 hown3 hgrow3 hnil3
          obtain ⟨g3, cap3, hg3b, rfl⟩ := notNil hown3 hnil3
          have hB3 : Below w.heap.size w w3 := hB1.grown hgrow3 hB1.size (fun j ej => by cases ej; exact hg1b)
          have HO3 := Lib.hid hown3
          clear hown3 hgrow3 hnil3
          go_wp2
          go_ret

          have e1 : addT ts ⟨c, s⟩ = ts.take k ++ ([] ++ ts.drop k) := by rw [HE.out c, len_nz0 HZ0.out, List.take_of_length_le (by rw [HN.out]; exact Nat.le_refl _), List.drop_of_length_le (by rw [HN.out]; exact Nat.le_refl _)]; rfl
          exact addEnd (us := addT ts ⟨c, s⟩) hB3 HO3.out (by rw [e1]; have h := lenCat0 ts k (k) (by rw [HN.out]; omega); rw [HN.out] at h; omega) (by rw [e1]; first | exact cat0 _ _ | exact cat2 _ _) (by rw [e1]; have h := lenCat0 ts k (k) (by rw [HN.out]; omega); rw [HN.out] at h; omega)
        · have hcp := hcap
          go_wp2_with (at_builtin; refine wpList_append_own _ rfl _ _ 25 rfl w.heap.size TI i0 (.agg #[.int .i64 0, .string ByteArray.empty]) 2 24 Try.underlying25 hi hz0 hz1 hz2 rfl (by decide) _ _ _ rfl hmade ⟨g, 0, none⟩ k cap (termsV (ts.take k)) rfl (HLt.out k (by omega)) (HCt.out k) (oneCell_terms _) (by unfold maxLen; omega) (by omega) (by simp) ?_)
          intro v1 w1 hown1 hgrow1 hnil1
          obtain ⟨g1, cap1, hg1b, rfl⟩ := notNil hown1 hnil1
          have hB1 : Below w.heap.size w w1 := ((Below.refl _ w).alloc (Nat.le_refl _) _).grown hgrow1 (by simp) (fun j ej => by cases ej; exact Nat.le_refl _)
          have HX1 := Lib.hid (HX.out.below hB1)
          have HO1 := Lib.hid hown1
          clear hown1 hgrow1 hnil1

          go_wp2_with (at_builtin; refine wpList_append_own _ rfl _ _ 25 rfl w.heap.size TI i0 (.agg #[.int .i64 0, .string ByteArray.empty]) 2 24 Try.underlying25 hi hz0 hz1 hz2 rfl (by decide) _ _ _ rfl HO1.out ⟨g, (k) * 2, none⟩ (0) _ (termsV (ts.drop k)) rfl (by rw [termsV_len, List.length_drop, HN.out]; first | done | omega) ((HX1.out.dropAt k).cells) (oneCell_terms _) (by unfold maxLen; omega) (by omega) hB1.size ?_)
          intro v3 w3 hown3 hgrow3 hnil3
          obtain ⟨g3, cap3, hg3b, rfl⟩ := notNil hown3 hnil3
          have hB3 : Below w.heap.size w w3 := hB1.grown hgrow3 hB1.size (fun j ej => by cases ej; exact hg1b)
          have HO3 := Lib.hid hown3
          clear hown3 hgrow3 hnil3
          go_wp2
          go_ret

          have e1 : addT ts ⟨c, s⟩ = ts.take k ++ ([] ++ ts.drop k) := by rw [HE.out c, len_nz0 HZ0.out, List.take_of_length_le (by rw [HN.out]; exact Nat.le_refl _), List.drop_of_length_le (by rw [HN.out]; exact Nat.le_refl _)]; rfl
          exact addEnd (us := addT ts ⟨c, s⟩) hB3 HO3.out (by rw [e1]; have h := lenCat0 ts k (k) (by rw [HN.out]; omega); rw [HN.out] at h; omega) (by rw [e1]; first | exact cat0 _ _ | exact cat2 _ _) (by rw [e1]; have h := lenCat0 ts k (k) (by rw [HN.out]; omega); rw [HN.out] at h; omega)
      · have HZ0 := Lib.hid hz0
        have hzb : (c != 0) = true := by simpa using hz0
        clear hz0
        by_cases hck : cap = k
        · have hck2 := hck.symm
          clear hck
          subst hck2
          go_wp2_with (at_builtin; refine wpList_append_own _ rfl _ _ 25 rfl w.heap.size TI i0 (.agg #[.int .i64 0, .string ByteArray.empty]) 2 24 Try.underlying25 hi hz0 hz1 hz2 rfl (by decide) _ _ _ rfl hmade ⟨g, 0, none⟩ k k (termsV (ts.take k)) rfl (HLt.out k (by omega)) (HCt.out k) (oneCell_terms _) (by unfold maxLen; omega) (by omega) (by simp) ?_)
          intro v1 w1 hown1 hgrow1 hnil1
          obtain ⟨g1, cap1, hg1b, rfl⟩ := notNil hown1 hnil1
          have hB1 : Below w.heap.size w w1 := ((Below.refl _ w).alloc (Nat.le_refl _) _).grown hgrow1 (by simp) (fun j ej => by cases ej; exact Nat.le_refl _)
          have HX1 := Lib.hid (HX.out.below hB1)
          have HO1 := Lib.hid hown1
          clear hown1 hgrow1 hnil1

          go_wp2_with (at_builtin; refine wpList_append_own _ rfl _ _ 25 rfl w.heap.size TI i0 (.agg #[.int .i64 0, .string ByteArray.empty]) 2 24 Try.underlying25 hi hz0 hz1 hz2 rfl (by decide) _ _ _ rfl (HO1.out.alloc _) ⟨w1.heap.size, 0, none⟩ 1 1 [.int .i64 c, .string s] rfl rfl (cell_pair_new _ _ _ _) (fun u hu => by simp at hu; rcases hu with rfl | rfl <;> rfl) (by unfold maxLen; omega) (by omega) (by have := hB1.size; simp; omega) ?_)
          intro v2 w2 hown2 hgrow2 hnil2
          obtain ⟨g2, cap2, hg2b, rfl⟩ := notNil hown2 hnil2
          have hB2 : Below w.heap.size w w2 := (hB1.alloc hB1.size _).grown hgrow2 (by have := hB1.size; simp; omega) (fun j ej => by cases ej; exact hg1b)
          have HX2 := Lib.hid (HX.out.below hB2)
          have HO2 := Lib.hid hown2
          clear hown2 hgrow2 hnil2

          go_wp2_with (at_builtin; refine wpList_append_own _ rfl _ _ 25 rfl w.heap.size TI i0 (.agg #[.int .i64 0, .string ByteArray.empty]) 2 24 Try.underlying25 hi hz0 hz1 hz2 rfl (by decide) _ _ _ rfl HO2.out ⟨g, 0, none⟩ (0) _ (termsV (ts.drop k)) rfl (by rw [List.drop_of_length_le (by rw [HN.out]; omega)]; show 0 = _; omega) (fun j u h => by rw [List.drop_of_length_le (by rw [HN.out]; omega)] at h; simp [termsV] at h) (oneCell_terms _) (by unfold maxLen; omega) (by omega) hB2.size ?_)
          intro v3 w3 hown3 hgrow3 hnil3
          obtain ⟨g3, cap3, hg3b, rfl⟩ := notNil hown3 hnil3
          have hB3 : Below w.heap.size w w3 := hB2.grown hgrow3 hB2.size (fun j ej => by cases ej; exact hg2b)
          have HO3 := Lib.hid hown3
          clear hown3 hgrow3 hnil3
          go_wp2
          go_ret

          have e1 : addT ts ⟨c, s⟩ = ts.take k ++ ([⟨c, s⟩] ++ ts.drop k) := by rw [HE.out c, len_nz1 HZ0.out, List.take_of_length_le (by rw [HN.out]; exact Nat.le_refl _), List.drop_of_length_le (by rw [HN.out]; exact Nat.le_refl _)]; rfl
          exact addEnd (us := addT ts ⟨c, s⟩) hB3 HO3.out (by rw [e1]; have h := lenCat1 ts k (k) ⟨c, s⟩ (by rw [HN.out]; omega); rw [HN.out] at h; omega) (by rw [e1]; first | exact cat1 _ _ _ _ | exact cat3 _ _ _ _) (by rw [e1]; have h := lenCat1 ts k (k) ⟨c, s⟩ (by rw [HN.out]; omega); rw [HN.out] at h; omega)
        · have hcp := hcap
          go_wp2_with (at_builtin; refine wpList_append_own _ rfl _ _ 25 rfl w.heap.size TI i0 (.agg #[.int .i64 0, .string ByteArray.empty]) 2 24 Try.underlying25 hi hz0 hz1 hz2 rfl (by decide) _ _ _ rfl hmade ⟨g, 0, none⟩ k cap (termsV (ts.take k)) rfl (HLt.out k (by omega)) (HCt.out k) (oneCell_terms _) (by unfold maxLen; omega) (by omega) (by simp) ?_)
          intro v1 w1 hown1 hgrow1 hnil1
          obtain ⟨g1, cap1, hg1b, rfl⟩ := notNil hown1 hnil1
          have hB1 : Below w.heap.size w w1 := ((Below.refl _ w).alloc (Nat.le_refl _) _).grown hgrow1 (by simp) (fun j ej => by cases ej; exact Nat.le_refl _)
          have HX1 := Lib.hid (HX.out.below hB1)
          have HO1 := Lib.hid hown1
          clear hown1 hgrow1 hnil1

          go_wp2_with (at_builtin; refine wpList_append_own _ rfl _ _ 25 rfl w.heap.size TI i0 (.agg #[.int .i64 0, .string ByteArray.empty]) 2 24 Try.underlying25 hi hz0 hz1 hz2 rfl (by decide) _ _ _ rfl (HO1.out.alloc _) ⟨w1.heap.size, 0, none⟩ 1 1 [.int .i64 c, .string s] rfl rfl (cell_pair_new _ _ _ _) (fun u hu => by simp at hu; rcases hu with rfl | rfl <;> rfl) (by unfold maxLen; omega) (by omega) (by have := hB1.size; simp; omega) ?_)
          intro v2 w2 hown2 hgrow2 hnil2
          obtain ⟨g2, cap2, hg2b, rfl⟩ := notNil hown2 hnil2
          have hB2 : Below w.heap.size w w2 := (hB1.alloc hB1.size _).grown hgrow2 (by have := hB1.size; simp; omega) (fun j ej => by cases ej; exact hg1b)
          have HX2 := Lib.hid (HX.out.below hB2)
          have HO2 := Lib.hid hown2
          clear hown2 hgrow2 hnil2

          go_wp2_with (at_builtin; refine wpList_append_own _ rfl _ _ 25 rfl w.heap.size TI i0 (.agg #[.int .i64 0, .string ByteArray.empty]) 2 24 Try.underlying25 hi hz0 hz1 hz2 rfl (by decide) _ _ _ rfl HO2.out ⟨g, (k) * 2, none⟩ (0) _ (termsV (ts.drop k)) rfl (by rw [termsV_len, List.length_drop, HN.out]; first | done | omega) ((HX2.out.dropAt k).cells) (oneCell_terms _) (by unfold maxLen; omega) (by omega) hB2.size ?_)
          intro v3 w3 hown3 hgrow3 hnil3
          obtain ⟨g3, cap3, hg3b, rfl⟩ := notNil hown3 hnil3
          have hB3 : Below w.heap.size w w3 := hB2.grown hgrow3 hB2.size (fun j ej => by cases ej; exact hg2b)
          have HO3 := Lib.hid hown3
          clear hown3 hgrow3 hnil3
          go_wp2
          go_ret

          have e1 : addT ts ⟨c, s⟩ = ts.take k ++ ([⟨c, s⟩] ++ ts.drop k) := by rw [HE.out c, len_nz1 HZ0.out, List.take_of_length_le (by rw [HN.out]; exact Nat.le_refl _), List.drop_of_length_le (by rw [HN.out]; exact Nat.le_refl _)]; rfl
          exact addEnd (us := addT ts ⟨c, s⟩) hB3 HO3.out (by rw [e1]; have h := lenCat1 ts k (k) ⟨c, s⟩ (by rw [HN.out]; omega); rw [HN.out] at h; omega) (by rw [e1]; first | exact cat1 _ _ _ _ | exact cat3 _ _ _ _) (by rw [e1]; have h := lenCat1 ts k (k) ⟨c, s⟩ (by rw [HN.out]; omega); rw [HN.out] at h; omega)

end Go.Proofs.Ytidmlppbmcphbaa

/- The contracts of the model's 'l2Done' and 'SumOf'. -/

namespace Go.Proofs.Ytidmlppbmcphbaa
open Go.RowKit Go.Shelf

/-- A slice value of the call's own that holds terms; nil where there are none, maybe. -/
def OwnT (base : Nat) (w : World) (v : Value) (ts : List Tm) : Prop := w.ownsRow base TI 2 v ts.length (termsV ts)
theorem OwnTerms.own {base : Nat} {w : World} {v : Value} {ts : List Tm} (h : OwnTerms base w v ts) : OwnT base w v ts := by obtain ⟨g, cap, _, h⟩ := h; exact h
theorem OwnT.mono {b1 b2 : Nat} {w : World} {v : Value} {ts : List Tm} (h : OwnT b1 w v ts) (hb : b2 ≤ b1) : OwnT b2 w v ts := ownsRow_base h hb
theorem OwnT.below {base : Nat} {w w' : World} {v : Value} {ts : List Tm} (h : OwnT base w v ts) (hb : Below w.heap.size w w') : OwnT base w' v ts :=
  h.kept ⟨hb.os, hb.tape, hb.output, hb.size, fun j hj _ => hb.block j hj⟩ (row := none) (by
    rcases h.2 with ⟨rfl, _⟩ | ⟨g, cap, cur, rfl, _⟩
    · exact .inl rfl
    · exact .inr (by simp [Value.ownBlock]))
theorem OwnTerms.below {base : Nat} {w w' : World} {v : Value} {ts : List Tm} (h : OwnTerms base w v ts) (hb : Below w.heap.size w w') : OwnTerms base w' v ts := by
  have h2 := h.own.below hb
  obtain ⟨g, cap, e, _⟩ := h
  exact ⟨g, cap, e, h2⟩
theorem OwnTerms.mono {b1 b2 : Nat} {w : World} {v : Value} {ts : List Tm} (h : OwnTerms b1 w v ts) (hb : b2 ≤ b1) : OwnTerms b2 w v ts := by
  obtain ⟨g, cap, e, h⟩ := h
  exact ⟨g, cap, e, ownsRow_base h hb⟩
/-- What fits into an integer of 64 bits and into a text. -/
def SmallT (ts : List Tm) : Prop := ts.length ≤ maxLen ∧ ∀ t ∈ ts, t.s.size ≤ maxLen ∧ -9223372036854775808 ≤ t.c ∧ t.c ≤ 9223372036854775807
theorem OwnT.isTerms {base : Nat} {w : World} {v : Value} {ts : List Tm} (h : OwnT base w v ts) (hs : SmallT ts) : ∃ a cap, v = .slice a ts.length cap ∧ IsTerms w a ts.length ts := by
  rcases h.2 with ⟨rfl, h0⟩ | ⟨g, cap, cur, rfl, hb, hg, hn, hc, _⟩
  · exact ⟨none, 0, by rw [h0], rfl, hs.1, fun hp => absurd hp (by omega), hs.2⟩
  · exact ⟨_, cap, rfl, rfl, hs.1, fun _ => ⟨_, rfl, termsAt_of_owns rfl h⟩, hs.2⟩
theorem OwnTerms.form {base : Nat} {w : World} {v : Value} {ts : List Tm} (h : OwnTerms base w v ts) : ∃ g cap, v = .slice (some ⟨g, 0, none⟩) ts.length cap ∧ TermsAt w ⟨g, 0, none⟩ ts ∧ ts.length ≤ cap ∧ cap ≤ maxLen ∧ base ≤ g := by
  obtain ⟨g, cap, rfl, h⟩ := h
  obtain ⟨h1, h2, h3, _⟩ := ownsRow_cap h
  exact ⟨g, cap, rfl, termsAt_of_owns rfl h, h1, h2, h3⟩
theorem ownEmpty (w : World) : OwnTerms w.heap.size (w.alloc (.cells #[] TI)) (.slice (some ⟨w.heap.size, 0, none⟩) 0 0) [] :=
  ⟨_, _, rfl, World.ownsRow_made w #[] 0 (Nat.le_refl _) (Nat.zero_le _) rfl⟩

theorem add_bound {t : Tm} {B C : Int} (hC : 0 ≤ C) (ht : -C ≤ t.c ∧ t.c ≤ C) : ∀ {ts : List Tm}, (∀ u ∈ ts, -B ≤ u.c ∧ u.c ≤ B) → 0 ≤ B → ∀ u ∈ addT ts t, -(B + C) ≤ u.c ∧ u.c ≤ B + C
  | [], _, hB, u, hu => by rw [addT] at hu; rw [(nz_mem hu).1]; omega
  | x :: r, h, hB, u, hu => by
    rw [addT] at hu
    have hx := h x (by simp)
    split at hu
    · rcases List.mem_cons.1 hu with rfl | hu
      · omega
      · exact add_bound hC ht (fun v hv => h v (by simp [hv])) hB u hu
    · split at hu
      · rcases List.mem_append.1 hu with hu | hu
        · rw [(nz_mem hu).1]; show -(B + C) ≤ t.c + x.c ∧ t.c + x.c ≤ B + C; omega
        · have := h u (by simp [hu]); omega
      · rcases List.mem_append.1 hu with hu | hu
        · rw [(nz_mem hu).1]; omega
        · have := h u hu; omega
theorem add_len (t : Tm) : ∀ ts : List Tm, (addT ts t).length ≤ ts.length + 1
  | [] => by rw [addT]; unfold nz; split <;> simp
  | x :: r => by
    have h0 : ∀ y : Tm, (nz y).length ≤ 1 := fun y => by unfold nz; split <;> simp
    rw [addT]
    split
    · have := add_len t r; simp only [List.length_cons]; omega
    · split
      · have := h0 ⟨t.c + x.c, t.s⟩; simp only [List.length_append, List.length_cons]; omega
      · have := h0 t; simp only [List.length_append, List.length_cons]; omega
theorem add_small {t : Tm} {ts : List Tm} {M : Nat} (ht : t.s.size ≤ M) (h : ∀ u ∈ ts, u.s.size ≤ M) : ∀ u ∈ addT ts t, u.s.size ≤ M := fun u hu => by
  rcases add_words hu with e | ⟨v, hv, e⟩
  · rw [e]; exact ht
  · rw [← e]; exact h v hv

/-- A list that grows term by term. -/
structure Acc (base : Nat) (w : World) (v : Value) (acc : List Tm) (N : Nat) (B : Int) : Prop where
  own : OwnTerms base w v acc
  len : acc.length ≤ N
  bnd : ∀ u ∈ acc, -B ≤ u.c ∧ u.c ≤ B
  sml : ∀ u ∈ acc, u.s.size ≤ 60
theorem Acc.below {base : Nat} {w w' : World} {v : Value} {acc : List Tm} {N : Nat} {B : Int} (h : Acc base w v acc N B) (hb : Below w.heap.size w w') : Acc base w' v acc N B := ⟨h.own.below hb, h.len, h.bnd, h.sml⟩
theorem Acc.small {base : Nat} {w : World} {v : Value} {acc : List Tm} {N : Nat} {B : Int} (h : Acc base w v acc N B) (hN : N ≤ 200000) (hB : B ≤ 4000000000000000000) : SmallT acc :=
  ⟨by have := h.len; unfold maxLen; omega, fun u hu => by
    have h1 := h.bnd u hu
    have h2 := h.sml u hu
    unfold maxLen
    omega⟩

/-- The model's step: one term more. -/
theorem step_any (base : Nat) (v : Value) (acc : List Tm) (N : Nat) (B C : Int) (c : Int) (s : ByteArray) (w : World) (h : Acc base w v acc N B) (hN : N ≤ 200000) (hB : 0 ≤ B) (hC : 0 ≤ C) (hBC : B + C ≤ 4000000000000000000)
    (hc : -C ≤ c ∧ c ≤ C) (hs : s.size ≤ 60) (hbase : base ≤ w.heap.size) :
    Calls Try.prog 60 #[v, .int .i64 c, .string s] w fun e w' => (∃ v', e = .returned v' ∧ Acc base w' v' (addT acc ⟨c, s⟩) (N + 1) (B + C)) ∧ Below w.heap.size w w' := by
  obtain ⟨g, cap, rfl, h1, h2, h3, h4⟩ := h.own.form
  refine (l2Add_any g cap acc.length acc c s w rfl (by have := h.len; omega) h1 h2 h3 (by omega) (by omega) (fun t ht => by have := h.bnd t ht; omega)).mono ?_
  rintro e w' ⟨⟨v', rfl, ho⟩, hb⟩
  exact ⟨⟨v', rfl, ho.mono hbase, by have := add_len ⟨c, s⟩ acc; have := h.len; omega, add_bound hC hc h.bnd hB, add_small hs h.sml⟩, hb⟩

/-- What a function of the model hands back: a list and true, or an empty one and false. -/
def STold (w : World) (b : Bool) (us : List Tm) (e : Ending) (w' : World) : Prop := (∃ v', e = .returned (.tuple #[v', .bool b]) ∧ OwnTerms w.heap.size w' v' (cond b us [])) ∧ Below w.heap.size w w'

theorem sDone_any (base : Nat) (v : Value) (ts : List Tm) (b : Bool) (w : World) (h : OwnTerms base w v ts) (hs : SmallT ts) (hbase : base ≤ w.heap.size) (hb : sumB ts = b) :
    Calls Try.prog 61 #[v] w fun e w' => (∃ v', e = .returned (.tuple #[v', .bool b]) ∧ OwnTerms base w' v' (cond b ts [])) ∧ Below w.heap.size w w' := by
  obtain ⟨g, cap, rfl, h1, h2, h3, h4⟩ := h.form
  have HI : Hid (IsTerms w (some ⟨g, 0, none⟩) ts.length ts) := Lib.hid ⟨rfl, hs.1, fun _ => ⟨_, rfl, h1⟩, hs.2⟩
  obtain ⟨n, hn⟩ : ∃ n, ts.length = n := ⟨_, rfl⟩
  have HH := Lib.hid h
  rw [hn] at HI HH ⊢
  have HB := Lib.hid hb
  have HN := Lib.hid hn
  clear h h1 h2 h3 hs hb hn
  cases b with
  | true =>
    go_enter Try.func61, Try.ntmps61
    go_wp2_with fail
    refine (sSumIn_any _ cap n ts _ HI.out).mono ?_
    rintro e w' ⟨rfl, hb⟩
    have hbb := HB.out
    rw [hbb]
    clear hbb
    go_wp2
    go_ret2
    exact ⟨⟨_, rfl, HH.out.below hb⟩, hb⟩
  | false =>
    go_enter Try.func61, Try.ntmps61
    go_wp2_with fail
    refine (sSumIn_any _ cap n ts _ HI.out).mono ?_
    rintro e w' ⟨rfl, hb⟩
    have hbb := HB.out
    rw [hbb]
    clear hbb
    go_wp2
    go_ret2
    exact ⟨⟨_, rfl, (ownEmpty w').mono (Nat.le_trans hbase hb.size)⟩, hb.trans (((Below.refl _ _).alloc (Nat.le_refl _) _).mono hb.size)⟩

end Go.Proofs.Ytidmlppbmcphbaa

/- The contract of the model's 'SumOf'. -/

namespace Go.Proofs.Ytidmlppbmcphbaa
open Go.RowKit Go.Shelf

theorem acc_zero (w : World) : Acc w.heap.size (w.alloc (.cells #[] TI)) (.slice (some ⟨w.heap.size, 0, none⟩) 0 0) [] 0 0 := ⟨ownEmpty w, Nat.le_refl _, fun u h => (by cases h), fun u h => (by cases h)⟩
theorem termB_iff {t : Tm} (h : termB t = true) : t.s.size ≤ 60 ∧ -1000000 ≤ t.c ∧ t.c ≤ 1000000 := by
  unfold termB inR at h
  simp only [Bool.and_eq_true, decide_eq_true_eq] at h
  exact ⟨by have := ((wordB_iff _).1 h.1).1; simpa using this, h.2⟩
theorem fold_succ (ts : List Tm) (k : Nat) (h : k < ts.length) : (ts.take (k + 1)).foldl addT [] = addT ((ts.take k).foldl addT []) ts[k] := by
  rw [List.take_succ_eq_append_getElem h, List.foldl_append]; rfl

/-- What SumOf answers. -/
def ofB (ts : List Tm) : Bool := twB ts && sumB (canonT ts)

set_option maxRecDepth 100000 in
set_option maxHeartbeats 4000000 in
theorem sSumOf_any (a : Option Addr) (cap n : Nat) (ts : List Tm) (b : Bool) (w : World) (hs : IsTerms w a n ts) (hb : ofB ts = b) :
    Calls Try.prog 20 #[.slice a n cap] w (STold w b (canonT ts)) := by
  have hm := hs.max
  have HN := Lib.hid hs.len
  have HS := Lib.hid hs
  have HB := Lib.hid hb
  have hmx : Try.prog.follows .mixedOrders = true := by kernel_rfl
  clear hs hb
  unfold maxLen at hm
  go_enter Try.func20, Try.ntmps20
  go_wp2
  go_loopw [4, 5] (fun v i wr => ∃ k : Nat, k ≤ n ∧ i = .int .i64 k ∧ Hid ((∀ j (h : j < ts.length), j < k → termB ts[j] = true) ∧ (0 < k → n ≤ 300) ∧ Acc w.heap.size wr v ((ts.take k).foldl addT []) k (1000000 * k)) ∧ Below w.heap.size w wr) (fun _ i _ => n - (intOf i).toNat)
  case atStart => exact ⟨0, Nat.zero_le _, rfl, Lib.hid ⟨fun j _ h => absurd h (Nat.not_lt_zero _), fun h => absurd h (Nat.lt_irrefl _), acc_zero w⟩, (Below.refl _ _).alloc (Nat.le_refl _) _⟩
  case round =>
    obtain ⟨k, hk, rfl, HA, hB⟩ := hrel
    by_cases hlt : k < n
    · have hkz : k < ts.length := by rw [HN.out]; exact hlt
      obtain ⟨x, rfl, hx⟩ := HS.out.at_ (by omega)
      obtain ⟨t, ht⟩ : ∃ t, ts[k] = t := ⟨_, rfl⟩
      have hsm : t.s.size ≤ maxLen := by rw [← ht]; exact (HS.out.small _ (List.getElem_mem hkz)).1
      have hxw := hx.below hB
      have hc := hxw.2 k hkz
      have hbx := hxw.1
      rw [ht, addr_next] at hc
      obtain ⟨c0, c1⟩ := hc
      have HT := Lib.hid ht
      clear ht hx hxw
      cases hc : inR (-1000000) 1000000 t.c with
      | false =>
        have HC := Lib.hid hc
        clear hc
        go_wp2_with fail
        refine (l6In_is _ _ _ false _ HC.out).mono ?_
        rintro e w2 ⟨rfl, hb2⟩
        go_wp2
        go_ret2
        have hbf : b = false := by rw [← HB.out]; unfold ofB; rw [twB_at hkz (by rw [HT.out]; unfold termB; rw [HC.out, Bool.and_false])]; rfl
        subst hbf
        have hB2 : Below w.heap.size w w2 := hB.trans (hb2.mono hB.size)
        exact ⟨⟨_, rfl, (ownEmpty w2).mono hB2.size⟩, hB2.alloc hB2.size _⟩
      | true =>
        have HC := Lib.hid hc
        clear hc
        cases hw : wordB t.s.data.toList with
        | false =>
          have HW := Lib.hid hw
          clear hw
          go_wp2_with fail
          refine (l6In_is _ _ _ true _ HC.out).mono ?_
          rintro e w1 ⟨rfl, hb1⟩
          have d1 := (hb1.cell (p := ⟨(x.add (k * 2)).block, (x.add (k * 2)).off + 1, none⟩) (by show (x.add (k * 2)).block < _; rw [addr_add_block]; exact hbx)).trans c1
          go_wp2_with fail
          refine (sWordIn_is _ false _ hsm HW.out).mono ?_
          rintro e w2 ⟨rfl, hb2'⟩
          have hb2 := hb1.trans (hb2'.mono hb1.size)
          go_wp2
          go_ret2
          have hbf : b = false := by rw [← HB.out]; unfold ofB; rw [twB_at hkz (by rw [HT.out]; unfold termB; rw [HW.out]; rfl)]; rfl
          subst hbf
          have hB2 : Below w.heap.size w w2 := hB.trans (hb2.mono hB.size)
          exact ⟨⟨_, rfl, (ownEmpty w2).mono hB2.size⟩, hB2.alloc hB2.size _⟩
        | true =>
          have HW := Lib.hid hw
          clear hw
          by_cases h300 : n ≤ 300
          · have hd3 : decide (300 < n) = false := by simp; omega
            have hbd : -1000000 ≤ t.c ∧ t.c ≤ 1000000 := by have h := HC.out; unfold inR at h; simpa using h
            have hsz : t.s.size ≤ 60 := by have := ((wordB_iff _).1 HW.out).1; simpa using this
            have HBd := Lib.hid hbd
            clear hbd
            go_wp2_with fail
            refine (l6In_is _ _ _ true _ HC.out).mono ?_
            rintro e w1 ⟨rfl, hb1⟩
            have d1 := (hb1.cell (p := ⟨(x.add (k * 2)).block, (x.add (k * 2)).off + 1, none⟩) (by show (x.add (k * 2)).block < _; rw [addr_add_block]; exact hbx)).trans c1
            go_wp2_with fail
            refine (sWordIn_is _ true _ hsm HW.out).mono ?_
            rintro e w2 ⟨rfl, hb2'⟩
            have hb2 := hb1.trans (hb2'.mono hb1.size)
            have hbx2 := Nat.lt_of_lt_of_le hbx hb2.size
            have v0 := (hb2.cell (p := x.add (k * 2)) (by rw [addr_add_block]; exact hbx)).trans c0
            have v1 := (hb2.cell (p := ⟨(x.add (k * 2)).block, (x.add (k * 2)).off + 1, none⟩) (by show (x.add (k * 2)).block < _; rw [addr_add_block]; exact hbx)).trans c1
            have hB2 : Below w.heap.size w w2 := hB.trans (hb2.mono hB.size)
            have HAcc := Lib.hid ((HA.out.2.2).below hb2)
            clear d1 hb1 hb2'
            go_wp2
            go_still_tail 11, hmx
            change wpList _ _ _ _ _ w2.drew
            go_wp2_with fail
            refine (step_any w.heap.size u4 _ k (1000000 * k) 1000000 t.c t.s w2.drew (HAcc.out.below (Below.refl _ _).drew) (by omega) (by omega) (by omega) (by omega) HBd.out hsz hB2.size).mono ?_
            rintro e w3 ⟨⟨v', rfl, ho⟩, hb3⟩
            have hB3 : Below w.heap.size w w3 := hB2.trans (((Below.refl _ _).drew.trans hb3).mono hB2.size)
            have HO := Lib.hid ho
            clear ho hb3
            go_wp2
            go_roundw
            case rel =>
              refine ⟨k + 1, by omega, by go_num, Lib.hid ⟨fun j hj hjk => ?_, fun _ => h300, ?_⟩, hB3⟩
              · by_cases e : j = k
                · subst e; rw [HT.out]; unfold termB; rw [HW.out, HC.out]; rfl
                · exact HA.out.1 j hj (by omega)
              · have h := HO.out
                rw [fold_succ ts k hkz, HT.out]
                rw [show (1000000 : Int) * ((k + 1 : Nat) : Int) = 1000000 * k + 1000000 by omega]
                exact h
            case measure => simp [intOf]; omega
          · have hd3 : decide (300 < n) = true := by simp; omega
            go_wp2_with fail
            refine (l6In_is _ _ _ true _ HC.out).mono ?_
            rintro e w1 ⟨rfl, hb1⟩
            have d1 := (hb1.cell (p := ⟨(x.add (k * 2)).block, (x.add (k * 2)).off + 1, none⟩) (by show (x.add (k * 2)).block < _; rw [addr_add_block]; exact hbx)).trans c1
            go_wp2_with fail
            refine (sWordIn_is _ true _ hsm HW.out).mono ?_
            rintro e w2 ⟨rfl, hb2'⟩
            have hb2 := hb1.trans (hb2'.mono hb1.size)
            go_wp2
            go_ret2
            have hbf : b = false := by rw [← HB.out]; unfold ofB; rw [twB_len (by rw [HN.out]; exact h300)]; rfl
            subst hbf
            have hB2 : Below w.heap.size w w2 := hB.trans (hb2.mono hB.size)
            exact ⟨⟨_, rfl, (ownEmpty w2).mono hB2.size⟩, hB2.alloc hB2.size _⟩
    · obtain rfl : k = n := by omega
      have hall := HA.out.1
      have htw : twB ts = true := by
        by_cases h0 : 0 < k
        · exact twB_of (by rw [HN.out]; exact HA.out.2.1 h0) (fun j hj => hall j hj (by rw [← HN.out]; exact hj))
        · exact twB_of (by rw [HN.out]; omega) (fun j hj => by have := HN.out; omega)
      have h300 : k ≤ 300 := by have h : ts.length ≤ 300 := (by unfold twB at htw; simp only [Bool.and_eq_true, decide_eq_true_eq] at htw; exact htw.1); rw [HN.out] at h; exact h
      have hacc := HA.out.2.2
      rw [List.take_of_length_le (by rw [HN.out]; exact Nat.le_refl _)] at hacc
      have HAcc : Hid (Acc w.heap.size wr u4 (canonT ts) k (1000000 * k)) := Lib.hid hacc
      have hsb : sumB (canonT ts) = b := by rw [← HB.out]; unfold ofB; rw [htw, Bool.true_and]
      have HSb := Lib.hid hsb
      clear hall htw hacc hsb
      go_wp2_with fail
      refine (sDone_any w.heap.size u4 (canonT ts) b wr HAcc.out.own (HAcc.out.small (by omega) (by omega)) hB.size HSb.out).mono ?_
      rintro e w2 ⟨⟨v', rfl, ho⟩, hb2⟩
      have HO := Lib.hid ho
      clear ho
      go_wp2
      go_ret2
      exact ⟨⟨_, rfl, HO.out⟩, hB.trans (hb2.mono hB.size)⟩

end Go.Proofs.Ytidmlppbmcphbaa

/- The contracts of the program's 'sumWords' and 'SumIn'. -/

namespace Go.Proofs.Ytidmlppbmcphbaa
open Go.RowKit Go.Shelf

theorem sumB_eq (ts : List Tm) : sumB ts = (twB ts && !hasZero ts && ascB ts) := by
  have hg : ∀ j (h : j < ts.length), ts.getD j default = ts[j] := fun j h => by rw [List.getD_eq_getElem?_getD, List.getElem?_eq_getElem h]; rfl
  rw [Bool.eq_iff_iff]
  unfold sumB twB hasZero ascB allGood
  simp only [Bool.and_eq_true, List.all_eq_true, List.mem_range, decide_eq_true_eq, Bool.not_eq_true', List.any_eq_false]
  constructor
  · rintro ⟨h1, h2⟩
    refine ⟨⟨⟨h2, fun t ht => ?_⟩, fun t ht => ?_⟩, fun j hj => ?_⟩
    · obtain ⟨j, hj, rfl⟩ := List.getElem_of_mem ht
      have := h1 j hj
      unfold goodAt at this
      simp only [hg j hj, Bool.and_eq_true] at this
      unfold termB
      rw [this.1.2, this.1.1.2]; rfl
    · obtain ⟨j, hj, rfl⟩ := List.getElem_of_mem ht
      have := h1 j hj
      unfold goodAt at this
      simp only [hg j hj, Bool.and_eq_true] at this
      simpa using this.1.1.1
    · have := h1 j hj
      unfold goodAt at this
      simp only [Bool.and_eq_true] at this
      exact this.2
  · rintro ⟨⟨⟨h1, h2⟩, h3⟩, h4⟩
    refine ⟨fun j hj => ?_, h1⟩
    have a2 := h2 _ (List.getElem_mem hj)
    have a3 := h3 _ (List.getElem_mem hj)
    unfold termB at a2
    simp only [Bool.and_eq_true] at a2
    unfold goodAt
    simp only [hg j hj, Bool.and_eq_true]
    exact ⟨⟨⟨by simpa using a3, a2.2⟩, a2.1⟩, by have := h4 j hj; rw [hg j hj] at this; exact this⟩

set_option maxRecDepth 100000 in
set_option maxHeartbeats 2000000 in
theorem sumWords_any (a : Option Addr) (cap n : Nat) (ts : List Tm) (w : World) (hs : IsTerms w a n ts) :
    Calls Try.prog 58 #[.slice a n cap] w fun e w' =>
      ((e = .returned (.tuple #[.slice none 0 0, .bool false]) ∧ sumB ts = false) ∨
       (∃ g vals, e = .returned (.tuple #[.slice (some ⟨g, 0, none⟩) n n, .bool true]) ∧ sumB ts = true ∧ w'.ownsRow w.heap.size WT 1 (.slice (some ⟨g, 0, none⟩) n n) n vals ∧
        ∀ j (h : j < ts.length) v, vals[j]? = some v → WordAt w.heap.size w' v ts[j].s.data.toList)) ∧ Below w.heap.size w w' := by
  have HS := Lib.hid hs
  have HE := Lib.hid (sumB_eq ts)
  clear hs
  cases h1 : twB ts with
  | false =>
    have H1 := Lib.hid h1
    clear h1
    go_enter Try.func58, Try.ntmps58
    go_wp2_with fail
    refine (termWords_any a cap n ts _ HS.out).mono ?_
    rintro e w1 ⟨⟨rfl, _⟩ | ⟨_, _, _, h, _⟩, hb1⟩
    · go_wp2
      go_ret2
      exact ⟨.inl ⟨rfl, by rw [HE.out, H1.out]; rfl⟩, hb1.trans (((Below.refl _ _).alloc (Nat.le_refl _) _).mono hb1.size)⟩
    · rw [H1.out] at h; cases h
  | true =>
    have H1 := Lib.hid h1
    clear h1
    cases h2 : hasZero ts with
    | true =>
      have H2 := Lib.hid h2
      clear h2
      go_enter Try.func58, Try.ntmps58
      go_wp2_with fail
      refine (termWords_any a cap n ts _ HS.out).mono ?_
      rintro e w1 ⟨⟨rfl, h⟩ | ⟨g, vals, rfl, _, hrow, hv⟩, hb1⟩
      · rw [H1.out] at h; cases h
      · have HR := Lib.hid hrow
        have HV := Lib.hid hv
        clear hrow hv
        go_wp2_with fail
        have hb2 : Below w.heap.size w (w1.alloc (.cells #[.slice a n cap, .func (.func 83) #[] #[]] 95)) := hb1.alloc hb1.size _
        have HS2 := Lib.hid (HS.out.below hb2)
        refine (containsZero_is a cap n ts true _ HS2.out H2.out).mono ?_
        rintro e w3 ⟨rfl, hb3⟩
        go_wp2
        go_ret2
        exact ⟨.inl ⟨rfl, by rw [HE.out, H2.out, Bool.not_true, Bool.and_false]; rfl⟩, hb2.trans (hb3.mono hb2.size)⟩
    | false =>
      have H2 := Lib.hid h2
      clear h2
      cases h3 : ascB ts with
      | false =>
        have H3 := Lib.hid h3
        clear h3
        go_enter Try.func58, Try.ntmps58
        go_wp2_with fail
        refine (termWords_any a cap n ts _ HS.out).mono ?_
        rintro e w1 ⟨⟨rfl, h⟩ | ⟨g, vals, rfl, _, hrow, hv⟩, hb1⟩
        · rw [H1.out] at h; cases h
        · have HR := Lib.hid hrow
          have HV := Lib.hid hv
          clear hrow hv
          go_wp2_with fail
          have hb2 : Below w.heap.size w (w1.alloc (.cells #[.slice a n cap, .func (.func 83) #[] #[]] 95)) := hb1.alloc hb1.size _
          have HS2 := Lib.hid (HS.out.below hb2)
          have hn0 : w1.heap.size < (w1.alloc (.cells #[.slice a n cap, .func (.func 83) #[] #[]] 95)).heap.size := by simp
          refine (containsZero_is a cap n ts false _ HS2.out H2.out).mono ?_
          rintro e w3 ⟨rfl, hb3⟩
          have d0 : w3.cell? ⟨w1.heap.size, 0, none⟩ = some (.slice a n cap) := (hb3.cell (p := ⟨w1.heap.size, 0, none⟩) hn0).trans ((World.cell?_alloc_at _ _ _ _ (by simp)).trans rfl)
          have d1 : w3.cell? ⟨w1.heap.size, 1, none⟩ = some (.func (.func 83) #[] #[]) := (hb3.cell (p := ⟨w1.heap.size, 1, none⟩) hn0).trans ((World.cell?_alloc_at _ _ _ _ (by simp)).trans rfl)
          have HS3 := Lib.hid (HS2.out.below hb3)
          have hb3' : Below w.heap.size w w3 := hb2.trans (hb3.mono hb2.size)
          have hlt3 : w1.heap.size < w3.heap.size := Nat.lt_of_lt_of_le hn0 hb3.size
          clear hn0 hb2
          go_wp2_with fail
          refine (ascends_any w1.heap.size a cap n ts _ HS3.out hlt3 d0 d1).mono ?_
          rintro e w4 ⟨rfl, hb4⟩
          have H3' := H3.out
          rw [H3']
          clear H3'
          go_wp2
          go_ret2
          exact ⟨.inl ⟨rfl, by rw [HE.out, H3.out, Bool.and_false]⟩, hb3'.trans (hb4.mono hb3'.size)⟩
      | true =>
        have H3 := Lib.hid h3
        clear h3
        go_enter Try.func58, Try.ntmps58
        go_wp2_with fail
        refine (termWords_any a cap n ts _ HS.out).mono ?_
        rintro e w1 ⟨⟨rfl, h⟩ | ⟨g, vals, rfl, _, hrow, hv⟩, hb1⟩
        · rw [H1.out] at h; cases h
        · have HR := Lib.hid hrow
          have HV := Lib.hid hv
          clear hrow hv
          go_wp2_with fail
          have hb2 : Below w.heap.size w (w1.alloc (.cells #[.slice a n cap, .func (.func 83) #[] #[]] 95)) := hb1.alloc hb1.size _
          have hb12 : Below w1.heap.size w1 (w1.alloc (.cells #[.slice a n cap, .func (.func 83) #[] #[]] 95)) := (Below.refl _ _).alloc (Nat.le_refl _) _
          have HS2 := Lib.hid (HS.out.below hb2)
          have hn0 : w1.heap.size < (w1.alloc (.cells #[.slice a n cap, .func (.func 83) #[] #[]] 95)).heap.size := by simp
          refine (containsZero_is a cap n ts false _ HS2.out H2.out).mono ?_
          rintro e w3 ⟨rfl, hb3⟩
          have d0 : w3.cell? ⟨w1.heap.size, 0, none⟩ = some (.slice a n cap) := (hb3.cell (p := ⟨w1.heap.size, 0, none⟩) hn0).trans ((World.cell?_alloc_at _ _ _ _ (by simp)).trans rfl)
          have d1 : w3.cell? ⟨w1.heap.size, 1, none⟩ = some (.func (.func 83) #[] #[]) := (hb3.cell (p := ⟨w1.heap.size, 1, none⟩) hn0).trans ((World.cell?_alloc_at _ _ _ _ (by simp)).trans rfl)
          have HS3 := Lib.hid (HS2.out.below hb3)
          have hb3' : Below w.heap.size w w3 := hb2.trans (hb3.mono hb2.size)
          have hb13 : Below w1.heap.size w1 w3 := hb12.trans (hb3.mono hb12.size)
          have hlt3 : w1.heap.size < w3.heap.size := Nat.lt_of_lt_of_le hn0 hb3.size
          clear hn0 hb2 hb12
          go_wp2_with fail
          refine (ascends_any w1.heap.size a cap n ts _ HS3.out hlt3 d0 d1).mono ?_
          rintro e w4 ⟨rfl, hb4⟩
          have H3' := H3.out
          rw [H3']
          clear H3'
          have hb14 := Lib.hid (hb13.trans (hb4.mono hb13.size))
          go_wp2
          go_ret2
          refine ⟨.inr ⟨g, vals, rfl, by rw [HE.out, H1.out, H2.out, H3.out]; rfl, ?_, fun j hj v hv => (HV.out j hj v hv).below hb14.out⟩, hb3'.trans (hb4.mono hb3'.size)⟩
          exact HR.out.kept ⟨hb14.out.os, hb14.out.tape, hb14.out.output, hb14.out.size, fun j hj _ => hb14.out.block j hj⟩ (row := none) (.inr (by simp [Value.ownBlock]))

theorem iSumIn_any (a : Option Addr) (cap n : Nat) (ts : List Tm) (w : World) (hs : IsTerms w a n ts) :
    Calls Try.prog 18 #[.slice a n cap] w fun e w' => e = .returned (.bool (sumB ts)) ∧ Below w.heap.size w w' := by
  have HS := Lib.hid hs
  clear hs
  go_enter Try.func18, Try.ntmps18
  go_wp2_with fail
  refine (sumWords_any a cap n ts _ HS.out).mono ?_
  rintro e w1 ⟨⟨rfl, h⟩ | ⟨g, vals, rfl, h, _, _⟩, hb1⟩
  · have H := Lib.hid h
    clear h
    go_wp2
    go_ret
    exact ⟨ret_bool H.out.symm, hb1⟩
  · have H := Lib.hid h
    clear h
    go_wp2
    go_ret
    exact ⟨ret_bool H.out.symm, hb1⟩

end Go.Proofs.Ytidmlppbmcphbaa

/- Canonical lists of terms are sums where their terms are as told. -/

namespace Go.Proofs.Ytidmlppbmcphbaa
open Go.RowKit Go.Shelf

theorem canon_of (ts : List Tm) : Canon (canonT ts) := (canon_foldl ts [] ⟨List.Pairwise.nil, fun t h => by cases h⟩).1
theorem hasZero_canon {ts : List Tm} (h : Canon ts) : hasZero ts = false := by
  unfold hasZero
  refine List.any_eq_false.2 fun t ht => ?_
  simpa using h.2 t ht
theorem ascB_canon {ts : List Tm} (h : Canon ts) : ascB ts = true := by
  refine ascB_true fun k hk hk0 => ?_
  rw [List.getD_eq_getElem?_getD, List.getD_eq_getElem?_getD, List.getElem?_eq_getElem hk, List.getElem?_eq_getElem (by omega : k - 1 < ts.length)]
  exact List.pairwise_iff_getElem.1 h.1 (k - 1) k (by omega) hk (by omega)
theorem sumB_canon {ts : List Tm} (h : Canon ts) : sumB ts = twB ts := by
  rw [sumB_eq, hasZero_canon h, ascB_canon h]
  simp

theorem canon_len_words {ts : List Tm} (h : twB ts = true) : ts.length ≤ 300 ∧ ∀ t ∈ ts, termB t = true := by
  unfold twB at h
  simp only [Bool.and_eq_true, decide_eq_true_eq, List.all_eq_true] at h
  exact h

end Go.Proofs.Ytidmlppbmcphbaa

/- The contract of the model's 'SumAdd'; sums as canonical lists. -/

namespace Go.Proofs.Ytidmlppbmcphbaa
open Go.RowKit Go.Shelf

theorem sSumIn_is (a : Option Addr) (cap n : Nat) (ts : List Tm) (b : Bool) (w : World) (hs : IsTerms w a n ts) (hb : sumB ts = b) :
    Calls Try.prog 16 #[.slice a n cap] w fun e w' => e = .returned (.bool b) ∧ Below w.heap.size w w' := by
  subst hb; exact sSumIn_any a cap n ts w hs
theorem iSumIn_is (a : Option Addr) (cap n : Nat) (ts : List Tm) (b : Bool) (w : World) (hs : IsTerms w a n ts) (hb : sumB ts = b) :
    Calls Try.prog 18 #[.slice a n cap] w fun e w' => e = .returned (.bool b) ∧ Below w.heap.size w w' := by
  subst hb; exact iSumIn_any a cap n ts w hs

theorem pairwise_lessW {ts : List Tm} (h : ∀ k, k < ts.length → 0 < k → lessW (ts.getD (k - 1) default).s (ts.getD k default).s = true) : ts.Pairwise (fun a b => lessW a.s b.s = true) := by
  rw [List.pairwise_iff_getElem]
  have key : ∀ d i (hi : i < ts.length) (hj : i + (d + 1) < ts.length), lessW ts[i].s ts[i + (d + 1)].s = true := by
    intro d
    induction d with
    | zero =>
      intro i hi hj
      have := h (i + 1) hj (by omega)
      rw [show i + 1 - 1 = i by omega, List.getD_eq_getElem?_getD, List.getD_eq_getElem?_getD, List.getElem?_eq_getElem hj, List.getElem?_eq_getElem hi] at this
      exact this
    | succ d ih =>
      intro i hi hj
      have h1 := ih i hi (by omega)
      have h2 := h (i + (d + 1) + 1) hj (by omega)
      rw [show i + (d + 1) + 1 - 1 = i + (d + 1) by omega, List.getD_eq_getElem?_getD, List.getD_eq_getElem?_getD, List.getElem?_eq_getElem (by omega : i + (d + 1) < ts.length), List.getElem?_eq_getElem (by omega : i + (d + 1) + 1 < ts.length)] at h2
      exact lessW_trans h1 h2
  intro i j hi hj hij
  obtain ⟨d, rfl⟩ : ∃ d, j = i + (d + 1) := ⟨j - i - 1, by omega⟩
  exact key d i hi hj
theorem sumB_parts {ts : List Tm} (h : sumB ts = true) : twB ts = true ∧ Canon ts := by
  rw [sumB_eq] at h
  simp only [Bool.and_eq_true, Bool.not_eq_true'] at h
  obtain ⟨⟨h1, h2⟩, h3⟩ := h
  refine ⟨h1, pairwise_lessW fun k hk hk0 => ?_, fun t ht => ?_⟩
  · unfold ascB at h3
    have := List.all_eq_true.1 h3 k (List.mem_range.2 hk)
    simp only [Bool.or_eq_true, decide_eq_true_eq] at this
    rcases this with h | h
    · omega
    · exact h
  · unfold hasZero at h2
    have := List.any_eq_false.1 h2 t ht
    simpa using this
theorem canonT_of_canon {ts : List Tm} (h : Canon ts) : canonT ts = ts := (canonT_unique h fun _ => rfl).symm
theorem canonT_append {x : List Tm} (y : List Tm) (h : Canon x) : canonT (x ++ y) = y.foldl addT x := by
  have h2 := canonT_of_canon h
  unfold canonT at h2 ⊢
  rw [List.foldl_append, h2]
theorem fold_succ2 (x ts : List Tm) (k : Nat) (h : k < ts.length) : (ts.take (k + 1)).foldl addT x = addT ((ts.take k).foldl addT x) ts[k] := by
  rw [List.take_succ_eq_append_getElem h, List.foldl_append]; rfl

/-- What SumAdd answers. -/
def addB (x y : List Tm) : Bool := sumB x && (sumB y && twB (canonT (x ++ y)))

set_option maxRecDepth 100000 in
set_option maxHeartbeats 4000000 in
theorem sSumAdd_no (a1 a2 : Option Addr) (c1 c2 n m : Nat) (x y : List Tm) (w : World) (hx : IsTerms w a1 n x) (hy : IsTerms w a2 m y) (hb : sumB x = false ∨ sumB y = false) :
    Calls Try.prog 24 #[.slice a1 n c1, .slice a2 m c2] w (STold w false []) := by
  have HX := Lib.hid hx
  have HY := Lib.hid hy
  clear hx hy
  cases hbx : sumB x with
  | false =>
    have HBX := Lib.hid hbx
    clear hbx hb
    go_enter Try.func24, Try.ntmps24
    go_wp2_with fail
    refine (sSumIn_is a1 c1 n x false _ HX.out HBX.out).mono ?_
    rintro e w1 ⟨rfl, hb1⟩
    have HB1 := Lib.hid hb1
    clear hb1
    go_wp2
    go_ret2
    exact ⟨⟨_, rfl, (ownEmpty w1).mono HB1.out.size⟩, HB1.out.alloc HB1.out.size _⟩
  | true =>
    have hby : sumB y = false := by rcases hb with h | h; · rw [h] at hbx; cases hbx
                                    · exact h
    have HBX := Lib.hid hbx
    have HBY := Lib.hid hby
    clear hbx hby hb
    go_enter Try.func24, Try.ntmps24
    go_wp2_with fail
    refine (sSumIn_is a1 c1 n x true _ HX.out HBX.out).mono ?_
    rintro e w1 ⟨rfl, hb1⟩
    have HB1 := Lib.hid hb1
    clear hb1
    go_wp2_with fail
    refine (sSumIn_is a2 c2 m y false _ (HY.out.below HB1.out) HBY.out).mono ?_
    rintro e w2 ⟨rfl, hb2⟩
    have HB2 := Lib.hid (HB1.out.trans (hb2.mono HB1.out.size))
    clear hb2
    go_wp2
    go_ret2
    exact ⟨⟨_, rfl, (ownEmpty w2).mono HB2.out.size⟩, HB2.out.alloc HB2.out.size _⟩

theorem acc_start {base : Nat} {w : World} {v : Value} {x : List Tm} (h : OwnTerms base w v x) (ht : twB x = true) : Acc base w v x 300 1000000 := by
  obtain ⟨h1, h2⟩ := canon_len_words ht
  exact ⟨h, h1, fun u hu => by have := (termB_iff (h2 u hu)).2; omega, fun u hu => (termB_iff (h2 u hu)).1⟩

theorem isTerms_cells {w : World} {ad : Addr} {n : Nat} {x : List Tm} (h : IsTerms w (some ad) n x) : ∀ j u, (termsV x)[j]? = some u → w.cell? (ad.add j) = some u := by
  intro j u hu
  rcases Nat.eq_zero_or_pos n with h0 | h0
  · have : x = [] := List.length_eq_zero_iff.1 (h.len.trans h0)
    subst this
    simp [termsV] at hu
  · obtain ⟨z, e, h2⟩ := h.at_ h0
    cases e
    exact h2.cells j u hu

set_option maxRecDepth 100000 in
set_option maxHeartbeats 4000000 in
theorem sSumAdd_yes (ad1 : Addr) (a2 : Option Addr) (c1 c2 n m : Nat) (x y : List Tm) (b : Bool) (w : World) (hx : IsTerms w (some ad1) n x) (hy : IsTerms w a2 m y) (hbx : sumB x = true) (hby : sumB y = true) (hb : twB (canonT (x ++ y)) = b) :
    Calls Try.prog 24 #[.slice (some ad1) n c1, .slice a2 m c2] w (STold w b (canonT (x ++ y))) := by
  obtain ⟨i0, hi, hz0, hz1, hz2⟩ := info_parts infoTerm
  obtain ⟨htx, hcx⟩ := sumB_parts hbx
  obtain ⟨hty, hcy⟩ := sumB_parts hby
  obtain ⟨hlx, hwx⟩ := canon_len_words htx
  obtain ⟨hly, hwy⟩ := canon_len_words hty
  have hn : n ≤ 300 := by rw [← hx.len]; exact hlx
  have hm : m ≤ 300 := by rw [← hy.len]; exact hly
  have HX := Lib.hid hx
  have HY := Lib.hid hy
  have HBX := Lib.hid hbx
  have HBY := Lib.hid hby
  have HTX := Lib.hid htx
  have HCX := Lib.hid hcx
  have HWY := Lib.hid hwy
  have HBB := Lib.hid hb
  have hmx : Try.prog.follows .mixedOrders = true := by kernel_rfl
  clear hx hy hbx hby htx hcx hty hcy hlx hwx hly hwy hb
  go_enter Try.func24, Try.ntmps24
  go_wp2_with fail
  refine (sSumIn_is (some ad1) c1 n x true _ HX.out HBX.out).mono ?_
  rintro e w1 ⟨rfl, hb1⟩
  have HB1 := Lib.hid hb1
  clear hb1
  go_wp2_with fail
  refine (sSumIn_is a2 c2 m y true _ (HY.out.below HB1.out) HBY.out).mono ?_
  rintro e w2 ⟨rfl, hb2⟩
  have HB2 := Lib.hid (HB1.out.trans (hb2.mono HB1.out.size))
  clear hb2
  have hmade := World.ownsRow_made (base := w2.heap.size) (e := TI) (size := 2) w2 #[] 0 (Nat.le_refl _) (Nat.zero_le _) rfl
  have hba : Below w2.heap.size w2 (w2.alloc (.cells #[] TI)) := (Below.refl _ _).alloc (Nat.le_refl _) _
  have HBA := Lib.hid hba
  have HXC := Lib.hid (isTerms_cells ((HX.out.below HB2.out).below hba))
  have HLX : Hid ((termsV x).length = n * 2) := Lib.hid (by rw [termsV_len, HX.out.len])
  clear hba
  go_wp2_with (at_builtin; refine wpList_append_own _ rfl _ _ 25 rfl w2.heap.size TI i0 (.agg #[.int .i64 0, .string ByteArray.empty]) 2 24 Try.underlying25 hi hz0 hz1 hz2 rfl (by decide) _ _ _ rfl hmade ad1 n c1 (termsV x) rfl HLX.out HXC.out (oneCell_terms _) (by unfold maxLen; omega) (by omega) (by simp) ?_)
  intro v1 w3 hown1 hgrow1 hnil1
  obtain ⟨g1, cap1, hg1, rfl⟩ := notNil hown1 hnil1
  have hown2 : OwnTerms w2.heap.size w3 (.slice (some ⟨g1, 0, none⟩) n cap1) x := by
    have hl := HX.out.len
    subst hl
    exact ⟨g1, cap1, rfl, hown1⟩
  have hb3 : Below w2.heap.size w2 w3 := HBA.out.grown hgrow1 (by simp) (fun k e => by simp [Value.ownBlock] at e; omega)
  have HO := Lib.hid (acc_start (hown2.mono HB2.out.size) HTX.out)
  have HB3 := Lib.hid (HB2.out.trans (hb3.mono HB2.out.size))
  clear hown1 hgrow1 hnil1 hown2 hb3 hmade
  go_wp2_with fail
  go_loopw [6, 7] (fun v i wr => ∃ k : Nat, k ≤ m ∧ i = .int .i64 k ∧ Hid (Acc w.heap.size wr v ((y.take k).foldl addT x) (300 + k) (1000000 + 1000000 * k)) ∧ Below w.heap.size w wr) (fun _ i _ => m - (intOf i).toNat)
  case atStart => exact ⟨0, Nat.zero_le _, rfl, Lib.hid (by simpa using HO.out), HB3.out⟩
  case round =>
    obtain ⟨k, hk, rfl, HA, hB⟩ := hrel
    by_cases hlt : k < m
    · have hky : k < y.length := by rw [HY.out.len]; exact hlt
      obtain ⟨z, rfl, hz⟩ := HY.out.at_ (by omega)
      obtain ⟨t, ht⟩ : ∃ t, y[k] = t := ⟨_, rfl⟩
      have hzw := hz.below hB
      have hc := hzw.2 k hky
      have hbz := hzw.1
      rw [ht, addr_next] at hc
      obtain ⟨c0, d1⟩ := hc
      have htb := termB_iff (HWY.out _ (List.getElem_mem hky))
      rw [ht] at htb
      have HT := Lib.hid ht
      have HTB := Lib.hid htb
      have HAcc := HA
      clear ht hz hzw htb
      go_wp2
      go_still_tail 11, hmx
      change wpList _ _ _ _ _ wr.drew
      go_wp2_with fail
      refine (step_any w.heap.size u6 _ (300 + k) (1000000 + 1000000 * k) 1000000 t.c t.s wr.drew (HAcc.out.below (Below.refl _ _).drew) (by omega) (by omega) (by omega) (by omega) HTB.out.2 HTB.out.1 hB.size).mono ?_
      rintro e w4 ⟨⟨v', rfl, ho⟩, hb4⟩
      have hB4 : Below w.heap.size w w4 := hB.trans (((Below.refl _ _).drew.trans hb4).mono hB.size)
      have HO := Lib.hid ho
      clear ho hb4
      go_wp2
      go_roundw
      case rel =>
        refine ⟨k + 1, by omega, by go_num, Lib.hid ?_, hB4⟩
        have h := HO.out
        rw [fold_succ2 x y k hky, HT.out]
        rw [show (1000000 : Int) + 1000000 * ((k + 1 : Nat) : Int) = 1000000 + 1000000 * k + 1000000 by omega]
        exact h
      case measure => simp [intOf]; omega
    · obtain rfl : k = m := by omega
      have hacc := HA.out
      rw [List.take_of_length_le (by rw [HY.out.len]; exact Nat.le_refl _), ← canonT_append y HCX.out] at hacc
      have HAcc := Lib.hid hacc
      have HSb : Hid (sumB (canonT (x ++ y)) = b) := Lib.hid (by rw [sumB_canon (canon_of _)]; exact HBB.out)
      clear hacc
      go_wp2_with fail
      refine (sDone_any w.heap.size u6 (canonT (x ++ y)) b wr HAcc.out.own (HAcc.out.small (by omega) (by omega)) hB.size HSb.out).mono ?_
      rintro e w2 ⟨⟨v', rfl, ho⟩, hb2⟩
      have HO := Lib.hid ho
      clear ho
      go_wp2
      go_ret2
      exact ⟨⟨_, rfl, HO.out⟩, hB.trans (hb2.mono hB.size)⟩

end Go.Proofs.Ytidmlppbmcphbaa

/- A drawn region whose head makes memory but has fixed values, and whose tail comes in one order only. -/

namespace Go.Proofs.Ytidmlppbmcphbaa
open Go.RowKit

section
variable {P : Program} {ops : Array Oper} {md : Region.Mode} {C : World → Prop}

/-- The head in whatever order, up to the place where L holds. -/
def headQ (P : Program) (md : Region.Mode) (ops : Array Oper) (C : World → Prop) (n : Nat) (L : Array Bool → Act → Prop) : Nat → Array Bool → Act → Prop
  | 0, listed, a => L listed a
  | f + 1, listed, a => Region.ready md ops listed ≠ [] ∧ ∀ i ∈ Region.ready md ops listed, i < n ∧ qOp P ops C i (headQ P md ops C n L f (listed.setIfInBounds i true)) a

theorem wpAny_headQ {n g : Nat} {L : Array Bool → Act → Prop} {Q' : Exit → Act → World → Prop} (hL : ∀ listed a w, C w → L listed a → wpAny P md ops Q' g listed a w) :
    ∀ (f : Nat) (listed : Array Bool) (a : Act) (w : World), C w → headQ P md ops C n L f listed a → wpAny P md ops Q' (f + g) listed a w
  | 0, _, _, _, hw, h => by rw [Nat.zero_add]; exact hL _ _ _ hw h
  | f + 1, listed, a, w, hw, h => by
    rw [Nat.succ_add]
    exact ⟨fun h0 => absurd h0 h.1, fun i hi => wpOp_of_qOp hw (fun a' w' hw' h' => wpAny_headQ hL f _ a' w' hw' h') (h.2 i hi).2⟩

theorem headQ_first {n i : Nat} {oi : Oper} {v : Value} {L : Array Bool → Act → Prop} (hi : ops[i]? = some oi) (hsel : ∀ (j : Nat) (o : Oper) cs b, ops[j]? = some o → o.op ≠ .select cs b)
    (hs : Region.sinkB md ops n = true) (hc : Region.chainB md ops n = true) (hn : n < ops.size) (hin : i < n) (hdone : ∀ listed a, L listed a → ∀ j ∈ Region.ready md ops listed, n ≤ j) :
    ∀ (f : Nat) (listed : Array Bool) (a : Act), HeadInv md ops n listed →
      (∀ j oj, ops[j]? = some oj → j ≠ i → listed.getD j true = false → (∀ e ∈ oj.after, Region.binds md e = true → e.on ≠ i) → oi.apart ops oj = true) →
      i ∈ Region.ready md ops listed → YieldsIn P ops C oi v a →
      headQ P md ops C n L f (listed.setIfInBounds i true) (a.put oi.dst v) → headQ P md ops C n L (f + 1) listed a := by
  intro f
  induction f with
  | zero =>
    intro listed a inv _ hr hy H
    refine ⟨fun h => (by rw [h] at hr; cases hr), fun j hj => ?_⟩
    have hjn : j < n := Nat.lt_of_not_le fun h => tail_waits hs hc hn inv _ i rfl hin (mem_ready.1 hr).1 j h hj
    refine ⟨hjn, ?_⟩
    by_cases hji : j = i
    · subst hji; exact hy.qOp hi H
    · exact absurd (hdone _ _ H j (ready_mono hj hji)) (by omega)
  | succ f ih =>
    intro listed a inv hfree hr hy H
    have hun := (mem_ready.1 hr).1
    refine ⟨fun h => (by rw [h] at hr; cases hr), fun j hj => ?_⟩
    have hjn : j < n := Nat.lt_of_not_le fun h => tail_waits hs hc hn inv _ i rfl hin hun j h hj
    refine ⟨hjn, ?_⟩
    by_cases hji : j = i
    · subst hji; exact hy.qOp hi H
    · obtain ⟨hjun, oj, hoj, hall⟩ := mem_ready.1 hj
      have hnot : ∀ e ∈ oj.after, Region.binds md e = true → e.on ≠ i := fun e he hb heq => by
        have h1 := hall e he hb
        rw [heq, getD_both hun] at h1
        cases h1
      have h2 := qOp_put hoj (hfree j oj hoj hji hjun hnot) (fun cs b => hsel i oi cs b hi) (fun cs b => hsel j oj cs b hoj) hy (H.2 j (ready_mono hj hji)).2
      refine qOp_mono (fun a' h3 => ih _ a' (inv.set hj hjn) (fun k ok hk hki hu hno => hfree k ok hk hki ?_ hno) (ready_mono hr (Ne.symm hji)) h3.1 ?_) h2
      · by_cases hjk : j = k
        · subst hjk; exact hjun
        · rw [getD_set_ne true hjk] at hu; exact hu
      · rw [Array.setIfInBounds_comm _ _ hji]
        exact h3.2

theorem headQ_lex {n g : Nat} {Lq : Act → Prop} (hsel : Region.noSelect ops = true) (hs : Region.sinkB md ops n = true) (hc : Region.chainB md ops n = true) (hn : n < ops.size) :
    ∀ (l : List Oper) (k : Nat) (listed : Array Bool) (a : Act), (∀ j, j < l.length → l[j]? = ops[k + j]?) → k + l.length = n → HeadInv md ops n listed →
    Region.lexHead md ops g l.length k listed = true → wpQuiet P ops C Lq l a → headQ P md ops C n (fun listed' a' => Region.seqB md ops g n listed' = true ∧ Lq a') l.length listed a
  | [], k, listed, a, _, hk, _, hB, h => by
    obtain rfl : k = n := by simpa using hk
    exact ⟨by simpa [Region.lexHead] using hB, h⟩
  | o :: l, k, listed, a, hl, hk, inv, hB, h => by
    have h0 : ops[k]? = some o := by simpa using (hl 0 (by simp)).symm
    simp only [List.length_cons, Region.lexHead, Bool.and_eq_true] at hB
    have hkn : k < n := by simp only [List.length_cons] at hk; omega
    have hr' : k ∈ Region.ready md ops listed := by simpa using hB.1.1
    have hst : qOp P ops C k (wpQuiet P ops C Lq l) a := by unfold qOp; simp only [h0]; exact h
    obtain ⟨v, hy, hK⟩ := yieldsIn_of_qOp h0 hst
    exact headQ_first h0 (Region.noSelect_spec hsel) hs hc hn hkn (fun listed' a' hL => seqB_ready hL.1) l.length listed a inv (Region.free_spec h0 hB.1.2) hr' hy
      (headQ_lex hsel hs hc hn l (k + 1) _ _ (fun j hj => by have := hl (j + 1) (by simp; omega); simpa [Nat.add_assoc, Nat.add_comm 1 j] using this) (by simp only [List.length_cons] at hk; omega) (inv.set hr' hkn) hB.2 hK)

/-- The head walked once, in every world of the class; then the tail. -/
theorem wp_region_quiet_tail {id : Nat} {Q : Exit → Act → World → Prop} {a : Act} {w : World} {l : List Oper} (n : Nat) (hm : P.follows .mixedOrders = true) (hB : Region.lexTailB .any l.toArray n = true) (hC : C { w with drawn := w.drawn + 1 })
    (h : wpQuiet P l.toArray C (fun a' => ∀ w', C w' → wpList P l.toArray Q (l.drop n) a' w') (l.take n) a) : (Code.region id l.toArray true).wp P Q a w := by
  simp only [Region.lexTailB, Bool.and_eq_true, decide_eq_true_eq] at hB
  obtain ⟨⟨⟨⟨hsel, hn⟩, hs⟩, hc⟩, hlex⟩ := hB
  have hn' : n < l.length := by simpa using hn
  have htl : (l.take n).length = n := by simp; omega
  have hdl : (l.drop n).length = l.toArray.size - n := by simp
  have inv0 : HeadInv .any l.toArray n (Array.replicate l.toArray.size false) :=
    ⟨by simp, fun j oj _ hl => (by rw [getD_replicate_false] at hl; cases hl), fun t _ ht => getD_in (by simpa using ht) (getD_replicate_false _ _)⟩
  have H := headQ_lex (md := .any) (g := l.toArray.size - n) hsel hs hc hn (l.take n) 0 _ a (fun j hj => by
    have hj' : j < n := by rw [htl] at hj; exact hj
    simp [hj']) (by simpa using htl) inv0 (by rw [htl]; exact hlex) h
  refine wp_region_any hm ?_
  have := wpAny_headQ (Q' := Q) (g := l.toArray.size - n) (fun listed a' w' hw' hL => by
    have := wpAny_of_seq (md := .any) (Q' := Q) (l.drop n) n listed a' w' (fun j => by simp [List.getElem?_drop]) (by rw [hdl]; exact hL.1) (hL.2 w' hw')
    rwa [hdl] at this) _ _ _ _ hC H
  rw [htl, show n + (l.toArray.size - n) = l.toArray.size by omega] at this
  exact this
/-- At the worlds behind w. -/
theorem wp_region_below_tail {id : Nat} {Q : Exit → Act → World → Prop} {a : Act} {w : World} {l : List Oper} (n : Nat) (hm : P.follows .mixedOrders = true) (hB : Region.lexTailB .any l.toArray n = true)
    (h : wpQuiet P l.toArray (fun w' => ∃ p : BelowBy w, w' = p.world) (fun a' => ∀ w', (∃ p : BelowBy w, w' = p.world) → wpList P l.toArray Q (l.drop n) a' w') (l.take n) a) : (Code.region id l.toArray true).wp P Q a w :=
  wp_region_quiet_tail n hm hB ⟨⟨w.drew, (Below.refl _ _).drew⟩, rfl⟩ h
end

end Go.Proofs.Ytidmlppbmcphbaa

/- The contracts of the model's products and commutators of words. -/

namespace Go.Proofs.Ytidmlppbmcphbaa
open Go.RowKit

/-- What is told of letters. -/
def toldV (l : List UInt8) : Value := if l.length ≤ 60 then .tuple #[.string (bstr l), .bool true] else .tuple #[.string ByteArray.empty, .bool false]
theorem toldV_yes {l : List UInt8} (h : l.length ≤ 60) : toldV l = .tuple #[.string (bstr l), .bool true] := if_pos h
theorem toldV_no {l : List UInt8} (h : ¬ l.length ≤ 60) : toldV l = .tuple #[.string ByteArray.empty, .bool false] := if_neg h

theorem append_toList (a b : ByteArray) : (a ++ b).data.toList = a.data.toList ++ b.data.toList := by simp
theorem append_size (a b : ByteArray) : (a ++ b).size = a.size + b.size := by simp

/-- The letters of a commutator. -/
def commL (a b : List UInt8) : List UInt8 := a ++ b ++ backL a ++ backL b

end Go.Proofs.Ytidmlppbmcphbaa

/- The contracts of the laws' own helpers on slices of ints: are two equal, put marks in, are the marks still there. -/

namespace Go.Proofs.Ytidmlppbmcphbaa
open Go.RowKit

def intsV (zs : List Int) : List Value := zs.map (Value.int .i64)
theorem intsV_len (zs : List Int) : (intsV zs).length = zs.length := by simp [intsV]
theorem infoInt : (Try.prog.info? 3).map (fun i => (i.zero, i.size, i.bytes)) = some (some (.int .i64 0), 1, 8) := by kernel_rfl

/-- The value v is a slice of the call's own that holds the ints zs, in a block from base on. -/
def IntRow (base : Nat) (w : World) (v : Value) (zs : List Int) : Prop := w.ownsRow base 3 1 v zs.length (intsV zs)

theorem IntRow.shape {base : Nat} {w : World} {v : Value} {zs : List Int} (h : IntRow base w v zs) :
    ∃ a g cap, v = .slice a zs.length cap ∧ (0 < zs.length → a = some ⟨g, 0, none⟩ ∧ base ≤ g ∧ g < w.heap.size) ∧ zs.length ≤ maxLen ∧ ∀ j (hj : j < zs.length), w.cell? ⟨g, j, none⟩ = some (.int .i64 zs[j]) ∧ w.frozen? ⟨g, j, none⟩ = false := by
  rcases h.2 with ⟨rfl, h0⟩ | ⟨g, cap, cur, rfl, hb, hg, hn, hc, _⟩
  · exact ⟨none, 0, 0, by rw [h0], fun h => by omega, by rw [h0]; exact Nat.zero_le _, fun j hj => by omega⟩
  · refine ⟨some ⟨g, 0, none⟩, g, cap, rfl, fun _ => ⟨rfl, hb, (Array.getElem?_eq_some_iff.1 hg).1⟩, Nat.le_trans hn hc, fun j hj => ⟨?_, h.frozenAt j⟩⟩
    rw [h.cellAt j (by omega)]
    simp [intsV, hj]
theorem IntRow.below {base : Nat} {w w' : World} {v : Value} {zs : List Int} (h : IntRow base w v zs) (hb : Below w.heap.size w w') : IntRow base w' v zs :=
  h.kept ⟨hb.os, hb.tape, hb.output, hb.size, fun j hj _ => hb.block j hj⟩ (row := none) (by
    rcases h.2 with ⟨rfl, _⟩ | ⟨g, cap, cur, rfl, _⟩
    · exact .inl rfl
    · exact .inr (by simp [Value.ownBlock]))
theorem IntRow.mono {b1 b2 : Nat} {w : World} {v : Value} {zs : List Int} (h : IntRow b1 w v zs) (hb : b2 ≤ b1) : IntRow b2 w v zs := ownsRow_base h hb

/-- The marks k, k + 1, .. -/
def marks (k n : Nat) : List Int := (List.range n).map fun i => ((k + i : Nat) : Int)
theorem marks_succ (k j : Nat) : marks k (j + 1) = marks k j ++ [((k + j : Nat) : Int)] := by simp [marks, List.range_succ]
theorem marks_len (k n : Nat) : (marks k n).length = n := by simp [marks]

end Go.Proofs.Ytidmlppbmcphbaa

/- The contracts of the model's sums of letters. -/

namespace Go.Proofs.Ytidmlppbmcphbaa
open Go.RowKit

theorem sIndex_any (c : UInt8) (w : World) (h : letB c = true) :
    Calls Try.prog 98 #[.int .u8 (c.toNat : Int)] w fun e w' => e = .returned (.int .i64 (idxB c : Int)) ∧ w = w' := by
  have hc := (letB_iff c).1 h
  clear h
  by_cases h97 : 97 ≤ c.toNat
  · have H : Hid ((idxB c : Int) = (c.toNat : Int) - 97) := Lib.hid (by unfold idxB; rw [if_pos h97]; omega)
    have h2 : c.toNat ≤ 100 := by omega
    clear hc
    go_enter Try.func98, Try.ntmps98
    go_wp2
    go_ret
    exact ⟨ret_int H.out.symm, rfl⟩
  · have H : Hid ((idxB c : Int) = (c.toNat : Int) - 65) := Lib.hid (by unfold idxB; rw [if_neg h97]; omega)
    have h2 : c.toNat ≤ 68 := by omega
    have h3 : 65 ≤ c.toNat := by omega
    clear hc
    go_enter Try.func98, Try.ntmps98
    go_wp2
    go_ret
    exact ⟨ret_int H.out.symm, rfl⟩

end Go.Proofs.Ytidmlppbmcphbaa

/- The contracts of the model's 'l1Four', 'l1Put' and 'WordPut'. -/

namespace Go.Proofs.Ytidmlppbmcphbaa
open Go.RowKit

def wordsB (zs : List ByteArray) : Bool := zs.all fun s => wordB s.data.toList
/-- Are these four words? -/
def fourB (zs : List ByteArray) : Bool := wordsB zs && decide (zs.length = 4)

theorem wordsB_false (zs : List ByteArray) (k : Nat) (hk : k < zs.length) (h : wordB zs[k].data.toList = false) : wordsB zs = false :=
  List.all_eq_false.2 ⟨_, List.getElem_mem hk, by simp [h]⟩
theorem wordsB_of (zs : List ByteArray) (h : ∀ j (hj : j < zs.length), wordB zs[j].data.toList = true) : wordsB zs = true :=
  List.all_eq_true.2 fun s hs => by
    obtain ⟨j, hj, rfl⟩ := List.mem_iff_getElem.1 hs
    exact h j hj

set_option maxRecDepth 100000 in
set_option maxHeartbeats 1000000 in
theorem four_any (a : Option Addr) (cap n : Nat) (zs : List ByteArray) (w : World) (hn : zs.length = n) (hm : n ≤ maxLen) (hs : StrsAt w a zs) :
    Calls Try.prog 73 #[.slice a n cap] w fun e w' => e = .returned (.bool (fourB zs)) ∧ Below w.heap.size w w' := by
  have HS := Lib.hid hs
  have HN := Lib.hid hn
  clear hs hn
  have hm0 := hm
  unfold maxLen at hm
  have ht : ((n : Int) == 4) = decide (zs.length = 4) := by rw [HN.out, Bool.eq_iff_iff]; simp; omega
  go_enter Try.func73, Try.ntmps73
  go_wp2
  go_loopw [3] (fun i wr => ∃ k : Nat, k ≤ n ∧ i = .int .i64 k ∧ Hid (∀ j (h : j < zs.length), j < k → wordB zs[j].data.toList = true) ∧ Below w.heap.size w wr) (fun i _ => n - (intOf i).toNat)
  case atStart => exact ⟨0, Nat.zero_le _, rfl, Lib.hid (fun j _ h => absurd h (Nat.not_lt_zero _)), Below.refl _ _⟩
  case round =>
    obtain ⟨k, hk, rfl, HJ, hB⟩ := hrel
    by_cases hlt : k < n
    · have hkz : k < zs.length := by rw [HN.out]; exact hlt
      obtain ⟨x, rfl, hb, hc⟩ := HS.out.cells (by omega)
      obtain ⟨s, hs⟩ : ∃ s, zs[k] = s := ⟨_, rfl⟩
      have hck : wr.cell? (x.add k) = some (.string s) := by rw [← hs]; exact (hB.cell (p := x.add k) (by rw [addr_add_block]; exact hb)).trans (hc k hkz)
      have hsm : s.size ≤ maxLen := by rw [← hs]; exact HS.out.small _ (List.getElem_mem hkz)
      have HE := Lib.hid hs
      have HK := Lib.hid hkz
      clear hs hc
      cases hw : wordB s.data.toList with
      | true =>
        have HW := Lib.hid hw
        clear hw
        go_wp2_with fail
        refine (sWordIn_is s true _ hsm HW.out).mono ?_
        rintro e w2 ⟨rfl, hb2⟩
        go_wp2_with fail
        go_roundw
        case rel =>
          refine ⟨k + 1, by omega, by go_num, Lib.hid ?_, hB.trans (hb2.mono hB.size)⟩
          intro j hj hjk
          by_cases e : j = k
          · subst e; rw [HE.out]; exact HW.out
          · exact HJ.out j hj (by omega)
        case measure => simp [intOf]; omega
      | false =>
        have HW := Lib.hid hw
        clear hw
        go_wp2_with fail
        refine (sWordIn_is s false _ hsm HW.out).mono ?_
        rintro e w2 ⟨rfl, hb2⟩
        go_wp2_with fail
        go_ret
        refine ⟨?_, hB.trans (hb2.mono hB.size)⟩
        rw [show fourB zs = false by unfold fourB; rw [wordsB_false zs k HK.out (by rw [HE.out]; exact HW.out)]; rfl]
        rfl
    · obtain rfl : k = n := by omega
      have HT := Lib.hid ht
      clear ht
      go_wp2
      go_ret
      refine ⟨ret_bool ?_, hB⟩
      have hw : wordsB zs = true := wordsB_of zs fun j hj => HJ.out j hj (by rw [← HN.out]; exact hj)
      have := HT.out
      unfold fourB
      rw [hw, Bool.true_and]
      simpa using this

theorem four_is (b : Bool) (a : Option Addr) (cap n : Nat) (zs : List ByteArray) (w : World) (hn : zs.length = n) (hm : n ≤ maxLen) (hs : StrsAt w a zs) (h : fourB zs = b) :
    Calls Try.prog 73 #[.slice a n cap] w fun e w' => e = .returned (.bool b) ∧ Below w.heap.size w w' := by
  rw [← h]; exact four_any a cap n zs w hn hm hs

/-- The image of a letter, and of a row of letters. -/
def imgL (zs : List ByteArray) (c : UInt8) : List UInt8 := if c.toNat < 97 then backL (zs.getD (idxB c) ByteArray.empty).data.toList else (zs.getD (idxB c) ByteArray.empty).data.toList
def putL (zs : List ByteArray) (l : List UInt8) : List UInt8 := (l.map (imgL zs)).flatten
theorem putL_snoc (zs : List ByteArray) (l : List UInt8) (c : UInt8) : putL zs (l ++ [c]) = putL zs l ++ imgL zs c := by simp [putL]
theorem imgL_len (zs : List ByteArray) (c : UInt8) (h : ∀ z ∈ zs, z.size ≤ 60) (hc : idxB c < zs.length) : (imgL zs c).length ≤ 60 := by
  have h1 : (zs.getD (idxB c) ByteArray.empty) ∈ zs := by
    rw [List.getD_eq_getElem?_getD, List.getElem?_eq_getElem hc]; exact List.getElem_mem hc
  have h2 := h _ h1
  unfold imgL
  split
  · rw [backL_length]; simpa using h2
  · simpa using h2

set_option maxRecDepth 100000 in
set_option maxHeartbeats 1000000 in
theorem put_any (s : ByteArray) (a : Option Addr) (cap : Nat) (zs : List ByteArray) (w : World) (hs : s.size ≤ 60) (hl : letL s.data.toList = true) (hn : zs.length = 4) (hz : ∀ z ∈ zs, z.size ≤ 60) (hst : StrsAt w a zs) :
    Calls Try.prog 74 #[.string s, .slice a 4 cap] w fun e w' => e = .returned (.string (bstr (redL [] (putL zs s.data.toList)))) ∧ Below w.heap.size w w' := by
  obtain ⟨x, rfl, hb, hc⟩ := hst.cells (by omega)
  have HL := Lib.hid hl
  have HN := Lib.hid hn
  have HZ := Lib.hid hz
  have HC := Lib.hid hc
  clear hl hn hz hc hst
  go_enter Try.func74, Try.ntmps74
  go_wp2
  go_loopw [5, 6, 7] (fun o i q7 wr => ∃ (k : Nat) (t : ByteArray), k ≤ s.size ∧ o = .string t ∧ i = .int .i64 k ∧ t.size ≤ 60 * k ∧ Hid (t = bstr (redL [] (putL zs (s.data.toList.take k))) ∧ (putL zs (s.data.toList.take k)).length ≤ 60 * k) ∧ Below w.heap.size w wr) (fun _ i _ _ => s.size - (intOf i).toNat)
  case atStart => exact ⟨0, ByteArray.empty, Nat.zero_le _, rfl, rfl, by simp, Lib.hid ⟨rfl, by simp [putL]⟩, Below.refl _ _⟩
  case round =>
    obtain ⟨k, t, hk, rfl, rfl, htz, HT, hB⟩ := hrel
    by_cases hlt : k < s.size
    · have hl : k < s.data.toList.length := by simpa using hlt
      have hlet : letB s[k] = true := letL_get _ HL.out k hl
      have hid := idxB_lt _ hlet
      obtain ⟨z, hzz⟩ : ∃ z, zs[idxB s[k]]'(by rw [HN.out]; exact hid) = z := ⟨_, rfl⟩
      have hck : wr.cell? (x.add (idxB s[k])) = some (.string z) := by rw [← hzz]; exact (hB.cell (p := x.add (idxB s[k])) (by rw [addr_add_block]; exact hb)).trans (HC.out _ (by rw [HN.out]; exact hid))
      have hz60 : z.size ≤ 60 := by rw [← hzz]; exact HZ.out _ (List.getElem_mem _)
      have hgd : zs.getD (idxB s[k]) ByteArray.empty = z := by
        rw [List.getD_eq_getElem?_getD, List.getElem?_eq_getElem (by rw [HN.out]; exact hid)]; exact hzz
      have hpn : putL zs (s.data.toList.take (k + 1)) = putL zs (s.data.toList.take k) ++ imgL zs s[k] := by rw [take_snoc _ k hl, putL_snoc]; rfl
      have himl := imgL_len zs s[k] HZ.out (by rw [HN.out]; exact hid)
      have HP := Lib.hid hpn
      have HG := Lib.hid hgd
      have HLt := Lib.hid hlet
      have HI := Lib.hid himl
      clear hpn hgd hlet himl hzz
      by_cases hc97 : s[k].toNat < 97
      · have himg : imgL zs s[k] = backL z.data.toList := by unfold imgL; rw [if_pos hc97, HG.out]
        have HM := Lib.hid himg
        obtain ⟨bz, hbz⟩ : ∃ b, bstr (backL z.data.toList) = b := ⟨_, rfl⟩
        have hbs : bz.size ≤ 60 := by rw [← hbz, bstr_size, backL_length]; simpa using hz60
        have hbl : bz.data.toList = backL z.data.toList := by rw [← hbz, bstr_toList]
        have hbk : ∀ W, Calls Try.prog 70 #[.string z] W fun e w' => e = .returned (.string bz) ∧ Below W.heap.size W w' := fun W => by rw [← hbz]; exact back_any z W (by omega)
        have HBK := Lib.hid hbk
        have HBL := Lib.hid hbl
        clear himg hbz hbl hbk
        go_wp2_with fail
        refine (sIndex_any s[k] _ HLt.out).mono ?_
        rintro e w1 ⟨rfl, rfl⟩
        go_wp2_with fail
        refine (HBK.out _).mono ?_
        rintro e w2 ⟨rfl, hb2⟩
        go_wp2_with fail
        refine (reduce_any (t ++ bz) _ (by rw [append_size]; omega)).mono ?_
        rintro e w3 ⟨rfl, hb3⟩
        go_wp2_with fail
        go_roundw
        case rel =>
          have hlen2 : (putL zs (s.data.toList.take (k + 1))).length ≤ 60 * (k + 1) := by rw [HP.out, List.length_append]; have := HT.out.2; have := HI.out; omega
          have he : redL [] (t.data.toList ++ bz.data.toList) = redL [] (putL zs (s.data.toList.take (k + 1))) := by
            rw [HT.out.1, bstr_toList, HBL.out, red_append, HP.out, HM.out]
          refine ⟨k + 1, _, by omega, rfl, by go_num, ?_, Lib.hid ⟨by rw [he], hlen2⟩, hB.trans ((hb2.trans (hb3.mono hb2.size)).mono hB.size)⟩
          simp only [bstr_size]
          rw [he]
          exact Nat.le_trans (redL_len _ []) (by simpa using hlen2)
        case measure => simp [intOf]; omega
      · have himg : imgL zs s[k] = z.data.toList := by unfold imgL; rw [if_neg hc97, HG.out]
        have HM := Lib.hid himg
        clear himg
        go_wp2_with fail
        refine (sIndex_any s[k] _ HLt.out).mono ?_
        rintro e w1 ⟨rfl, rfl⟩
        go_wp2_with fail
        refine (reduce_any (t ++ z) _ (by rw [append_size]; omega)).mono ?_
        rintro e w3 ⟨rfl, hb3⟩
        go_wp2_with fail
        go_roundw
        case rel =>
          have hlen2 : (putL zs (s.data.toList.take (k + 1))).length ≤ 60 * (k + 1) := by rw [HP.out, List.length_append]; have := HT.out.2; have := HI.out; omega
          have he : redL [] (t.data.toList ++ z.data.toList) = redL [] (putL zs (s.data.toList.take (k + 1))) := by
            rw [HT.out.1, bstr_toList, red_append, HP.out, HM.out]
          refine ⟨k + 1, _, by omega, rfl, by go_num, ?_, Lib.hid ⟨by rw [he], hlen2⟩, hB.trans (hb3.mono hB.size)⟩
          simp only [bstr_size]
          rw [he]
          exact Nat.le_trans (redL_len _ []) (by simpa using hlen2)
        case measure => simp [intOf]; omega
    · obtain rfl : k = s.size := by omega
      go_wp2
      go_ret
      exact ⟨ret_string (by rw [HT.out.1, List.take_of_length_le (by simp)]), hB⟩

theorem put_is (r : ByteArray) (s : ByteArray) (a : Option Addr) (cap : Nat) (zs : List ByteArray) (w : World) (hs : s.size ≤ 60) (hl : letL s.data.toList = true) (hn : zs.length = 4) (hz : ∀ z ∈ zs, z.size ≤ 60) (hst : StrsAt w a zs) (h : bstr (redL [] (putL zs s.data.toList)) = r) :
    Calls Try.prog 74 #[.string s, .slice a 4 cap] w fun e w' => e = .returned (.string r) ∧ Below w.heap.size w w' := by
  rw [← h]; exact put_any s a cap zs w hs hl hn hz hst

theorem fourB_iff (zs : List ByteArray) : fourB zs = true ↔ zs.length = 4 ∧ ∀ z ∈ zs, wordB z.data.toList = true := by
  unfold fourB wordsB
  rw [Bool.and_eq_true, List.all_eq_true, decide_eq_true_iff, and_comm]

end Go.Proofs.Ytidmlppbmcphbaa

/- The contracts of the model's 'SumTurned' and 'SumPut'. -/

namespace Go.Proofs.Ytidmlppbmcphbaa
open Go.RowKit Go.Shelf

/-- A term whose word is changed. -/
def mapT (f : List UInt8 → List UInt8) (t : Tm) : Tm := ⟨t.c, bstr (f t.s.data.toList)⟩
def fitB (ts : List Tm) : Bool := ts.all fun t => decide (t.s.size ≤ 60)
theorem fitB_at {ts : List Tm} {k : Nat} (hk : k < ts.length) (h : ¬ ts[k].s.size ≤ 60) : fitB ts = false :=
  List.all_eq_false.2 ⟨_, List.getElem_mem hk, by simpa using h⟩
theorem fitB_of {ts : List Tm} (h : ∀ j (hj : j < ts.length), ts[j].s.size ≤ 60) : fitB ts = true :=
  List.all_eq_true.2 fun t ht => by
    obtain ⟨j, hj, rfl⟩ := List.getElem_of_mem ht
    simpa using h j hj
theorem termB_word {t : Tm} (h : termB t = true) : wordB t.s.data.toList = true := by unfold termB at h; simp only [Bool.and_eq_true] at h; exact h.1

set_option maxRecDepth 100000 in
set_option maxHeartbeats 4000000 in
theorem sSumTurned_no (a : Option Addr) (cap n : Nat) (x : List Tm) (w : World) (hx : IsTerms w a n x) (hb : sumB x = false) :
    Calls Try.prog 28 #[.slice a n cap] w (STold w false []) := by
  have HX := Lib.hid hx
  have HBX := Lib.hid hb
  have hba : Below w.heap.size w (w.alloc (.cells #[] TI)) := (Below.refl _ _).alloc (Nat.le_refl _) _
  have HBA := Lib.hid hba
  clear hx hb hba
  go_enter Try.func28, Try.ntmps28
  go_wp2_with fail
  refine (sSumIn_is a cap n x false _ (HX.out.below HBA.out) HBX.out).mono ?_
  rintro e w1 ⟨rfl, hb1⟩
  have HB1 := Lib.hid (HBA.out.trans (hb1.mono HBA.out.size))
  have HE := Lib.hid ((ownEmpty w).below hb1)
  clear hb1
  go_wp2
  go_ret2
  exact ⟨⟨_, rfl, HE.out⟩, HB1.out⟩

set_option maxRecDepth 100000 in
set_option maxHeartbeats 4000000 in
theorem sSumTurned_yes (a : Option Addr) (cap n : Nat) (x : List Tm) (b : Bool) (w : World) (hx : IsTerms w a n x) (hbx : sumB x = true) (hb : twB (canonT (x.map (mapT backL))) = b) :
    Calls Try.prog 28 #[.slice a n cap] w (STold w b (canonT (x.map (mapT backL)))) := by
  obtain ⟨htx, hcx⟩ := sumB_parts hbx
  obtain ⟨hlx, hwx⟩ := canon_len_words htx
  have hn : n ≤ 300 := by rw [← hx.len]; exact hlx
  have hyn : (x.map (mapT backL)).length = n := by rw [List.length_map, hx.len]
  obtain ⟨ys, hys⟩ : ∃ ys, x.map (mapT backL) = ys := ⟨_, rfl⟩
  rw [hys] at hb hyn ⊢
  have HX := Lib.hid hx
  have HBX := Lib.hid hbx
  have HWX := Lib.hid hwx
  have HBB := Lib.hid hb
  have HYS := Lib.hid hys
  have HYN := Lib.hid hyn
  have hmx : Try.prog.follows .mixedOrders = true := by kernel_rfl
  have hba : Below w.heap.size w (w.alloc (.cells #[] TI)) := (Below.refl _ _).alloc (Nat.le_refl _) _
  have HBA := Lib.hid hba
  clear hx hbx htx hcx hlx hwx hb hba hys hyn
  go_enter Try.func28, Try.ntmps28
  go_wp2_with fail
  refine (sSumIn_is a cap n x true _ (HX.out.below HBA.out) HBX.out).mono ?_
  rintro e w1 ⟨rfl, hb1⟩
  have HB1 := Lib.hid (HBA.out.trans (hb1.mono HBA.out.size))
  have HE := Lib.hid ((acc_zero w).below hb1)
  clear hb1
  go_wp2_with fail
  go_loopw [4, 5] (fun v i wr => ∃ k : Nat, k ≤ n ∧ i = .int .i64 k ∧ Hid (Acc w.heap.size wr v ((ys.take k).foldl addT []) k (1000000 * k)) ∧ Below w.heap.size w wr) (fun _ i _ => n - (intOf i).toNat)
  case atStart => exact ⟨0, Nat.zero_le _, rfl, HE, HB1.out⟩
  case round =>
    obtain ⟨k, hk, rfl, HA, hB⟩ := hrel
    by_cases hlt : k < n
    · have hkx : k < x.length := by rw [HX.out.len]; exact hlt
      have hky : k < ys.length := by rw [HYN.out]; exact hlt
      obtain ⟨z, rfl, hz⟩ := HX.out.at_ (by omega)
      obtain ⟨t, ht⟩ : ∃ t, x[k] = t := ⟨_, rfl⟩
      have hyk : ys[k] = mapT backL t := by have h := HYS.out; subst h; rw [List.getElem_map, ht]
      have hzw := hz.below hB
      have hc := hzw.2 k hkx
      have hbz := hzw.1
      rw [ht, addr_next] at hc
      obtain ⟨c0, d1⟩ := hc
      have htb := HWX.out _ (List.getElem_mem hkx)
      rw [ht] at htb
      have htw := termB_word htb
      have hti := termB_iff htb
      obtain ⟨r, hr⟩ : ∃ r, bstr (backL t.s.data.toList) = r := ⟨_, rfl⟩
      have hrs : r.size ≤ 60 := by rw [← hr, bstr_size, backL_length]; have := hti.1; simpa using this
      have HT : Hid (∀ W : World, Calls Try.prog 70 #[.string t.s] W fun e w' => e = .returned (.string r) ∧ Below W.heap.size W w') :=
        Lib.hid fun W => by rw [← hr]; exact back_any t.s W (by omega)
      have HTI := Lib.hid hti
      have HYK : Hid (ys[k] = ⟨t.c, r⟩) := Lib.hid (by rw [hyk, ← hr]; rfl)
      have v0 := BelowBy.cell (w := wr) (by rw [addr_add_block]; exact hbz) c0
      have v1 := BelowBy.cell (w := wr) (by show (z.add (k * 2)).block < _; rw [addr_add_block]; exact hbz) d1
      clear ht hz hzw htb htw hti hr hyk c0 d1
      go_wp2
      refine wp_region_below_tail 12 hmx (by kernel_rfl) ?_
      simp only [List.take_succ_cons, List.take_zero, List.drop_succ_cons, List.drop_zero]
      repeat (((with_reducible refine wpQuiet_step (fun K hK => ?_)); go_simp; first | ((with_reducible refine hK _ ?_); clear hK K) | (refine (if_neg (by decide)).mpr ?_; (with_reducible refine hK _ ?_); clear hK K) | (apply Exists.intro; (with_reducible refine ⟨fun _ => ?_, hK _ ?_⟩); (go_at_call 70; exact Calls.bel (HT.out _)); clear hK K)))
      with_reducible refine wpQuiet_nil ?_
      rintro W ⟨⟨W, hW⟩, rfl⟩
      clear v0 v1
      have hBW : Below w.heap.size w W := hB.trans (hW.mono hB.size)
      change wpList _ _ _ _ _ W
      go_wp2_with fail
      refine (step_any w.heap.size u4 _ k (1000000 * k) 1000000 t.c r W (HA.out.below hW) (by omega) (by omega) (by omega) (by omega) HTI.out.2 hrs hBW.size).mono ?_
      rintro e w4 ⟨⟨v', rfl, ho⟩, hb4⟩
      have hB4 : Below w.heap.size w w4 := hBW.trans (hb4.mono hBW.size)
      have HO := Lib.hid ho
      clear ho hb4
      go_wp2
      go_roundw
      case rel =>
        refine ⟨k + 1, by omega, by go_num, Lib.hid ?_, hB4⟩
        have h := HO.out
        rw [fold_succ ys k hky, HYK.out]
        rw [show (1000000 : Int) * ((k + 1 : Nat) : Int) = 1000000 * k + 1000000 by omega]
        exact h
      case measure => simp [intOf]; omega
    · obtain rfl : k = n := by omega
      have hacc := HA.out
      rw [List.take_of_length_le (by rw [HYN.out]; exact Nat.le_refl _)] at hacc
      have HAcc : Hid (Acc w.heap.size wr u4 (canonT ys) k (1000000 * k)) := Lib.hid hacc
      have HSb : Hid (sumB (canonT ys) = b) := Lib.hid (by rw [sumB_canon (canon_of _)]; exact HBB.out)
      clear hacc
      go_wp2_with fail
      refine (sDone_any w.heap.size u4 (canonT ys) b wr HAcc.out.own (HAcc.out.small (by omega) (by omega)) hB.size HSb.out).mono ?_
      rintro e w2 ⟨⟨v', rfl, ho⟩, hb2⟩
      have HO := Lib.hid ho
      clear ho
      go_wp2
      go_ret2
      exact ⟨⟨_, rfl, HO.out⟩, hB.trans (hb2.mono hB.size)⟩

/-! ### SumPut -/

def putF (zs : List ByteArray) (l : List UInt8) : List UInt8 := redL [] (putL zs l)

set_option maxRecDepth 100000 in
set_option maxHeartbeats 4000000 in
theorem sSumPut_no (a a2 : Option Addr) (cap cap2 n m : Nat) (x : List Tm) (zs : List ByteArray) (w : World) (hx : IsTerms w a n x) (hz : zs.length = m) (hm : m ≤ maxLen) (hs : StrsAt w a2 zs) (hb : sumB x = false ∨ fourB zs = false) :
    Calls Try.prog 33 #[.slice a n cap, .slice a2 m cap2] w (STold w false []) := by
  have HX := Lib.hid hx
  have HZ := Lib.hid hz
  have HS := Lib.hid hs
  have HM := Lib.hid hm
  have hba : Below w.heap.size w (w.alloc (.cells #[] TI)) := (Below.refl _ _).alloc (Nat.le_refl _) _
  have HBA := Lib.hid hba
  clear hx hba hz hs hm
  cases hbx : sumB x with
  | false =>
    have HBX := Lib.hid hbx
    clear hbx hb
    go_enter Try.func33, Try.ntmps33
    go_wp2_with fail
    refine (sSumIn_is a cap n x false _ (HX.out.below HBA.out) HBX.out).mono ?_
    rintro e w1 ⟨rfl, hb1⟩
    have HB1 := Lib.hid (HBA.out.trans (hb1.mono HBA.out.size))
    have HE := Lib.hid ((ownEmpty w).below hb1)
    clear hb1
    go_wp2
    go_ret2
    exact ⟨⟨_, rfl, HE.out⟩, HB1.out⟩
  | true =>
    have hbf : fourB zs = false := by rcases hb with h | h; · rw [h] at hbx; cases hbx
                                      · exact h
    have HBX := Lib.hid hbx
    have HBF := Lib.hid hbf
    clear hbx hbf hb
    go_enter Try.func33, Try.ntmps33
    go_wp2_with fail
    refine (sSumIn_is a cap n x true _ (HX.out.below HBA.out) HBX.out).mono ?_
    rintro e w1 ⟨rfl, hb1⟩
    have HB1 := Lib.hid (HBA.out.trans (hb1.mono HBA.out.size))
    have HE := Lib.hid ((ownEmpty w).below hb1)
    clear hb1
    go_wp2_with fail
    refine (four_is false a2 cap2 m zs _ HZ.out HM.out (HS.out.below HB1.out) HBF.out).mono ?_
    rintro e w2 ⟨rfl, hb2⟩
    have HB2 := Lib.hid (HB1.out.trans (hb2.mono HB1.out.size))
    have HE2 := Lib.hid (HE.out.below hb2)
    clear hb2
    go_wp2
    go_ret2
    exact ⟨⟨_, rfl, HE2.out⟩, HB2.out⟩

set_option maxRecDepth 100000 in
set_option maxHeartbeats 4000000 in
theorem sSumPut_yes (a a2 : Option Addr) (cap cap2 n : Nat) (x : List Tm) (zs : List ByteArray) (b : Bool) (w : World) (hx : IsTerms w a n x) (hs : StrsAt w a2 zs) (hbx : sumB x = true) (hf : fourB zs = true)
    (hb : (fitB (x.map (mapT (putF zs))) && twB (canonT (x.map (mapT (putF zs))))) = b) :
    Calls Try.prog 33 #[.slice a n cap, .slice a2 4 cap2] w (STold w b (canonT (x.map (mapT (putF zs))))) := by
  obtain ⟨htx, hcx⟩ := sumB_parts hbx
  obtain ⟨hlx, hwx⟩ := canon_len_words htx
  obtain ⟨hz4, hzw⟩ := (fourB_iff zs).1 hf
  have hn : n ≤ 300 := by rw [← hx.len]; exact hlx
  have hyn : (x.map (mapT (putF zs))).length = n := by rw [List.length_map, hx.len]
  obtain ⟨ys, hys⟩ : ∃ ys, x.map (mapT (putF zs)) = ys := ⟨_, rfl⟩
  rw [hys] at hb hyn ⊢
  have HX := Lib.hid hx
  have HBX := Lib.hid hbx
  have HF := Lib.hid hf
  have HS := Lib.hid hs
  have HZ4 := Lib.hid hz4
  have HZW := Lib.hid (fun z hz => by have := ((wordB_iff _).1 (hzw z hz)).1; simpa using this : ∀ z ∈ zs, z.size ≤ 60)
  have HWX := Lib.hid hwx
  have HBB := Lib.hid hb
  have HYS := Lib.hid hys
  have HYN := Lib.hid hyn
  have hba : Below w.heap.size w (w.alloc (.cells #[] TI)) := (Below.refl _ _).alloc (Nat.le_refl _) _
  have HBA := Lib.hid hba
  clear hx hbx htx hcx hlx hwx hb hba hys hyn hf hs hz4 hzw
  go_enter Try.func33, Try.ntmps33
  go_wp2_with fail
  refine (sSumIn_is a cap n x true _ (HX.out.below HBA.out) HBX.out).mono ?_
  rintro e w1 ⟨rfl, hb1⟩
  have HB1 := Lib.hid (HBA.out.trans (hb1.mono HBA.out.size))
  have HE := Lib.hid ((acc_zero w).below hb1)
  clear hb1
  go_wp2_with fail
  refine (four_is true a2 cap2 4 zs _ HZ4.out (by unfold maxLen; omega) (HS.out.below HB1.out) HF.out).mono ?_
  rintro e w2 ⟨rfl, hb2⟩
  have HB2 := Lib.hid (HB1.out.trans (hb2.mono HB1.out.size))
  have HE2 := Lib.hid (HE.out.below hb2)
  clear hb2
  go_wp2_with fail
  go_loopw [6, 7] (fun v i wr => ∃ k : Nat, k ≤ n ∧ i = .int .i64 k ∧ Hid ((∀ j (h : j < ys.length), j < k → ys[j].s.size ≤ 60) ∧ Acc w.heap.size wr v ((ys.take k).foldl addT []) k (1000000 * k)) ∧ Below w.heap.size w wr) (fun _ i _ => n - (intOf i).toNat)
  case atStart => exact ⟨0, Nat.zero_le _, rfl, Lib.hid ⟨fun j _ h => absurd h (Nat.not_lt_zero _), HE2.out⟩, HB2.out⟩
  case round =>
    obtain ⟨k, hk, rfl, HA, hB⟩ := hrel
    by_cases hlt : k < n
    · have hkx : k < x.length := by rw [HX.out.len]; exact hlt
      have hky : k < ys.length := by rw [HYN.out]; exact hlt
      obtain ⟨z, rfl, hz⟩ := HX.out.at_ (by omega)
      obtain ⟨t, ht⟩ : ∃ t, x[k] = t := ⟨_, rfl⟩
      have hyk : ys[k] = mapT (putF zs) t := by have h := HYS.out; subst h; rw [List.getElem_map, ht]
      have hzw := hz.below hB
      have hc := hzw.2 k hkx
      have hbz := hzw.1
      rw [ht, addr_next] at hc
      obtain ⟨c0, d1⟩ := hc
      have htb := HWX.out _ (List.getElem_mem hkx)
      rw [ht] at htb
      have htw := ((wordB_iff _).1 (termB_word htb)).2.1
      have hti := termB_iff htb
      obtain ⟨r, hr⟩ : ∃ r, bstr (redL [] (putL zs t.s.data.toList)) = r := ⟨_, rfl⟩
      have HT : Hid (∀ (W : World), StrsAt W a2 zs → Calls Try.prog 74 #[.string t.s, .slice a2 4 cap2] W fun e w' => e = .returned (.string r) ∧ Below W.heap.size W w') :=
        Lib.hid fun W hW => put_is r t.s a2 cap2 zs W hti.1 htw HZ4.out HZW.out hW hr
      have HTI := Lib.hid hti
      have HYK : Hid (ys[k] = ⟨t.c, r⟩) := Lib.hid (by rw [hyk, ← hr]; rfl)
      have HBZ := Lib.hid hbz
      have HC0 := Lib.hid c0
      clear ht hz hzw htb htw hti hr hyk
      go_wp2_with fail
      refine (HT.out _ (HS.out.below hB)).mono ?_
      rintro e w3 ⟨rfl, hb3⟩
      have c3 := (hb3.cell (p := z.add (k * 2)) (by rw [addr_add_block]; exact HBZ.out)).trans HC0.out
      have hB3 : Below w.heap.size w w3 := hB.trans (hb3.mono hB.size)
      have HA3 := Lib.hid (HA.out.2.below hb3)
      clear hb3
      by_cases hrs : r.size ≤ 60
      · go_wp2_with fail
        refine (step_any w.heap.size u6 _ k (1000000 * k) 1000000 t.c r _ HA3.out (by omega) (by omega) (by omega) (by omega) HTI.out.2 hrs hB3.size).mono ?_
        rintro e w4 ⟨⟨v', rfl, ho⟩, hb4⟩
        have hB4 : Below w.heap.size w w4 := hB3.trans (hb4.mono hB3.size)
        have HO := Lib.hid ho
        clear ho hb4
        go_wp2
        go_roundw
        case rel =>
          refine ⟨k + 1, by omega, by go_num, Lib.hid ⟨fun j hj hjk => ?_, ?_⟩, hB4⟩
          · by_cases e : j = k
            · subst e; rw [HYK.out]; exact hrs
            · exact HA.out.1 j hj (by omega)
          · have h := HO.out
            rw [fold_succ ys k hky, HYK.out]
            rw [show (1000000 : Int) * ((k + 1 : Nat) : Int) = 1000000 * k + 1000000 by omega]
            exact h
        case measure => simp [intOf]; omega
      · go_wp2
        go_ret2
        have hbf : b = false := by rw [← HBB.out, fitB_at hky (by rw [HYK.out]; exact hrs)]; rfl
        subst hbf
        exact ⟨⟨_, rfl, (ownEmpty w3).mono hB3.size⟩, hB3.alloc hB3.size _⟩
    · obtain rfl : k = n := by omega
      have hacc := HA.out.2
      rw [List.take_of_length_le (by rw [HYN.out]; exact Nat.le_refl _)] at hacc
      have HAcc : Hid (Acc w.heap.size wr u6 (canonT ys) k (1000000 * k)) := Lib.hid hacc
      have HSb : Hid (sumB (canonT ys) = b) := Lib.hid (by
        have h := HBB.out
        rw [fitB_of (fun j hj => HA.out.1 j hj (by rw [← HYN.out]; exact hj)), Bool.true_and] at h
        rw [sumB_canon (canon_of _)]; exact h)
      clear hacc
      go_wp2_with fail
      refine (sDone_any w.heap.size u6 (canonT ys) b wr HAcc.out.own (HAcc.out.small (by omega) (by omega)) hB.size HSb.out).mono ?_
      rintro e w2 ⟨⟨v', rfl, ho⟩, hb2⟩
      have HO := Lib.hid ho
      clear ho
      go_wp2
      go_ret2
      exact ⟨⟨_, rfl, HO.out⟩, hB.trans (hb2.mono hB.size)⟩

end Go.Proofs.Ytidmlppbmcphbaa

/- The contracts of the model's 'l2Times' and 'SumTimes'. -/

namespace Go.Proofs.Ytidmlppbmcphbaa
open Go.RowKit Go.Shelf

/-- The product of two terms, and those of all pairs. -/
def pairT (t u : Tm) : Tm := ⟨t.c * u.c, bstr (redL [] (t.s.data.toList ++ u.s.data.toList))⟩
def pairsT (x y : List Tm) : List Tm := x.flatMap fun t => y.map (pairT t)
theorem pairs_succ (x y : List Tm) (k : Nat) (h : k < x.length) : pairsT (x.take (k + 1)) y = pairsT (x.take k) y ++ y.map (pairT x[k]) := by
  unfold pairsT
  rw [List.take_succ_eq_append_getElem h, List.flatMap_append]
  simp
theorem pairs_zero (y : List Tm) : pairsT [] y = [] := rfl
theorem pairs_len (x y : List Tm) : (pairsT x y).length = x.length * y.length := by
  unfold pairsT
  induction x with
  | nil => simp
  | cons t r ih => rw [List.flatMap_cons, List.length_append, ih, List.length_map, List.length_cons, Nat.succ_mul]; omega
theorem map_succ (f : Tm → Tm) (y : List Tm) (j : Nat) (h : j < y.length) : (y.take (j + 1)).map f = (y.take j).map f ++ [f y[j]] := by
  rw [List.take_succ_eq_append_getElem h, List.map_append]; rfl
theorem mul_bnd {a b : Int} (ha : -1000000 ≤ a ∧ a ≤ 1000000) (hb : -1000000 ≤ b ∧ b ≤ 1000000) : -1000000000000 ≤ a * b ∧ a * b ≤ 1000000000000 := by
  have h : (a * b).natAbs ≤ 1000000 * 1000000 := by
    rw [Int.natAbs_mul]
    exact Nat.mul_le_mul (by omega) (by omega)
  omega

/-- What has been added up so far: the terms of L. -/
structure AccL (base : Nat) (w : World) (v : Value) (L : List Tm) : Prop where
  fit : ∀ t ∈ L, t.s.size ≤ 60
  acc : Acc base w v (L.foldl addT []) L.length (1000000000000 * L.length)
theorem AccL.below {base : Nat} {w w' : World} {v : Value} {L : List Tm} (h : AccL base w v L) (hb : Below w.heap.size w w') : AccL base w' v L := ⟨h.fit, h.acc.below hb⟩
theorem AccL.snoc {base : Nat} {w w' : World} {v v' : Value} {L : List Tm} {t : Tm} (h : AccL base w v L) (ht : t.s.size ≤ 60) (h2 : Acc base w' v' (addT (L.foldl addT []) t) (L.length + 1) (1000000000000 * L.length + 1000000000000)) : AccL base w' v' (L ++ [t]) :=
  ⟨fun u hu => by
    rcases List.mem_append.1 hu with hu | hu
    · exact h.fit u hu
    · rw [List.mem_singleton.1 hu]; exact ht, by
    rw [List.foldl_append, List.length_append]
    rw [show (1000000000000 : Int) * ((L.length + [t].length : Nat) : Int) = 1000000000000 * L.length + 1000000000000 by rw [List.length_singleton]; omega]
    exact h2⟩
theorem AccL.nil (w : World) : AccL w.heap.size (w.alloc (.cells #[] TI)) (.slice (some ⟨w.heap.size, 0, none⟩) 0 0) [] := ⟨fun t h => (by cases h), acc_zero w⟩

/-- What l2Times hands back. -/
def TimesYes (w : World) (ts : List Tm) (e : Ending) (w' : World) : Prop := ∃ v, e = .returned (.tuple #[v, .bool true]) ∧ OwnTerms w.heap.size w' v (canonT ts) ∧ SmallT (canonT ts) ∧ Below w.heap.size w w'
def TimesNo (w : World) (e : Ending) (w' : World) : Prop := ∃ g n cap, e = .returned (.tuple #[.slice (some ⟨g, 0, none⟩) n cap, .bool false]) ∧ Below w.heap.size w w'
def TimesAny (w : World) (b : Bool) (ts : List Tm) (e : Ending) (w' : World) : Prop := (b = true ∧ TimesYes w ts e w') ∨ (b = false ∧ TimesNo w e w')

set_option maxRecDepth 100000 in
set_option maxHeartbeats 8000000 in
theorem l2Times_any (a1 a2 : Option Addr) (c1 c2 n m : Nat) (x y : List Tm) (b : Bool) (w : World) (hx : IsTerms w a1 n x) (hy : IsTerms w a2 m y) (htx : twB x = true) (hty : twB y = true) (hb : fitB (pairsT x y) = b) :
    Calls Try.prog 66 #[.slice a1 n c1, .slice a2 m c2] w (TimesAny w b (pairsT x y)) := by
  obtain ⟨hlx, hwx⟩ := canon_len_words htx
  obtain ⟨hly, hwy⟩ := canon_len_words hty
  have hn : n ≤ 300 := by rw [← hx.len]; exact hlx
  have hm : m ≤ 300 := by rw [← hy.len]; exact hly
  have HX := Lib.hid hx
  have HY := Lib.hid hy
  have HWX := Lib.hid hwx
  have HWY := Lib.hid hwy
  have HBB := Lib.hid hb
  have hmx : Try.prog.follows .mixedOrders = true := by kernel_rfl
  have HLEN : Hid (∀ k j, k < n → j ≤ m → ∀ t : Tm, (pairsT (x.take k) y ++ (y.take j).map (pairT t)).length ≤ 90000 ∧ (pairsT (x.take k) y).length ≤ 90000) := Lib.hid fun k j hk hj t => by
    have h1 := pairs_len (x.take k) y
    have h2 : (x.take k).length * y.length ≤ 299 * 300 := Nat.mul_le_mul (by rw [List.length_take]; omega) hly
    rw [List.length_append, List.length_map, List.length_take]
    omega
  have HLENN : Hid ((pairsT x y).length ≤ 90000) := Lib.hid (by rw [pairs_len]; exact Nat.mul_le_mul hlx hly)
  have HN := Lib.hid (AccL.nil w)
  clear hx hy htx hty hlx hwx hly hwy hb
  go_enter Try.func66, Try.ntmps66
  go_wp2
  go_loopw [6, 7] (fun v i wr => ∃ k : Nat, k ≤ n ∧ i = .int .i64 k ∧ Hid (AccL w.heap.size wr v (pairsT (x.take k) y)) ∧ Below w.heap.size w wr) (fun _ i _ => n - (intOf i).toNat)
  case atStart => exact ⟨0, Nat.zero_le _, rfl, HN, (Below.refl _ _).alloc (Nat.le_refl _) _⟩
  case round =>
    obtain ⟨k, hk, rfl, HA, hB⟩ := hrel
    by_cases hlt : k < n
    · have hkx : k < x.length := by rw [HX.out.len]; exact hlt
      obtain ⟨z, rfl, hz⟩ := HX.out.at_ (by omega)
      obtain ⟨t, ht⟩ : ∃ t, x[k] = t := ⟨_, rfl⟩
      have htb := HWX.out _ (List.getElem_mem hkx)
      rw [ht] at htb
      have HTI := Lib.hid (termB_iff htb)
      have HT := Lib.hid ht
      have HZ := Lib.hid hz
      clear ht htb hz
      go_wp2
      go_loopw [6, 8] (fun v i wr => ∃ j : Nat, j ≤ m ∧ i = .int .i64 j ∧ Hid (AccL w.heap.size wr v (pairsT (x.take k) y ++ (y.take j).map (pairT t))) ∧ Below w.heap.size w wr) (fun _ i _ => m - (intOf i).toNat)
      case atStart => exact ⟨0, Nat.zero_le _, rfl, Lib.hid (by simpa using HA.out), hB⟩
      case round =>
        obtain ⟨j, hj, rfl, HAj, hBj⟩ := hrel
        by_cases hltj : j < m
        · have hjy : j < y.length := by rw [HY.out.len]; exact hltj
          obtain ⟨zy, rfl, hzy⟩ := HY.out.at_ (by omega)
          obtain ⟨u, hu⟩ : ∃ u, y[j] = u := ⟨_, rfl⟩
          have hub := HWY.out _ (List.getElem_mem hjy)
          rw [hu] at hub
          have hui := termB_iff hub
          have hti := HTI.out
          have hzw := HZ.out.below hBj
          have hzyw := hzy.below hBj
          have hc := hzw.2 k hkx
          have hcy := hzyw.2 j hjy
          have hbz := hzw.1
          have hbzy := hzyw.1
          rw [HT.out, addr_next] at hc
          rw [hu, addr_next] at hcy
          obtain ⟨c0, d1⟩ := hc
          obtain ⟨e0, f1⟩ := hcy
          obtain ⟨r, hr⟩ : ∃ r, bstr (redL [] (t.s.data.toList ++ u.s.data.toList)) = r := ⟨_, rfl⟩
          have hpt : pairT t u = ⟨t.c * u.c, r⟩ := by rw [← hr]; rfl
          have hcs : (t.s ++ u.s).size ≤ 1048576 := by rw [append_size]; omega
          have hnot : ¬ 9223372036854775807 < t.s.size + u.s.size := by omega
          have HR : Hid (∀ W : World, Calls Try.prog 82 #[.string (t.s ++ u.s)] W fun e w' => e = .returned (.string r) ∧ Below W.heap.size W w') :=
            Lib.hid fun W => reduce_is (t.s ++ u.s) r W hcs (by rw [append_toList]; exact hr)
          have HPT := Lib.hid hpt
          have HU := Lib.hid hu
          have HUI := Lib.hid hui
          have HMB := Lib.hid (mul_bnd hti.2 hui.2)
          have hmul : IntKind.i64.wrap (t.c * u.c) = t.c * u.c := by have := HMB.out; exact IntWalk.i64_in _ (by omega)
          have HMUL := Lib.hid hmul
          have v0 := BelowBy.cell (w := wr) (by show (z.add (k * 2)).block < _; rw [addr_add_block]; exact hbz) d1
          have v1 := BelowBy.cell (w := wr) (by show (zy.add (j * 2)).block < _; rw [addr_add_block]; exact hbzy) f1
          have HC0 := Lib.hid c0
          have HE0 := Lib.hid e0
          have HBZ := Lib.hid hbz
          have HBZY := Lib.hid hbzy
          have hsz := HAj.out.acc
          clear hu hub hui hti hzw hzyw hzy c0 d1 e0 f1 hr hpt hcs hsz hmul
          go_wp2
          refine wp_region_below hmx (by kernel_rfl) ?_
          repeat (((with_reducible refine wpQuiet_step (fun K hK => ?_)); go_simp; first | ((with_reducible refine hK _ ?_); clear hK K) | (refine (if_neg (by decide)).mpr ?_; (with_reducible refine hK _ ?_); clear hK K) | (apply Exists.intro; (with_reducible refine ⟨fun _ => ?_, hK _ ?_⟩); (go_at_call 82; exact Calls.bel (HR.out _)); clear hK K)))
          with_reducible refine wpQuiet_nil ?_
          rintro W ⟨⟨W, hW⟩, rfl⟩
          clear v0 v1
          have hBW : Below w.heap.size w W := hBj.trans (hW.mono hBj.size)
          have HAW := Lib.hid (HAj.out.below hW)
          have c0 := (hW.cell (p := z.add (k * 2)) (by rw [addr_add_block]; exact HBZ.out)).trans HC0.out
          have e0 := (hW.cell (p := zy.add (j * 2)) (by rw [addr_add_block]; exact HBZY.out)).trans HE0.out
          have hmul := HMUL.out
          change Exit.then _ _ _ _ W
          by_cases hrs : r.size ≤ 60
          · go_wp2
            go_still_tail 13, hmx
            change wpList _ _ _ _ _ W.drew
            go_wp2_with fail
            obtain ⟨hl1, hl2⟩ := HLEN.out k j hlt (by omega) t
            refine (step_any w.heap.size u6 _ _ _ 1000000000000 (t.c * u.c) r W.drew (HAW.out.acc.below (Below.refl _ _).drew) (by omega) (by omega) (by omega) (by omega) HMB.out hrs hBW.size).mono ?_
            rintro e w4 ⟨⟨v', rfl, ho⟩, hb4⟩
            have hB4 : Below w.heap.size w w4 := hBW.trans (((Below.refl _ _).drew.trans hb4).mono hBW.size)
            have HO := Lib.hid (HAW.out.snoc (t := ⟨t.c * u.c, r⟩) hrs ho)
            clear ho hb4 hl1 hl2
            go_wp2
            go_roundw
            case rel =>
              refine ⟨j + 1, by omega, by go_num, Lib.hid ?_, hB4⟩
              have h := HO.out
              rw [map_succ (pairT t) y j hjy, HU.out, HPT.out, ← List.append_assoc]
              exact h
            case measure => simp [intOf]; omega
          · obtain ⟨gv, cv, rfl, _⟩ := HAW.out.acc.own.form
            go_wp2
            go_ret2
            have hbf : b = false := by
              rw [← HBB.out]
              refine List.all_eq_false.2 ⟨pairT t u, ?_, by rw [HPT.out]; simpa using hrs⟩
              unfold pairsT
              exact List.mem_flatMap.2 ⟨t, by rw [← HT.out]; exact List.getElem_mem hkx, List.mem_map.2 ⟨u, by rw [← HU.out]; exact List.getElem_mem hjy, rfl⟩⟩
            exact .inr ⟨hbf, gv, _, cv, rfl, hBW⟩
        · obtain rfl : j = m := by omega
          go_wp2
          go_roundw
          case rel =>
            refine ⟨k + 1, by omega, by go_num, Lib.hid ?_, hBj⟩
            have h := HAj.out
            have hty : y.take j = y := List.take_of_length_le (by rw [HY.out.len]; exact Nat.le_refl _)
            rw [hty, ← HT.out, ← pairs_succ x y k hkx] at h
            exact h
          case measure => simp [intOf]; omega
    · obtain rfl : k = n := by omega
      have hacc := HA.out
      rw [List.take_of_length_le (by rw [HX.out.len]; exact Nat.le_refl _)] at hacc
      have HAcc := Lib.hid hacc
      clear hacc
      obtain ⟨gv, cv, rfl, hf1, _⟩ := HAcc.out.acc.own.form
      have hf1 := Lib.hid hf1
      go_wp2
      go_ret2
      have hbt : b = true := by rw [← HBB.out]; exact List.all_eq_true.2 fun t ht => by simpa using HAcc.out.fit t ht
      have hlen := HLENN.out
      exact .inl ⟨hbt, _, rfl, HAcc.out.acc.own, HAcc.out.acc.small (by omega) (by omega), hB⟩

/-! ### SumTimes -/

set_option maxRecDepth 100000 in
set_option maxHeartbeats 4000000 in
theorem sSumTimes_no (a1 a2 : Option Addr) (c1 c2 n m : Nat) (x y : List Tm) (w : World) (hx : IsTerms w a1 n x) (hy : IsTerms w a2 m y) (hb : sumB x = false ∨ sumB y = false) :
    Calls Try.prog 26 #[.slice a1 n c1, .slice a2 m c2] w (STold w false []) := by
  have HX := Lib.hid hx
  have HY := Lib.hid hy
  clear hx hy
  cases hbx : sumB x with
  | false =>
    have HBX := Lib.hid hbx
    clear hbx hb
    go_enter Try.func26, Try.ntmps26
    go_wp2_with fail
    refine (sSumIn_is a1 c1 n x false _ HX.out HBX.out).mono ?_
    rintro e w1 ⟨rfl, hb1⟩
    have HB1 := Lib.hid hb1
    clear hb1
    go_wp2
    go_ret2
    exact ⟨⟨_, rfl, (ownEmpty w1).mono HB1.out.size⟩, HB1.out.alloc HB1.out.size _⟩
  | true =>
    have hby : sumB y = false := by rcases hb with h | h; · rw [h] at hbx; cases hbx
                                    · exact h
    have HBX := Lib.hid hbx
    have HBY := Lib.hid hby
    clear hbx hby hb
    go_enter Try.func26, Try.ntmps26
    go_wp2_with fail
    refine (sSumIn_is a1 c1 n x true _ HX.out HBX.out).mono ?_
    rintro e w1 ⟨rfl, hb1⟩
    have HB1 := Lib.hid hb1
    clear hb1
    go_wp2_with fail
    refine (sSumIn_is a2 c2 m y false _ (HY.out.below HB1.out) HBY.out).mono ?_
    rintro e w2 ⟨rfl, hb2⟩
    have HB2 := Lib.hid (HB1.out.trans (hb2.mono HB1.out.size))
    clear hb2
    go_wp2
    go_ret2
    exact ⟨⟨_, rfl, (ownEmpty w2).mono HB2.out.size⟩, HB2.out.alloc HB2.out.size _⟩

set_option maxRecDepth 100000 in
set_option maxHeartbeats 4000000 in
theorem sSumTimes_yes (a1 a2 : Option Addr) (c1 c2 n m : Nat) (x y : List Tm) (b : Bool) (w : World) (hx : IsTerms w a1 n x) (hy : IsTerms w a2 m y) (hbx : sumB x = true) (hby : sumB y = true)
    (hb : (fitB (pairsT x y) && twB (canonT (pairsT x y))) = b) :
    Calls Try.prog 26 #[.slice a1 n c1, .slice a2 m c2] w (STold w b (canonT (pairsT x y))) := by
  have HX := Lib.hid hx
  have HY := Lib.hid hy
  have HBX := Lib.hid hbx
  have HBY := Lib.hid hby
  have HBB := Lib.hid hb
  obtain ⟨f, hf⟩ : ∃ f, fitB (pairsT x y) = f := ⟨_, rfl⟩
  have HFF := Lib.hid hf
  have HT : Hid (∀ W, IsTerms W a1 n x → IsTerms W a2 m y → Calls Try.prog 66 #[.slice a1 n c1, .slice a2 m c2] W (TimesAny W f (pairsT x y))) :=
    Lib.hid fun W h1 h2 => l2Times_any a1 a2 c1 c2 n m x y f W h1 h2 (sumB_parts HBX.out).1 (sumB_parts HBY.out).1 HFF.out
  clear hx hy hbx hby hb hf
  go_enter Try.func26, Try.ntmps26
  go_wp2_with fail
  refine (sSumIn_is a1 c1 n x true _ HX.out HBX.out).mono ?_
  rintro e w1 ⟨rfl, hb1⟩
  have HB1 := Lib.hid hb1
  clear hb1
  go_wp2_with fail
  refine (sSumIn_is a2 c2 m y true _ (HY.out.below HB1.out) HBY.out).mono ?_
  rintro e w2 ⟨rfl, hb2⟩
  have HB2 := Lib.hid (HB1.out.trans (hb2.mono HB1.out.size))
  clear hb2
  go_wp2_with fail
  refine (HT.out _ (HX.out.below HB2.out) (HY.out.below HB2.out)).mono ?_
  rintro e w3 (⟨hft, v, rfl, ho, hsm, hb3⟩ | ⟨hff, g, l, cap, rfl, hb3⟩)
  · have HO := Lib.hid ho
    have HSM := Lib.hid hsm
    have HB3 := Lib.hid (HB2.out.trans (hb3.mono HB2.out.size))
    have HFT := Lib.hid hft
    obtain ⟨gv, cv, rfl, _⟩ := ho.form
    have HSb : Hid (sumB (canonT (pairsT x y)) = b) := Lib.hid (by
      have h := HBB.out
      rw [HFF.out, HFT.out, Bool.true_and] at h
      rw [sumB_canon (canon_of _)]; exact h)
    have hbs := HB2.out.size
    have hbs3 := hb3.size
    clear ho hsm hb3 hft
    go_wp2_with fail
    refine (sDone_any w.heap.size _ (canonT (pairsT x y)) b _ (HO.out.mono hbs) HSM.out HB3.out.size HSb.out).mono ?_
    rintro e w4 ⟨⟨v', rfl, ho⟩, hb4⟩
    have HO4 := Lib.hid ho
    clear ho
    go_wp2
    go_ret2
    exact ⟨⟨_, rfl, HO4.out⟩, HB3.out.trans (hb4.mono HB3.out.size)⟩
  · have HB3 := Lib.hid (HB2.out.trans (hb3.mono HB2.out.size))
    have hbf : b = false := by rw [← HBB.out, HFF.out, hff]; rfl
    subst hbf
    clear hb3 hff
    go_wp2
    go_ret2
    exact ⟨⟨_, rfl, (ownEmpty _).mono HB3.out.size⟩, HB3.out.alloc HB3.out.size _⟩

end Go.Proofs.Ytidmlppbmcphbaa

/- The contracts of slices.Grow and slices.Concat at terms. -/

namespace Go.Proofs.Ytidmlppbmcphbaa
open Go.RowKit Go.Shelf

set_option maxRecDepth 100000 in
set_option maxHeartbeats 2000000 in
theorem growNil_any (n : Nat) (w : World) (hn : n ≤ 200000) :
    Calls Try.prog 92 #[.slice none 0 0, .int .i64 n] w fun e w' => (∃ v, e = .returned v ∧ w'.ownsRow w.heap.size TI 2 v 0 []) ∧ Below w.heap.size w w' := by
  by_cases h0 : n = 0
  · subst h0
    go_enter Try.func92, Try.ntmps92
    go_wp2
    go_ret
    exact ⟨⟨_, rfl, World.ownsRow_nil _ _ _ _⟩, Below.refl _ _⟩
  · obtain ⟨i0, hi, hz0, hz1, hz2⟩ := info_parts infoTerm
    have hp : 0 < n := by omega
    have hold : (Builtin.firstCells i0.size 0 (.slice none 0 0)).run Try.prog w.drew = .ok (#[] : Array Value) w.drew := run_firstCells_none w.drew i0.size 0 0 0
    have hrz : ∀ ty, (Builtin.append_ #[25, 3] ty #[.slice none 0 0, .int .i64 (n : Int)]).run Try.prog w =
        .ok (.slice (some ⟨w.heap.size, 0, none⟩) (0 + n) (grownCap w (0 + n) 0 TI)) (w.drew.alloc (.cells ((#[] : Array Value) ++ Builtin.zeroCells (Value.agg #[.int .i64 0, .string ByteArray.empty]).cells n ++ Builtin.zeroCells (Value.agg #[.int .i64 0, .string ByteArray.empty]).cells (grownCap w (0 + n) 0 TI - (0 + n))) TI)) := fun ty =>
      Lib.run_append_grow_zeros (olds := []) w 25 3 ty TI i0 _ .i64 .i64 Try.underlying25 Try.underlying3 hi hz0 none 0 0 hold n hp (by omega) (by omega) (by omega) (by rw [hz2]; omega) (growslice_fits (by omega) (by rw [hz2]; omega))
    have hG := grownCap_ge w (0 + n) 0 TI
    have hGm := grownCap_le_maxLen w (0 + n) 0 TI (by unfold maxLen; omega)
    obtain ⟨cur, hcur⟩ : ∃ cur, ((#[] : Array Value) ++ Builtin.zeroCells (Value.agg #[.int .i64 0, .string ByteArray.empty]).cells n ++ Builtin.zeroCells (Value.agg #[.int .i64 0, .string ByteArray.empty]).cells (grownCap w (0 + n) 0 TI - (0 + n))) = cur := ⟨_, rfl⟩
    obtain ⟨G, hGG⟩ : ∃ G, grownCap w (0 + n) 0 TI = G := ⟨_, rfl⟩
    have hcs : cur.size = G * 2 := by
      rw [← hcur, hGG]
      rw [hGG] at hG
      simp [Builtin.zeroCells, Value.cells]
      omega
    rw [hcur, hGG, Nat.zero_add] at hrz
    rw [hGG] at hG hGm
    have HCS := Lib.hid hcs
    have hmade := Lib.hid (World.ownsRow_made (base := w.heap.size) (e := TI) (size := 2) w.drew cur G (Nat.le_refl _) hGm hcs)
    unfold maxLen at hGm
    rw [Nat.zero_add] at hG
    clear hold hcur hGG hcs
    go_enter Try.func92, Try.ntmps92
    go_wp2_with (at_builtin; refine Lib.wpList_append_run _ rfl _ _ _ _ rfl _ _ rfl rfl _ _ (hrz _) ?_)
    go_ret
    exact ⟨⟨_, rfl, hmade.out⟩, ((Below.refl _ _).drew).alloc (Nat.le_refl _) _⟩

theorem ownsRow_low {W : World} {base : Nat} {e : TypeId} {size : Nat} {v : Value} {n : Nat} {xs : List Value} (h : W.ownsRow base e size v n xs) : ∀ j, v.ownBlock = some j → base ≤ j := fun j ej => (h.lt j ej).1

/-- A slice of terms that may be nil. -/
def PartT (w : World) (v : Value) (ts : List Tm) : Prop := (v = .slice none 0 0 ∧ ts = []) ∨ ∃ x cap, v = .slice (some x) ts.length cap ∧ ∀ j u, (termsV ts)[j]? = some u → w.cell? (x.add j) = some u ∧ x.block < w.heap.size
theorem PartT.below {w w' : World} {v : Value} {ts : List Tm} (h : PartT w v ts) (hb : Below w.heap.size w w') : PartT w' v ts := by
  rcases h with h | ⟨x, cap, e, h⟩
  · exact .inl h
  · exact .inr ⟨x, cap, e, fun j u hu => by
      obtain ⟨h1, h2⟩ := h j u hu
      exact ⟨(hb.cell (p := x.add j) (by rw [addr_add_block]; exact h2)).trans h1, Nat.lt_of_lt_of_le h2 hb.size⟩⟩
theorem partT_of {w : World} {ad : Addr} {n cap : Nat} {ts : List Tm} (h : IsTerms w (some ad) n ts) : PartT w (.slice (some ad) n cap) ts := by
  refine .inr ⟨ad, cap, by rw [h.len], fun j u hu => ?_⟩
  rcases Nat.eq_zero_or_pos n with h0 | h0
  · have : ts = [] := List.length_eq_zero_iff.1 (h.len.trans h0)
    subst this
    simp [termsV] at hu
  · obtain ⟨z, e, h2⟩ := h.at_ h0
    cases e
    exact ⟨h2.cells j u hu, h2.1⟩
theorem partT_own {base : Nat} {w : World} {v : Value} {ts : List Tm} (h : OwnT base w v ts) : PartT w v ts := by
  rcases h.2 with ⟨rfl, h0⟩ | ⟨g, cap, cur, rfl, _, hg, _⟩
  · exact .inl ⟨rfl, List.length_eq_zero_iff.1 h0⟩
  · exact .inr ⟨_, cap, rfl, fun j u hu => ⟨(termsAt_of_owns rfl h).cells j u hu, (ownsRow_cap h).2.2.2⟩⟩
theorem PartT.len {w : World} {v : Value} {ts : List Tm} (h : PartT w v ts) : ∃ a cap, v = .slice a ts.length cap := by
  rcases h with ⟨rfl, rfl⟩ | ⟨x, cap, e, _⟩
  · exact ⟨_, _, rfl⟩
  · exact ⟨_, _, e⟩

def lens (ps : List (Value × List Tm)) : Nat := (ps.map fun p => p.2.length).sum
def flatT (ps : List (Value × List Tm)) : List Tm := (ps.map Prod.snd).flatten
theorem lens_succ (ps : List (Value × List Tm)) (k : Nat) (h : k < ps.length) : lens (ps.take (k + 1)) = lens (ps.take k) + ps[k].2.length := by
  unfold lens
  rw [List.take_succ_eq_append_getElem h, List.map_append, List.sum_append]; simp
theorem flatT_succ (ps : List (Value × List Tm)) (k : Nat) (h : k < ps.length) : flatT (ps.take (k + 1)) = flatT (ps.take k) ++ ps[k].2 := by
  unfold flatT
  rw [List.take_succ_eq_append_getElem h, List.map_append, List.flatten_append]; simp
theorem flatT_len (ps : List (Value × List Tm)) : (flatT ps).length = lens ps := by
  unfold flatT lens
  rw [List.length_flatten, List.map_map]; rfl
theorem lens_take (ps : List (Value × List Tm)) (k : Nat) : lens (ps.take k) ≤ lens ps := by
  have h : lens ps = lens (ps.take k) + lens (ps.drop k) := by
    conv => lhs; rw [← List.take_append_drop k ps]
    unfold lens
    rw [List.map_append, List.sum_append]
  omega

set_option maxRecDepth 100000 in
set_option maxHeartbeats 4000000 in
theorem concat_any (g cap n : Nat) (ps : List (Value × List Tm)) (w : World) (hl : ps.length = n) (hn : n ≤ 100000) (hg : g < w.heap.size) (hc : ∀ i (h : i < ps.length), w.cell? ⟨g, i, none⟩ = some ps[i].1) (hp : ∀ p ∈ ps, PartT w p.1 p.2) (hs : lens ps ≤ 200000) :
    Calls Try.prog 65 #[.slice (some ⟨g, 0, none⟩) n cap] w fun e w' => (∃ v, e = .returned v ∧ OwnT w.heap.size w' v (flatT ps)) ∧ Below w.heap.size w w' := by
  obtain ⟨i0, hi, hz0, hz1, hz2⟩ := info_parts infoTerm
  have HL := Lib.hid hl
  have HC := Lib.hid hc
  have HP := Lib.hid hp
  have HT := Lib.hid (lens_take ps)
  clear hl hc hp
  go_enter Try.func65, Try.ntmps65
  go_wp2
  go_loop [3, 11] (fun s i => ∃ k : Nat, k ≤ n ∧ i = .int .i64 k ∧ s = .int .i64 (lens (ps.take k) : Nat)) (fun _ i => n - (intOf i).toNat)
  case atStart => exact ⟨0, Nat.zero_le _, rfl, rfl⟩
  case round =>
    obtain ⟨k, hk, rfl, rfl⟩ := hrel
    by_cases hlt : k < n
    · have hkp : k < ps.length := by rw [HL.out]; exact hlt
      have hck := HC.out k hkp
      obtain ⟨a, c, ev⟩ := (HP.out _ (List.getElem_mem hkp)).len
      rw [ev] at hck
      have hsu := lens_succ ps k hkp
      have hle := HT.out (k + 1)
      obtain ⟨L, hL⟩ : ∃ L, lens (ps.take k) = L := ⟨_, rfl⟩
      obtain ⟨M, hM⟩ : ∃ M, ps[k].2.length = M := ⟨_, rfl⟩
      rw [hL, hM] at hsu
      rw [hM] at hck
      rw [hL]
      have HSU := Lib.hid hsu
      have hLM : L + M ≤ 200000 := by omega
      clear hsu hle ev hL hM
      go_wp2
      go_round
      case rel => exact ⟨k + 1, by omega, by go_num, by rw [HSU.out]; go_num⟩
      case measure => simp [intOf]; omega
    · obtain rfl : n = k := by omega
      have hle := HT.out n
      obtain ⟨L, hL⟩ : ∃ L, lens (ps.take n) = L := ⟨_, rfl⟩
      rw [hL] at hle ⊢
      have hL2 : L ≤ 200000 := by omega
      clear hle hL
      go_wp2_with fail
      refine (growNil_any L _ hL2).mono ?_
      rintro e w2 ⟨⟨v, rfl, ho⟩, hb2⟩
      have HO : Hid (OwnT w.heap.size w2 v (flatT (ps.take 0))) := Lib.hid ho
      have HB2 := Lib.hid hb2
      clear ho hb2
      go_wp2_with fail
      go_loopw [6, 27] (fun v i wr => ∃ k : Nat, k ≤ n ∧ i = .int .i64 k ∧ Hid (OwnT w.heap.size wr v (flatT (ps.take k))) ∧ Below w.heap.size w wr) (fun _ i _ => n - (intOf i).toNat)
      case atStart => exact ⟨0, Nat.zero_le _, rfl, HO, HB2.out⟩
      case round =>
        obtain ⟨k, hk2, rfl, HA, hB⟩ := hrel
        by_cases hlt2 : k < n
        · have hkp : k < ps.length := by rw [HL.out]; exact hlt2
          have hck := (hB.cell (p := ⟨g, k, none⟩) hg).trans (HC.out k hkp)
          have hPk := (HP.out _ (List.getElem_mem hkp)).below hB
          have HFS := Lib.hid (flatT_succ ps k hkp)
          have hle := HT.out (k + 1)
          have hsu := lens_succ ps k hkp
          have hown := HA.out
          unfold OwnT at hown
          obtain ⟨N, hN⟩ : ∃ N, (flatT (ps.take k)).length = N := ⟨_, rfl⟩
          rw [hN] at hown
          rw [flatT_len] at hN
          rw [hN] at hsu
          have HOWN := Lib.hid hown
          have HN := Lib.hid hN
          rcases hPk with ⟨ev, ez⟩ | ⟨x, cp, ev, hx⟩
          · rw [ev] at hck
            have HEZ := Lib.hid ez
            clear ez ev hle hsu hown hN
            go_wp2_with (at_builtin; refine wpList_append_own_none rfl _ _ 25 rfl w.heap.size TI i0 2 Try.underlying25 hi _ _ _ rfl HOWN.out rfl ?_)
            go_roundw
            case rel =>
              refine ⟨k + 1, by omega, by go_num, Lib.hid ?_, hB⟩
              rw [HFS.out, HEZ.out, List.append_nil]
              exact HA.out
            case measure => simp [intOf]; omega
          · obtain ⟨us, hus⟩ : ∃ us, ps[k].2 = us := ⟨_, rfl⟩
            rw [hus] at hx ev hsu
            obtain ⟨M, hM⟩ : ∃ M, us.length = M := ⟨_, rfl⟩
            rw [hM] at hsu ev
            rw [ev] at hck
            have hNM : N + M ≤ 200000 := by omega
            have HX := Lib.hid hx
            have HM := Lib.hid hM
            have HUS := Lib.hid hus
            have hbs := hB.size
            clear hx ev hsu hus hM hle hown hN
            go_wp2_with (at_builtin; refine wpList_append_own _ rfl _ _ 25 rfl w.heap.size TI i0 (.agg #[.int .i64 0, .string ByteArray.empty]) 2 24 Try.underlying25 hi hz0 hz1 hz2 rfl (by decide) _ _ _ rfl HOWN.out x M cp (termsV us) rfl (by rw [termsV_len, HM.out]) (fun j u hu => (HX.out j u hu).1) (oneCell_terms _) (by unfold maxLen; omega) (by omega) hbs ?_)
            intro v3 w3 hown3 hgrow3 _
            have hB3 : Below w.heap.size w w3 := hB.grown hgrow3 hbs (fun j e => (ownsRow_low HOWN.out) j e)
            have HO3 := Lib.hid hown3
            clear hown3 hgrow3
            go_wp2
            go_roundw
            case rel =>
              refine ⟨k + 1, by omega, by go_num, Lib.hid ?_, hB3⟩
              rw [HFS.out, HUS.out]
              unfold OwnT
              rw [List.length_append, flatT_len, HN.out, HM.out, termsV_append]
              exact HO3.out
            case measure => simp [intOf]; omega
        · obtain rfl : n = k := by omega
          have hall : flatT (ps.take n) = flatT ps := by rw [List.take_of_length_le (by rw [HL.out]; exact Nat.le_refl _)]
          rw [hall] at HA
          clear hall
          go_wp2
          go_ret
          exact ⟨⟨_, rfl, HA.out⟩, hB⟩

end Go.Proofs.Ytidmlppbmcphbaa

/- The contract of the program's 'WordSums'. -/

namespace Go.Proofs.Ytidmlppbmcphbaa
open Go.RowKit Go.Shelf

attribute [local go_sem] Oper.semAt_some

theorem idx_tab : ((List.range 256).all fun n => !(decide ((97 ≤ n ∧ n ≤ 100) ∨ (65 ≤ n ∧ n ≤ 68))) || (decide (bits BinOp.or IntKind.u8 (n : Int) 32 = ((if 97 ≤ n then n - 97 else n - 65 : Nat) : Int) + 97) && decide (bits BinOp.and IntKind.u8 (n : Int) 32 = if 97 ≤ n then 32 else 0))) = true := by kernel_rfl
theorem idx_let (c : UInt8) (h : letB c = true) : bits BinOp.or IntKind.u8 (c.toNat : Int) 32 = (idxB c : Int) + 97 ∧ bits BinOp.and IntKind.u8 (c.toNat : Int) 32 = if 97 ≤ c.toNat then 32 else 0 := by
  have := List.all_eq_true.1 idx_tab c.toNat (List.mem_range.2 c.toNat_lt)
  simp only [Bool.or_eq_true, Bool.and_eq_true, Bool.not_eq_true', decide_eq_false_iff_not, decide_eq_true_eq] at this
  exact this.resolve_left (fun h2 => h2 ((letB_iff c).1 h))

theorem iIndex_any (c : UInt8) (w : World) (h : letB c = true) :
    Calls Try.prog 100 #[.int .u8 (c.toNat : Int)] w fun e w' => e = .returned (.int .i64 (idxB c : Int)) ∧ w' = w := by
  have hb := (idx_let c h).1
  have hj := idxB_lt c h
  obtain ⟨j, hje⟩ : ∃ j, idxB c = j := ⟨_, rfl⟩
  rw [hje] at hb hj ⊢
  clear hje h
  go_enter Try.func100, Try.ntmps100
  go_wp2
  go_ret
  exact ⟨rfl, rfl⟩

theorem iSign_any (c : UInt8) (w : World) (h : letB c = true) :
    Calls Try.prog 101 #[.int .u8 (c.toNat : Int)] w fun e w' => e = .returned (.int .i64 (sgnB c)) ∧ w' = w := by
  have hb := (idx_let c h).2
  by_cases h97 : 97 ≤ c.toNat
  · rw [if_pos h97] at hb
    have hs : Hid (sgnB c = 1) := by unfold sgnB; rw [if_pos h97]; exact Lib.hid rfl
    clear h h97
    go_enter Try.func101, Try.ntmps101
    go_wp2
    go_ret
    exact ⟨ret_int hs.out.symm, rfl⟩
  · rw [if_neg h97] at hb
    have hs : Hid (sgnB c = -1) := by unfold sgnB; rw [if_neg h97]; exact Lib.hid rfl
    clear h h97
    go_enter Try.func101, Try.ntmps101
    go_wp2
    go_ret
    exact ⟨ret_int hs.out.symm, rfl⟩

end Go.Proofs.Ytidmlppbmcphbaa

/- The contracts of the program's 'WordTimes' and 'WordComm'. -/

namespace Go.Proofs.Ytidmlppbmcphbaa
open Go.RowKit Go.Shelf

/-- Two words out of a list of two texts. -/
theorem wordsOf_two (a b : ByteArray) (w : World) (ha : wordB a.data.toList = true) (hb : wordB b.data.toList = true) :
    Calls Try.prog 99 #[.slice (some ⟨w.heap.size, 0, none⟩) 2 2] (w.alloc (.cells #[.string a, .string b] 9)) fun e w' =>
      ∃ g ga ca gb cb, e = .returned (.tuple #[.slice (some ⟨g, 0, none⟩) 2 2, .bool true]) ∧ w'.cell? ⟨g, 0, none⟩ = some (.slice (some ⟨ga, 0, none⟩) a.size ca) ∧ w'.cell? ⟨g, 1, none⟩ = some (.slice (some ⟨gb, 0, none⟩) b.size cb) ∧ g < w'.heap.size ∧
        Hid (IsWord w'.heap.size w' (.slice (some ⟨ga, 0, none⟩) a.size ca) a.data.toList) ∧ Hid (IsWord w'.heap.size w' (.slice (some ⟨gb, 0, none⟩) b.size cb) b.data.toList) ∧ Below w.heap.size w w' := by
  have hs : a.size ≤ 60 := by have := ((wordB_iff _).1 ha).1; simpa using this
  have hs2 : b.size ≤ 60 := by have := ((wordB_iff _).1 hb).1; simpa using this
  have hcells := cell_two_new w (.string a) (.string b) 9
  refine (wordsOf_any (some ⟨w.heap.size, 0, none⟩) w.heap.size 0 2 2 [a, b] _ rfl (by omega) (fun _ => rfl) (by simp) ?_ ?_).mono ?_
  · intro i h
    have hi : i = 0 ∨ i = 1 := by simp at h; omega
    rcases hi with rfl | rfl
    · exact hcells 0 (.string a) rfl
    · exact hcells 1 (.string b) rfl
  · intro s h
    unfold maxLen
    rcases List.mem_cons.1 h with rfl | h
    · omega
    · obtain rfl := List.mem_singleton.1 h; omega
  · rintro e w' ⟨⟨_, s, h, hf⟩ | ⟨g, vals, rfl, _, hown, hv⟩, hB⟩
    · rcases List.mem_cons.1 h with rfl | h
      · rw [ha] at hf; cases hf
      · obtain rfl := List.mem_singleton.1 h; rw [hb] at hf; cases hf
    · have hl := hown.1
      match vals, hl with
      | [v0, v1], _ =>
        have h0 := hv 0 (by simp) v0 rfl
        have h1 := hv 1 (by simp) v1 rfl
        obtain ⟨ga, ca, e0⟩ := h0.slice
        obtain ⟨gb, cb, e1⟩ := h1.slice
        have i0 := h0.isWord
        have i1 := h1.isWord
        subst e0 e1
        refine ⟨g, ga, ca, gb, cb, rfl, ?_, ?_, (ownsRow_cap hown).2.2.2, ?_, ?_, ((Below.refl _ w).alloc (Nat.le_refl _) _).trans (hB.mono (by simp))⟩
        · rw [hown.cellAt 0 (by omega)]; simp
        · rw [hown.cellAt 1 (by omega)]; simp
        · have := i0; simp at this; exact this
        · have := i1; simp at this; exact this

theorem wordsOf_two_no (a b : ByteArray) (w : World) (hma : a.size ≤ maxLen) (hmb : b.size ≤ maxLen) (h : ¬ (wordB a.data.toList = true ∧ wordB b.data.toList = true)) :
    Calls Try.prog 99 #[.slice (some ⟨w.heap.size, 0, none⟩) 2 2] (w.alloc (.cells #[.string a, .string b] 9)) fun e w' =>
      e = .returned (.tuple #[.slice none 0 0, .bool false]) ∧ Below w.heap.size w w' := by
  have hcells := cell_two_new w (.string a) (.string b) 9
  refine (wordsOf_any (some ⟨w.heap.size, 0, none⟩) w.heap.size 0 2 2 [a, b] _ rfl (by omega) (fun _ => rfl) (by simp) ?_ ?_).mono ?_
  · intro i h
    have hi : i = 0 ∨ i = 1 := by simp at h; omega
    rcases hi with rfl | rfl
    · exact hcells 0 (.string a) rfl
    · exact hcells 1 (.string b) rfl
  · intro s h
    rcases List.mem_cons.1 h with rfl | h
    · exact hma
    · obtain rfl := List.mem_singleton.1 h; exact hmb
  · rintro e w' ⟨⟨he, _⟩ | ⟨g, vals, rfl, hall, _⟩, hB⟩
    · exact ⟨he, ((Below.refl _ w).alloc (Nat.le_refl _) _).trans (hB.mono (by simp))⟩
    · exact absurd ⟨hall a (by simp), hall b (by simp)⟩ h

/-- A word in a box, and the function that gives letters out of it. -/
structure Item where
  gf : Nat
  sv : Value
  L : List UInt8
  xs : List UInt8
def Gives (it : Item) : Prop :=
  (∀ (W : World) (Bs n₀ : Nat), Bs < n₀ → n₀ ≤ W.heap.size → W.cell? ⟨Bs, 0, none⟩ = some it.sv → IsWord n₀ W it.sv it.L → SeqO n₀ W it.gf #[.pointer (some ⟨Bs, 0, none⟩)] it.xs) ∧
  ∀ args w, (callFunc it.gf args).run Try.prog w = .ok (.enter it.gf args) w
theorem gives_fwd (sv : Value) (L : List UInt8) : Gives ⟨115, sv, L, L⟩ :=
  ⟨fun W Bs n₀ h1 h2 h3 h4 => values_seq L sv W Bs n₀ (by omega) h2 h3 h4, enters_of Try.func115 (by kernel_rfl) rfl⟩
theorem gives_bwd (sv : Value) (L : List UInt8) : Gives ⟨113, sv, L, L.reverse.map invB⟩ :=
  ⟨fun W Bs n₀ h1 h2 h3 h4 => turned_seq L sv W Bs n₀ h1 h2 h3 h4, enters_of Try.func113 (by kernel_rfl) rfl⟩

def boxes : World → List Item → World
  | w, [] => w
  | w, it :: r => boxes (w.alloc (.cells #[it.sv] WT)) r
def funcs : Nat → List Item → List Value
  | _, [] => []
  | k, it :: r => .func (.func it.gf) #[] #[.pointer (some ⟨k, 0, none⟩)] :: funcs (k + 1) r
def partsOf : Nat → List Item → List Part
  | _, [] => []
  | k, it :: r => ⟨it.gf, #[.pointer (some ⟨k, 0, none⟩)], it.xs⟩ :: partsOf (k + 1) r
theorem boxes_size : ∀ (its : List Item) (w : World), (boxes w its).heap.size = w.heap.size + its.length
  | [], _ => rfl
  | it :: r, w => by rw [boxes, boxes_size r]; simp; omega
theorem boxes_below : ∀ (its : List Item) (w : World), Below w.heap.size w (boxes w its)
  | [], w => Below.refl _ _
  | it :: r, w => ((Below.refl _ w).alloc (Nat.le_refl _) _).trans ((boxes_below r _).mono (by simp))
theorem partsOf_len : ∀ (its : List Item) (k : Nat), (partsOf k its).length = its.length
  | [], _ => rfl
  | it :: r, k => by simp [partsOf, partsOf_len r]
theorem funcs_get : ∀ (its : List Item) (k i : Nat) (h : i < (partsOf k its).length), (funcs k its)[i]? = some (.func (.func (partsOf k its)[i].gf) #[] (partsOf k its)[i].lb)
  | [], _, _, h => by simp [partsOf] at h
  | it :: r, k, 0, _ => rfl
  | it :: r, k, i + 1, h => by
    simp only [partsOf, List.length_cons] at h
    simpa [partsOf, funcs] using funcs_get r (k + 1) i (by omega)
theorem parts_mem : ∀ (its : List Item) (w : World) (p : Part), p ∈ partsOf w.heap.size its → ∃ it ∈ its, ∃ B, p = ⟨it.gf, #[.pointer (some ⟨B, 0, none⟩)], it.xs⟩ ∧ B < (boxes w its).heap.size ∧ (boxes w its).cell? ⟨B, 0, none⟩ = some it.sv
  | [], _, _, h => by simp [partsOf] at h
  | it :: r, w, p, h => by
    rcases List.mem_cons.1 h with rfl | h
    · refine ⟨it, by simp, w.heap.size, rfl, by rw [boxes_size]; simp, ?_⟩
      exact ((boxes_below r (w.alloc (.cells #[it.sv] WT))).cell (p := ⟨w.heap.size, 0, none⟩) (by simp)).trans (Boxed.new w WT it.sv).cell
    · have h2 : p ∈ partsOf (w.alloc (.cells #[it.sv] WT)).heap.size r := by simpa using h
      obtain ⟨it2, hm, B, hp, hB, hc⟩ := parts_mem r _ p h2
      exact ⟨it2, by simp [hm], B, hp, hB, hc⟩
theorem cat_parts : ∀ (its : List Item) (k : Nat), cat (partsOf k its) = (its.map Item.xs).flatten
  | [], _ => rfl
  | it :: r, k => by
    have := cat_parts r (k + 1)
    simp only [cat] at this ⊢
    simp only [partsOf, List.map_cons, List.flatten_cons, this]
theorem cell_past {w : World} {p : Addr} {v : Value} (h : w.cell? p = some v) (o : Obj) : (w.alloc o).cell? p = some v := (World.cell?_alloc_lt w o p (World.block_lt_of_cell? w _ h)).trans h
theorem cell_drawn {w : World} {p : Addr} {v : Value} (h : w.cell? p = some v) : w.drew.cell? p = some v := h

/-- 'reduced' over boxed words. -/
theorem reduced_boxes (w : World) (its : List Item) (hG : ∀ it ∈ its, Gives it ∧ IsWord w.heap.size w it.sv it.L) (hl : (its.map Item.xs).flatten.length ≤ 100000000) (hn : its.length ≤ 1000000) :
    Calls Try.prog 67 #[.slice (some ⟨w.heap.size + its.length, 0, none⟩) its.length its.length] ((boxes w its).alloc (.cells (funcs w.heap.size its).toArray IT)).drew fun e w' =>
      ∃ g m cap', e = .returned (.slice (some ⟨g, 0, none⟩) m cap') ∧ (redX [] (its.map Item.xs).flatten).length = m ∧ w'.ownsRow w.heap.size 106 1 (.slice (some ⟨g, 0, none⟩) m cap') m (bytesV (redX [] (its.map Item.xs).flatten)) ∧ Below w.heap.size w w' := by
  have hbw := boxes_below its w
  have hsz := boxes_size its w
  have hbW : Below w.heap.size w ((boxes w its).alloc (.cells (funcs w.heap.size its).toArray IT)).drew := (hbw.alloc (by omega) _).drew
  have hr := reduced_in 20 (by omega) (some ⟨w.heap.size + its.length, 0, none⟩) (w.heap.size + its.length) 0 its.length (partsOf w.heap.size its) ((boxes w its).alloc (.cells (funcs w.heap.size its).toArray IT)).drew (fun _ => rfl)
    (by show _ < ((boxes w its).alloc (.cells (funcs w.heap.size its).toArray IT)).heap.size; simp; omega)
    (fun i h => by
      show ((boxes w its).alloc (.cells (funcs w.heap.size its).toArray IT)).cell? _ = _
      rw [World.cell?_alloc_at _ _ _ _ (by show _ = _; omega)]
      rw [Nat.zero_add, List.getElem?_toArray]
      exact funcs_get its _ i h)
    (fun p hp => by
      obtain ⟨it, hm, B, rfl, hB, hc⟩ := parts_mem its w p hp
      obtain ⟨hg, hw⟩ := hG it hm
      refine ⟨hg.1 _ B _ ?_ (Nat.le_refl _) (cell_drawn (cell_past hc _)) ((hw.below hbW).mono ?_), hg.2⟩
      · show B < ((boxes w its).alloc (.cells (funcs w.heap.size its).toArray IT)).heap.size; simp; omega
      · show _ ≤ ((boxes w its).alloc (.cells (funcs w.heap.size its).toArray IT)).heap.size; simp; omega)
    (by rw [cat_parts]; exact hl) (by rw [partsOf_len]; exact hn)
  rw [cat_parts, partsOf_len] at hr
  refine ((callsIn_wide (n := 20)).1 hr).mono ?_
  rintro e w' ⟨g, m, cap', rfl, hm, hown, hb⟩
  have hsW : w.heap.size ≤ ((boxes w its).alloc (.cells (funcs w.heap.size its).toArray IT)).drew.heap.size := hbW.size
  exact ⟨g, m, cap', rfl, hm, ownsRow_base hown hsW, hbW.trans (hb.mono hsW)⟩

end Go.Proofs.Ytidmlppbmcphbaa

/- A law for a region that draws its order, inside a fence, by what stands when some of its operations have come up: each operation is met once, in whatever order they come. -/

namespace Go.Proofs.Ytidmlppbmcphbaa
open Go.RowKit Go.Shelf

theorem count_set (l : List Bool) : ∀ i, l[i]? = some false → (l.set i true).count false + 1 = l.count false := by
  induction l with
  | nil => intro i h; simp at h
  | cons b r ih =>
    intro i h
    cases i with
    | zero => simp at h; subst h; simp
    | succ i =>
      simp only [List.getElem?_cons_succ] at h
      have := ih i h
      simp only [List.set_cons_succ, List.count_cons]
      omega
theorem listed_false {l : Array Bool} {i : Nat} (h : l.getD i true = false) : l.toList[i]? = some false := by
  rw [Array.getD_eq_getD_getElem?] at h
  rw [Array.getElem?_toList]
  cases e : l[i]? with
  | none => rw [e] at h; cases h
  | some b => rw [e] at h; simp at h; rw [h]

theorem wpAnyIn_inv {F : Fence} {n : Nat} {P : Program} {md : Region.Mode} {ops : Array Oper} {Q : Exit → Act → World → Prop} (Inv : Array Bool → Act → World → Prop)
    (hstep : ∀ listed a w i, Inv listed a w → listed.getD i true = false → (∀ o, ops[i]? = some o → ∀ e ∈ o.after, Region.binds md e = true → listed.getD e.on false = true) → i < ops.size →
      wpOpIn F n P ops Q i (fun a' w' => Inv (listed.setIfInBounds i true) a' w') a w)
    (hdone : ∀ listed a w, Inv listed a w → (∀ i o, ops[i]? = some o → (∀ e ∈ o.after, Region.binds md e = true → listed.getD e.on false = true) → listed.getD i true = true) → Q .normal a w) :
    ∀ (fuel : Nat) (listed : Array Bool) (a : Act) (w : World), listed.toList.count false ≤ fuel → Inv listed a w → wpAnyIn F n P md ops Q fuel listed a w := by
  have hd : ∀ listed a w, Inv listed a w → Region.ready md ops listed = [] → Q .normal a w := fun listed a w hI hr => hdone listed a w hI fun i o ho hall => by
    cases h : listed.getD i true with
    | true => rfl
    | false =>
      have : i ∈ Region.ready md ops listed := mem_ready.2 ⟨h, o, ho, hall⟩
      rw [hr] at this; cases this
  intro fuel
  induction fuel with
  | zero =>
    intro listed a w hc hI
    have hr : Region.ready md ops listed = [] := by
      rw [List.eq_nil_iff_forall_not_mem]
      intro j hj
      have h1 := listed_false (mem_ready.1 hj).1
      have := count_set _ _ h1
      omega
    exact ⟨hr, hd _ _ _ hI hr⟩
  | succ fuel ih =>
    intro listed a w hc hI
    refine ⟨fun h => hd _ _ _ hI h, fun i hi => ?_⟩
    obtain ⟨h1, o, ho, hall⟩ := mem_ready.1 hi
    refine wpOpIn_mono (fun a' w' h => ih _ a' w' ?_ h) (hstep listed a w i hI h1 (fun o' ho' => by rw [ho] at ho'; cases ho'; exact hall) (Array.getElem?_eq_some_iff.1 ho).1)
    have := count_set _ _ (listed_false h1)
    rw [Array.toList_setIfInBounds]
    omega

end Go.Proofs.Ytidmlppbmcphbaa

/- The contract of the program's 'WordPut'. -/

namespace Go.Proofs.Ytidmlppbmcphbaa
open Go.RowKit Go.Shelf

attribute [local go_sem] Oper.semAt_some

abbrev FV : Nat := 115

/-- What a round keeps, where the iterator is that of a word. -/
def KeepP (n₀ N : Nat) (W W' : World) : Prop := Below n₀ W W' ∧ KeepsFrom N W W'

/-- The loop's law at the letters of a word, for bodies that write where they will behind what was there. -/
theorem range_values {n : Nat} {g : Operand} {p : Tmp} {assign body : Code} {Q : Exit → Act → World → Prop} {a : Act} {w : World} {Bs : Nat} (hn : 14 ≤ n)
    (hg : a.eval g = .func (.func FV) #[] #[.pointer (some ⟨Bs, 0, none⟩)])
    {n₀ : Nat} {L : List UInt8} {sv : Value} (hBs : Bs < w.heap.size) (hc : w.cell? ⟨Bs, 0, none⟩ = some sv) (hw : IsWord n₀ w sv L) (hn₀ : n₀ ≤ w.heap.size)
    (I : List UInt8 → World → Prop) (hI : OwnFrom w.heap.size I) (h0 : I [] w) (a₁ : UInt8 → Act)
    (hassign : ∀ (l : Nat) (x : UInt8) (W : World) (K : Act → World → Prop), K (a₁ x) W →
      assign.wpIn (Fence.wide.inRound l) (n - 1 - 1) Try.prog (Exit.then K (fun _ _ _ => False)) { tmps := (#[p].zip (encB x)).foldl (fun t (q, v) => t.setIfInBounds q v) a.tmps, defers := [] } W)
    (hbody : ∀ (l : Nat) (pre : List UInt8) (x : UInt8) (W : World), I pre W → pre ++ [x] <+: L →
      body.wpIn (Fence.wide.inRound l) (n - 1 - 1) Try.prog (goesOn w.heap.size (KeepP n₀) I (pre ++ [x]) W) (a₁ x) W)
    (hdone : ∀ (D : Nat) (W : World), w.heap.size ≤ D → I L W → W.heap[D]? = some (.deferred (some [])) → Q .normal { a with defers := { target := .collected D, args := #[] } :: a.defers } W) :
    (Code.rangeFunc g #[p] assign body).wpIn Fence.wide n Try.prog Q a w :=
  range_law (by omega) hg (enters_of Try.func115 (by kernel_rfl) rfl) (fun _ => rfl) (KeepP n₀) (fun h k => ⟨h.1.trans k.1, h.2.trans k.2⟩)
    (fun N W l o o' hl hwl hW ho hwk => ⟨belowK_b hn₀ W l o o' hwl hW ho hwk, KeepsFrom.of_grownBy (grownBy_putObj' W l o') (fun j e => by cases e; exact hl)⟩)
    (fun h => ⟨h.1, keepsFrom_mono h.2 (by omega)⟩)
    (fun l J V hV hlt hJ hY h0 => (values1_in (n - 1) (by omega) l Bs n₀ L sv J (fun _ _ => False) (fun pre x W1 hj hl => (hY pre x W1 hj hl).mono (fun _ _ ⟨a, b, c⟩ => .inl ⟨a, b, c.1⟩)) V
      ((hV.cell (p := ⟨Bs, 0, none⟩) hBs).trans hc) (hw.below (hV.mono hn₀)) h0).mono (by
        rintro e W' ⟨hv, ⟨ys, rfl, hJ'⟩ | ⟨_, _, hf⟩⟩
        · exact ⟨hv, hJ'⟩
        · exact hf.elim)) I hI h0 a₁ hassign hbody hdone

/-- A part's box, and what it gives. -/
def PartAt (N : Nat) (w W : World) (p : Part) : Prop :=
  ∃ B sv L, p.lb = #[.pointer (some ⟨B, 0, none⟩)] ∧ N ≤ B ∧ Boxed W B WT sv ∧ Gives ⟨p.gf, sv, L, p.xs⟩ ∧ IsWord N w sv L
theorem PartAt.own (N : Nat) (w : World) (p : Part) : Own (fun (_ : Unit) W => PartAt N w W p) := by
  rintro s X Y row ⟨B, sv, L, h1, h2, h3, h4⟩ hg hrow
  exact ⟨B, sv, L, h1, h2, boxed_own B WT (fun _ : Unit => sv) () X Y row h3 hg hrow, h4⟩

def funcV (p : Part) : Value := .func (.func p.gf) #[] p.lb
/-- The parts that the loop has gathered. -/
def Gathered (N BP : Nat) (w : World) (img : UInt8 → List UInt8) (pre : List UInt8) (W : World) : Prop :=
  ∃ ps : List Part, ps.length = pre.length ∧ cat ps = (pre.map img).flatten ∧ (∃ v, Boxed W BP 105 v ∧ W.ownsRow N IT 1 v ps.length (ps.map funcV) ∧ True) ∧ ∀ p ∈ ps, PartAt N w W p
theorem Gathered.own (N BP : Nat) (w : World) (img : UInt8 → List UInt8) : Own (Gathered N BP w img) := by
  rintro s X Y row ⟨ps, h1, h2, h3, h4⟩ hg hrow
  exact ⟨ps, h1, h2, holdsRow_own N BP _ IT 1 (fun _ : Unit => ps.length) (fun _ => ps.map funcV) (fun _ _ => True) () X Y row h3 hg hrow, fun p hp => PartAt.own N w p () X Y row (h4 p hp) hg hrow⟩

/-- The letters of a letter's image, as its iterator gives them. -/
def imgX (zs : List ByteArray) (x : UInt8) : List UInt8 := if 97 ≤ x.toNat then (zs.getD (idxB x) ByteArray.empty).data.toList else (zs.getD (idxB x) ByteArray.empty).data.toList.reverse.map invB
/-- All images, one behind the other. -/
def putX (zs : List ByteArray) (L : List UInt8) : List UInt8 := (L.map (imgX zs)).flatten
theorem imgX_len (zs : List ByteArray) (hz : ∀ z ∈ zs, wordB z.data.toList = true) (x : UInt8) : (imgX zs x).length ≤ 60 := by
  have hz' : (zs.getD (idxB x) ByteArray.empty).data.toList.length ≤ 60 := by
    rw [List.getD_eq_getElem?_getD]
    cases h : zs[idxB x]? with
    | none => simp
    | some z => exact ((wordB_iff _).1 (hz z (List.mem_of_getElem? h))).1
  unfold imgX
  split
  · exact hz'
  · rw [List.length_map, List.length_reverse]; exact hz'
theorem putX_len (zs : List ByteArray) (L : List UInt8) (hz : ∀ z ∈ zs, wordB z.data.toList = true) : (putX zs L).length ≤ L.length * 60 := by
  unfold putX
  induction L with
  | nil => simp
  | cons x r ih =>
    rw [List.map_cons, List.flatten_cons, List.length_append, List.length_cons]
    have := imgX_len zs hz x
    omega
theorem imgX_eq (zs : List ByteArray) (hz : ∀ z ∈ zs, wordB z.data.toList = true) (x : UInt8) : imgX zs x = imgL zs x ∧ letL (imgL zs x) = true := by
  have hl : letL (zs.getD (idxB x) ByteArray.empty).data.toList = true := by
    rw [List.getD_eq_getElem?_getD]
    cases h : zs[idxB x]? with
    | none => rfl
    | some z => exact ((wordB_iff _).1 (hz z (List.mem_of_getElem? h))).2.1
  unfold imgX imgL
  by_cases h : 97 ≤ x.toNat
  · rw [if_pos h, if_neg (by omega)]; exact ⟨rfl, hl⟩
  · rw [if_neg h, if_pos (by omega)]; exact ⟨inv_back _ hl, letL_back _ hl⟩
theorem putX_eq (zs : List ByteArray) (L : List UInt8) (hz : ∀ z ∈ zs, wordB z.data.toList = true) : putX zs L = putL zs L ∧ letL (putL zs L) = true := by
  unfold putX putL
  induction L with
  | nil => exact ⟨rfl, rfl⟩
  | cons x r ih =>
    obtain ⟨h1, h2⟩ := imgX_eq zs hz x
    rw [List.map_cons, List.map_cons, List.flatten_cons, List.flatten_cons, h1, ih.1, letL_append, h2, ih.2]
    exact ⟨rfl, rfl⟩
theorem letL_putX (zs : List ByteArray) (L : List UInt8) (hz : ∀ z ∈ zs, wordB z.data.toList = true) : letL (putX zs L) = true := by
  rw [(putX_eq zs L hz).1]; exact (putX_eq zs L hz).2
abbrev LT : TypeId := 105

theorem infoSeq : (Try.prog.info? IT).map (fun i => (i.zero, i.size, i.bytes)) = some (some .nilFunc, 1, 8) := by kernel_rfl

/-- An append in whatever place of a region. -/
theorem wpIn_append_op {F : Fence} {n : Nat} {P : Program} (w : World) {o : Oper} {a : Act} {K : Act → World → Prop} {Q : Exit → Act → World → Prop}
    (s x : Operand) (t : TypeId) (hop : o.op = Op.call { callee := Callee.builtin Builtin.append, args := #[s, x], argTypes := #[t, t] })
    (base : Nat) (e : TypeId) (i : TypeInfo) (z : Value) (size bytes : Nat) (h1 : P.underlying t = some (.slice e)) (h2 : P.info? e = some i) (h3 : i.zero = some z) (h4 : i.size = size) (h5 : i.bytes = bytes) (h6 : z.cells.size = size) (h7 : 0 < size)
    (v : Value) (k : Nat) (xs : List Value) (hs : a.eval s = v) (hown : w.ownsRow base e size v k xs) (ad : Addr) (m c : Nat) (news : List Value) (hx : a.eval x = .slice (some ad) m c) (hn : news.length = m * size)
    (hc : ∀ j u, news[j]? = some u → w.cell? (ad.add j) = some u) (h1c : ∀ u ∈ news, u.oneCell' = true) (b1 : k + m ≤ maxLen) (b2 : (k + m) * bytes ≤ 140737488355328) (b3 : base ≤ w.heap.size)
    (hK : ∀ v' w', w'.ownsRow base e size v' (k + m) (xs ++ news) → w.grownBy w' v.ownBlock → True → K (a.put o.dst v') w') : o.wpIn F n P a w K Q := by
  obtain ⟨v', w', hrun, r1, r2, _⟩ := run_append_own (P := P) w base t o.type e i z size bytes h1 h2 h3 h4 h5 h6 h7 v k xs hown ad m c news hn hc h1c b1 b2 b3
  unfold Oper.wpIn
  refine ⟨by simp [Oper.about, hop, resolve, Target.leads, Sem.run_pure], ?_⟩
  rw [Oper.semAt_plain F _ _ (by rw [hop]; intro c hc'; cases hc')]
  simp [execOp, hop, resolve, invoke, builtin, hs, hx, hrun, Result.andThen]
  exact hK v' w' r1 r2 trivial

theorem wordsOf_four (g : Nat) (zs : List ByteArray) (w : World) (hl : zs.length = 4) (hg : g < w.heap.size) (hc : ∀ i (h : i < zs.length), w.cell? ⟨g, i, none⟩ = some (.string zs[i])) (hf : ∀ z ∈ zs, wordB z.data.toList = true) (cap : Nat) :
    Calls Try.prog 99 #[.slice (some ⟨g, 0, none⟩) 4 cap] w fun e w' =>
      ∃ (gi : Nat) (vals : List Value), e = .returned (.tuple #[.slice (some ⟨gi, 0, none⟩) 4 4, .bool true]) ∧ gi < w'.heap.size ∧ (∀ j (h : j < zs.length), ∃ v, w'.cell? ⟨gi, j, none⟩ = some v ∧ vals[j]? = some v ∧ WordAt w.heap.size w' v zs[j].data.toList) ∧ Below w.heap.size w w' := by
  refine (wordsOf_any (some ⟨g, 0, none⟩) g 0 cap 4 zs w hl (by decide) (fun _ => rfl) hg (fun i h => by rw [Nat.zero_add]; exact hc i h) (fun s hs => by have := ((wordB_iff _).1 (hf s hs)).1; simp at this; unfold maxLen; omega)).mono ?_
  rintro e w' ⟨⟨_, s, hs, hb⟩ | ⟨gi, vals, rfl, _, hown, hv⟩, hB⟩
  · rw [hf s hs] at hb; cases hb
  · have hlen := hown.1
    refine ⟨gi, vals, rfl, (ownsRow_cap hown).2.2.2, fun j h => ?_, hB⟩
    have hj : j < vals.length := by omega
    exact ⟨vals[j], by rw [hown.cellAt j (by omega)]; exact List.getElem?_eq_getElem hj, List.getElem?_eq_getElem hj, hv j h _ (List.getElem?_eq_getElem hj)⟩

theorem owns_slice {W : World} {base : Nat} {e : TypeId} {v : Value} {n : Nat} {xs : List Value} (h : W.ownsRow base e 1 v n xs) (h0 : 0 < W.heap.size) :
    ∃ a cap b, v = .slice a n cap ∧ (0 < n → a = some ⟨b, 0, none⟩) ∧ b < W.heap.size ∧ ∀ i (h : i < xs.length), W.cell? ⟨b, i, none⟩ = some xs[i] := by
  have hl := h.1
  rw [Nat.mul_one] at hl
  have hc := fun g cap (e : v = .slice (some ⟨g, 0, none⟩) n cap) => e
  rcases h.2 with ⟨rfl, e⟩ | ⟨g, cap, cur, rfl, e2⟩
  · have e0 : n = 0 := e
    subst e0
    exact ⟨none, 0, 0, rfl, fun h => absurd h (Nat.lt_irrefl _), h0, fun i hi => absurd hi (by omega)⟩
  · refine ⟨_, cap, g, rfl, fun _ => rfl, (ownsRow_cap h).2.2.2, fun i hi => ?_⟩
    rw [h.cellAt i (by omega)]
    exact List.getElem?_eq_getElem hi

/-- Four words in memory. -/
def FourAt (gi : Nat) (lo : Nat) (w : World) (zs : List ByteArray) : Prop :=
  gi < w.heap.size ∧ ∀ j (h : j < zs.length), ∃ v, w.cell? ⟨gi, j, none⟩ = some v ∧ WordAt lo w v zs[j].data.toList
theorem FourAt.below {gi lo : Nat} {w w' : World} {zs : List ByteArray} (h : FourAt gi lo w zs) (hb : Below w.heap.size w w') : FourAt gi lo w' zs :=
  ⟨Nat.lt_of_lt_of_le h.1 hb.size, fun j hj => by
    obtain ⟨v, h1, h2⟩ := h.2 j hj
    exact ⟨v, (hb.cell (p := ⟨gi, j, none⟩) h.1).trans h1, h2.below hb⟩⟩

set_option maxRecDepth 100000 in
set_option maxHeartbeats 4000000 in
theorem wordPut_in (n : Nat) (hn : 40 ≤ n) (g1 k cap1 gi cg lo : Nat) (L : List UInt8) (zs : List ByteArray) (w2 : World) (hk : L.length = k) (hk60 : k ≤ 60) (hL : letL L = true)
    (hw1 : IsWord w2.heap.size w2 (.slice (some ⟨g1, 0, none⟩) k cap1) L) (hz4 : zs.length = 4) (hz : ∀ z ∈ zs, wordB z.data.toList = true) (hvals : FourAt gi lo w2 zs) :
    CallsIn Fence.wide n Try.prog 77 #[.slice (some ⟨g1, 0, none⟩) k cap1, .slice (some ⟨gi, 0, none⟩) 4 cg] w2 fun e w' =>
      ∃ g m cap, e = .returned (.slice (some ⟨g, 0, none⟩) m cap) ∧ (redX [] (L.map (imgX zs)).flatten).length = m ∧ w'.ownsRow w2.heap.size 106 1 (.slice (some ⟨g, 0, none⟩) m cap) m (bytesV (redX [] (L.map (imgX zs)).flatten)) ∧ Below w2.heap.size w2 w' := by
  have hgi := hvals.1
  have H2 := Lib.hid hL
  have HZ := Lib.hid hz
  have HV := Lib.hid hvals.2
  have HKL := Lib.hid hk
  have hw1 := Lib.hid hw1
  clear hL hz hvals hk
  refine callsIn_of_wp_marks Try.func77 rfl trivial ?_ rfl
  simp only [Try.ntmps77, List.size_toArray, List.length_cons, List.length_nil, Nat.reduceAdd, Nat.reduceSub, Array.replicate_succ, Array.replicate_zero, List.push_toArray, List.append_toArray, List.nil_append, List.cons_append]
  gi_wp2_with fail
  refine ⟨trivial, fun _ => by omega, ?_⟩
  refine (callsIn_wide.2 (letters_fwd _ _ _ 1 _ (by decide))).mono ?_
  rintro e w3 ⟨rfl, rfl⟩
  have h8 := ((Boxed.new w2 66 (.slice (some ⟨gi, 0, none⟩) 4 cg)).alloc (.cells #[.slice none 0 0] LT)).alloc (.cells #[.slice (some ⟨g1, 0, none⟩) k cap1] WT)
  have h9 := (Boxed.new (w2.alloc (.cells #[.slice (some ⟨gi, 0, none⟩) 4 cg] 66)) LT (.slice none 0 0)).alloc (.cells #[.slice (some ⟨g1, 0, none⟩) k cap1] WT)
  have hb := Boxed.new ((w2.alloc (.cells #[.slice (some ⟨gi, 0, none⟩) 4 cg] 66)).alloc (.cells #[.slice none 0 0] LT)) WT (.slice (some ⟨g1, 0, none⟩) k cap1)
  have hBv : Below w2.heap.size w2 (((w2.alloc (.cells #[.slice (some ⟨gi, 0, none⟩) 4 cg] 66)).alloc (.cells #[.slice none 0 0] LT)).alloc (.cells #[.slice (some ⟨g1, 0, none⟩) k cap1] WT)) := (((Below.refl _ w2).alloc (Nat.le_refl _) _).alloc (by simp) _).alloc (by simp; omega) _
  have hsz : (((w2.alloc (.cells #[.slice (some ⟨gi, 0, none⟩) 4 cg] 66)).alloc (.cells #[.slice none 0 0] LT)).alloc (.cells #[.slice (some ⟨g1, 0, none⟩) k cap1] WT)).heap.size = w2.heap.size + 3 := by simp
  simp only [World.size_alloc] at h9 hb ⊢
  generalize (((w2.alloc (.cells #[.slice (some ⟨gi, 0, none⟩) 4 cg] 66)).alloc (.cells #[.slice none 0 0] LT)).alloc (.cells #[.slice (some ⟨g1, 0, none⟩) k cap1] WT)) = V at h8 h9 hb hBv hsz ⊢
  have hwV : IsWord w2.heap.size V (.slice (some ⟨g1, 0, none⟩) k cap1) L := hw1.out.below hBv
  have HB8 := Lib.hid h8
  have HB9 := Lib.hid h9
  have HBB := Lib.hid hb
  have HWV := Lib.hid hwV
  clear h8 h9 hb hwV
  gi_wp2_with fail
  refine range_values (by omega) (Bs := w2.heap.size + 1 + 1) rfl (n₀ := w2.heap.size + 1) (L := L) (by omega) HBB.out.cell (HWV.out.mono (by omega)) (by omega)
    (fun pre X => Gathered (w2.heap.size + 1) (w2.heap.size + 1) V (imgX zs) pre X ∧ Below (w2.heap.size + 1) V X)
    (OwnFrom.and (Own.from (Gathered.own _ _ _ _) _) (ownFrom_below (by omega) (by omega)))
    ⟨⟨[], rfl, rfl, ⟨_, HB9.out, ⟨rfl, .inl ⟨rfl, rfl⟩⟩, trivial⟩, fun p h => by cases h⟩, Below.refl _ _⟩
    (fun x => { tmps := #[.slice (some ⟨g1, 0, none⟩) k cap1, .slice (some ⟨gi, 0, none⟩) 4 cg, undef, .pointer (some ⟨w2.heap.size, 0, none⟩), .slice none 0 0, .pointer (some ⟨w2.heap.size + 1, 0, none⟩), .int .u8 (x.toNat : Int), .slice (some ⟨g1, 0, none⟩) k cap1, .func (.func FV) #[] #[.pointer (some ⟨w2.heap.size + 1 + 1, 0, none⟩)], .int .u8 (x.toNat : Int), undef, undef, undef, undef, undef, undef, undef, undef, undef, undef, undef, undef, undef], defers := [] }) ?assign ?body ?done
  case assign =>
    intro l x W K hK
    gi_wp2
    exact hK
  case body =>
    rintro l pre x W ⟨⟨ps, hps, hcat, ⟨pv, hbx, hrow, _⟩, hpa⟩, hB⟩ hpre
    have hlet : letB x = true := List.all_eq_true.1 H2.out x (prefix_mem hpre)
    have hplen := prefix_len hpre
    rw [HKL.out] at hplen
    obtain ⟨j, hj⟩ : ∃ j, idxB x = j := ⟨_, rfl⟩
    have hj4 : j < 4 := by rw [← hj]; exact idxB_lt _ hlet
    obtain ⟨vj, hcv, hWA⟩ := HV.out j (by omega)
    have hcW : W.cell? ⟨gi, j, none⟩ = some vj := ((hB.cell (p := ⟨gi, j, none⟩) (by show gi < _; omega)).trans (hBv.cell (p := ⟨gi, j, none⟩) hgi)).trans hcv
    have hc8 : W.cell? ⟨w2.heap.size, 0, none⟩ = some (.slice (some ⟨gi, 0, none⟩) 4 cg) := (hB.cell (p := ⟨w2.heap.size, 0, none⟩) (by show w2.heap.size < _; omega)).trans HB8.out.cell
    have hc9 := hbx.cell
    have hIW : IsWord (w2.heap.size + 1) V vj (zs[j]'(by omega)).data.toList := (hWA.isWord.below hBv).mono (by omega)
    obtain ⟨gj, cj, rfl⟩ := hWA.slice
    obtain ⟨u, hu⟩ : ∃ u, sgnB x = u := ⟨_, rfl⟩
    obtain ⟨vj, hvj⟩ : ∃ v, Value.slice (some ⟨gj, 0, none⟩) (zs[j]'(by omega)).data.toList.length cj = v := ⟨_, rfl⟩
    obtain ⟨gf, hlt, hgv⟩ : ∃ gf : Nat, (∀ X : World, Calls Try.prog 68 #[vj, .int .i64 u] X fun e X' => e = .returned (.func (.func gf) #[] #[.pointer (some ⟨X.heap.size, 0, none⟩)]) ∧ X' = X.alloc (.cells #[vj] WT)) ∧ Gives ⟨gf, vj, (zs[j]'(by omega)).data.toList, imgX zs x⟩ := by
      have hgd : zs.getD (idxB x) ByteArray.empty = zs[j]'(by omega) := by rw [hj, List.getD_eq_getElem?_getD, List.getElem?_eq_getElem (by omega)]; rfl
      rw [← hvj, ← hu]
      by_cases h97 : 97 ≤ x.toNat
      · refine ⟨FV, fun X => letters_fwd _ _ _ _ X (by unfold sgnB; rw [if_pos h97]; decide), ?_⟩
        have : imgX zs x = (zs[j]'(by omega)).data.toList := by unfold imgX; rw [if_pos h97, hgd]
        rw [this]; exact gives_fwd _ _
      · refine ⟨113, fun X => letters_bwd _ _ _ _ X (by unfold sgnB; rw [if_neg h97]; decide), ?_⟩
        have : imgX zs x = (zs[j]'(by omega)).data.toList.reverse.map invB := by unfold imgX; rw [if_neg h97, hgd]
        rw [this]; exact gives_bwd _ _
    rw [hvj] at hcW hIW
    have hix : ∀ X, Calls Try.prog 100 #[.int .u8 (x.toNat : Int)] X fun e X' => e = .returned (.int .i64 (j : Int)) ∧ X' = X := fun X => by rw [← hj]; exact iIndex_any x X hlet
    have hsx : ∀ X, Calls Try.prog 101 #[.int .u8 (x.toNat : Int)] X fun e X' => e = .returned (.int .i64 u) ∧ X' = X := fun X => by rw [← hu]; exact iSign_any x X hlet
    have HIX := Lib.hid hix
    have HSX := Lib.hid hsx
    have HLT := Lib.hid hlt
    have HGV := Lib.hid hgv
    have HIW := Lib.hid hIW
    have HPA := Lib.hid hpa
    have HROW := Lib.hid hrow
    have HBX := Lib.hid hbx
    have hpl : ps.length ≤ 60 := by omega
    have HK := Lib.hid hps
    have HCAT := Lib.hid hcat
    clear hix hsx hlt hgv hIW hpa hrow hbx hcv hWA hpre hps hcat
    gi_wp2
    refine wpIn_region_any (by kernel_rfl) ?_
    change wpAnyIn _ _ _ _ _ _ _ _ _ (World.drew _)
    obtain ⟨i0, hi0, hz0, hz1, hz2⟩ := info_parts infoSeq
    obtain ⟨fv, hfv⟩ : ∃ fv, Value.func (.func gf) #[] #[.pointer (some ⟨W.heap.size, 0, none⟩)] = fv := ⟨_, rfl⟩
    obtain ⟨S3, hS3⟩ : ∃ S3 : Value → World → Prop, S3 = fun v X => X.ownsRow (w2.heap.size + 1) IT 1 v (ps.length + 1) (ps.map funcV ++ [fv]) ∧ ((W.drew.alloc (.cells #[vj] WT)).alloc (.cells #[fv] IT)).grownBy X pv.ownBlock := ⟨_, rfl⟩
    refine wpAnyIn_inv (fun listed a X => ∃ (b0 b1 b2 b3 b4 b5 b6 b7 b8 b9 b10 b11 : Bool) (t31 t32 t33 t34 t35 t36 t37 t38 t39 t40 t41 : Value), listed = #[b0, b1, b2, b3, b4, b5, b6, b7, b8, b9, b10, b11] ∧ a = { tmps := #[.slice (some ⟨g1, 0, none⟩) k cap1, .slice (some ⟨gi, 0, none⟩) 4 cg, undef, .pointer (some ⟨w2.heap.size, 0, none⟩), .slice none 0 0, .pointer (some ⟨w2.heap.size + 1, 0, none⟩), .int .u8 (x.toNat : Int), .slice (some ⟨g1, 0, none⟩) k cap1, .func (.func FV) #[] #[.pointer (some ⟨w2.heap.size + 1 + 1, 0, none⟩)], .int .u8 (x.toNat : Int), t31, t32, t33, t34, t35, t36, t37, t38, t39, t40, t41, undef, undef], defers := [] } ∧
      ((b0 = true → t31 = pv) ∧ (b1 = true → t32 = .slice (some ⟨gi, 0, none⟩) 4 cg) ∧ (b2 = true → t33 = .int .u8 (x.toNat : Int)) ∧ (b3 = true → t34 = .int .i64 (j : Int)) ∧ (b4 = true → t35 = .pointer (some ⟨gi, j, none⟩)) ∧ (b5 = true → t36 = vj) ∧ (b6 = true → t37 = .int .u8 (x.toNat : Int)) ∧ (b7 = true → t38 = .int .i64 u) ∧ (b8 = true → t39 = fv) ∧ (b9 = true → t40 = .slice (some ⟨W.heap.size + 1, 0, none⟩) 1 1)) ∧
      ((b3 = true → b2 = true) ∧ (b4 = true → b1 = true ∧ b3 = true) ∧ (b5 = true → b4 = true) ∧ (b7 = true → b6 = true ∧ b3 = true) ∧ (b8 = true → b5 = true ∧ b7 = true) ∧ (b9 = true → b8 = true) ∧ (b10 = true → b9 = true ∧ b0 = true) ∧ (b11 = true → b10 = true)) ∧
      ((b8 = false → X = W.drew) ∧ (b8 = true → b9 = false → X = W.drew.alloc (.cells #[vj] WT)) ∧ (b9 = true → b10 = false → X = (W.drew.alloc (.cells #[vj] WT)).alloc (.cells #[fv] IT)) ∧ (b10 = true → b11 = false → S3 t41 X) ∧ (b11 = true → ∃ X0, S3 t41 X0 ∧ X = X0.setCell ⟨w2.heap.size + 1, 0, none⟩ t41))) ?step ?rdone _ _ _ _ (by decide) ?init
    case init =>
      exact ⟨false, false, false, false, false, false, false, false, false, false, false, false, undef, undef, undef, undef, undef, undef, undef, undef, undef, undef, undef, rfl, rfl, by simp, by simp, by simp⟩
    case step =>
      rintro listed a X i ⟨b0, b1, b2, b3, b4, b5, b6, b7, b8, b9, b10, b11, t31, t32, t33, t34, t35, t36, t37, t38, t39, t40, t41, rfl, rfl, ⟨v0, v1, v2, v3, v4, v5, v6, v7, v8, v9⟩, ⟨c3, c4, c5, c7, c8, c9, c10, c11⟩, ⟨x0, x1, x2, x3, x4⟩⟩ hun hdep hi
      have hi' : i = 0 ∨ i = 1 ∨ i = 2 ∨ i = 3 ∨ i = 4 ∨ i = 5 ∨ i = 6 ∨ i = 7 ∨ i = 8 ∨ i = 9 ∨ i = 10 ∨ i = 11 := by
        have : i < 12 := hi
        omega
      rcases hi' with rfl | rfl | rfl | rfl | rfl | rfl | rfl | rfl | rfl | rfl | rfl | rfl
      · -- 0
        obtain rfl : b0 = false := hun
        have hx : X.cell? ⟨w2.heap.size + 1, 0, none⟩ = some pv := by
          cases b8 with
          | false => rw [x0 rfl]; exact hc9
          | true =>
            cases b9 with
            | false => rw [x1 rfl rfl]; exact cell_past (cell_drawn hc9) _
            | true =>
              cases b10 with
              | false => rw [x2 rfl rfl]; exact cell_past (cell_past (cell_drawn hc9) _) _
              | true => have := (c10 rfl).2; cases this
        refine wpOpIn_step rfl (fun K' hK => ?_)
        go_simp
        refine hK _ _ ⟨true, _, _, _, _, _, _, _, _, _, _, _, _, _, _, _, _, _, _, _, _, _, _, rfl, rfl, ⟨fun _ => rfl, (by first | exact v1 | exact fun _ => rfl), (by first | exact v2 | exact fun _ => rfl), (by first | exact v3 | exact fun _ => rfl), (by first | exact v4 | exact fun _ => rfl), (by first | exact v5 | exact fun _ => rfl), (by first | exact v6 | exact fun _ => rfl), (by first | exact v7 | exact fun _ => rfl), (by first | exact v8 | exact fun _ => rfl), (by first | exact v9 | exact fun _ => rfl)⟩, ⟨c3, c4, c5, c7, c8, c9, fun h => ⟨(c10 h).1, rfl⟩, c11⟩, ⟨x0, x1, x2, x3, x4⟩⟩
      · -- 1
        obtain rfl : b1 = false := hun
        have q8 : b8 = false := by
          cases b8 with
          | false => rfl
          | true => have := (c4 (c5 (c8 rfl).1)).1; cases this
        obtain rfl := x0 q8
        have hx : W.drew.cell? ⟨w2.heap.size, 0, none⟩ = some (.slice (some ⟨gi, 0, none⟩) 4 cg) := hc8
        refine wpOpIn_step rfl (fun K' hK => ?_)
        go_simp
        refine hK _ _ ⟨_, true, _, _, _, _, _, _, _, _, _, _, _, _, _, _, _, _, _, _, _, _, _, rfl, rfl, ⟨(by first | exact v0 | exact fun _ => rfl), fun _ => rfl, (by first | exact v2 | exact fun _ => rfl), (by first | exact v3 | exact fun _ => rfl), (by first | exact v4 | exact fun _ => rfl), (by first | exact v5 | exact fun _ => rfl), (by first | exact v6 | exact fun _ => rfl), (by first | exact v7 | exact fun _ => rfl), (by first | exact v8 | exact fun _ => rfl), (by first | exact v9 | exact fun _ => rfl)⟩, ⟨c3, fun h => ⟨rfl, (c4 h).2⟩, c5, c7, c8, c9, c10, c11⟩, ⟨x0, x1, x2, x3, x4⟩⟩
      · -- 2
        obtain rfl : b2 = false := hun
        refine wpOpIn_step rfl (fun K' hK => ?_)
        go_simp
        refine hK _ _ ⟨_, _, true, _, _, _, _, _, _, _, _, _, _, _, _, _, _, _, _, _, _, _, _, rfl, rfl, ⟨(by first | exact v0 | exact fun _ => rfl), (by first | exact v1 | exact fun _ => rfl), fun _ => rfl, (by first | exact v3 | exact fun _ => rfl), (by first | exact v4 | exact fun _ => rfl), (by first | exact v5 | exact fun _ => rfl), (by first | exact v6 | exact fun _ => rfl), (by first | exact v7 | exact fun _ => rfl), (by first | exact v8 | exact fun _ => rfl), (by first | exact v9 | exact fun _ => rfl)⟩, ⟨fun _ => rfl, c4, c5, c7, c8, c9, c10, c11⟩, ⟨x0, x1, x2, x3, x4⟩⟩
      · -- 3
        obtain rfl : b3 = false := hun
        obtain rfl : b2 = true := hdep _ rfl ⟨2, .data⟩ (by simp) rfl
        obtain rfl := v2 rfl
        refine wpOpIn_step rfl (fun K' hK => ?_)
        go_simp
        refine ⟨trivial, fun _ => by omega, ?_⟩
        refine (CallsIn.inRound l (callsIn_wide.2 (HIX.out _))).mono ?_
        rintro e X' ⟨rfl, rfl⟩
        refine hK _ _ ⟨_, _, _, true, _, _, _, _, _, _, _, _, _, _, _, _, _, _, _, _, _, _, _, rfl, rfl, ⟨(by first | exact v0 | exact fun _ => rfl), (by first | exact v1 | exact fun _ => rfl), (by first | exact v2 | exact fun _ => rfl), fun _ => rfl, (by first | exact v4 | exact fun _ => rfl), (by first | exact v5 | exact fun _ => rfl), (by first | exact v6 | exact fun _ => rfl), (by first | exact v7 | exact fun _ => rfl), (by first | exact v8 | exact fun _ => rfl), (by first | exact v9 | exact fun _ => rfl)⟩, ⟨fun _ => rfl, fun h => ⟨(c4 h).1, rfl⟩, c5, fun h => ⟨(c7 h).1, rfl⟩, c8, c9, c10, c11⟩, ⟨x0, x1, x2, x3, x4⟩⟩
      · -- 4
        obtain rfl : b4 = false := hun
        obtain rfl : b1 = true := hdep _ rfl ⟨1, .data⟩ (by simp) rfl
        obtain rfl : b3 = true := hdep _ rfl ⟨3, .data⟩ (by simp) rfl
        obtain rfl := v1 rfl
        obtain rfl := v3 rfl
        have hj4' : (j : Int) < 4 := by omega
        refine wpOpIn_step rfl (fun K' hK => ?_)
        go_simp
        refine hK _ _ ⟨_, _, _, _, true, _, _, _, _, _, _, _, _, _, _, _, _, _, _, _, _, _, _, rfl, rfl, ⟨(by first | exact v0 | exact fun _ => rfl), (by first | exact v1 | exact fun _ => rfl), (by first | exact v2 | exact fun _ => rfl), (by first | exact v3 | exact fun _ => rfl), fun _ => rfl, (by first | exact v5 | exact fun _ => rfl), (by first | exact v6 | exact fun _ => rfl), (by first | exact v7 | exact fun _ => rfl), (by first | exact v8 | exact fun _ => rfl), (by first | exact v9 | exact fun _ => rfl)⟩, ⟨c3, fun _ => ⟨rfl, rfl⟩, fun _ => rfl, c7, c8, c9, c10, c11⟩, ⟨x0, x1, x2, x3, x4⟩⟩
      · -- 5
        obtain rfl : b5 = false := hun
        obtain rfl : b4 = true := hdep _ rfl ⟨4, .data⟩ (by simp) rfl
        obtain rfl := v4 rfl
        have q8 : b8 = false := by
          cases b8 with
          | false => rfl
          | true => have := (c8 rfl).1; cases this
        obtain rfl := x0 q8
        have hx : W.drew.cell? ⟨gi, j, none⟩ = some vj := hcW
        refine wpOpIn_step rfl (fun K' hK => ?_)
        go_simp
        refine hK _ _ ⟨_, _, _, _, _, true, _, _, _, _, _, _, _, _, _, _, _, _, _, _, _, _, _, rfl, rfl, ⟨(by first | exact v0 | exact fun _ => rfl), (by first | exact v1 | exact fun _ => rfl), (by first | exact v2 | exact fun _ => rfl), (by first | exact v3 | exact fun _ => rfl), (by first | exact v4 | exact fun _ => rfl), fun _ => rfl, (by first | exact v6 | exact fun _ => rfl), (by first | exact v7 | exact fun _ => rfl), (by first | exact v8 | exact fun _ => rfl), (by first | exact v9 | exact fun _ => rfl)⟩, ⟨c3, c4, fun _ => rfl, c7, fun h => ⟨rfl, (c8 h).2⟩, c9, c10, c11⟩, ⟨x0, x1, x2, x3, x4⟩⟩
      · -- 6
        obtain rfl : b6 = false := hun
        refine wpOpIn_step rfl (fun K' hK => ?_)
        go_simp
        refine hK _ _ ⟨_, _, _, _, _, _, true, _, _, _, _, _, _, _, _, _, _, _, _, _, _, _, _, rfl, rfl, ⟨(by first | exact v0 | exact fun _ => rfl), (by first | exact v1 | exact fun _ => rfl), (by first | exact v2 | exact fun _ => rfl), (by first | exact v3 | exact fun _ => rfl), (by first | exact v4 | exact fun _ => rfl), (by first | exact v5 | exact fun _ => rfl), fun _ => rfl, (by first | exact v7 | exact fun _ => rfl), (by first | exact v8 | exact fun _ => rfl), (by first | exact v9 | exact fun _ => rfl)⟩, ⟨c3, c4, c5, fun h => ⟨rfl, (c7 h).2⟩, c8, c9, c10, c11⟩, ⟨x0, x1, x2, x3, x4⟩⟩
      · -- 7
        obtain rfl : b7 = false := hun
        obtain rfl : b6 = true := hdep _ rfl ⟨6, .data⟩ (by simp) rfl
        obtain rfl : b3 = true := hdep _ rfl ⟨3, .chain⟩ (by simp) rfl
        obtain rfl := v6 rfl
        refine wpOpIn_step rfl (fun K' hK => ?_)
        go_simp
        refine ⟨trivial, fun _ => by omega, ?_⟩
        refine (CallsIn.inRound l (callsIn_wide.2 (HSX.out _))).mono ?_
        rintro e X' ⟨rfl, rfl⟩
        refine hK _ _ ⟨_, _, _, _, _, _, _, true, _, _, _, _, _, _, _, _, _, _, _, _, _, _, _, rfl, rfl, ⟨(by first | exact v0 | exact fun _ => rfl), (by first | exact v1 | exact fun _ => rfl), (by first | exact v2 | exact fun _ => rfl), (by first | exact v3 | exact fun _ => rfl), (by first | exact v4 | exact fun _ => rfl), (by first | exact v5 | exact fun _ => rfl), (by first | exact v6 | exact fun _ => rfl), fun _ => rfl, (by first | exact v8 | exact fun _ => rfl), (by first | exact v9 | exact fun _ => rfl)⟩, ⟨c3, c4, c5, fun _ => ⟨rfl, rfl⟩, fun h => ⟨(c8 h).1, rfl⟩, c9, c10, c11⟩, ⟨x0, x1, x2, x3, x4⟩⟩
      · -- 8
        obtain rfl : b8 = false := hun
        obtain rfl : b5 = true := hdep _ rfl ⟨5, .data⟩ (by simp) rfl
        obtain rfl : b7 = true := hdep _ rfl ⟨7, .data⟩ (by simp) rfl
        obtain rfl := v5 rfl
        obtain rfl := v7 rfl
        obtain rfl := x0 rfl
        refine wpOpIn_step rfl (fun K' hK => ?_)
        go_simp
        refine ⟨trivial, fun _ => by omega, ?_⟩
        refine (CallsIn.inRound l (callsIn_wide.2 (HLT.out _))).mono ?_
        rintro e X' ⟨rfl, rfl⟩
        refine hK _ _ ⟨_, _, _, _, _, _, _, _, true, _, _, _, _, _, _, _, _, _, _, _, _, _, _, rfl, rfl, ⟨(by first | exact v0 | exact fun _ => rfl), (by first | exact v1 | exact fun _ => rfl), (by first | exact v2 | exact fun _ => rfl), (by first | exact v3 | exact fun _ => rfl), (by first | exact v4 | exact fun _ => rfl), (by first | exact v5 | exact fun _ => rfl), (by first | exact v6 | exact fun _ => rfl), (by first | exact v7 | exact fun _ => rfl), fun _ => hfv, (by first | exact v9 | exact fun _ => rfl)⟩, ⟨c3, c4, c5, c7, fun _ => ⟨rfl, rfl⟩, fun _ => rfl, c10, c11⟩, ⟨fun h => (by cases h), fun _ _ => rfl, fun h _ => (by have := c9 h; cases this), fun h _ => (by have := c9 (c10 h).1; cases this), fun h => (by have := c9 (c10 (c11 h)).1; cases this)⟩⟩
      · -- 9
        obtain rfl : b9 = false := hun
        obtain rfl : b8 = true := hdep _ rfl ⟨8, .data⟩ (by simp) rfl
        have e39 := v8 rfl
        rw [← hfv] at e39
        subst e39
        have HF := Lib.hid hfv
        have V8 := Lib.hid v8
        clear hfv v8
        obtain rfl := x1 rfl rfl
        refine wpOpIn_step rfl (fun K' hK => ?_)
        go_simp
        refine hK _ _ ⟨_, _, _, _, _, _, _, _, _, true, _, _, _, _, _, _, _, _, _, _, _, _, _, rfl, rfl, ⟨(by first | exact v0 | exact fun _ => rfl), (by first | exact v1 | exact fun _ => rfl), (by first | exact v2 | exact fun _ => rfl), (by first | exact v3 | exact fun _ => rfl), (by first | exact v4 | exact fun _ => rfl), (by first | exact v5 | exact fun _ => rfl), (by first | exact v6 | exact fun _ => rfl), (by first | exact v7 | exact fun _ => rfl), (by first | exact V8.out | exact fun _ => rfl), fun _ => rfl⟩, ⟨c3, c4, c5, c7, c8, fun _ => rfl, fun h => ⟨rfl, (c10 h).2⟩, c11⟩, ⟨fun h => (by cases h), fun _ h => (by cases h), fun _ _ => (by rw [← HF.out]; first | done | rfl), fun h _ => (by have := (c10 h).1; cases this), fun h => (by have := (c10 (c11 h)).1; cases this)⟩⟩
      · -- 10
        obtain rfl : b10 = false := hun
        obtain rfl : b0 = true := hdep _ rfl ⟨0, .data⟩ (by simp) rfl
        obtain rfl : b9 = true := hdep _ rfl ⟨9, .data⟩ (by simp) rfl
        have e31 := v0 rfl
        have e40 := v9 rfl
        subst t31
        subst t40
        obtain rfl := x2 rfl rfl
        have hfo : fv.oneCell' = true := by rw [← hfv]; rfl
        have hd : W.drew.ownsRow (w2.heap.size + 1) IT 1 pv ps.length (ps.map funcV) := HROW.out
        have hcn := cell_one_new (W.drew.alloc (.cells #[vj] WT)) fv IT
        simp only [World.size_alloc] at hcn
        have hws := hB.size
        refine wpOpIn_step rfl (fun K' hK => ?_)
        refine (if_pos (show Region.wanted _ _ = true from rfl)).mpr ?_
        refine wpIn_append_op _ (.tmp 10) (.tmp 19) LT rfl (w2.heap.size + 1) IT i0 .nilFunc 1 8 Try.underlying105 hi0 hz0 hz1 hz2 rfl (by decide) pv ps.length (ps.map funcV) rfl ((hd.alloc _).alloc _) ⟨W.heap.size + 1, 0, none⟩ 1 1 [fv] rfl rfl hcn (fun u hu => by rw [List.mem_singleton.1 hu]; exact hfo) (by unfold maxLen; omega) (by omega) (by simp only [World.size_alloc]; show _ ≤ W.heap.size + 1 + 1; omega) ?_
        intro v' X' hown' hgr' _
        refine hK _ _ ⟨_, _, _, _, _, _, _, _, _, _, true, _, _, _, _, _, _, _, _, _, _, _, _, rfl, rfl, ⟨(by first | exact v0 | exact fun _ => rfl), (by first | exact v1 | exact fun _ => rfl), (by first | exact v2 | exact fun _ => rfl), (by first | exact v3 | exact fun _ => rfl), (by first | exact v4 | exact fun _ => rfl), (by first | exact v5 | exact fun _ => rfl), (by first | exact v6 | exact fun _ => rfl), (by first | exact v7 | exact fun _ => rfl), (by first | exact v8 | exact fun _ => rfl), (by first | exact v9 | exact fun _ => rfl)⟩, ⟨c3, c4, c5, c7, c8, c9, fun _ => ⟨rfl, rfl⟩, fun _ => rfl⟩, ⟨fun h => (by have := c8 ; exact absurd h (by simp_all)), fun _ h => (by cases h), fun _ h => (by cases h), fun _ _ => (by rw [hS3]; exact ⟨hown', hgr'⟩), fun h => (by have := c11 h; cases this)⟩⟩
      · -- 11
        obtain rfl : b11 = false := hun
        obtain rfl : b10 = true := hdep _ rfl ⟨10, .data⟩ (by simp) rfl
        have h3 := x3 rfl rfl
        have h3' := h3
        rw [hS3] at h3'
        have hbW : Boxed W.drew (w2.heap.size + 1) LT pv := HBX.out
        have hbX : Boxed X (w2.heap.size + 1) LT pv := (((hbW.alloc _).alloc _).kept h3'.2 (HBX.out.not_row (by decide) HROW.out))
        obtain ⟨g', cap', rfl⟩ := ownsRow_succ h3'.1
        have hx := hbX.cell
        have hxf := hbX.frozen
        refine wpOpIn_step rfl (fun K' hK => ?_)
        go_simp
        refine hK _ _ ⟨_, _, _, _, _, _, _, _, _, _, _, true, _, _, _, _, _, _, _, _, _, _, _, rfl, rfl, ⟨(by first | exact v0 | exact fun _ => rfl), (by first | exact v1 | exact fun _ => rfl), (by first | exact v2 | exact fun _ => rfl), (by first | exact v3 | exact fun _ => rfl), (by first | exact v4 | exact fun _ => rfl), (by first | exact v5 | exact fun _ => rfl), (by first | exact v6 | exact fun _ => rfl), (by first | exact v7 | exact fun _ => rfl), (by first | exact v8 | exact fun _ => rfl), (by first | exact v9 | exact fun _ => rfl)⟩, ⟨c3, c4, c5, c7, c8, c9, c10, fun _ => rfl⟩, ⟨fun h => (by have h8 := c9 (c10 rfl).1; rw [h] at h8; cases h8), fun _ h => (by have h9 := (c10 rfl).1; rw [h] at h9; cases h9), fun _ h => (by cases h), fun _ h => (by cases h), fun _ => ⟨X, h3, rfl⟩⟩⟩
    case rdone =>
      rintro listed a X ⟨b0, b1, b2, b3, b4, b5, b6, b7, b8, b9, b10, b11, t31, t32, t33, t34, t35, t36, t37, t38, t39, t40, t41, rfl, rfl, -, -, ⟨-, -, -, -, x4⟩⟩ hall
      have q0 : b0 = true := hall 0 _ rfl (fun e he => by simp at he)
      have q1 : b1 = true := hall 1 _ rfl (fun e he => by simp at he)
      have q2 : b2 = true := hall 2 _ rfl (fun e he => by simp at he)
      have q6 : b6 = true := hall 6 _ rfl (fun e he => by simp at he)
      have q3 : b3 = true := hall 3 _ rfl (by
        intro e he _
        simp at he
        rcases he with rfl
        all_goals first | exact q0 | exact q1 | exact q2 | exact q6)
      have q4 : b4 = true := hall 4 _ rfl (by
        intro e he _
        simp at he
        rcases he with rfl | rfl
        all_goals first | exact q0 | exact q1 | exact q2 | exact q6 | exact q3)
      have q5 : b5 = true := hall 5 _ rfl (by
        intro e he _
        simp at he
        rcases he with rfl
        all_goals first | exact q0 | exact q1 | exact q2 | exact q6 | exact q3 | exact q4)
      have q7 : b7 = true := hall 7 _ rfl (by
        intro e he _
        simp at he
        rcases he with rfl | rfl
        all_goals first | exact q0 | exact q1 | exact q2 | exact q6 | exact q3 | exact q4 | exact q5)
      have q8 : b8 = true := hall 8 _ rfl (by
        intro e he _
        simp at he
        rcases he with rfl | rfl | rfl
        all_goals first | exact q0 | exact q1 | exact q2 | exact q6 | exact q3 | exact q4 | exact q5 | exact q7)
      have q9 : b9 = true := hall 9 _ rfl (by
        intro e he _
        simp at he
        rcases he with rfl
        all_goals first | exact q0 | exact q1 | exact q2 | exact q6 | exact q3 | exact q4 | exact q5 | exact q7 | exact q8)
      have q10 : b10 = true := hall 10 _ rfl (by
        intro e he _
        simp at he
        rcases he with rfl | rfl | rfl
        all_goals first | exact q0 | exact q1 | exact q2 | exact q6 | exact q3 | exact q4 | exact q5 | exact q7 | exact q8 | exact q9)
      have q11 : b11 = true := hall 11 _ rfl (by
        intro e he _
        simp at he
        rcases he with rfl | rfl | rfl | rfl | rfl | rfl | rfl | rfl | rfl | rfl | rfl | rfl | rfl
        all_goals first | exact q0 | exact q1 | exact q2 | exact q6 | exact q3 | exact q4 | exact q5 | exact q7 | exact q8 | exact q9 | exact q10)
      obtain ⟨X0, h3, rfl⟩ := x4 q11
      rw [hS3] at h3
      obtain ⟨hown3, hgr3⟩ := h3
      have hws := hB.size
      have hk' : ps.length = pre.length := HK.out
      have hbW : Boxed W.drew (w2.heap.size + 1) LT pv := HBX.out
      have hnr := HBX.out.not_row (by decide) HROW.out
      have hbX : Boxed X0 (w2.heap.size + 1) LT pv := ((hbW.alloc _).alloc _).kept hgr3 hnr
      have hb2' : Below (w2.heap.size + 1) W ((W.drew.alloc (.cells #[vj] WT)).alloc (.cells #[fv] IT)) := (((Below.refl _ W).drew.alloc (by show _ ≤ W.heap.size; omega) _).alloc (by simp only [World.size_alloc]; show _ ≤ W.heap.size + 1; omega) _)
      have hrowb : ∀ j, pv.ownBlock = some j → w2.heap.size + 1 ≤ j ∧ ∃ cs r, W.heap[j]? = some (.cells cs IT r) := by
        intro j ej
        rcases HROW.out.2 with ⟨rfl, _⟩ | ⟨g1', cap1', cur1, rfl, hg1, hg2, _⟩
        · cases ej
        · simp [Value.ownBlock] at ej
          subst ej
          exact ⟨hg1, _, _, hg2⟩
      have hbel : Below (w2.heap.size + 1) W (X0.setCell ⟨w2.heap.size + 1, 0, none⟩ t41) := (hb2'.grown hgr3 (by simp only [World.size_alloc]; show _ ≤ W.heap.size + 1 + 1; omega) (fun j ej => (hrowb j ej).1)).setCell (p := ⟨w2.heap.size + 1, 0, none⟩) (Nat.le_refl _) _
      have hko : KeepsOthers W (X0.setCell ⟨w2.heap.size + 1, 0, none⟩ t41) := by
        refine (KeepsOthers.drew W).trans (KeepsOthers.trans ?_ (KeepsOthers.setCell _ _ _))
        refine (KeepsOthers.alloc _ _).trans ((KeepsOthers.alloc _ _).trans (KeepsOthers.of_grownBy hgr3 fun j o ej hj => ?_))
        obtain ⟨hj1, cs, r, hjc⟩ := hrowb j ej
        have hlt : j < W.heap.size := (Array.getElem?_eq_some_iff.1 hjc).1
        rw [Below.heap_alloc _ _ _ (by simp only [World.size_alloc]; show j < W.heap.size + 1; omega), Below.heap_alloc _ _ _ (by show j < W.heap.size; omega)] at hj
        rw [show W.drew.heap[j]? = W.heap[j]? from rfl, hjc] at hj
        cases hj; rfl
      have hgetbox : ∀ (Bx : Nat) (v : Value), Boxed ((W.drew.alloc (.cells #[vj] WT)).alloc (.cells #[fv] IT)) Bx WT v → Bx < W.heap.size + 1 → Boxed (X0.setCell ⟨w2.heap.size + 1, 0, none⟩ t41) Bx WT v := by
        intro Bx v hv hlt
        have hne : Bx ≠ w2.heap.size + 1 := by
          rintro rfl
          have h1 : Boxed ((W.drew.alloc (.cells #[vj] WT)).alloc (.cells #[fv] IT)) (w2.heap.size + 1) LT pv := (hbW.alloc _).alloc _
          unfold Boxed at h1 hv
          rw [h1] at hv
          cases hv
        have hnb : some Bx ≠ pv.ownBlock := by
          intro e
          obtain ⟨hj1, cs, r, hjc⟩ := hrowb Bx e.symm
          unfold Boxed at hv
          have hlt : Bx < W.heap.size := (Array.getElem?_eq_some_iff.1 hjc).1
          rw [Below.heap_alloc _ _ _ (by simp only [World.size_alloc]; show Bx < W.heap.size + 1; omega), Below.heap_alloc _ _ _ (by show Bx < W.heap.size; omega), show W.drew.heap[Bx]? = W.heap[Bx]? from rfl, hjc] at hv
          cases hv
        exact (hv.kept hgr3 hnb).other hne _
      gi_wp2
      refine ⟨hko.from _, ⟨hbel, hko.from _⟩, ⟨ps ++ [⟨gf, #[.pointer (some ⟨W.heap.size, 0, none⟩)], imgX zs x⟩], by simp [hk'], ?_, ⟨t41, hbX.set _, ?_, trivial⟩, ?_⟩, hB.trans (hbel.mono (by omega))⟩
      · have := HCAT.out
        unfold cat at this ⊢
        simp [this]
      · have := hown3.kept (grownBy_setCell' X0 (w2.heap.size + 1) t41) (.inr (hbX.not_row (by decide) hown3).symm)
        rw [List.map_append, List.length_append]
        rw [← hfv] at this
        exact this
      · intro p hp
        rcases List.mem_append.1 hp with hp | hp
        · obtain ⟨Bx, sv, L, e1, e2, e3, e4, e5⟩ := HPA.out p hp
          refine ⟨Bx, sv, L, e1, e2, hgetbox Bx sv (((show Boxed W.drew Bx WT sv from e3).alloc _).alloc _) ?_, e4, e5⟩
          have := e3.lt
          omega
        · obtain rfl := List.mem_singleton.1 hp
          exact ⟨W.heap.size, vj, _, rfl, by omega, hgetbox W.heap.size vj ((Boxed.new W.drew WT vj).alloc _) (by omega), HGV.out, HIW.out⟩
  case done =>
    rintro D W hD ⟨⟨ps, hps, hcat, ⟨pv, hbx, hrow, _⟩, hpa⟩, hB⟩ hK
    have hWs := hB.size
    have hDlt : D < W.heap.size := (Array.getElem?_eq_some_iff.1 hK).1
    obtain ⟨a, cap0, b, rfl, ha, hb, hc⟩ := owns_slice hrow (by omega)
    have hx := hbx.cell
    have hBW : Below w2.heap.size w2 W := hBv.trans (hB.mono (by omega))
    have hlet : letL (putX zs L) = true := letL_putX zs L HZ.out
    have hcl : (cat ps).length ≤ 60 * 60 := by
      rw [hcat]
      refine Nat.le_trans (putX_len zs L HZ.out) (Nat.mul_le_mul (by rw [HKL.out]; exact hk60) (Nat.le_refl _))
    have hrd := reduced_in (n - 1) (by omega) a b 0 cap0 ps W ha hb
      (fun i h => by rw [Nat.zero_add, hc i (by simpa using h)]; simp [funcV])
      (fun p hp => by
        obtain ⟨B, sv, Lp, e1, e2, e3, e4, e5⟩ := hpa p hp
        refine ⟨?_, e4.2⟩
        have hlb : p.lb = #[.pointer (some ⟨B, 0, none⟩)] := e1
        rw [hlb]
        exact e4.1 W B W.heap.size e3.lt (Nat.le_refl _) e3.cell ((e5.below hB).mono (by omega)))
      (by omega) (by rw [hps, HKL.out]; omega)
    rw [hcat] at hrd
    have HRD := Lib.hid hrd
    have HK := Lib.hid hK
    clear hrd hcat hpa hrow hbx hc ha hK hps
    gi_wp2_with fail
    refine ⟨trivial, fun _ => by omega, ?_⟩
    refine HRD.out.mono ?_
    rintro e w4 ⟨g4, m, cap4, rfl, hm, hown, hb4⟩
    have hK4 : w4.heap[D]? = some (.deferred (some [])) := (hb4.block _ hDlt).trans HK.out
    have Hm := Lib.hid hm
    have HO := Lib.hid hown
    have HK4 := Lib.hid hK4
    clear hm hown hK4
    gi_wp2
    refine ⟨by simp, .inl ⟨_, _, rfl, run_takeDeferred HK4.out, ?_⟩⟩
    refine ⟨.slice (some ⟨g4, 0, none⟩) m cap4, by simp [results, Try.f77, go_sem], g4, m, cap4, rfl, Hm.out, ownsRow_base (ownsRow_putObj HO.out _ HK4.out rfl) (by omega), ?_⟩
    exact (hBW.trans (hb4.mono (by omega))).trans (belowK_b (w := w2) (Nat.le_refl _) w4 D _ _ (by omega) HK4.out rfl rfl)

end Go.Proofs.Ytidmlppbmcphbaa

/- The law of a loop over an iterator whose variable is boxed in each round. -/

namespace Go.Proofs.Ytidmlppbmcphbaa
open Go.RowKit Go.Shelf

/-- **The loop's law**, where each round's variable is boxed. -/
theorem range_law2 {α : Type} {n : Nat} {g : Operand} {ps : Array Tmp} {assign body : Code} {Q : Exit → Act → World → Prop} {a : Act} {w : World} {gf : Nat} {lb : Array Value} (hn : 10 ≤ n)
    (hg : a.eval g = .func (.func gf) #[] lb) (eg : ∀ args w, (callFunc gf args).run Try.prog w = .ok (.enter gf args) w)
    {encs : α → Array Value} (hps : ∀ x, (encs x).size = ps.size) (Kp : Nat → World → World → Prop) (hKt : ∀ {N X Y Z}, Kp N X Y → Kp N Y Z → Kp N X Z)
    (hKp : ∀ N W l o o', l < N → w.heap.size ≤ l → W.heap[l]? = some o → o.isCells = false → o.isWalk = false → Kp N W (W.putObj l o')) (hKm : ∀ {X Y}, Kp w.heap.size X Y → Kp (w.heap.size + 2) X Y)
    (ob : α → Obj) (hKa : ∀ N W o, w.heap.size ≤ W.heap.size → Kp N W (W.alloc o))
    {xs : List α}
    (hseq : ∀ (l : Nat) (J : List α → World → Prop) (V : World), Below w.heap.size w V → w.heap.size < V.heap.size → OwnFrom V.heap.size J →
      (∀ pre x W1, J pre W1 → pre ++ [x] <+: xs → YieldAt Fence.wide (n - 1 - 1) Try.prog l (encs x) W1 fun e W' => e = .returned (.bool true) ∧ J (pre ++ [x]) W' ∧ Kp V.heap.size W1 W') → J [] V →
      CallsIn Fence.wide (n - 1) Try.prog gf (#[.func (.yield l) #[] #[]] ++ lb) V fun e W' => (∃ v, e = .returned v) ∧ J xs W')
    (I : List α → World → Prop) (hI : OwnFrom w.heap.size I) (h0 : I [] w) (a₁ : α → Nat → Act)
    (hassign : ∀ (l : Nat) (x : α) (W : World) (K : Act → World → Prop), K (a₁ x W.heap.size) (W.alloc (ob x)) →
      assign.wpIn (Fence.wide.inRound l) (n - 1 - 1) Try.prog (Exit.then K (fun _ _ _ => False)) { tmps := (ps.zip (encs x)).foldl (fun t (q, v) => t.setIfInBounds q v) a.tmps, defers := [] } W)
    (hbody : ∀ (l : Nat) (pre : List α) (x : α) (b : Nat) (W : World), I pre W → pre ++ [x] <+: xs → W.heap.size = b + 1 → W.heap[b]? = some (ob x) → w.heap.size + 2 ≤ b →
      body.wpIn (Fence.wide.inRound l) (n - 1 - 1) Try.prog (goesOn w.heap.size Kp I (pre ++ [x]) W) (a₁ x b) W)
    (hdone : ∀ (D : Nat) (W : World), w.heap.size ≤ D → I xs W → W.heap[D]? = some (.deferred (some [])) → Q .normal { a with defers := { target := .collected D, args := #[] } :: a.defers } W) :
    (Code.rangeFunc g ps assign body).wpIn Fence.wide n Try.prog Q a w := by
  refine wpIn_rangeFunc fun fn hfn => ?_
  have lp : ∃ lp : LoopState → Loop, lp = fun st => { state := st, pending := none, fn, tmps := a.tmps, params := ps, assign, body, defers := w.heap.size } := ⟨_, rfl⟩
  obtain ⟨lp, hlp⟩ := lp
  have e1 := run_enterLoop_outer (P := Try.prog) (w := w) fn a.tmps ps assign body
  rw [show ({ state := .ready, pending := none, fn, tmps := a.tmps, params := ps, assign, body, defers := w.heap.size } : Loop) = lp .ready by rw [hlp]] at e1
  have kD : ((w.alloc (.deferred (some []))).alloc (.loop (lp .ready))).heap[w.heap.size]? = some (.deferred (some [])) := (Below.heap_alloc _ _ _ (by simp)).trans (World.alloc_heap_new w _)
  have kL : ((w.alloc (.deferred (some []))).alloc (.loop (lp .ready))).heap[w.heap.size + 1]? = some (.loop (lp .ready)) := by
    have := World.alloc_heap_new (w.alloc (.deferred (some []))) (.loop (lp .ready)); rwa [World.size_alloc] at this
  have i0 := hI.alloc (Obj.loop (lp .ready)) (hI.alloc (Obj.deferred (some [])) h0)
  have hs : ((w.alloc (.deferred (some []))).alloc (.loop (lp .ready))).heap.size = w.heap.size + 2 := by simp
  have hb : Below w.heap.size w ((w.alloc (.deferred (some []))).alloc (.loop (lp .ready))) := ((Below.refl _ w).alloc (Nat.le_refl _) _).alloc (by simp) _
  generalize ((w.alloc (.deferred (some []))).alloc (.loop (lp .ready))) = V at e1 kD kL i0 hs hb
  refine ⟨w.heap.size + 1, _, V, { target := .fn (.func gf) lb, args := #[.func (.yield (w.heap.size + 1)) #[] #[]] }, V, gf, #[.func (.yield (w.heap.size + 1)) #[] #[]] ++ lb, V, e1, ?_, fun f' hf' => ?_, ?_, fun _ => by omega, ?_⟩
  · simp only [resolve, hg]
    simp [go_sem]
  · trivial
  · simp [invoke, go_sem, eg]
  · refine (hseq (w.heap.size + 1) (fun pre W => I pre W ∧ W.heap[w.heap.size]? = some (.deferred (some [])) ∧ W.heap[w.heap.size + 1]? = some (.loop (lp .ready))) V hb (by omega) ?_ ?_ ⟨i0, kD, kL⟩).mono ?_
    · rintro s X Y row ⟨h1, h2, h3⟩ hgr hr
      have far : ∀ k, k < V.heap.size → k < X.heap.size → Y.heap[k]? = X.heap[k]? := fun k hk hX => hgr.block k hX (fun e => by have := (hr k e.symm).1; omega)
      exact ⟨hI s X Y row h1 hgr (fun r e => by obtain ⟨q1, q2⟩ := hr r e; exact ⟨by omega, q2⟩), (far _ (by omega) (Array.getElem?_eq_some_iff.1 h2).1).trans h2, (far _ (by omega) (Array.getElem?_eq_some_iff.1 h3).1).trans h3⟩
    · rintro pre x W ⟨h1, h2, h3⟩ hpre
      have hlt : w.heap.size + 1 < W.heap.size := (Array.getElem?_eq_some_iff.1 h3).1
      have hy := run_yield (P := Try.prog) (args := encs x) h3 (by rw [hlp]; exact hps x)
      rw [hlp] at hy
      obtain ⟨U, hU⟩ : ∃ U, W.alloc (ob x) = U := ⟨_, rfl⟩
      have u3 : U.heap[w.heap.size + 1]? = some (.loop (lp .ready)) := by rw [← hU]; exact (Below.heap_alloc _ _ _ hlt).trans h3
      have u2 : U.heap[w.heap.size]? = some (.deferred (some [])) := by rw [← hU]; exact (Below.heap_alloc _ _ _ (by omega)).trans h2
      have u1 : I pre U := by rw [← hU]; exact hI.alloc (ob x) h1
      have uk : Kp (w.heap.size + 2) W U := by rw [← hU]; exact hKa _ _ _ (by omega)
      have un : U.heap[W.heap.size]? = some (ob x) := by rw [← hU]; exact World.alloc_heap_new W _
      have us : U.heap.size = W.heap.size + 1 := by rw [← hU]; simp
      refine ⟨fn, _, assign, body, hy, roundIn_of_wpIn hfn (hassign _ x W _ ?_)⟩
      rw [hU]
      refine ⟨_, run_beginRound u3 (by rw [hlp]), ?_⟩
      have hltU : w.heap.size + 1 < U.heap.size := by omega
      have b3 : (U.putObj (w.heap.size + 1) (.loop { lp .ready with state := .busy })).heap[w.heap.size + 1]? = some (.loop { lp .ready with state := .busy }) := World.putObj_heap_same hltU
      have b2 : (U.putObj (w.heap.size + 1) (.loop { lp .ready with state := .busy })).heap[w.heap.size]? = some (.deferred (some [])) := (World.putObj_heap_other (by omega)).trans u2
      have b1 := hI.putObj (.loop { lp .ready with state := .busy }) u1 (by omega) u3 rfl
      have bn : (U.putObj (w.heap.size + 1) (.loop { lp .ready with state := .busy })).heap[W.heap.size]? = some (ob x) := (World.putObj_heap_other (by omega)).trans un
      have bs : (U.putObj (w.heap.size + 1) (.loop { lp .ready with state := .busy })).heap.size = W.heap.size + 1 := by rw [World.putObj_size]; exact us
      have bk : Kp (w.heap.size + 2) W (U.putObj (w.heap.size + 1) (.loop { lp .ready with state := .busy })) := hKt uk (hKp _ U _ _ _ (by omega) (by omega) u3 rfl rfl)
      have hWs : w.heap.size + 2 ≤ W.heap.size := by omega
      generalize (U.putObj (w.heap.size + 1) (.loop { lp .ready with state := .busy })) = X at b1 b2 b3 bk bn bs
      refine wpIn_mono (hbody _ pre x W.heap.size X b1 hpre bs bn hWs) ?_
      intro e a3 Y hgo
      cases e with
      | normal => ?_
      | _ => exact hgo.elim
      obtain ⟨k3, kp, hi⟩ := hgo
      have c3 := k3.same _ _ (by omega) b3 rfl
      have c2 := k3.same _ _ (Nat.le_refl _) b2 rfl
      have he := run_endRound (P := Try.prog) none c3
      refine ⟨_, _, he, rfl, ⟨hI.putObj _ hi (by omega) c3 rfl, (World.putObj_heap_other (by omega)).trans c2, ?_⟩, ?_⟩
      · rw [hlp]
        rw [hlp] at c3
        exact World.putObj_heap_same (Array.getElem?_eq_some_iff.1 c3).1
      · rw [hs]
        exact hKt (hKt bk (hKm kp)) (hKp _ Y _ _ _ (by omega) (by omega) c3 rfl rfl)
    · rintro e W ⟨⟨v, rfl⟩, h1, h2, h3⟩
      have he := run_endLoop (P := Try.prog) h3 (by rw [hlp]; simp)
      rw [show (lp .ready).pending = none by rw [hlp]] at he
      exact ⟨none, _, he, hdone _ _ (Nat.le_refl _) (hI.putObj _ h1 (by omega) h3 rfl) ((World.putObj_heap_other (by omega)).trans h2)⟩

end Go.Proofs.Ytidmlppbmcphbaa

/- The contracts of slices.Values, slices.AppendSeq and slices.Collect at terms. -/

namespace Go.Proofs.Ytidmlppbmcphbaa
open Go.RowKit Go.Shelf

attribute [local go_sem] Oper.semAt_some

abbrev encM (x : Tm) : Array Value := #[.agg #[.int .i64 x.c, .string x.s]]
abbrev VT : Nat := 122
abbrev ST : TypeId := 25

set_option maxRecDepth 100000 in
set_option maxHeartbeats 1000000 in
/-- slices.Values at terms. -/
theorem valuesT_in (n : Nat) (hn : 1 ≤ n) (l Bs n₀ : Nat) (ts : List Tm) (a : Option Addr) (cap len : Nat) (hlen : ts.length = len) (hm : len ≤ maxLen) (J : List Tm → World → Prop) (V : World) (hJ : OwnFrom V.heap.size J) (hn₀ : n₀ ≤ V.heap.size)
    (hY : ∀ pre x W, J pre W → pre ++ [x] <+: ts → YieldAt Fence.wide (n - 1) Try.prog l (encM x) W fun e W' => e = .returned (.bool true) ∧ J (pre ++ [x]) W' ∧ Below n₀ W W')
    (hBs : V.cell? ⟨Bs, 0, none⟩ = some (.slice a len cap)) (hw : 0 < len → ∃ x, a = some x ∧ x.block < n₀ ∧ TermsAt V x ts) (h0 : J [] V) :
    CallsIn Fence.wide n Try.prog VT #[.func (.yield l) #[] #[], .pointer (some ⟨Bs, 0, none⟩)] V fun e W' => (∃ v, e = .returned v) ∧ J ts W' := by
  have HW := Lib.hid hw
  have HL := Lib.hid hlen
  clear hw hlen
  unfold maxLen at hm
  refine callsIn_of_wp Try.func122 rfl trivial ?_ rfl
  simp only [Try.ntmps122, List.size_toArray, List.length_cons, List.length_nil, Nat.reduceAdd, Nat.reduceSub, Array.replicate_succ, Array.replicate_zero, List.push_toArray, List.append_toArray, List.nil_append, List.cons_append]
  gi_wp2
  gi_loopw [7] (fun i wr => ∃ k : Nat, k ≤ len ∧ i = .int .i64 k ∧ J (ts.take k) wr ∧ Below n₀ V wr) (fun i _ => len - (intOf i).toNat)
  case atStart => exact ⟨0, Nat.zero_le _, rfl, h0, Below.refl _ _⟩
  case round =>
    obtain ⟨k, hk, rfl, hJs, hnx⟩ := hrel
    by_cases hlt : k < len
    · have hkl : k < ts.length := by rw [HL.out]; exact hlt
      obtain ⟨ad, rfl, hb, hx⟩ := HW.out (by omega)
      obtain ⟨t, ht⟩ : ∃ t, ts[k] = t := ⟨_, rfl⟩
      have hc := hx.2 k hkl
      rw [ht, addr_next] at hc
      have c0 := (hnx.cell (p := ad.add (k * 2)) (by rw [addr_add_block]; exact hb)).trans hc.1
      have c1 := (hnx.cell (p := ⟨(ad.add (k * 2)).block, (ad.add (k * 2)).off + 1, none⟩) (by show (ad.add (k * 2)).block < _; rw [addr_add_block]; exact hb)).trans hc.2
      have HS : Hid (ts.take (k + 1) = ts.take k ++ [t]) := by rw [← ht]; exact Lib.hid (List.take_succ_eq_append_getElem hkl)
      have hJa := hJ.alloc (Obj.cells #[.int .i64 t.c, .string t.s] TI) hJs
      obtain ⟨fn, tmps, assign, body, hy, hR⟩ := hY _ t _ hJa (by rw [← HS.out]; exact List.take_prefix _ _)
      have hba : Below n₀ wr (wr.alloc (Obj.cells #[.int .i64 t.c, .string t.s] TI)) := (Below.refl _ _).alloc (Nat.le_trans hn₀ hnx.size) _
      have HBa := Lib.hid hba
      clear ht hkl hc hx hJa hba
      gi_wp2
      refine hR.mono ?_
      rintro e W3 ⟨rfl, hJ3, hk3⟩
      gi_wp2
      go_roundw
      case rel => exact ⟨k + 1, by omega, by simp, by rw [HS.out]; exact hJ3, hnx.trans (HBa.out.trans hk3)⟩
      case measure => simp [intOf]; omega
    · have HA : Hid (ts.take k = ts) := Lib.hid (List.take_of_length_le (by rw [HL.out]; omega))
      gi_wp2
      go_end0
      exact ⟨⟨_, rfl⟩, by rw [← HA.out]; exact hJs⟩

theorem valuesT_any (a : Option Addr) (len cap : Nat) (w : World) :
    Calls Try.prog 110 #[.slice a len cap] w fun e w' => e = .returned (.func (.func VT) #[] #[.pointer (some ⟨w.heap.size, 0, none⟩)]) ∧ w' = w.alloc (.cells #[.slice a len cap] ST) := by
  go_enter Try.func110, Try.ntmps110
  go_wp2
  go_ret
  exact ⟨rfl, rfl⟩

/-- The box B holds a slice that owns the terms. -/
def HoldT (base B : Nat) (pre : List Tm) (W : World) : Prop :=
  ∃ v, Boxed W B ST v ∧ W.ownsRow base TI 2 v pre.length (termsV pre) ∧ True
theorem HoldT.own (base B : Nat) : Own (HoldT base B) := holdsRow_own base B ST TI 2 (fun pre : List Tm => pre.length) (fun pre => termsV pre) (fun _ _ => True)

set_option maxRecDepth 100000 in
set_option maxHeartbeats 4000000 in
theorem appendSeq_in (n : Nat) (hn : 20 ≤ n) (Bs : Nat) (ts : List Tm) (a : Option Addr) (cap len : Nat) (w : World) (hlen : ts.length = len) (hm : len ≤ 1000000) (hBsz : Bs < w.heap.size)
    (hBs : w.cell? ⟨Bs, 0, none⟩ = some (.slice a len cap)) (hw : 0 < len → ∃ x, a = some x ∧ TermsAt w x ts) :
    CallsIn Fence.wide n Try.prog 126 #[.slice none 0 0, .func (.func VT) #[] #[.pointer (some ⟨Bs, 0, none⟩)]] w fun e w' =>
      (∃ v, e = .returned v ∧ w'.ownsRow w.heap.size TI 2 v len (termsV ts)) ∧ Below w.heap.size w w' := by
  obtain ⟨i0, hi, hz0, hz1, hz2⟩ := info_parts infoTerm
  have HW := Lib.hid hw
  have HL := Lib.hid hlen
  clear hw hlen
  refine callsIn_of_wp_marks Try.func126 rfl trivial ?_ rfl
  simp only [Try.ntmps126, List.size_toArray, List.length_cons, List.length_nil, Nat.reduceAdd, Nat.reduceSub, Array.replicate_succ, Array.replicate_zero, List.push_toArray, List.append_toArray, List.nil_append, List.cons_append]
  have hb0 := Boxed.new w ST (.slice none 0 0)
  have hBv : Below w.heap.size w (w.alloc (.cells #[.slice none 0 0] ST)) := (Below.refl _ w).alloc (Nat.le_refl _) _
  have hsz : (w.alloc (.cells #[.slice none 0 0] ST)).heap.size = w.heap.size + 1 := by simp
  obtain ⟨V, hV⟩ : ∃ V, w.alloc (.cells #[.slice none 0 0] ST) = V := ⟨_, rfl⟩
  rw [hV] at hb0 hBv hsz
  have HV := Lib.hid hV
  have HB0 := Lib.hid hb0
  clear hV hb0
  gi_wp2
  rw [HV.out]
  refine range_law2 (by omega) (gf := VT) (lb := #[.pointer (some ⟨Bs, 0, none⟩)]) rfl (enters_of Try.func122 (by kernel_rfl) rfl) (encs := encM) (fun _ => rfl) (KeepP w.heap.size) (fun h k => ⟨h.1.trans k.1, h.2.trans k.2⟩)
    (fun N W l o o' hl hwl hW ho hwk => ⟨belowK_b (w := V) (by omega) W l o o' hwl hW ho hwk, KeepsFrom.of_grownBy (grownBy_putObj' W l o') (fun j e => by cases e; exact hl)⟩)
    (fun h => ⟨h.1, keepsFrom_mono h.2 (by omega)⟩)
    (fun x => .cells #[.int .i64 x.c, .string x.s] TI) (fun N W o hs => ⟨(Below.refl _ _).alloc (by omega) _, (KeepsOthers.alloc _ _).from _⟩)
    (xs := ts)
    (fun l J X hX hlt hJ hY h0 => valuesT_in (n - 1) (by omega) l Bs w.heap.size ts a cap len HL.out (by unfold maxLen; omega) J X hJ (by omega) (fun pre x W1 hj hl => (hY pre x W1 hj hl).mono (fun _ _ ⟨a, b, c⟩ => ⟨a, b, c.1⟩))
      (((hX.cell (p := ⟨Bs, 0, none⟩) (by show Bs < V.heap.size; omega)).trans (hBv.cell (p := ⟨Bs, 0, none⟩) hBsz)).trans hBs) (fun h => by
        obtain ⟨ad, e, hx⟩ := HW.out h
        exact ⟨ad, e, hx.1, (hx.below hBv).below hX⟩) h0)
    (fun pre X => HoldT w.heap.size w.heap.size pre X ∧ Below w.heap.size w X)
    (OwnFrom.and (Own.from (HoldT.own _ _) _) (ownFrom_below (by omega) (by omega)))
    ⟨⟨_, HB0.out, ⟨rfl, .inl ⟨rfl, rfl⟩⟩, trivial⟩, hBv⟩
    (fun x b => { tmps := #[.slice none 0 0, .func (.func VT) #[] #[.pointer (some ⟨Bs, 0, none⟩)], .pointer (some ⟨w.heap.size, 0, none⟩), undef, .slice none 0 0, .pointer (some ⟨b, 0, none⟩), .func (.func VT) #[] #[.pointer (some ⟨Bs, 0, none⟩)], .agg #[.int .i64 x.c, .string x.s], undef, undef, undef, undef, undef], defers := [] }) ?assign ?body ?done
  case assign =>
    intro l x W K hK
    gi_wp2
    exact hK
  case body =>
    rintro l pre x b W ⟨⟨v, hbx, hrow, _⟩, hB⟩ hpre hsW hbn hb2
    have hplen := prefix_len hpre
    rw [HL.out] at hplen
    have hcell := hbx.cell
    have hbb : Boxed W b TI (.int .i64 0) → True := fun _ => trivial
    have c0 : W.cell? ⟨b, 0, none⟩ = some (.int .i64 x.c) := by simp [World.cell?, hbn]
    have c1 : W.cell? ⟨b, 1, none⟩ = some (.string x.s) := by simp [World.cell?, hbn]
    have HROW := Lib.hid hrow
    have HBX := Lib.hid hbx
    have HBn := Lib.hid hbn
    clear hrow hbx hpre hbn hbb
    have HPN := cell_pair_new W (.int .i64 x.c) (.string x.s) TI
    rw [hsW] at HPN
    have HP := Lib.hid HPN
    have hnr := HBX.out.not_row (by decide) HROW.out
    have HNR := Lib.hid hnr
    clear HPN hnr
    gi_wp2_with (refine wpListIn_append_own _ rfl (.tmp 8) (.tmp 10) ST rfl w.heap.size TI i0 (.agg #[.int .i64 0, .string ByteArray.empty]) 2 24 Try.underlying25 hi hz0 hz1 hz2 rfl (by decide) v pre.length (termsV pre) rfl (HROW.out.alloc _) ⟨b + 1, 0, none⟩ 1 1 [.int .i64 x.c, .string x.s] rfl rfl HP.out (fun u hu => by simp at hu; rcases hu with rfl | rfl <;> rfl) (by unfold maxLen; omega) (by omega) (by simp; omega) ?_)
    intro v' w1 hown' hgr' _
    have hbX : Boxed w1 w.heap.size ST v := (HBX.out.alloc _).kept hgr' HNR.out
    have hrowb : ∀ j, v.ownBlock = some j → w.heap.size ≤ j ∧ ∃ cs r, W.heap[j]? = some (.cells cs TI r) := by
      intro j ej
      rcases HROW.out.2 with ⟨rfl, _⟩ | ⟨g1', cap1', cur1, rfl, hg1, hg2, _⟩
      · cases ej
      · simp [Value.ownBlock] at ej
        subst ej
        exact ⟨hg1, _, _, hg2⟩
    have hko : KeepsOthers W (w1.setCell ⟨w.heap.size, 0, none⟩ v') := by
      refine (KeepsOthers.alloc _ _).trans ((KeepsOthers.of_grownBy hgr' fun j o ej hj => ?_).trans (KeepsOthers.setCell _ _ _))
      obtain ⟨hj1, cs, r, hjc⟩ := hrowb j ej
      have hlt : j < W.heap.size := (Array.getElem?_eq_some_iff.1 hjc).1
      rw [Below.heap_alloc _ _ _ hlt, hjc] at hj
      cases hj; rfl
    have hbel : Below w.heap.size W (w1.setCell ⟨w.heap.size, 0, none⟩ v') :=
      ((((Below.refl _ W).alloc (by omega) _).grown hgr' (by simp; omega) (fun j ej => (hrowb j ej).1))).setCell (p := ⟨w.heap.size, 0, none⟩) (Nat.le_refl _) _
    have hown'' : (w1.setCell ⟨w.heap.size, 0, none⟩ v').ownsRow w.heap.size TI 2 v' (pre.length + 1) (termsV pre ++ [.int .i64 x.c, .string x.s]) := hown'.kept (grownBy_setCell' w1 w.heap.size v') (.inr (hbX.not_row (by decide) hown').symm)
    have hcX := hbX.cell
    have hfX := hbX.frozen
    have hbs := hbX.set v'
    have HO := Lib.hid hown''
    have HKO := Lib.hid hko
    have HBL := Lib.hid hbel
    have HBS := Lib.hid hbs
    obtain ⟨g', cap', rfl⟩ := ownsRow_succ hown'
    clear hown' hown'' hgr' hko hbel hbs hrowb
    gi_wp2
    refine ⟨HKO.out.from _, ⟨HBL.out, HKO.out.from _⟩, ⟨_, HBS.out, ?_, trivial⟩, hB.trans HBL.out⟩
    rw [List.length_append, termsV_append]
    exact HO.out
  case done =>
    rintro D W hD ⟨⟨v, hbx, hrow, _⟩, hB⟩ hK
    have hcell := hbx.cell
    have HROW := Lib.hid hrow
    have HK := Lib.hid hK
    clear hrow hbx hK
    gi_wp2
    refine ⟨by simp, .inl ⟨_, _, rfl, run_takeDeferred HK.out, ?_⟩⟩
    refine ⟨v, by simp [results, Try.f126, go_sem], ⟨v, rfl, ?_⟩, hB.trans (belowK_b (w := w) (Nat.le_refl _) W D _ _ (by omega) HK.out rfl rfl)⟩
    have := ownsRow_putObj HROW.out (.deferred none) HK.out rfl
    rw [HL.out] at this
    exact this

theorem collect_any (Bs : Nat) (ts : List Tm) (a : Option Addr) (cap len : Nat) (w : World) (hlen : ts.length = len) (hm : len ≤ 1000000) (hBsz : Bs < w.heap.size)
    (hBs : w.cell? ⟨Bs, 0, none⟩ = some (.slice a len cap)) (hw : 0 < len → ∃ x, a = some x ∧ TermsAt w x ts) :
    Calls Try.prog 120 #[.func (.func VT) #[] #[.pointer (some ⟨Bs, 0, none⟩)]] w fun e w' =>
      (∃ v, e = .returned v ∧ w'.ownsRow w.heap.size TI 2 v len (termsV ts)) ∧ Below w.heap.size w w' := by
  have H := Lib.hid ((callsIn_wide (n := 30)).1 (appendSeq_in 30 (by omega) Bs ts a cap len w hlen hm hBsz hBs hw))
  clear hlen hBs hw
  go_enter Try.func120, Try.ntmps120
  go_wp2_with fail
  refine H.out.mono ?_
  rintro e w1 ⟨⟨v, rfl, ho⟩, hb⟩
  have HO := Lib.hid ho
  clear ho
  go_wp2
  go_ret
  exact ⟨⟨_, rfl, HO.out⟩, hb⟩

end Go.Proofs.Ytidmlppbmcphbaa

/- The library's sort, at terms and 'compareTerms'. -/

namespace Go.Proofs.Ytidmlppbmcphbaa
open Go.Shelf Go.RowKit Go.Lib Go.Sort

def sortT_ren : Go.Shelf.Ren := ⟨fun | 6 => 121 | 15 => 128 | 14 => 127 | 28 => 137 | 29 => 138 | 20 => 129 | 21 => 130 | 22 => 131 | 23 => 132 | 24 => 133 | 25 => 134 | 26 => 135 | 27 => 136 | 46 => 139 | 47 => 140 | 48 => 141 | 49 => 142 | 50 => 143 | 57 => 144 | n => n, fun | 22 => 25 | 24 => 62 | 25 => 93 | 3 => 3 | 39 => 141 | 0 => 0 | 53 => 150 | 55 => 152 | 4 => 4 | 46 => 144 | 45 => 143 | 50 => 34 | 5 => 5 | 9 => 9 | 66 => 153 | 70 => 157 | 76 => 159 | 77 => 160 | n => n, fun n => n⟩
theorem sortT : SlLaysF0.n6 Try.prog sortT_ren := {
  mixed := by kernel_rfl
  f6 := Exists.intro "slices.SortFunc[[]loop.example/foxcalculus/impl.Term,loop.example/foxcalculus/impl.Term]" ⟨of_decide_eq_true (by kernel_rfl), Try.func121.trans (congrArg some (by kernel_rfl))⟩
  f14 := Exists.intro "slices.pdqsortCmpFunc[loop.example/foxcalculus/impl.Term]" ⟨of_decide_eq_true (by kernel_rfl), Try.func127.trans (congrArg some (by kernel_rfl))⟩
  f15 := Try.func128.trans (congrArg some (by kernel_rfl))
  f20 := Exists.intro "slices.insertionSortCmpFunc[loop.example/foxcalculus/impl.Term]" ⟨of_decide_eq_true (by kernel_rfl), Try.func129.trans (congrArg some (by kernel_rfl))⟩
  f21 := Exists.intro "slices.heapSortCmpFunc[loop.example/foxcalculus/impl.Term]" ⟨of_decide_eq_true (by kernel_rfl), Try.func130.trans (congrArg some (by kernel_rfl))⟩
  f22 := Exists.intro "slices.breakPatternsCmpFunc[loop.example/foxcalculus/impl.Term]" ⟨of_decide_eq_true (by kernel_rfl), Try.func131.trans (congrArg some (by kernel_rfl))⟩
  f23 := Exists.intro "slices.choosePivotCmpFunc[loop.example/foxcalculus/impl.Term]" ⟨of_decide_eq_true (by kernel_rfl), Try.func132.trans (congrArg some (by kernel_rfl))⟩
  f24 := Exists.intro "slices.reverseRangeCmpFunc[loop.example/foxcalculus/impl.Term]" ⟨of_decide_eq_true (by kernel_rfl), Try.func133.trans (congrArg some (by kernel_rfl))⟩
  f25 := Exists.intro "slices.partialInsertionSortCmpFunc[loop.example/foxcalculus/impl.Term]" ⟨of_decide_eq_true (by kernel_rfl), Try.func134.trans (congrArg some (by kernel_rfl))⟩
  f26 := Exists.intro "slices.partitionEqualCmpFunc[loop.example/foxcalculus/impl.Term]" ⟨of_decide_eq_true (by kernel_rfl), Try.func135.trans (congrArg some (by kernel_rfl))⟩
  f27 := Exists.intro "slices.partitionCmpFunc[loop.example/foxcalculus/impl.Term]" ⟨of_decide_eq_true (by kernel_rfl), Try.func136.trans (congrArg some (by kernel_rfl))⟩
  f28 := Try.func137.trans (congrArg some (by kernel_rfl))
  f29 := Try.func138.trans (congrArg some (by kernel_rfl))
  f46 := Exists.intro "slices.siftDownCmpFunc[loop.example/foxcalculus/impl.Term]" ⟨of_decide_eq_true (by kernel_rfl), Try.func139.trans (congrArg some (by kernel_rfl))⟩
  f47 := Try.func140.trans (congrArg some (by kernel_rfl))
  f48 := Try.func141.trans (congrArg some (by kernel_rfl))
  f49 := Exists.intro "slices.medianAdjacentCmpFunc[loop.example/foxcalculus/impl.Term]" ⟨of_decide_eq_true (by kernel_rfl), Try.func142.trans (congrArg some (by kernel_rfl))⟩
  f50 := Exists.intro "slices.medianCmpFunc[loop.example/foxcalculus/impl.Term]" ⟨of_decide_eq_true (by kernel_rfl), Try.func143.trans (congrArg some (by kernel_rfl))⟩
  f57 := Exists.intro "slices.order2CmpFunc[loop.example/foxcalculus/impl.Term]" ⟨of_decide_eq_true (by kernel_rfl), Try.func144.trans (congrArg some (by kernel_rfl))⟩
  t0 := Try.underlying0
  a0 := Try.isAgg0
  z0 := Try.sizeOf0
  v0 := Try.zeroValue0
  t3 := Try.underlying3
  a3 := Try.isAgg3
  z3 := Try.sizeOf3
  v3 := Try.zeroValue3
  t4 := Try.underlying4
  a4 := Try.isAgg4
  z4 := Try.sizeOf4
  v4 := Try.zeroValue4
  t5 := Try.underlying5
  a5 := Try.isAgg5
  z5 := Try.sizeOf5
  v5 := Try.zeroValue5
  t9 := Try.underlying9
  a9 := Try.isAgg9
  z9 := Try.sizeOf9
  v9 := Try.zeroValue9
  t22 := Try.underlying25
  a22 := Try.isAgg25
  z22 := Try.sizeOf25
  v22 := Try.zeroValue25
  t25 := Try.underlying93
  a25 := Try.isAgg93
  z25 := Try.sizeOf93
  v25 := Try.zeroValue93
  t39 := Try.underlying141
  a39 := Try.isAgg141
  z39 := Try.sizeOf141
  v39 := Try.zeroValue141
  t45 := Try.underlying143
  a45 := Try.isAgg143
  z45 := Try.sizeOf143
  v45 := Try.zeroValue143
  t46 := Try.underlying144
  a46 := Try.isAgg144
  z46 := Try.sizeOf144
  v46 := Try.zeroValue144
  t50 := Try.underlying34
  a50 := Try.isAgg34
  z50 := Try.sizeOf34
  v50 := Try.zeroValue34
  t53 := Try.underlying150
  a53 := Try.isAgg150
  z53 := Try.sizeOf150
  v53 := Try.zeroValue150
  t55 := Try.underlying152
  a55 := Try.isAgg152
  z55 := Try.sizeOf152
  v55 := Try.zeroValue152
  t66 := Try.underlying153
  a66 := Try.isAgg153
  z66 := Try.sizeOf153
  v66 := Try.zeroValue153
  t70 := Try.underlying157
  a70 := Try.isAgg157
  z70 := Try.sizeOf157
  v70 := Try.zeroValue157
  t76 := Try.underlying159
  a76 := Try.isAgg159
  z76 := Try.sizeOf159
  v76 := Try.zeroValue159
  t77 := Try.underlying160
  a77 := Try.isAgg160
  z77 := Try.sizeOf160
  v77 := Try.zeroValue160 }

def encT (t : Tm) : List Value := [.int .i64 t.c, .string t.s]
def cmpT (a b : Tm) : Int := cmpW a.s b.s
theorem ltOf_cmpT (a b : Tm) : ltOf cmpT a b = lessW a.s b.s := by rw [lessW_cmp]; rfl
theorem swoT : SWO (ltOf cmpT) where
  irrefl x := by rw [ltOf_cmpT]; exact lessW_irrefl _
  trans x y z h1 h2 := by rw [ltOf_cmpT] at *; exact lessW_trans h1 h2
  ntrans x y z h1 h2 := by
    rw [ltOf_cmpT] at *
    cases h3 : lessW x.s z.s with
    | false => rfl
    | true =>
      cases h4 : lessW y.s x.s with
      | true => have := lessW_trans h4 h3; rw [h2] at this; cases this
      | false => have := lessW_tri h1 h4; rw [this, h2] at h3; cases h3

theorem cmpLaysT (blk off size : Nat) (w : World) : CmpLays Try.prog 83 #[] encT 2 cmpT blk off size w :=
  fun _ _ _ _ x y => compareTerms_any x y _

theorem sortTerms (blk off cap : Nat) (d : Array Tm) (w : World) (hH : HoldsK encT 2 w blk off d) (hblk : blk < w.heap.size) (hsz : d.size < 4611686018427387904) :
    Calls Try.prog 121 #[.slice (some ⟨blk, off, none⟩) d.size cap, .func (.func 83) #[] #[]] w fun e w' => e = .returned (.tuple #[]) ∧ ∃ d' n os, PermIn 0 d.size d d' ∧ SortedIn (ltOf cmpT) 0 d.size d' ∧ w' = sortWorldK encT 2 w blk off n d' os :=
  AnyQ.slices_SortFunc sortT 2 Try.isAgg62 Try.sizeOf62 encT (fun _ => rfl) (fun x v hv => by simp [encT] at hv; rcases hv with rfl | rfl <;> rfl) cmpT swoT 83 #[] blk off cap d w
    (enters_of Try.func83 (by kernel_rfl) rfl) (cmpLaysT blk off d.size w) hH hblk hsz

end Go.Proofs.Ytidmlppbmcphbaa

/- The contract of slices.SortedFunc at terms. -/

namespace Go.Proofs.Ytidmlppbmcphbaa
open Go.RowKit Go.Shelf Go.Sort

theorem flat_terms (d : Array Tm) : flatK encT 2 d = (termsV d.toList).toArray := by
  apply Array.toList_inj.1
  apply List.ext_getElem
  · simp [flatK, termsV_len]
  · intro j h1 h2
    have hj : j < d.size * 2 := by simpa [flatK] using h1
    have hq : j / 2 < d.toList.length := by simp; omega
    have hg := termsV_get d.toList (j / 2) hq
    have e1 : (flatK encT 2 d).toList[j] = (encT d[j / 2]!)[j % 2]! := by simp [flatK]
    have e0 : d[j / 2]! = d.toList[j / 2] := by rw [getElem!_pos d (j / 2) (by simpa using hq)]; simp
    rw [e1, e0]
    rcases Nat.mod_two_eq_zero_or_one j with h | h
    · rw [h]
      have e2 : j / 2 * 2 = j := by omega
      rw [e2] at hg
      exact ((List.getElem?_eq_some_iff.1 hg.1).2).symm
    · rw [h]
      have e2 : j / 2 * 2 + 1 = j := by omega
      rw [e2] at hg
      exact ((List.getElem?_eq_some_iff.1 hg.2).2).symm

theorem holdsK_of_owns {w : World} {base g cap n : Nat} {ts : List Tm} (hn : ts.length = n) (h : w.ownsRow base TI 2 (.slice (some ⟨g, 0, none⟩) n cap) n (termsV ts)) : HoldsK encT 2 w g 0 ts.toArray := by
  unfold HoldsK
  rw [flat_terms]
  intro j hj
  have hj2 : j < (termsV ts).length := by simpa using hj
  have hj3 : j < n * 2 := by rw [termsV_len] at hj2; omega
  refine ⟨?_, by rw [Nat.zero_add]; exact h.frozenAt j⟩
  rw [Nat.zero_add, h.cellAt j hj3, List.getElem?_eq_getElem hj2]
  simp only [id]
  rw [getElem!_pos _ j (by simpa using hj2)]
  simp

theorem owns_put {w : World} {base g cap n m : Nat} {os : Array Obj} {F : List Value} {xs : List Value} (hF : F.length = n * 2) (h : w.ownsRow base TI 2 (.slice (some ⟨g, 0, none⟩) n cap) n xs) :
    (grow (putRow id (Sort.ahead w m) g 0 F.toArray) os).ownsRow base TI 2 (.slice (some ⟨g, 0, none⟩) n cap) n F ∧ w.grownBy (grow (putRow id (Sort.ahead w m) g 0 F.toArray) os) (some g) := by
  rcases h.2 with ⟨h, _⟩ | ⟨g1, cap1, cur, h1, hb, hg, hn, hc, hs, ht⟩
  · cases h
  · cases h1
    have hlt : g < w.heap.size := (Array.getElem?_eq_some_iff.1 hg).1
    have hh : (grow (putRow id (Sort.ahead w m) g 0 F.toArray) os).heap[g]? = some (.cells (putCells id 0 F.toArray cur) TI (0, 0)) := by
      rw [heap_grow_old _ _ (by simpa using hlt)]
      simp [putRow, mapBlock, Sort.ahead, Array.getElem?_modify, hg, onCells]
    refine ⟨⟨hF, .inr ⟨g, cap, _, rfl, hb, hh, hn, hc, by simp [putCells, hs], ?_⟩⟩, ⟨rfl, rfl, rfl, by simp, fun k hk hne => ?_⟩⟩
    · have hle : F.length ≤ cur.size := by rw [hs, hF]; omega
      rw [← hF]
      apply List.ext_getElem?
      intro j
      by_cases hj : j < F.length
      · rw [List.getElem?_take_of_lt hj, Array.getElem?_toList]
        simp [putCells, hj, show j < cur.size by omega]
      · rw [List.getElem?_take_eq_none (by omega), List.getElem?_eq_none (by omega)]
    · rw [heap_grow_old _ _ (by simpa using hk)]
      have : g ≠ k := fun e => hne (by rw [e])
      simp [putRow, mapBlock, Sort.ahead, Array.getElem?_modify, this]

theorem perm_of {ts : List Tm} {d : Array Tm} (h : PermIn 0 ts.toArray.size ts.toArray d) : d.toList.Perm ts := by
  obtain ⟨h1, _, h3⟩ := h
  have e1 : d.extract 0 ts.toArray.size = d := by rw [← h1]; simp
  have e2 : ts.toArray.extract 0 ts.toArray.size = ts.toArray := by simp
  rw [e1, e2] at h3
  simpa using h3
theorem sorted_of {d : Array Tm} {n : Nat} (hn : d.size = n) (h : SortedIn (ltOf cmpT) 0 n d) : d.toList.Pairwise (fun a b => lessW b.s a.s = false) := by
  rw [List.pairwise_iff_getElem]
  intro i j hi hj hij
  have := h i j (Nat.zero_le _) hij (by rw [← hn]; simpa using hj)
  rw [ltOf_cmpT, getElem!_pos d j (by simpa using hj), getElem!_pos d i (by simpa using hi)] at this
  simpa using this

/-- The library's sort on a row of the call's own. -/
theorem sortOwn_any (base : Nat) (v : Value) (n : Nat) (ts : List Tm) (w : World) (hn : ts.length = n) (hm : n ≤ 1000000) (hbase : base ≤ w.heap.size) (h : w.ownsRow base TI 2 v n (termsV ts)) :
    Calls Try.prog 121 #[v, .func (.func 83) #[] #[]] w fun e w' =>
      e = .returned (.tuple #[]) ∧ (∃ ss : List Tm, ss.Perm ts ∧ ss.Pairwise (fun a b => lessW b.s a.s = false) ∧ w'.ownsRow base TI 2 v n (termsV ss)) ∧ Below base w w' := by
  by_cases h0 : n = 0
  · subst h0
    obtain rfl := List.length_eq_zero_iff.1 hn
    obtain ⟨p, cap, rfl⟩ : ∃ p cap, v = .slice p 0 cap := by
      rcases h.2 with ⟨rfl, _⟩ | ⟨g, cap, cur, rfl, _⟩
      · exact ⟨_, _, rfl⟩
      · exact ⟨_, _, rfl⟩
    refine (AnyF.slices_SortFunc_none (ρ := sortT_ren) { sortT with } p cap (.func (.func 83) #[] #[]) w).mono ?_
    rintro e w' ⟨rfl, rfl⟩
    exact ⟨rfl, ⟨[], List.Perm.refl _, List.Pairwise.nil, h⟩, Below.refl _ _⟩
  · rcases h.2 with ⟨rfl, h0'⟩ | ⟨g, cap, cur, rfl, hb, hg, hnc, hcm, _⟩
    · exact absurd h0' h0
    have hs := sortTerms g 0 cap ts.toArray w (holdsK_of_owns hn h) (Array.getElem?_eq_some_iff.1 hg).1 (by simp; omega)
    rw [show ts.toArray.size = n by simpa using hn] at hs
    refine hs.mono ?_
    rintro e w' ⟨rfl, d', m, os, hp, hso, rfl⟩
    have hsz : d'.size = n := by rw [hp.1]; simpa using hn
    have hp' : PermIn 0 ts.toArray.size ts.toArray d' := by rw [show ts.toArray.size = n by simpa using hn]; exact hp
    have ho := owns_put (m := m) (os := os) (F := termsV d'.toList) (by rw [termsV_len]; simp [hsz]) h
    have e1 : sortWorldK encT 2 w g 0 m d' os = grow (putRow id (Sort.ahead w m) g 0 (termsV d'.toList).toArray) os := by
      unfold sortWorldK putRowK; rw [flat_terms]
    rw [e1]
    exact ⟨rfl, ⟨d'.toList, perm_of hp', sorted_of hsz hso, ho.1⟩, (Below.refl _ _).grown ho.2 hbase (fun j ej => by cases ej; exact hb)⟩

set_option maxHeartbeats 1000000 in
theorem sortedFunc_any (Bs : Nat) (ts : List Tm) (a : Option Addr) (cap len : Nat) (w : World) (hlen : ts.length = len) (hm : len ≤ 1000000) (hBsz : Bs < w.heap.size)
    (hBs : w.cell? ⟨Bs, 0, none⟩ = some (.slice a len cap)) (hw : 0 < len → ∃ x, a = some x ∧ TermsAt w x ts) :
    Calls Try.prog 109 #[.func (.func VT) #[] #[.pointer (some ⟨Bs, 0, none⟩)], .func (.func 83) #[] #[]] w fun e w' =>
      (∃ v, e = .returned v ∧ ∃ ss : List Tm, ss.Perm ts ∧ ss.Pairwise (fun a b => lessW b.s a.s = false) ∧ w'.ownsRow w.heap.size TI 2 v len (termsV ss)) ∧ Below w.heap.size w w' := by
  have H := Lib.hid (collect_any Bs ts a cap len w hlen hm hBsz hBs hw)
  have HL := Lib.hid hlen
  clear hlen hBs hw
  go_enter Try.func109, Try.ntmps109
  go_wp2_with fail
  refine H.out.mono ?_
  rintro e w1 ⟨⟨v, rfl, ho⟩, hb⟩
  have HO := Lib.hid ho
  clear ho
  go_wp2_with fail
  refine (sortOwn_any w.heap.size v len ts w1 HL.out hm hb.size HO.out).mono ?_
  rintro e w2 ⟨rfl, ⟨ss, hp, hs, ho⟩, hb2⟩
  have HS := Lib.hid (And.intro hp (And.intro hs ho))
  clear hp hs ho
  go_wp2
  go_ret
  exact ⟨⟨_, rfl, ss, HS.out⟩, hb.trans hb2⟩

end Go.Proofs.Ytidmlppbmcphbaa

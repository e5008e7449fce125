/- The contract of the program's 'WordPower'. -/
import Derived.Test.YtmbffbjopehllabIz
namespace Go.Proofs.Ytmbffbjopehllab
open Go.RowKit Go.Shelf

theorem rep_int (g1 N : Nat) (c : Int) (f : Value) (hf : f.oneCell' = true) (w : World) (hc : c = (N : Int)) (hN : N ≤ 60) (hcell : w.cell? ⟨g1, 0, none⟩ = some f) (hg1 : g1 < w.heap.size) :
    Calls Try.prog 49 #[.slice (some ⟨g1, 0, none⟩) 1 1, .int .i64 c] w fun e w' =>
      ∃ g, e = .returned (.slice (some ⟨g, 0, none⟩) N N) ∧ g < w'.heap.size ∧ Hid (∀ i, i < N → w'.cell? ⟨g, i, none⟩ = some f) ∧ Below w.heap.size w w' := by
  subst hc; exact repeat_any g1 N f hf w hN hcell hg1

theorem pow_reduced (w : World) (g N : Nat) (it : Item) (B : Nat) (hN : N ≤ 60) (hg : g < w.heap.size) (hc : ∀ i, i < N → w.cell? ⟨g, i, none⟩ = some (.func (.func it.gf) #[] #[.pointer (some ⟨B, 0, none⟩)]))
    (hG : Gives it) (hbox : w.cell? ⟨B, 0, none⟩ = some it.sv) (hB : B < w.heap.size) (hw : IsWord w.heap.size w it.sv it.L) (hl : it.xs.length ≤ 60) :
    Calls Try.prog 43 #[.slice (some ⟨g, 0, none⟩) N N] w fun e w' =>
      ∃ g' m cap', e = .returned (.slice (some ⟨g', 0, none⟩) m cap') ∧ (redX [] (repL N it.xs)).length = m ∧ w'.ownsRow w.heap.size 60 1 (.slice (some ⟨g', 0, none⟩) m cap') m (bytesV (redX [] (repL N it.xs))) ∧ Below w.heap.size w w' := by
  have hcat : cat (List.replicate N (⟨it.gf, #[.pointer (some ⟨B, 0, none⟩)], it.xs⟩ : Part)) = repL N it.xs := by
    unfold cat repL; rw [List.map_replicate]
  have hr := reduced_in 40 (by omega) (some ⟨g, 0, none⟩) g 0 N (List.replicate N ⟨it.gf, #[.pointer (some ⟨B, 0, none⟩)], it.xs⟩) w (fun _ => rfl) hg
    (fun i h => by
      rw [List.length_replicate] at h
      rw [Nat.zero_add, List.getElem_replicate]
      exact hc i h)
    (fun p hp => by
      rw [List.eq_of_mem_replicate hp]
      exact ⟨hG.1 w B _ hB (Nat.le_refl _) hbox hw, hG.2⟩)
    (by rw [hcat, repL_len]; have : N * it.xs.length ≤ 60 * 60 := Nat.mul_le_mul hN hl; omega) (by rw [List.length_replicate]; omega)
  rw [hcat, List.length_replicate] at hr
  exact (callsIn_wide (n := 40)).1 hr

set_option maxRecDepth 100000 in
set_option maxHeartbeats 2000000 in
theorem iPower_yes (s : ByteArray) (k : Int) (w : World) (h0 : wordB s.data.toList = true) (hk1 : -60 ≤ k) (hk3 : k ≤ 60) :
    Calls Try.prog 21 #[.string s, .int .i64 k] w fun e w' => e = .returned (toldV (redL [] (powL k s.data.toList))) ∧ Below w.heap.size w w' := by
  obtain ⟨p1, p2, p3⟩ := (wordB_iff _).1 h0
  have hs : s.size ≤ 60 := by simpa using p1
  have HLr : Hid ((redL [] (powL k s.data.toList)).length ≤ 4000) := by
    have h1 := redL_len (powL k s.data.toList) []
    have h2 : (powL k s.data.toList).length = k.natAbs * s.data.toList.length := by
      unfold powL; rw [repL_len]; split <;> simp [backL_length]
    have h3 : k.natAbs * s.data.toList.length ≤ 60 * 60 := Nat.mul_le_mul (by omega) p1
    exact Lib.hid (by simp only [List.length_nil] at h1; omega)
  have H := Lib.hid h0
  clear h0
  by_cases hk : k < 0
  · have HR : Hid (redX [] (repL k.natAbs (s.data.toList.reverse.map invB)) = redL [] (powL k s.data.toList)) := by
      unfold powL
      rw [if_pos hk, inv_back _ p2, redX_eq _ _ (letL_rep _ _ (letL_back _ p2))]; exact Lib.hid rfl
    clear p1 p2 p3
    by_cases h : (redL [] (powL k s.data.toList)).length ≤ 60
    · have HT := Lib.hid (toldV_yes h)
      have HL := Lib.hid (h)
      clear h
      go_enter Try.func21, Try.ntmps21
      go_wp2_with fail
      refine (wordOf_yes s _ H.out).mono ?_
      rintro e w1 ⟨g0, cap0, rfl, hown, hb1⟩
      have hw := Lib.hid (isWord_of_owns (n₀ := w1.heap.size) (l := s.data.toList) (by simp) (by omega) hown (Nat.le_refl _))
      clear hown
      go_wp2_with fail
      refine (letters_bwd _ _ _ k _ hk).mono ?_
      rintro e w2 ⟨rfl, rfl⟩
      go_wp2_with fail
      refine (rep_int (w1.heap.size + 1) k.natAbs _ (.func (.func 67) #[] #[.pointer (some ⟨w1.heap.size, 0, none⟩)]) rfl _ (by omega) (by omega) ((World.cell?_alloc_at _ _ _ _ (by simp)).trans rfl) (by simp)).mono ?_
      rintro e w3 ⟨g, rfl, hg, hcl, hb3⟩
      have hb13 : Below w1.heap.size w1 w3 := (((Below.refl _ w1).alloc (Nat.le_refl _) _).alloc (by simp) _).trans (hb3.mono (by simp; omega))
      have hbox : w3.cell? ⟨w1.heap.size, 0, none⟩ = some (.slice (some ⟨g0, 0, none⟩) s.size cap0) := (hb3.cell (p := ⟨w1.heap.size, 0, none⟩) (by simp; omega)).trans (cell_past (Boxed.new w1 WT _).cell _)
      have hrd := pow_reduced w3 g k.natAbs ⟨67, .slice (some ⟨g0, 0, none⟩) s.size cap0, s.data.toList, s.data.toList.reverse.map invB⟩ w1.heap.size (by omega) hg hcl.out (gives_bwd _ _) hbox (by have := hb13.size; have := hb3.size; simp at this; omega) ((hw.out.below hb13).mono hb13.size) (by simp; omega)
      rw [HR.out] at hrd
      clear hbox
      have HRd := Lib.hid hrd
      clear hrd
      go_wp2_with fail
      refine HRd.out.mono ?_
      rintro e w4 ⟨g4, m, cap4, rfl, hm, hown, hb4⟩
      have HM := Lib.hid hm
      have HO := Lib.hid hown
      clear hm hown
      go_wp2_with fail
      refine (told_yes _ _ _ _ _ _ HM.out (by rw [← HM.out]; exact HL.out) HO.out).mono ?_
      rintro e w5 ⟨rfl, hb5⟩
      go_wp2_with fail
      go_ret2
      exact ⟨by rw [HT.out]; rfl, hb1.trans ((hb13.trans ((hb4.trans (hb5.mono hb4.size)).mono hb13.size)).mono hb1.size)⟩
    · have HT := Lib.hid (toldV_no h)
      have HL := Lib.hid (Nat.lt_of_not_le h)
      clear h
      go_enter Try.func21, Try.ntmps21
      go_wp2_with fail
      refine (wordOf_yes s _ H.out).mono ?_
      rintro e w1 ⟨g0, cap0, rfl, hown, hb1⟩
      have hw := Lib.hid (isWord_of_owns (n₀ := w1.heap.size) (l := s.data.toList) (by simp) (by omega) hown (Nat.le_refl _))
      clear hown
      go_wp2_with fail
      refine (letters_bwd _ _ _ k _ hk).mono ?_
      rintro e w2 ⟨rfl, rfl⟩
      go_wp2_with fail
      refine (rep_int (w1.heap.size + 1) k.natAbs _ (.func (.func 67) #[] #[.pointer (some ⟨w1.heap.size, 0, none⟩)]) rfl _ (by omega) (by omega) ((World.cell?_alloc_at _ _ _ _ (by simp)).trans rfl) (by simp)).mono ?_
      rintro e w3 ⟨g, rfl, hg, hcl, hb3⟩
      have hb13 : Below w1.heap.size w1 w3 := (((Below.refl _ w1).alloc (Nat.le_refl _) _).alloc (by simp) _).trans (hb3.mono (by simp; omega))
      have hbox : w3.cell? ⟨w1.heap.size, 0, none⟩ = some (.slice (some ⟨g0, 0, none⟩) s.size cap0) := (hb3.cell (p := ⟨w1.heap.size, 0, none⟩) (by simp; omega)).trans (cell_past (Boxed.new w1 WT _).cell _)
      have hrd := pow_reduced w3 g k.natAbs ⟨67, .slice (some ⟨g0, 0, none⟩) s.size cap0, s.data.toList, s.data.toList.reverse.map invB⟩ w1.heap.size (by omega) hg hcl.out (gives_bwd _ _) hbox (by have := hb13.size; have := hb3.size; simp at this; omega) ((hw.out.below hb13).mono hb13.size) (by simp; omega)
      rw [HR.out] at hrd
      clear hbox
      have HRd := Lib.hid hrd
      clear hrd
      go_wp2_with fail
      refine HRd.out.mono ?_
      rintro e w4 ⟨g4, m, cap4, rfl, hm, hown, hb4⟩
      have HM := Lib.hid hm
      have HO := Lib.hid hown
      clear hm hown
      go_wp2_with fail
      refine (told_no _ _ _ _ (by rw [← HM.out]; exact HL.out) (by have := HLr.out; rw [HM.out] at this; unfold maxLen; omega)).mono ?_
      rintro e w5 ⟨rfl, rfl⟩
      go_wp2_with fail
      go_ret2
      exact ⟨by rw [HT.out]; rfl, hb1.trans ((hb13.trans (hb4.mono hb13.size)).mono hb1.size)⟩
  · have HR : Hid (redX [] (repL k.natAbs s.data.toList) = redL [] (powL k s.data.toList)) := by
      unfold powL
      rw [if_neg hk, redX_eq _ _ (letL_rep _ _ p2)]; exact Lib.hid rfl
    clear p1 p2 p3
    by_cases h : (redL [] (powL k s.data.toList)).length ≤ 60
    · have HT := Lib.hid (toldV_yes h)
      have HL := Lib.hid (h)
      clear h
      go_enter Try.func21, Try.ntmps21
      go_wp2_with fail
      refine (wordOf_yes s _ H.out).mono ?_
      rintro e w1 ⟨g0, cap0, rfl, hown, hb1⟩
      have hw := Lib.hid (isWord_of_owns (n₀ := w1.heap.size) (l := s.data.toList) (by simp) (by omega) hown (Nat.le_refl _))
      clear hown
      go_wp2_with fail
      refine (letters_fwd _ _ _ k _ (by omega)).mono ?_
      rintro e w2 ⟨rfl, rfl⟩
      go_wp2_with fail
      refine (rep_int (w1.heap.size + 1) k.natAbs _ (.func (.func 71) #[] #[.pointer (some ⟨w1.heap.size, 0, none⟩)]) rfl _ (by omega) (by omega) ((World.cell?_alloc_at _ _ _ _ (by simp)).trans rfl) (by simp)).mono ?_
      rintro e w3 ⟨g, rfl, hg, hcl, hb3⟩
      have hb13 : Below w1.heap.size w1 w3 := (((Below.refl _ w1).alloc (Nat.le_refl _) _).alloc (by simp) _).trans (hb3.mono (by simp; omega))
      have hbox : w3.cell? ⟨w1.heap.size, 0, none⟩ = some (.slice (some ⟨g0, 0, none⟩) s.size cap0) := (hb3.cell (p := ⟨w1.heap.size, 0, none⟩) (by simp; omega)).trans (cell_past (Boxed.new w1 WT _).cell _)
      have hrd := pow_reduced w3 g k.natAbs ⟨71, .slice (some ⟨g0, 0, none⟩) s.size cap0, s.data.toList, s.data.toList⟩ w1.heap.size (by omega) hg hcl.out (gives_fwd _ _) hbox (by have := hb13.size; have := hb3.size; simp at this; omega) ((hw.out.below hb13).mono hb13.size) (by simp; omega)
      rw [HR.out] at hrd
      clear hbox
      have HRd := Lib.hid hrd
      clear hrd
      go_wp2_with fail
      refine HRd.out.mono ?_
      rintro e w4 ⟨g4, m, cap4, rfl, hm, hown, hb4⟩
      have HM := Lib.hid hm
      have HO := Lib.hid hown
      clear hm hown
      go_wp2_with fail
      refine (told_yes _ _ _ _ _ _ HM.out (by rw [← HM.out]; exact HL.out) HO.out).mono ?_
      rintro e w5 ⟨rfl, hb5⟩
      go_wp2_with fail
      go_ret2
      exact ⟨by rw [HT.out]; rfl, hb1.trans ((hb13.trans ((hb4.trans (hb5.mono hb4.size)).mono hb13.size)).mono hb1.size)⟩
    · have HT := Lib.hid (toldV_no h)
      have HL := Lib.hid (Nat.lt_of_not_le h)
      clear h
      go_enter Try.func21, Try.ntmps21
      go_wp2_with fail
      refine (wordOf_yes s _ H.out).mono ?_
      rintro e w1 ⟨g0, cap0, rfl, hown, hb1⟩
      have hw := Lib.hid (isWord_of_owns (n₀ := w1.heap.size) (l := s.data.toList) (by simp) (by omega) hown (Nat.le_refl _))
      clear hown
      go_wp2_with fail
      refine (letters_fwd _ _ _ k _ (by omega)).mono ?_
      rintro e w2 ⟨rfl, rfl⟩
      go_wp2_with fail
      refine (rep_int (w1.heap.size + 1) k.natAbs _ (.func (.func 71) #[] #[.pointer (some ⟨w1.heap.size, 0, none⟩)]) rfl _ (by omega) (by omega) ((World.cell?_alloc_at _ _ _ _ (by simp)).trans rfl) (by simp)).mono ?_
      rintro e w3 ⟨g, rfl, hg, hcl, hb3⟩
      have hb13 : Below w1.heap.size w1 w3 := (((Below.refl _ w1).alloc (Nat.le_refl _) _).alloc (by simp) _).trans (hb3.mono (by simp; omega))
      have hbox : w3.cell? ⟨w1.heap.size, 0, none⟩ = some (.slice (some ⟨g0, 0, none⟩) s.size cap0) := (hb3.cell (p := ⟨w1.heap.size, 0, none⟩) (by simp; omega)).trans (cell_past (Boxed.new w1 WT _).cell _)
      have hrd := pow_reduced w3 g k.natAbs ⟨71, .slice (some ⟨g0, 0, none⟩) s.size cap0, s.data.toList, s.data.toList⟩ w1.heap.size (by omega) hg hcl.out (gives_fwd _ _) hbox (by have := hb13.size; have := hb3.size; simp at this; omega) ((hw.out.below hb13).mono hb13.size) (by simp; omega)
      rw [HR.out] at hrd
      clear hbox
      have HRd := Lib.hid hrd
      clear hrd
      go_wp2_with fail
      refine HRd.out.mono ?_
      rintro e w4 ⟨g4, m, cap4, rfl, hm, hown, hb4⟩
      have HM := Lib.hid hm
      have HO := Lib.hid hown
      clear hm hown
      go_wp2_with fail
      refine (told_no _ _ _ _ (by rw [← HM.out]; exact HL.out) (by have := HLr.out; rw [HM.out] at this; unfold maxLen; omega)).mono ?_
      rintro e w5 ⟨rfl, rfl⟩
      go_wp2_with fail
      go_ret2
      exact ⟨by rw [HT.out]; rfl, hb1.trans ((hb13.trans (hb4.mono hb13.size)).mono hb1.size)⟩

theorem iPower_no (s : ByteArray) (k : Int) (w : World) (hs : s.size ≤ maxLen) (h : ¬ (wordB s.data.toList = true ∧ -60 ≤ k ∧ k ≤ 60)) :
    Calls Try.prog 21 #[.string s, .int .i64 k] w fun e w' => e = .returned (.tuple #[.string ByteArray.empty, .bool false]) ∧ Below w.heap.size w w' := by
  cases h0 : wordB s.data.toList with
  | false =>
    have H := Lib.hid h0
    clear h h0
    go_enter Try.func21, Try.ntmps21
    go_wp2_with fail
    refine (wordOf_no s _ hs H.out).mono ?_
    rintro e w1 ⟨rfl, hb1⟩
    go_wp2_with fail
    go_ret2
    exact ⟨rfl, hb1⟩
  | true =>
    have hor : k < -60 ∨ 60 < k := by
      rw [h0] at h
      simp only [true_and] at h
      omega
    have H := Lib.hid h0
    clear h h0
    rcases hor with hl | hl
    · go_enter Try.func21, Try.ntmps21
      go_wp2_with fail
      refine (wordOf_yes s _ H.out).mono ?_
      rintro e w1 ⟨g0, cap0, rfl, hown, hb1⟩
      clear hown
      go_wp2_with fail
      go_ret2
      exact ⟨rfl, hb1⟩
    · have hl2 : ¬ k < -60 := by omega
      go_enter Try.func21, Try.ntmps21
      go_wp2_with fail
      refine (wordOf_yes s _ H.out).mono ?_
      rintro e w1 ⟨g0, cap0, rfl, hown, hb1⟩
      clear hown
      go_wp2_with fail
      go_ret2
      exact ⟨rfl, hb1⟩

end Go.Proofs.Ytmbffbjopehllab

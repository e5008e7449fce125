/- The contract of the model's 'l9Letter'. -/
import Derived.Test.YtaaeiogdhmiaaaaCx
import Derived.Test.YtaaeiogdhmiaaaaCc
import Derived.Test.YtaaeiogdhmiaaaaSc
import Derived.Test.YtaaeiogdhmiaaaaJb
namespace Go.Proofs.Ytaaeiogdhmiaaaa
open Go.RowKit Go.Shelf

attribute [local go_sem] Oper.semAt_some

theorem letter_tab : ∀ p ∈ ([0, 1, 2] : List Nat), ((abcd.getD p ByteArray.empty ++ abcd.getD (p + 1) ByteArray.empty) ++ bstr (backL (abcd.getD p ByteArray.empty).data.toList) = { data := #[genC p, genC (p + 1), turnB (genC p)] } ∧ abcd.getD p ByteArray.empty = { data := #[genC p] }) ∧
    (bstr (backL (abcd.getD (p + 1) ByteArray.empty).data.toList) ++ abcd.getD p ByteArray.empty) ++ abcd.getD (p + 1) ByteArray.empty = { data := #[turnB (genC (p + 1)), genC p, genC (p + 1)] } ∧ abcd.getD (p + 1) ByteArray.empty = { data := #[genC (p + 1)] } ∧ (abcd.getD p ByteArray.empty).size ≤ 1 ∧ (abcd.getD (p + 1) ByteArray.empty).size ≤ 1 := by decide +kernel

theorem strs_of_row {w : World} {lo b cap n : Nat} {zs : List ByteArray} {vs : List Value} (h : w.ownsRow lo 9 1 (.slice (some ⟨b, 0, none⟩) n cap) n vs) (hv : vs = zs.map Value.string) (hz : ∀ z ∈ zs, z.size ≤ maxLen) : StrsAt w (some ⟨b, 0, none⟩) zs := by
  refine ⟨fun _ => ⟨⟨b, 0, none⟩, rfl, (typed_row h).lt, fun i hi => ?_⟩, hz⟩
  refine h.cells rfl i _ ?_
  rw [hv, List.getElem?_map, List.getElem?_eq_getElem hi]; rfl

set_option maxRecDepth 100000 in
set_option maxHeartbeats 4000000 in
theorem l9Letter_any (c : UInt8) (w : World) (hc : brB c = true) :
    Calls Try.prog 112 #[.int .u8 (c.toNat : Int)] w fun e w' => e = .returned (.slice (some ⟨w.heap.size, 0, none⟩) 4 4) ∧ StrsAt w' (some ⟨w.heap.size, 0, none⟩) (bImg c) ∧ Below w.heap.size w w' := by
  have hp3 := plN_lt c hc
  have HPL := Lib.hid (fun w => l9Index_any c w hc)
  have HBI : Hid (bImg c = if 97 ≤ c.toNat then (abcd.set (plN c) { data := #[genC (plN c), genC (plN c + 1), turnB (genC (plN c))] }).set (plN c + 1) { data := #[genC (plN c)] } else (abcd.set (plN c) { data := #[genC (plN c + 1)] }).set (plN c + 1) { data := #[turnB (genC (plN c + 1)), genC (plN c), genC (plN c + 1)] }) := Lib.hid rfl
  have HSM : Hid (∀ z ∈ bImg c, z.size ≤ maxLen) := Lib.hid (fun z hz => by have := ((bImg_ok hc).2 z hz).2; unfold maxLen; omega)
  have HL4 := Lib.hid (bImg_ok hc).1
  obtain ⟨p, hp⟩ : ∃ p, plN c = p := ⟨_, rfl⟩
  rw [hp] at hp3 HPL HBI
  obtain ⟨⟨t1, t2⟩, t3, t4, t5, t6⟩ := letter_tab p (by simp; omega)
  obtain ⟨W, hW⟩ : ∃ W, w.alloc (.cells #[.string { data := #[97] }, .string { data := #[98] }, .string { data := #[99] }, .string { data := #[100] }] 9) = W := ⟨_, rfl⟩
  have HW := Lib.hid hW
  have hWs : W.heap.size = w.heap.size + 1 := by rw [← hW]; simp
  have hown : W.ownsRow w.heap.size 9 1 (.slice (some ⟨w.heap.size, 0, none⟩) 4 4) 4 (abcd.map Value.string) := by
    rw [← hW]
    exact ⟨rfl, .inr ⟨_, 4, #[.string { data := #[97] }, .string { data := #[98] }, .string { data := #[99] }, .string { data := #[100] }], rfl, Nat.le_refl _, heap_alloc_new w _, Nat.le_refl _, by decide, rfl, rfl⟩⟩
  have hbel : Below w.heap.size w W := by rw [← hW]; exact (Below.refl _ w).alloc (Nat.le_refl _) _
  obtain ⟨za, hza⟩ : ∃ z, abcd.getD p ByteArray.empty = z := ⟨_, rfl⟩
  obtain ⟨zb, hzb⟩ : ∃ z, abcd.getD (p + 1) ByteArray.empty = z := ⟨_, rfl⟩
  rw [hza] at t1 t2 t3 t5
  rw [hzb] at t1 t3 t4 t6
  have hga : ∀ k z, k < 4 → abcd.getD k ByteArray.empty = z → (abcd.map Value.string)[k]? = some (.string z) := fun k z hk h => by
    have hk' : k < abcd.length := hk
    rw [List.getElem?_map, List.getElem?_eq_getElem hk']
    rw [List.getD_eq_getElem?_getD, List.getElem?_eq_getElem hk'] at h
    exact congrArg (fun z => some (Value.string z)) h
  have hga1 := hga p za (by omega) hza
  have hga2 := hga (p + 1) zb (by omega) hzb
  have hcx : W.cell? ⟨w.heap.size, p, none⟩ = some (.string za) := (hown.cellAt p (by omega)).trans hga1
  have hcx2 : W.cell? ⟨w.heap.size, p + 1, none⟩ = some (.string zb) := (hown.cellAt (p + 1) (by omega)).trans hga2
  have HGA1 := Lib.hid hga1
  have HGA2 := Lib.hid hga2
  have HO := Lib.hid hown
  have HB := Lib.hid hbel
  have T1 := Lib.hid t1
  have T2 := Lib.hid t2
  have T3 := Lib.hid t3
  have T4 := Lib.hid t4
  clear hp hc hW hown hbel hza hzb hga hga1 hga2 t1 t2 t3 t4
  by_cases h97 : 97 ≤ c.toNat
  · have h97' : (97 : Int) ≤ (c.toNat : Int) := by omega
    obtain ⟨ba, hba⟩ : ∃ z, bstr (backL za.data.toList) = z := ⟨_, rfl⟩
    have HBA : Hid (∀ V : World, Calls Try.prog 73 #[.string za] V fun e w' => e = .returned (.string ba) ∧ Below V.heap.size V w') := Lib.hid fun V => by rw [← hba]; exact back_any za V (by omega)
    have hbs : ba.size ≤ 1 := by rw [← hba, bstr_size, backL_length]; simpa using t5
    rw [hba] at T1
    clear hba
    obtain ⟨i, hi⟩ : ∃ i : Int, (c.toNat : Int) = i := ⟨_, rfl⟩
    rw [hi] at h97' HPL ⊢
    have HI := Lib.hid hi
    clear hi
    go_enter Try.func112, Try.ntmps112
    go_wp2_with fail
    rw [HW.out]
    refine (HPL.out _).mono ?_
    rintro e w2 ⟨rfl, rfl⟩
    go_wp2_with fail
    refine (HBA.out _).mono ?_
    rintro e w3 ⟨rfl, hb3⟩
    have hown3 := HO.out.kept (row := none) (grown_of_below hb3) (by simp [Value.ownBlock])
    have hcy := (hown3.cellAt p (by omega)).trans HGA1.out
    have hfy := hown3.frozenAt p
    have hcy2 := (hown3.cellAt (p + 1) (by omega)).trans HGA2.out
    have hfy2 := hown3.frozenAt (p + 1)
    have HO3 := Lib.hid hown3
    have HB3 := Lib.hid hb3
    clear hown3 hb3
    go_wp2_with fail
    have h1 := (HO3.out.stored p (.string (za ++ zb ++ ba))).1
    have h2 := (h1.stored (p + 1) (.string za)).1
    refine bodyPost_ret (v := .slice (some ⟨w.heap.size, 0, none⟩) 4 4) ?_ rfl ⟨rfl, strs_of_row h2 ?_ HSM.out, ?_⟩
    · simp [results, Try.results112, go_sem]
    · rw [HBI.out, if_pos h97, T1.out, T2.out, List.map_set, List.map_set]
    · exact ((HB.out.trans (HB3.out.mono HB.out.size)).setCell (p := ⟨w.heap.size, p, none⟩) (Nat.le_refl _) _).setCell (p := ⟨w.heap.size, p + 1, none⟩) (Nat.le_refl _) _
  · have h97' : ¬ (97 : Int) ≤ (c.toNat : Int) := by omega
    obtain ⟨ba, hba⟩ : ∃ z, bstr (backL zb.data.toList) = z := ⟨_, rfl⟩
    have HBA : Hid (∀ V : World, Calls Try.prog 73 #[.string zb] V fun e w' => e = .returned (.string ba) ∧ Below V.heap.size V w') := Lib.hid fun V => by rw [← hba]; exact back_any zb V (by omega)
    have hbs : ba.size ≤ 1 := by rw [← hba, bstr_size, backL_length]; simpa using t6
    rw [hba] at T3
    clear hba
    have hfx := HO.out.frozenAt p
    obtain ⟨i, hi⟩ : ∃ i : Int, (c.toNat : Int) = i := ⟨_, rfl⟩
    rw [hi] at h97' HPL ⊢
    have HI := Lib.hid hi
    clear hi
    go_enter Try.func112, Try.ntmps112
    go_wp2_with fail
    rw [HW.out]
    refine (HPL.out _).mono ?_
    rintro e w2 ⟨rfl, rfl⟩
    go_wp2_with fail
    refine (HBA.out _).mono ?_
    rintro e w3 ⟨rfl, hb3⟩
    have hownS := (HO.out.stored p (.string zb)).1
    have hown3 := hownS.kept (row := none) (grown_of_below hb3) (by simp [Value.ownBlock])
    have hcy2 := (hown3.cellAt (p + 1) (by omega)).trans ((List.getElem?_set_ne (by omega)).trans HGA2.out)
    have hfy2 := hown3.frozenAt (p + 1)
    have HO3 := Lib.hid hown3
    have HB3 := Lib.hid ((HB.out.setCell (p := ⟨w.heap.size, p, none⟩) (Nat.le_refl _) _).trans (hb3.mono (HB.out.setCell (p := ⟨w.heap.size, p, none⟩) (Nat.le_refl _) _).size))
    clear hown3 hb3 hownS
    go_wp2_with fail
    have h2 := (HO3.out.stored (p + 1) (.string (ba ++ za ++ zb))).1
    refine bodyPost_ret (v := .slice (some ⟨w.heap.size, 0, none⟩) 4 4) ?_ rfl ⟨rfl, strs_of_row h2 ?_ HSM.out, ?_⟩
    · simp [results, Try.results112, go_sem]
    · rw [HBI.out, if_neg h97, T3.out, T4.out, List.map_set, List.map_set]
    · exact HB3.out.setCell (p := ⟨w.heap.size, p + 1, none⟩) (Nat.le_refl _) _

end Go.Proofs.Ytaaeiogdhmiaaaa

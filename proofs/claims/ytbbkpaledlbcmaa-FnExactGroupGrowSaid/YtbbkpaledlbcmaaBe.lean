/- What the laws' proofs stand on, part 5 of 6. -/
import Derived.Test.YtbbkpaledlbcmaaBa
import Derived.Test.YtbbkpaledlbcmaaBb
import Derived.Test.YtbbkpaledlbcmaaBc
import Derived.Test.YtbbkpaledlbcmaaBd

/- The program's MatrixTimes. -/

namespace Go.Proofs.Ytbbkpaledlbcmaa
open Go.RowKit Go.Shelf

set_option maxRecDepth 100000 in
set_option maxHeartbeats 8000000 in
theorem iMatrixTimes_any (a b : Option Addr) (ca na cb nb : Nat) (A B : Mx) (w : World) (ha : IsPSS w a na A) (hb : IsPSS w b nb B) :
    Calls Try.prog 28 #[.slice a na ca, .slice b nb cb] w (IM w (timesM A B)) := by
  have hmx : Try.prog.follows .mixedOrders = true := by kernel_rfl
  have hmf : ∀ (fn : Fn) (first cap : Array Value) (w : World), (Instr.makeFunc fn first cap).run Try.prog w = .ok (.func fn first cap) w := fun _ _ _ _ => rfl
  have HSB := Lib.hid hb
  have HSA := Lib.hid ha
  clear ha hb
  go_enter Try.func28, Try.ntmps28
  go_wp2_with fail
  refine (matrixOf_any a ca na A w HSA.out).mono ?_
  intro e w1 hR
  obtain ⟨gA, NA, CA, rfl, hshA, hb1, hcaseA⟩ := hR.any
  have HSHA := Lib.hid hshA
  have HCASEA := Lib.hid hcaseA
  have HB1 := Lib.hid hb1
  clear hR hshA hcaseA hb1
  go_wp2_with fail
  refine (matrixOf_any b cb nb B w1 (HSB.out.below HB1.out)).mono ?_
  intro e w2 hR
  obtain ⟨gB, NB, CB, rfl, hshB, hb2, hcaseB⟩ := hR.any
  have HSHB := Lib.hid hshB
  have HCASEB := Lib.hid hcaseB
  have HB12 := Lib.hid hb2
  have HB2 := Lib.hid (HB1.out.trans (hb2.mono HB1.out.size))
  clear hR hshB hcaseB hb2
  obtain ⟨V, hV⟩ : ∃ V, (w2.alloc (.cells (mC fun _ => none) MA)).alloc (.cells (mC fun _ => none) MA) = V := ⟨_, rfl⟩
  have hv6 : V.heap[w2.heap.size]? = some (.cells (mC fun _ => none) MA (0, 0)) := by
    rw [← hV, Below.heap_alloc _ _ _ (by simp)]
    exact World.alloc_heap_new w2 _
  have hv7 : V.heap[w2.heap.size + 1]? = some (.cells (mC fun _ => none) MA (0, 0)) := by
    rw [← hV]
    have h := World.alloc_heap_new (w2.alloc (.cells (mC fun _ => none) MA)) (.cells (mC fun _ => none) MA)
    rwa [World.size_alloc] at h
  have hbV : Below w2.heap.size w2 V := by rw [← hV]; exact ((Below.refl _ w2).alloc (Nat.le_refl _) _).alloc (by simp) _
  have HV6 := Lib.hid hv6
  have HV7 := Lib.hid hv7
  have HBV := Lib.hid hbV
  simp only [mC] at hV
  have HV := Lib.hid hV
  clear hv6 hv7 hbV hV
  go_wp2_with (first
    | (refine wpList_store_mat rfl _ _ rfl w2.heap.size (fun _ => none) gA rfl rfl (by rw [HV.out]; exact HV6.out) ?_; rw [HV.out]; intro w3 hp3; have HP3 := Lib.hid hp3; clear hp3)
    | (refine wpList_store_mat rfl _ _ rfl (w2.heap.size + 1) (fun _ => none) gB rfl rfl ((HP3.out.off _ (by omega)).trans HV7.out) ?_; intro w4 hp4; have HP4 := Lib.hid hp4; clear hp4))
  have HX6 := Lib.hid ((HP4.out.off _ (by omega)).trans HP3.out.heap)
  have HX7 := Lib.hid HP4.out.heap
  have HB24 := Lib.hid (HP4.out.below (HP3.out.below HBV.out (Nat.le_refl _)) (Nat.le_succ _))
  have HB4 := Lib.hid (HB2.out.trans (HB24.out.mono HB2.out.size))
  have hl6 := (Array.getElem?_eq_some_iff.1 HX6.out).1
  have hl7 := (Array.getElem?_eq_some_iff.1 HX7.out).1
  have HCOL : Hid (∀ p : BelowBy w4, Calls Try.prog 96 #[.agg (mC gA)] p.world fun e w' => e = .returned (.int .i64 CA) ∧ Below p.world.heap.size p.world w') := Lib.hid fun p => columns_any gA NA CA HSHA.out p.world
  have HROW : Hid (∀ p : BelowBy w4, Calls Try.prog 97 #[.agg (mC gB)] p.world fun e w' => e = .returned (.int .i64 NB) ∧ Below p.world.heap.size p.world w') := Lib.hid fun p => rows_any gB NB CB HSHB.out p.world
  have hpick : (CA = NB ∧ ((CA : Int) == (NB : Int)) = true ∧ ((CA : Int) != (NB : Int)) = false ∧ decide ((CA : Int) = (NB : Int)) = true) ∨ (CA ≠ NB ∧ ((CA : Int) == (NB : Int)) = false ∧ ((CA : Int) != (NB : Int)) = true ∧ decide ((CA : Int) = (NB : Int)) = false) := by
    by_cases e : CA = NB
    · subst e; exact .inl ⟨rfl, by simp, by simp, by simp⟩
    · have e2 : ¬ (CA : Int) = (NB : Int) := by omega
      exact .inr ⟨e, by simp [e2], by simp [e2], by simp [e2]⟩
  clear HP3 HP4 HV HV6 HV7 HBV
  refine wp_region_below hmx (by kernel_rfl) ?_
  repeat (first
    | (refine wpQuiet_load_mat rfl _ rfl w2.heap.size gA rfl HX6.out ?_)
    | (refine wpQuiet_load_mat rfl _ rfl (w2.heap.size + 1) gB rfl HX7.out ?_)
    | ((with_reducible refine wpQuiet_step (fun K hK => ?_)); go_simp; first | ((with_reducible refine hK _ ?_); clear hK K) | (refine (if_neg (by decide)).mpr ?_; (with_reducible refine hK _ ?_); clear hK K) | (apply Exists.intro; (with_reducible refine ⟨fun _ => ?_, hK _ ?_⟩); (first | (go_at_call 96; exact Calls.bel (HCOL.out _)) | (go_at_call 97; exact Calls.bel (HROW.out _))); clear hK K)))
  with_reducible refine wpQuiet_nil ?_
  rintro V5 ⟨⟨V5, hV5⟩, rfl⟩
  have HB5 := Lib.hid (HB4.out.trans (hV5.mono HB4.out.size))
  have HB25 := Lib.hid (HB24.out.trans (hV5.mono HB24.out.size))
  have HY6 := Lib.hid ((hV5.block _ hl6).trans HX6.out)
  have HY7 := Lib.hid ((hV5.block _ hl7).trans HX7.out)
  have hs5 := hV5.size
  clear hV5 HCOL HROW HX6 HX7
  rcases hpick with ⟨hCN, hd1, hd2, hd3⟩ | ⟨hCN, hd1, hd2, hd3⟩
  · have hg6 : w2.heap.size < V5.heap.size := by omega
    have hg7 : w2.heap.size + 1 < V5.heap.size := by omega
    have HROW : Hid (∀ p : BelowBy V5, Calls Try.prog 97 #[.agg (mC gA)] p.world fun e w' => e = .returned (.int .i64 NA) ∧ Below p.world.heap.size p.world w') := Lib.hid fun p => rows_any gA NA CA HSHA.out p.world
    have HCOL : Hid (∀ p : BelowBy V5, Calls Try.prog 96 #[.agg (mC gB)] p.world fun e w' => e = .returned (.int .i64 CB) ∧ Below p.world.heap.size p.world w') := Lib.hid fun p => columns_any gB NB CB HSHB.out p.world
    go_wp2_with fail
    refine wp_region_below_then 5 #[true, true, true, true, true, false, false, false, false, false, false] hmx (by kernel_rfl) ?_
    simp only [List.take_succ_cons, List.take_zero]
    repeat (first
      | (refine wpQuiet_load_mat rfl _ rfl w2.heap.size gA rfl HY6.out ?_)
      | (refine wpQuiet_load_mat rfl _ rfl (w2.heap.size + 1) gB rfl HY7.out ?_)
      | ((with_reducible refine wpQuiet_step (fun K hK => ?_)); go_simp; first | ((with_reducible refine hK _ ?_); clear hK K) | (refine (if_neg (by decide)).mpr ?_; (with_reducible refine hK _ ?_); clear hK K) | (apply Exists.intro; (with_reducible refine ⟨fun _ => ?_, hK _ ?_⟩); (first | (go_at_call 96; exact Calls.bel (HCOL.out _)) | (go_at_call 97; exact Calls.bel (HROW.out _))); clear hK K)))
    with_reducible refine wpQuiet_nil ?_
    rintro V6 ⟨⟨V6, hV6⟩, rfl⟩
    change wpAny _ _ _ _ (5 + 1) _ _ V6
    have HB6 := Lib.hid (HB5.out.trans (hV6.mono HB5.out.size))
    have HB26 := Lib.hid (HB25.out.trans (hV6.mono HB25.out.size))
    have HZ6 := Lib.hid ((hV6.block _ hg6).trans HY6.out)
    have HZ7 := Lib.hid ((hV6.block _ hg7).trans HY7.out)
    have hs6 := hV6.size
    clear hV6 HCOL HROW HY6 HY7
    have HBY := Lib.hid (matrixBy_any 98 #[.pointer (some ⟨w2.heap.size + 1, 0, none⟩), .pointer (some ⟨w2.heap.size, 0, none⟩)] NA CB (fun i k => sumO (fun j => timesO (at2 A i j) (at2 B j k)) NB) V6 HSHA.out.n4 HSHB.out.m4 (by have h1 := HSHA.out.both; have h2 := HSHB.out.both; omega) (fun _ _ => by go_simp)
      (fun i k W hi hk hW => by
        rcases HCASEA.out with ⟨h1, h2, h3, pv, hM⟩ | ⟨h1, h2, h3⟩
        · rcases HCASEB.out with ⟨g1, g2, g3, qv, hN⟩ | ⟨g1, g2, g3⟩
          · subst hCN
            exact times1_any gA gB NA CA CA CB w.heap.size w1.heap.size w2.heap.size (w2.heap.size + 1) i k (at2 A) (at2 B) pv qv W (((hM.below HB12.out).below HB26.out).below hW) ((hN.below HB26.out).below hW) ((hW.block _ (by omega)).trans HZ6.out) ((hW.block _ (by omega)).trans HZ7.out) rfl hi hk (fun i j hi hj => matB_at h1 (by omega) (by omega)) (fun j k hj hk => matB_at g1 (by omega) (by omega))
          · have h := HSHB.out
            rw [g3] at h
            have := h.bare
            omega
        · have h := HSHA.out
          rw [h3] at h
          have := h.bare
          omega))
    refine wpAny_one (i := 5) rfl (by kernel_rfl) (fun K hK => ?_)
    go_simp
    refine HBY.out.mono ?_
    rintro e w7 ⟨⟨⟨i, k, hi, hk, hno⟩, rfl⟩ | ⟨g, P, pv, hP, rfl, hM⟩, hb7⟩
    · have HN : Hid (timesM A B = none) := Lib.hid (by
        by_cases h : matB A = true ∧ matB B = true ∧ colsM A = B.length
        · rw [timesM_yes h.1 h.2.1 h.2.2, gridO_none]
          rcases HCASEA.out with ⟨_, h2, h3, _⟩ | ⟨h1, _⟩
          · rcases HCASEB.out with ⟨_, g2, g3, _⟩ | ⟨g1, _⟩
            · exact ⟨i, k, by omega, by omega, by rw [← g2]; exact hno⟩
            · rw [h.2.1] at g1; cases g1
          · rw [h.1] at h1; cases h1
        · exact timesM_no h)
      have HB7 := Lib.hid (HB6.out.trans (hb7.mono HB6.out.size))
      clear hno hb7
      go_wp2_with fail
      refine hK.out _ _ ?_
      clear hK K
      try simp only [List.setIfInBounds_toArray, List.set_cons_zero, List.set_cons_succ]
      refine wpAny_one (i := 6) rfl (by kernel_rfl) (fun K hK => ?_)
      go_simp
      refine (toldM_none w7).mono ?_
      rintro e w8 ⟨rfl, hb8⟩
      have HB8 := Lib.hid (HB7.out.trans (hb8.mono HB7.out.size))
      clear hb8
      go_wp2_with fail
      refine hK.out _ _ ?_
      clear hK K
      try simp only [List.setIfInBounds_toArray, List.set_cons_zero, List.set_cons_succ]
      refine wpAny_two (i := 7) (i2 := 8) rfl rfl (by kernel_rfl) (fun K hK => ?_) (fun K hK => ?_)
      · go_simp
        refine hK.out _ _ ?_
        clear hK K
        try simp only [List.setIfInBounds_toArray, List.set_cons_zero, List.set_cons_succ]
        refine wpAny_one (i := 8) rfl (by kernel_rfl) (fun K hK => ?_)
        go_simp
        refine hK.out _ _ ?_
        clear hK K
        try simp only [List.setIfInBounds_toArray, List.set_cons_zero, List.set_cons_succ]
        refine wpAny_one (i := 9) rfl (by kernel_rfl) (fun K hK => ?_)
        go_simp
        refine hK.out _ _ ?_
        clear hK K
        try simp only [List.setIfInBounds_toArray, List.set_cons_zero, List.set_cons_succ]
        refine wpAny_one (i := 10) rfl (by kernel_rfl) (fun K hK => ?_)
        go_simp
        refine hK.out _ _ ?_
        clear hK K
        try simp only [List.setIfInBounds_toArray, List.set_cons_zero, List.set_cons_succ]
        refine ⟨by kernel_rfl, ?_⟩
        go_wp2
        go_ret2
        exact IM.no HN.out HB8.out
      · go_simp
        refine hK.out _ _ ?_
        clear hK K
        try simp only [List.setIfInBounds_toArray, List.set_cons_zero, List.set_cons_succ]
        refine wpAny_one (i := 7) rfl (by kernel_rfl) (fun K hK => ?_)
        go_simp
        refine hK.out _ _ ?_
        clear hK K
        try simp only [List.setIfInBounds_toArray, List.set_cons_zero, List.set_cons_succ]
        refine wpAny_one (i := 9) rfl (by kernel_rfl) (fun K hK => ?_)
        go_simp
        refine hK.out _ _ ?_
        clear hK K
        try simp only [List.setIfInBounds_toArray, List.set_cons_zero, List.set_cons_succ]
        refine wpAny_one (i := 10) rfl (by kernel_rfl) (fun K hK => ?_)
        go_simp
        refine hK.out _ _ ?_
        clear hK K
        try simp only [List.setIfInBounds_toArray, List.set_cons_zero, List.set_cons_succ]
        refine ⟨by kernel_rfl, ?_⟩
        go_wp2
        go_ret2
        exact IM.no HN.out HB8.out
    · have HB7 := Lib.hid (HB6.out.trans (hb7.mono HB6.out.size))
      have HM := Lib.hid hM
      have HP := Lib.hid hP
      clear hb7 hM hP
      by_cases hn0 : 0 < NA
      · have HY : Hid (timesM A B = some (gridL P NA CB)) := Lib.hid (by
          rcases HCASEA.out with ⟨h1, h2, h3, _⟩ | ⟨h1, h2, h3⟩
          · rcases HCASEB.out with ⟨g1, g2, g3, _⟩ | ⟨g1, g2, g3⟩
            · rw [timesM_yes h1 g1 (by omega), ← h2, ← g2, ← g3]
              exact gridO_all P HP.out
            · have h := HSHB.out
              rw [g3] at h
              have h4 := h.bare
              have h5 := (matB_iff.1 h1).2.1
              omega
          · have h := HSHA.out
            rw [h3] at h
            have := h.bare
            omega)
        go_wp2_with fail
        refine hK.out _ _ ?_
        clear hK K
        try simp only [List.setIfInBounds_toArray, List.set_cons_zero, List.set_cons_succ]
        refine wpAny_one (i := 6) rfl (by kernel_rfl) (fun K hK => ?_)
        go_simp
        refine (toldM_any g NA CB w.heap.size _ _ w7 (HM.out.mono HB6.out.size) HB7.out.size hn0).mono ?_
        rintro e w8 ⟨v, rs, rfl, ho, hr, hb8⟩
        have HO := Lib.hid ho
        have HR := Lib.hid hr
        have HB8 := Lib.hid (HB7.out.trans (hb8.mono HB7.out.size))
        clear ho hr hb8
        go_wp2_with fail
        refine hK.out _ _ ?_
        clear hK K
        try simp only [List.setIfInBounds_toArray, List.set_cons_zero, List.set_cons_succ]
        refine wpAny_two (i := 7) (i2 := 8) rfl rfl (by kernel_rfl) (fun K hK => ?_) (fun K hK => ?_)
        · go_simp
          refine hK.out _ _ ?_
          clear hK K
          try simp only [List.setIfInBounds_toArray, List.set_cons_zero, List.set_cons_succ]
          refine wpAny_one (i := 8) rfl (by kernel_rfl) (fun K hK => ?_)
          go_simp
          refine hK.out _ _ ?_
          clear hK K
          try simp only [List.setIfInBounds_toArray, List.set_cons_zero, List.set_cons_succ]
          refine wpAny_one (i := 9) rfl (by kernel_rfl) (fun K hK => ?_)
          go_simp
          refine hK.out _ _ ?_
          clear hK K
          try simp only [List.setIfInBounds_toArray, List.set_cons_zero, List.set_cons_succ]
          refine wpAny_one (i := 10) rfl (by kernel_rfl) (fun K hK => ?_)
          go_simp
          refine hK.out _ _ ?_
          clear hK K
          try simp only [List.setIfInBounds_toArray, List.set_cons_zero, List.set_cons_succ]
          refine ⟨by kernel_rfl, ?_⟩
          go_wp2
          go_ret2
          exact IM.yes HY.out HO.out HR.out HB8.out
        · go_simp
          refine hK.out _ _ ?_
          clear hK K
          try simp only [List.setIfInBounds_toArray, List.set_cons_zero, List.set_cons_succ]
          refine wpAny_one (i := 7) rfl (by kernel_rfl) (fun K hK => ?_)
          go_simp
          refine hK.out _ _ ?_
          clear hK K
          try simp only [List.setIfInBounds_toArray, List.set_cons_zero, List.set_cons_succ]
          refine wpAny_one (i := 9) rfl (by kernel_rfl) (fun K hK => ?_)
          go_simp
          refine hK.out _ _ ?_
          clear hK K
          try simp only [List.setIfInBounds_toArray, List.set_cons_zero, List.set_cons_succ]
          refine wpAny_one (i := 10) rfl (by kernel_rfl) (fun K hK => ?_)
          go_simp
          refine hK.out _ _ ?_
          clear hK K
          try simp only [List.setIfInBounds_toArray, List.set_cons_zero, List.set_cons_succ]
          refine ⟨by kernel_rfl, ?_⟩
          go_wp2
          go_ret2
          exact IM.yes HY.out HO.out HR.out HB8.out
      · have HN : Hid (timesM A B = none) := Lib.hid (timesM_no fun h => by
          rcases HCASEA.out with ⟨h1, h2, _⟩ | ⟨h1, _⟩
          · have := (matB_iff.1 h1).1; omega
          · rw [h.1] at h1; cases h1)
        have hsh := HM.out.shp
        have h0 : NA = 0 := by omega
        have h00 : CB = 0 := by have := hsh.both; omega
        rw [h0, h00] at hsh
        have hg := mC_none hsh
        have HG := Lib.hid hg
        clear hg hsh
        rw [HG.out]
        go_wp2_with fail
        refine hK.out _ _ ?_
        clear hK K
        try simp only [List.setIfInBounds_toArray, List.set_cons_zero, List.set_cons_succ]
        refine wpAny_one (i := 6) rfl (by kernel_rfl) (fun K hK => ?_)
        go_simp
        refine (toldM_none w7).mono ?_
        rintro e w8 ⟨rfl, hb8⟩
        have HB8 := Lib.hid (HB7.out.trans (hb8.mono HB7.out.size))
        clear hb8
        go_wp2_with fail
        refine hK.out _ _ ?_
        clear hK K
        try simp only [List.setIfInBounds_toArray, List.set_cons_zero, List.set_cons_succ]
        refine wpAny_two (i := 7) (i2 := 8) rfl rfl (by kernel_rfl) (fun K hK => ?_) (fun K hK => ?_)
        · go_simp
          refine hK.out _ _ ?_
          clear hK K
          try simp only [List.setIfInBounds_toArray, List.set_cons_zero, List.set_cons_succ]
          refine wpAny_one (i := 8) rfl (by kernel_rfl) (fun K hK => ?_)
          go_simp
          refine hK.out _ _ ?_
          clear hK K
          try simp only [List.setIfInBounds_toArray, List.set_cons_zero, List.set_cons_succ]
          refine wpAny_one (i := 9) rfl (by kernel_rfl) (fun K hK => ?_)
          go_simp
          refine hK.out _ _ ?_
          clear hK K
          try simp only [List.setIfInBounds_toArray, List.set_cons_zero, List.set_cons_succ]
          refine wpAny_one (i := 10) rfl (by kernel_rfl) (fun K hK => ?_)
          go_simp
          refine hK.out _ _ ?_
          clear hK K
          try simp only [List.setIfInBounds_toArray, List.set_cons_zero, List.set_cons_succ]
          refine ⟨by kernel_rfl, ?_⟩
          go_wp2
          go_ret2
          exact IM.no HN.out HB8.out
        · go_simp
          refine hK.out _ _ ?_
          clear hK K
          try simp only [List.setIfInBounds_toArray, List.set_cons_zero, List.set_cons_succ]
          refine wpAny_one (i := 7) rfl (by kernel_rfl) (fun K hK => ?_)
          go_simp
          refine hK.out _ _ ?_
          clear hK K
          try simp only [List.setIfInBounds_toArray, List.set_cons_zero, List.set_cons_succ]
          refine wpAny_one (i := 9) rfl (by kernel_rfl) (fun K hK => ?_)
          go_simp
          refine hK.out _ _ ?_
          clear hK K
          try simp only [List.setIfInBounds_toArray, List.set_cons_zero, List.set_cons_succ]
          refine wpAny_one (i := 10) rfl (by kernel_rfl) (fun K hK => ?_)
          go_simp
          refine hK.out _ _ ?_
          clear hK K
          try simp only [List.setIfInBounds_toArray, List.set_cons_zero, List.set_cons_succ]
          refine ⟨by kernel_rfl, ?_⟩
          go_wp2
          go_ret2
          exact IM.no HN.out HB8.out
  · have HN : Hid (timesM A B = none) := Lib.hid (timesM_no fun h => by
      rcases HCASEA.out with ⟨h1, h2, h3, _⟩ | ⟨h1, _⟩
      · rcases HCASEB.out with ⟨g1, g2, g3, _⟩ | ⟨g1, _⟩
        · omega
        · rw [h.2.1] at g1; cases g1
      · rw [h.1] at h1; cases h1)
    go_wp2
    go_ret2
    exact IM.no HN.out HB5.out

end Go.Proofs.Ytbbkpaledlbcmaa

/- The model's MatrixTimes. -/

namespace Go.Proofs.Ytbbkpaledlbcmaa
open Go.RowKit

def dotF (A B : Mx) (n i k : Nat) : Option Pl := dotO A B i k n
theorem timesM_dot {A B : Mx} (h1 : matB A = true) (h2 : matB B = true) (h3 : colsM A = B.length) : timesM A B = gridO (dotF A B B.length) (colsM B) A.length := by
  unfold timesM
  rw [if_pos (by simp [h1, h2, h3])]
  rfl
theorem good_times (A B : Mx) : GoodM ((timesM A B).getD []) := by
  by_cases h : matB A = true ∧ matB B = true ∧ colsM A = B.length
  · have e : timesM A B = _ := timesM_yes h.1 h.2.1 h.2.2
    rw [e]
    cases e2 : gridO (fun i k => sumO (fun j => timesO (at2 A i j) (at2 B j k)) B.length) (colsM B) A.length with
    | none => exact GoodM.nil
    | some R => exact GoodM.grid e2 (by have := (matB_iff.1 h.1).1; omega) (by have := (matB_iff.1 h.2.1).2.1; omega) fun i k p _ _ hp => sumO_B hp
  · rw [timesM_no h]
    exact GoodM.nil

set_option maxRecDepth 100000 in
set_option maxHeartbeats 8000000 in
theorem sMatrixTimes_any (a b : Option Addr) (ca na cb nb : Nat) (A B : Mx) (w : World) (ha : IsPSS w a na A) (hb : IsPSS w b nb B) :
    Calls Try.prog 36 #[.slice a na ca, .slice b nb cb] w (IM w (timesM A B)) := by
  obtain ⟨i0, hi0, hi1, hi2, hi3⟩ := info_parts infoPolyS
  obtain ⟨p0, hp0, hp1, hp2, hp3⟩ := info_parts infoPoly
  obtain ⟨bA, hbA⟩ : ∃ b, matB A = b := ⟨_, rfl⟩
  obtain ⟨bB, hbB⟩ : ∃ b, matB B = b := ⟨_, rfl⟩
  obtain ⟨W, hW⟩ : ∃ W, w.alloc (.cells #[] PR) = W := ⟨_, rfl⟩
  have hbW : Below w.heap.size w W := by rw [← hW]; exact (Below.refl _ w).alloc (Nat.le_refl _) _
  have HBW := Lib.hid hbW
  have HMd : Hid (OwnM w.heap.size W (.slice (some ⟨w.heap.size, 0, none⟩) 0 0) []) := Lib.hid (by rw [← hW]; exact OwnM.made w)
  have HINA := Lib.hid (sMatrixIn_any a ca na A bA W (ha.below hbW) hbA)
  have HINB : Hid (∀ V, Below W.heap.size W V → _) := Lib.hid fun V (hV : Below W.heap.size W V) => sMatrixIn_any b cb nb B bB V (hb.below (hbW.trans (hV.mono hbW.size))) hbB
  have HSA := Lib.hid ha
  have HSB := Lib.hid hb
  have HLA := Lib.hid ha.len
  have HLB := Lib.hid hb.len
  have HMA := Lib.hid hbA
  have HMB := Lib.hid hbB
  have HW := Lib.hid hW
  have HNo : Hid (∀ w1, Below W.heap.size W w1 → timesM A B = none → IM w (timesM A B) (.returned (.tuple #[.slice (some ⟨w.heap.size, 0, none⟩) 0 0, .bool false])) w1) := Lib.hid fun w1 h1 e => by
    rw [e]
    exact ⟨⟨_, [], rfl, HMd.out.below h1, rfl⟩, hbW.trans (h1.mono hbW.size)⟩
  clear ha hb hbA hbB hbW hW
  cases bA with
  | false =>
    have HN : Hid (timesM A B = none) := Lib.hid (timesM_no fun h => by rw [HMA.out] at h; exact absurd h.1 (by decide))
    go_enter Try.func36, Try.ntmps36
    go_wp2_with fail
    rw [HW.out]
    refine HINA.out.mono ?_
    rintro e w1 ⟨rfl, hb1⟩
    have HB1 := Lib.hid hb1
    clear hb1
    go_wp2
    go_ret2
    exact HNo.out w1 HB1.out HN.out
  | true =>
    obtain ⟨h4, hc4, _⟩ := matB_iff.1 HMA.out
    obtain ⟨xa, rfl, _, _⟩ := HSA.out.at_ (by have := HLA.out; omega)
    obtain ⟨ma, hma⟩ : ∃ m, colsM A = m := ⟨_, rfl⟩
    rw [hma] at hc4
    have hna4 : 1 ≤ na ∧ na ≤ 4 := by have := HLA.out; omega
    have HCA := Lib.hid hma
    clear hma h4
    cases bB with
    | false =>
      have HN : Hid (timesM A B = none) := Lib.hid (timesM_no fun h => by rw [HMB.out] at h; exact absurd h.2.1 (by decide))
      go_enter Try.func36, Try.ntmps36
      go_wp2_with fail
      rw [HW.out]
      refine HINA.out.mono ?_
      rintro e w1 ⟨rfl, hb1⟩
      have HB1 := Lib.hid hb1
      clear hb1
      go_wp2_with fail
      refine (HINB.out w1 HB1.out).mono ?_
      rintro e w2 ⟨rfl, hb2⟩
      have HB2 := Lib.hid (HB1.out.trans (hb2.mono HB1.out.size))
      clear hb2
      go_wp2
      go_ret2
      exact HNo.out w2 HB2.out HN.out
    | true =>
      obtain ⟨g4, gc4, _⟩ := matB_iff.1 HMB.out
      obtain ⟨xb, rfl, _, _⟩ := HSB.out.at_ (by have := HLB.out; omega)
      obtain ⟨mb, hmb⟩ : ∃ m, colsM B = m := ⟨_, rfl⟩
      rw [hmb] at gc4
      have hnb4 : 1 ≤ nb ∧ nb ≤ 4 := by have := HLB.out; omega
      have HCB := Lib.hid hmb
      clear hmb g4
      obtain ⟨ya, cia, _, _, hxab, _, cA, _⟩ := HSA.out.place (i := 0) (k := 0) HMA.out HCA.out (by omega) (by omega)
      obtain ⟨yb, cib, _, _, hxbb, _, cB, _⟩ := HSB.out.place (i := 0) (k := 0) HMB.out HCB.out (by omega) (by omega)
      rw [show xa.add 0 = xa by simp [Addr.add]] at cA
      rw [show xb.add 0 = xb by simp [Addr.add]] at cB
      have HXA : Hid (∀ V, Below w.heap.size w V → V.cell? xa = some (.slice (some ya) ma cia)) := Lib.hid fun V hV => (hV.cell (p := xa) hxab).trans cA
      have HXB : Hid (∀ V, Below w.heap.size w V → V.cell? xb = some (.slice (some yb) mb cib)) := Lib.hid fun V hV => (hV.cell (p := xb) hxbb).trans cB
      have h0a : (0 : Int) < (na : Int) := by omega
      have h0b : (0 : Int) < (nb : Int) := by omega
      clear cA cB hxab hxbb
      go_enter Try.func36, Try.ntmps36
      go_wp2_with fail
      rw [HW.out]
      refine HINA.out.mono ?_
      rintro e w1 ⟨rfl, hb1⟩
      have HB1 := Lib.hid hb1
      clear hb1
      go_wp2_with fail
      refine (HINB.out w1 HB1.out).mono ?_
      rintro e w2 ⟨rfl, hb2⟩
      have HB2 := Lib.hid (HB1.out.trans (hb2.mono HB1.out.size))
      have HBw2 := Lib.hid (HBW.out.trans (HB2.out.mono HBW.out.size))
      have q0 := HXA.out w2 HBw2.out
      clear hb2
      by_cases hmn : ma = nb
      case neg =>
        have e2 : ¬ (ma : Int) = (nb : Int) := by omega
        have hd1 : ((ma : Int) == (nb : Int)) = false := by simp [e2]
        have hd2 : ((ma : Int) != (nb : Int)) = true := by simp [e2]
        have hd3 : decide ((ma : Int) = (nb : Int)) = false := by simp [e2]
        have HN : Hid (timesM A B = none) := Lib.hid (timesM_no fun h => by have := HCA.out; have := HLB.out; omega)
        go_wp2
        go_ret2
        exact HNo.out w2 HB2.out HN.out
      subst hmn
      have HTM : Hid (timesM A B = gridO (dotF A B ma) mb na) := Lib.hid (by rw [timesM_dot HMA.out HMB.out (by rw [HCA.out, HLB.out]), HLB.out, HCB.out, HLA.out])
      have HM2 := Lib.hid (HMd.out.below HB2.out)
      go_wp2
      go_loopw [6, 7] (fun v i wr => ∃ (r : Nat) (rs : List Rv), r ≤ na ∧ i = .int .i64 r ∧ Hid (gridO (dotF A B ma) mb r = some (rowsOf rs)) ∧ Hid (OwnM w.heap.size wr v rs) ∧ Below w.heap.size w wr) (fun _ i _ => na - (intOf i).toNat)
      case atStart => exact ⟨0, [], Nat.zero_le _, rfl, Lib.hid rfl, HM2, HBw2.out⟩
      case round =>
        obtain ⟨k, rs, hk, rfl, HG, HR, hB⟩ := hrel
        obtain ⟨U, hU⟩ : ∃ U, U = wr := ⟨_, rfl⟩
        subst hU
        by_cases hlt : k < na
        · have HBU := Lib.hid hB
          have HRM := Lib.hid (OwnR.made U)
          have hbU : Below U.heap.size U (U.alloc (.cells #[] PO)) := (Below.refl _ U).alloc (Nat.le_refl _) _
          obtain ⟨av, cv, hv⟩ := HR.out.is_slice
          have hkl := (gridO_some HG.out).1
          rw [rowsOf_len] at hkl
          rw [hkl] at hv
          have HKL := Lib.hid hkl
          clear hkl
          subst hv
          clear hB
          go_wp2
          go_loopw [8, 9] (fun u i wr => ∃ (l : Nat) (xs : List Pv), l ≤ mb ∧ i = .int .i64 l ∧ Hid (rowO (dotF A B ma k) l = some (xs.map (·.p))) ∧ Hid (OwnR U.heap.size wr u xs) ∧ Below U.heap.size U wr) (fun _ i _ => mb - (intOf i).toNat)
          case atStart => exact ⟨0, [], Nat.zero_le _, rfl, Lib.hid rfl, HRM, hbU⟩
          case round =>
            obtain ⟨l, xs, hl, rfl, HO, HW1, hBU⟩ := hrel
            obtain ⟨Z, hZ⟩ : ∃ Z, Z = wr := ⟨_, rfl⟩
            subst hZ
            obtain ⟨au, cu, hu⟩ := HW1.out.is_slice
            have hll := (rowO_some HO.out).1
            rw [List.length_map] at hll
            rw [hll] at hu
            subst hu
            have HLL := Lib.hid hll
            have hwZ := HBU.out.trans (hBU.mono HBU.out.size)
            have q1 := HXB.out Z hwZ
            clear hll
            by_cases hlt2 : l < mb
            · have HBUr := Lib.hid hBU
              have hUr := hBU.size
              have HWZ := Lib.hid hwZ
              obtain ⟨o, ho⟩ : ∃ o, dotO A B k l ma = o := ⟨_, rfl⟩
              have HDT := Lib.hid (l7Dot_any xa xb ca cb na ma ma mb k l A B Z (HSA.out.below hwZ) (HSB.out.below hwZ) HMA.out HMB.out HCA.out HCB.out rfl hlt hlt2)
              rw [ho] at HDT
              have HOD := Lib.hid ho
              clear ho hBU hwZ
              go_wp2_with fail
              refine HDT.out.mono ?_
              rintro e w3 ⟨⟨a3, n3, c3, rfl, hr3⟩, hb3⟩
              have hs3 := hb3.size
              cases o with
              | none =>
                have HN : Hid (timesM A B = none) := Lib.hid (by
                  rw [HTM.out, gridO_none]
                  exact ⟨k, l, hlt, hlt2, HOD.out⟩)
                have HB3 := Lib.hid (HWZ.out.trans (hb3.mono HWZ.out.size))
                clear hr3 hb3 q1
                go_wp2
                go_ret2
                rw [HN.out]
                have hq : Below w.heap.size w (w3.alloc (.cells #[.int .i64 zeroP.low, .slice a3 n3 c3] PO)) := HB3.out.alloc HB3.out.size _
                have hmade := (OwnM.made (w3.alloc (.cells #[.int .i64 zeroP.low, .slice a3 n3 c3] PO))).mono hq.size
                rw [World.size_alloc] at hmade
                exact ⟨⟨_, [], rfl, hmade, rfl⟩, hq.alloc hq.size _⟩
              | some p =>
                obtain ⟨w5, hw5⟩ : ∃ w5, w3.alloc (.cells #[.int .i64 p.low, .slice a3 n3 c3] PO) = w5 := ⟨_, rfl⟩
                have hb5 : Below Z.heap.size Z w5 := by rw [← hw5]; exact hb3.alloc hs3 _
                have hr5 : IntRow Z.heap.size w5 (.slice a3 n3 c3) p.cs := by
                  rw [← hw5]
                  exact hr3.below ((Below.refl w3.heap.size w3).alloc (Nat.le_refl _) _)
                have hs5 : w5.heap.size = w3.heap.size + 1 := by rw [← hw5]; simp
                have hW3 := HW1.out.below hb5
                have hrow3 := hW3.row
                rw [HLL.out] at hrow3
                have hbA3 := hb5.trans (((Below.refl w5.heap.size w5).alloc (Nat.le_refl _) (.cells #[.int .i64 p.low, .slice a3 n3 c3] PO)).mono hb5.size)
                have HR3 := Lib.hid (hr5.below ((Below.refl w5.heap.size w5).alloc (Nat.le_refl _) (.cells #[.int .i64 p.low, .slice a3 n3 c3] PO)))
                have hnews : (w5.alloc (.cells #[.int .i64 p.low, .slice a3 n3 c3] PO)).heap[w3.heap.size + 1]? = some (.cells #[.int .i64 p.low, .slice a3 n3 c3] PO (0, 0)) := by
                  rw [← hs5]; exact heap_alloc_new w5 _
                have hszA : (w5.alloc (.cells #[.int .i64 p.low, .slice a3 n3 c3] PO)).heap.size = w3.heap.size + 2 := by simp; omega
                have HSZA := Lib.hid hszA
                have hrowA := hrow3.alloc (.cells #[.int .i64 p.low, .slice a3 n3 c3] PO)
                rw [← hw5] at hbA3 hnews hrowA HR3 HSZA
                have HROWA := Lib.hid hrowA
                have HBA3 := Lib.hid hbA3
                have HNEWS := Lib.hid hnews
                clear hr3 hb3 hr5 hb5 hW3 hrow3 hbA3 hw5 hnews hszA hrowA hs5 q1
                go_wp2_with (at_builtin; refine wpList_append_lies _ rfl _ _ _ rfl U.heap.size PO p0 _ 2 32 Try.underlying28 hp0 hp1 hp2 hp3 rfl (by omega) (.slice au l cu) l (cellsP xs) rfl HROWA.out ⟨w3.heap.size + 1, 0, none⟩ 1 1 [.int .i64 p.low, .slice a3 n3 c3] rfl rfl (World.news_of_block (cs := #[.int .i64 p.low, .slice a3 n3 c3]) (t := PO) (fr := (0, 0)) HNEWS.out) (by simp [Value.oneCell']) (by omega) (by unfold maxLen; omega) (by omega) (by rw [HSZA.out]; omega) (w3.heap.size + 2) HSZA.out ?_; intro g1 cap1 w4 hown hgrow hat hlt4)
                have hB4 : Below U.heap.size U w4 := (HBUr.out.trans (HBA3.out.mono HBUr.out.size)).grown hgrow (Nat.le_trans HBUr.out.size HBA3.out.size) fun b e => (ownsRow_lt HROWA.out b e).1
                have HW4 := Lib.hid (HW1.out.push (p := p) HBA3.out HR3.out HBUr.out.size (by rw [HLL.out]; exact hown) hgrow rfl (hat.imp id fun e => by rw [e, HSZA.out]; omega))
                have HO4 := Lib.hid (rowO_next (v := .slice a3 n3 c3) HO.out (show dotF A B ma k l = some p from HOD.out))
                clear hown hgrow hat hlt4
                go_wp2
                go_roundw
                case rel => exact ⟨l + 1, _, by omega, by go_num, HO4, HW4, hB4⟩
                case measure => simp [intOf]; omega
            · obtain rfl : l = mb := by omega
              have HBUr := Lib.hid hBU
              have hUr := hBU.size
              have HRr := Lib.hid (HR.out.below hBU)
              have hrowr := HRr.out.row
              rw [HKL.out] at hrowr
              have HROW := Lib.hid hrowr
              have HWU := Lib.hid (HBU.out.size)
              clear hBU hrowr hwZ
              have hwU := HWU.out
              go_wp2_with (at_builtin; refine wpList_append_lies _ rfl _ _ _ rfl w.heap.size PR i0 _ 1 24 Try.underlying23 hi0 hi1 hi2 hi3 rfl (by omega) (.slice av k cv) k (rs.map (·.u)) rfl (HROW.out.alloc _) ⟨Z.heap.size, 0, none⟩ 1 1 [.slice au l cu] rfl rfl (World.news_of_block (cs := #[.slice au l cu]) (t := PR) (fr := (0, 0)) (heap_alloc_new Z _)) (by simp [Value.oneCell']) (by omega) (by unfold maxLen; omega) (by omega) (by simp; omega) (Z.heap.size + 1) (by simp) ?_; intro g1 cap1 w4 hown hgrow hat hlt4)
              have hbA4 : Below U.heap.size U (Z.alloc (.cells #[.slice au l cu] PR)) := HBUr.out.alloc hUr _
              have hB4 : Below w.heap.size w w4 := (HBU.out.trans (hbA4.mono HBU.out.size)).grown hgrow (Nat.le_trans HBU.out.size hbA4.size) fun b e => (ownsRow_lt HROW.out b e).1
              have HW4 := Lib.hid (HR.out.push (r := ⟨.slice au l cu, xs⟩) hbA4 (HW1.out.below ((Below.refl _ Z).alloc (Nat.le_refl _) _)) HBU.out.size (by rw [HKL.out]; exact hown) hgrow rfl (hat.imp id fun e => by rw [e]; simp))
              have HG4 := Lib.hid (gridO_next (f := dotF A B ma) (u := .slice au l cu) HG.out HO.out)
              clear hown hgrow hat hlt4 hbA4
              go_wp2
              go_roundw
              case rel => exact ⟨k + 1, _, by omega, by go_num, HG4, HW4, hB4⟩
              case measure => simp [intOf]; omega
        · obtain rfl : k = na := by omega
          have HBr := Lib.hid hB
          clear hB
          go_wp2
          go_ret2
          exact IM.yes (by rw [HTM.out]; exact HG.out) HR.out rfl HBr.out

end Go.Proofs.Ytbbkpaledlbcmaa

/- Opposite polynomials: the difference as a sum, the sign of a product, the determinant as a sum of parts. -/

namespace Go.Proofs.Ytbbkpaledlbcmaa
open Go.RowKit

/-- The polynomial with opposite coefficients. -/
def oppP (p : Pl) : Pl := ⟨p.low, oppL p.cs⟩
theorem oppL_get (l : List Int) (i : Nat) : (oppL l).getD i 0 = - l.getD i 0 := by
  unfold oppL
  rw [getD_map (by simp)]
  omega
theorem oppP_len (p : Pl) : (oppP p).cs.length = p.cs.length := oppL_len _
theorem opp_pat (p : Pl) (k : Int) : pat (oppP p) k = - pat p k := by
  unfold pat
  show (if p.low ≤ k then (oppL p.cs).getD (k - p.low).toNat 0 else 0) = _
  rw [oppL_get]
  split <;> rfl
theorem opp_trim {p : Pl} (h : Trim p) : Trim (oppP p) := by
  rcases h with ⟨h1, h2⟩ | ⟨h1, h2, h3⟩
  · exact .inl ⟨by show oppL p.cs = []; rw [h1]; rfl, h2⟩
  · refine .inr ⟨fun e => h1 ?_, ?_, ?_⟩
    · have : (oppP p).cs.length = 0 := by rw [e]; rfl
      rw [oppP_len] at this
      exact List.length_eq_zero_iff.1 this
    · show (oppL p.cs).getD 0 0 ≠ 0
      rw [oppL_get]; omega
    · rw [oppP_len]
      show (oppL p.cs).getD (p.cs.length - 1) 0 ≠ 0
      rw [oppL_get]; omega
theorem opp_opp (p : Pl) : oppP (oppP p) = p := by
  obtain ⟨l, cs⟩ := p
  show (⟨l, oppL (oppL cs)⟩ : Pl) = _
  congr 1
  unfold oppL
  rw [List.map_map]
  refine (List.map_congr_left fun z _ => ?_).trans (List.map_id _)
  show -1 * (-1 * z) = z
  omega
theorem opp_B1 {p : Pl} (h : polyB p = true) : polyB (oppP p) = true := by
  obtain ⟨hT, hl, h1, h2, hc⟩ := polyB_trim h
  by_cases h0 : p.cs.length = 0
  · have e : oppP p = p := by
      obtain ⟨l, cs⟩ := p
      have h0 : cs.length = 0 := h0
      obtain rfl := List.length_eq_zero_iff.1 h0
      rfl
    rw [e]; exact h
  · rcases hT with ⟨h3, _⟩ | ⟨_, hf, he⟩
    · rw [h3] at h0; exact absurd rfl h0
    · refine polyB_yes (by rw [oppP_len]; omega) (fun z hz => ?_) (by rw [oppP_len]; exact hl) h1 h2 ?_ ?_
      · obtain ⟨y, hy, rfl⟩ := List.mem_map.1 hz
        have := coefIn_yes (polyB_coef h y hy)
        unfold coefIn inR
        simp
        omega
      · show (oppL p.cs).getD 0 0 ≠ 0
        rw [oppL_get]; omega
      · rw [oppP_len]
        show (oppL p.cs).getD (p.cs.length - 1) 0 ≠ 0
        rw [oppL_get]; omega
theorem opp_B (p : Pl) : polyB (oppP p) = polyB p := by
  cases h : polyB p with
  | true => exact opp_B1 h
  | false =>
    cases h2 : polyB (oppP p) with
    | false => rfl
    | true =>
      have := opp_B1 h2
      rw [opp_opp, h] at this
      cases this
theorem sum_opp {a : Pl} (ha : Trim a) (b : Pl) : sumP a 1 (oppP b) = sumP a (-1) b :=
  trim_unique (sum_trim _ _ ha) (sum_trim _ _ ha) fun k => by rw [sum_pat, sum_pat, opp_pat]; omega
/-- A sum with one sign or the other is one of PolyAdd. -/
theorem add_signed {s p : Pl} {n : Int} (hs : polyB s = true) (hp : polyB p = true) (hn : n = 1 ∨ n = -1) : addO s (if n = 1 then p else oppP p) = if polyB (sumP s n p) then some (sumP s n p) else none := by
  have hT := (polyB_trim hs).1
  have hb : ∀ q, polyB q = true → addO s q = if polyB (sumP s 1 q) then some (sumP s 1 q) else none := fun q hq => by
    unfold addO
    cases h : polyB (sumP s 1 q) with
    | false =>
      have : addPB s q = false := by unfold addPB; rw [h, Bool.and_false, Bool.and_false]
      rw [if_neg (by rw [this]; decide), if_neg (by decide)]
    | true =>
      have : addPB s q = true := by unfold addPB; rw [hs, hq, h]; rfl
      rw [if_pos this, if_pos rfl, (add_true this).2.2.2.1]
  rcases hn with rfl | rfl
  · rw [if_pos rfl]; exact hb p hp
  · rw [if_neg (by decide), hb _ (opp_B1 hp), sum_opp hT]
theorem less_add {a b : Pl} (ha : polyB a = true) (hb : polyB b = true) : lessO a b = addO a (oppP b) := by
  have h := add_signed (n := -1) ha hb (.inr rfl)
  rw [if_neg (by decide)] at h
  rw [h]; rfl
theorem prod_opp (a d : Pl) : prodP a (oppP d) = oppP (prodP a d) :=
  trim_unique (prod_trim _ _) (opp_trim (prod_trim _ _)) fun k => by
    rw [prod_pat, opp_pat, prod_pat, mulF_sum (b := d) (c := d) (d := oppP d) (n := -2) fun j => by rw [opp_pat]; omega]
    omega
theorem times_oppB (a d : Pl) : timesPB a (oppP d) = timesPB a d := by unfold timesPB; rw [opp_B, prod_opp, opp_B]
theorem times_opp (a d : Pl) : timesO a (oppP d) = (timesO a d).map oppP := by
  unfold timesO
  rw [times_oppB]
  by_cases h : timesPB a d = true
  · rw [if_pos h, if_pos h, (times_true h).2.2.2, (times_true ((times_oppB a d).trans h)).2.2.2, prod_opp]; rfl
  · rw [if_neg h, if_neg h]; rfl
theorem signed_or (k : Nat) : signed k = 1 ∨ signed k = -1 := by unfold signed; omega
theorem signed_odd (k : Nat) : signed k = 1 ↔ ¬ k % 2 = 1 := by unfold signed; omega
/-- A minor with its sign. -/
def oppK (k : Nat) (d : Pl) : Pl := if k % 2 = 1 then oppP d else d
theorem oppK_B (k : Nat) (d : Pl) : polyB (oppK k d) = polyB d := by
  unfold oppK
  split
  · exact opp_B d
  · rfl
/-- What the column k adds to the determinant. -/
def partO (d : Mx → Option Pl) (M : Mx) (k : Nat) : Option Pl := match d (cutL M 0 k) with
  | none => none
  | some d => timesO (at2 M 0 k) (oppK k d)
theorem detS_sum (d : Mx → Option Pl) (M : Mx) : ∀ n, detS d M n = sumO (partO d M) n
  | 0 => rfl
  | k + 1 => by
    unfold detS sumO
    rw [detS_sum d M k]
    cases hs : sumO (partO d M) k with
    | none => rfl
    | some s =>
      have hsB := sumO_B hs
      unfold partO stepO
      cases d (cutL M 0 k) with
      | none => rfl
      | some m =>
        dsimp only
        have e : timesO (at2 M 0 k) (oppK k m) = (timesO (at2 M 0 k) m).map fun p => if signed k = 1 then p else oppP p := by
          unfold oppK
          by_cases h : k % 2 = 1
          · rw [if_pos h, times_opp]
            have h2 : ¬ signed k = 1 := fun e => (signed_odd k).1 e h
            simp only [if_neg h2]
          · have h2 : signed k = 1 := (signed_odd k).2 h
            rw [if_neg h]
            simp only [if_pos h2]
            cases timesO (at2 M 0 k) m <;> rfl
        rw [e]
        cases ht : timesO (at2 M 0 k) m with
        | none => rfl
        | some p =>
          have hp : polyB p = true := by
            unfold timesO at ht
            split at ht
            · rename_i hb
              simp only [Option.some.injEq] at ht
              rw [← ht, (times_true hb).2.2.2]
              exact (times_true hb).2.2.1
            · cases ht
          show _ = addO s (if signed k = 1 then p else oppP p)
          rw [add_signed hsB hp (signed_or k)]

end Go.Proofs.Ytbbkpaledlbcmaa

/- The program's MatrixLess: what it makes for a place. -/

namespace Go.Proofs.Ytbbkpaledlbcmaa
open Go.RowKit Go.Shelf

theorem lessM_no {A B : Mx} (h : ¬ (matB A = true ∧ matB B = true ∧ A.length = B.length ∧ colsM A = colsM B)) : lessM A B = none := by
  unfold lessM
  rw [if_neg]
  simpa using h
theorem lessM_yes {A B : Mx} (h1 : matB A = true) (h2 : matB B = true) (h3 : A.length = B.length) (h4 : colsM A = colsM B) : lessM A B = gridO (fun i k => lessO (at2 A i k) (at2 B i k)) (colsM A) A.length := by
  unfold lessM
  rw [if_pos (by simp [h1, h2, h3, h4])]
theorem lessO_B {a b p : Pl} (h : lessO a b = some p) : polyB p = true := by
  unfold lessO at h
  split at h
  · rename_i hb
    simp only [Option.some.injEq] at h
    rw [← h]; exact hb
  · cases h
theorem opposite_o {W : World} {a : Option Addr} {n c : Nat} {q : Pl} (h : PIn W a n c q.cs) (hq : polyB q = true) :
    Calls Try.prog 113 #[plV q.low (.slice a n c)] W fun e w' => (∃ a2 c2, e = .returned (plV q.low (.slice a2 n c2)) ∧ IntRow W.heap.size w' (.slice a2 n c2) (oppP q).cs) ∧ Below W.heap.size W w' := by
  obtain ⟨_, hl, _, _, hc⟩ := polyB_trim hq
  have hn := h.len
  refine (opposite_any q.low q.cs a c n W h.is (by omega) hc).mono ?_
  rintro e w' ⟨⟨v, rfl, hr⟩, hB⟩
  obtain ⟨a2, _, c2, rfl, _⟩ := hr.shape
  rw [oppL_len, hn] at hr ⊢
  exact ⟨⟨a2, c2, rfl, hr⟩, hB⟩

set_option maxRecDepth 100000 in
set_option maxHeartbeats 8000000 in
theorem less1_any (gA gB : Nat → Option Addr) (nA mA loA loB B1 B2 i k : Nat) (P Q : Nat → Nat → Pl) (pv qv : Nat → Nat → Value) (w : World) (hA : MatW loA w gA nA mA P pv) (hB : MatW loB w gB nA mA Q qv)
    (h1 : w.heap[B1]? = some (.cells (mC gA) MA (0, 0))) (h2 : w.heap[B2]? = some (.cells (mC gB) MA (0, 0))) (hi : i < nA) (hk : k < mA) (hP : ∀ i j, i < nA → j < mA → polyB (P i j) = true) (hQ : ∀ j k, j < nA → k < mA → polyB (Q j k) = true) :
    Calls Try.prog 112 #[.int .i64 (i : Int), .int .i64 (k : Int), .pointer (some ⟨B1, 0, none⟩), .pointer (some ⟨B2, 0, none⟩)] w (AtE w (lessO (P i k) (Q i k))) := by
  have hi4 : (i : Int) < 4 := by have := hA.shp.n4; omega
  have hk4 : (k : Int) < 4 := by have := hA.shp.m4; omega
  obtain ⟨j1, a1, c1, hb1, hl1, p0, p1, p2, hr1⟩ := hA.place h1 hi hk
  obtain ⟨j2, a2, c2, hb2, hl2, q0, q1, q2, hr2⟩ := hB.place h2 hi hk
  have hPB := hP i k hi hk
  have hQB := hQ i k hi hk
  have hle := less_add hPB hQB
  obtain ⟨p, hp⟩ : ∃ p, P i k = p := ⟨_, rfl⟩
  obtain ⟨q, hq⟩ : ∃ q, Q i k = q := ⟨_, rfl⟩
  rw [hp] at p1 p2 hr1 hPB hle ⊢
  rw [hq] at q1 q2 hr2 hQB hle ⊢
  obtain ⟨mp, hmp⟩ : ∃ mp, p.cs.length = mp := ⟨_, rfl⟩
  obtain ⟨mq, hmq⟩ : ∃ mq, q.cs.length = mq := ⟨_, rfl⟩
  rw [hmp] at p2 hr1
  rw [hmq] at q2 hr2
  obtain ⟨b, hb⟩ : ∃ b, addPB p (oppP q) = b := ⟨_, rfl⟩
  obtain ⟨R, hR⟩ : ∃ R, addP p (oppP q) = R := ⟨_, rfl⟩
  obtain ⟨L, hL⟩ : ∃ L, R.cs.length = L := ⟨_, rfl⟩
  have HTO : Hid (lessO p q = if b = true then some R else none) := Lib.hid (by rw [hle]; unfold addO; rw [hb, hR])
  obtain ⟨W, hW⟩ : ∃ W, w.alloc (.cells #[.int .i64 0, .slice none 0 0] PO) = W := ⟨_, rfl⟩
  have hsz : W.heap.size = w.heap.size + 1 := by rw [← hW]; simp
  have hbW : Below w.heap.size w W := by rw [← hW]; exact (Below.refl _ w).alloc (Nat.le_refl _) _
  have HC : Hid (∀ w1, Below W.heap.size W w1 → _) := Lib.hid fun w1 (hg : Below W.heap.size W w1) => resCells (w := w) rfl (by rw [hW, ← hsz]; exact hg)
  have HBW := Lib.hid hbW
  have HK : Hid (∀ V, Below W.heap.size W V → (V.cell? ⟨B1, i * 4 + k, none⟩ = some (.pointer (some ⟨j1, 0, none⟩)) ∧ V.cell? ⟨j1, 0, none⟩ = some (.int .i64 p.low) ∧ V.cell? ⟨j1, 1, none⟩ = some (.slice a1 mp c1) ∧ V.cell? ⟨B2, i * 4 + k, none⟩ = some (.pointer (some ⟨j2, 0, none⟩)) ∧ V.cell? ⟨j2, 0, none⟩ = some (.int .i64 q.low) ∧ V.cell? ⟨j2, 1, none⟩ = some (.slice a2 mq c2))) := Lib.hid fun V hV => by
    have hwV := hbW.trans (hV.mono hbW.size)
    exact ⟨(hwV.cell (p := ⟨B1, i * 4 + k, none⟩) hb1).trans p0, (hwV.cell (p := ⟨j1, 0, none⟩) hl1).trans p1, (hwV.cell (p := ⟨j1, 1, none⟩) hl1).trans p2, (hwV.cell (p := ⟨B2, i * 4 + k, none⟩) hb2).trans q0, (hwV.cell (p := ⟨j2, 0, none⟩) hl2).trans q1, (hwV.cell (p := ⟨j2, 1, none⟩) hl2).trans q2⟩
  have HOP : Hid (∀ V, Below W.heap.size W V → _) := Lib.hid fun V (hV : Below W.heap.size W V) => opposite_o (hr2.below (hbW.trans (hV.mono hbW.size)) |>.pin hQB).1 hQB
  have HAD : Hid (∀ V, Below W.heap.size W V → ∀ (lo : Nat) (ax : Option Addr) (cx : Nat), IntRow lo V (.slice ax mq cx) (oppP q).cs → Calls Try.prog 42 #[plV p.low (.slice a1 mp c1), plV q.low (.slice ax mq cx)] V fun e w' => (∃ a c, e = .returned (.tuple #[plV R.low (.slice a L c), .bool b]) ∧ IntRow V.heap.size w' (.slice a L c) R.cs) ∧ Below V.heap.size V w') := Lib.hid fun V hV lo ax cx hx => by
    have h := iPolyAdd_o (p := p) (q := oppP q) ((hr1.below (hbW.trans (hV.mono hbW.size))).pin hPB).1 (hx.pin (opp_B1 hQB)).1 hb
    rw [hR] at h
    refine h.mono ?_
    rintro e w' ⟨⟨a3, n3, c3, rfl, hr⟩, hB⟩
    obtain ⟨a4, _, c4, e4, _⟩ := hr.shape
    simp only [Value.slice.injEq] at e4
    obtain ⟨rfl, rfl, rfl⟩ := e4
    rw [hL] at hr ⊢
    exact ⟨⟨_, _, rfl, hr⟩, hB⟩
  obtain ⟨k0, k1, k2, k3, k4, k5⟩ := HK.out W (Below.refl _ _)
  obtain ⟨e0, e1, f0, f1⟩ := HC.out W (Below.refl _ _)
  have HBk : Hid (Below W.heap.size W W) := Lib.hid (Below.refl _ _)
  have HW := Lib.hid hW
  have n3 : ¬ B1 = w.heap.size := by omega
  have n4 : ¬ B2 = w.heap.size := by omega
  have n5 : ¬ j1 = w.heap.size := by omega
  have n6 : ¬ j2 = w.heap.size := by omega
  have o3 : ¬ w.heap.size = B1 := by omega
  have o4 : ¬ w.heap.size = B2 := by omega
  have o5 : ¬ w.heap.size = j1 := by omega
  have o6 : ¬ w.heap.size = j2 := by omega
  clear hA hB h1 h2 p0 p1 p2 q0 q1 q2 hr1 hr2 hP hQ hPB hQB hle hp hq hmp hmq hb hR hL hbW hW hi hk
  go_enter Try.func112, Try.ntmps112
  go_upto_region 1 with fail
  rw [HW.out]
  go_region_held3 (fun w' : World => w'.cell? ⟨B1, i * 4 + k, none⟩ = some (.pointer (some ⟨j1, 0, none⟩)) ∧ w'.cell? ⟨j1, 0, none⟩ = some (.int .i64 p.low) ∧ w'.cell? ⟨j1, 1, none⟩ = some (.slice a1 mp c1) ∧ w'.cell? ⟨B2, i * 4 + k, none⟩ = some (.pointer (some ⟨j2, 0, none⟩)) ∧ w'.cell? ⟨j2, 0, none⟩ = some (.int .i64 q.low) ∧ w'.cell? ⟨j2, 1, none⟩ = some (.slice a2 mq c2)) (first | go_keep | exact ⟨k0, k1, k2, k3, k4, k5⟩)
    (first
      | (go_at_call 113
         refine (HOP.out _ HBk.out.drew).mono ?_
         rintro e w2 ⟨⟨aq, cq, rfl, hr⟩, hb2⟩
         have HR := Lib.hid hr
         have HB2 := Lib.hid (HBk.out.drew.trans (hb2.mono (Nat.le_refl _)))
         obtain ⟨e0, e1, f0, f1⟩ := HC.out w2 HB2.out
         obtain ⟨k0, k1, k2, k3, k4, k5⟩ := HK.out w2 HB2.out
         clear hr hb2)
      | (go_at_call 42
         refine (HAD.out _ HB2.out _ _ _ HR.out).mono ?_
         rintro e w3 ⟨⟨ar, cr, rfl, hr3⟩, hb3⟩
         have HR3 := Lib.hid (hr3.mono HB2.out.size)
         have HB3 := Lib.hid (HB2.out.trans (hb3.mono HB2.out.size))
         obtain ⟨e0, e1, f0, f1⟩ := HC.out w3 HB3.out
         obtain ⟨k0, k1, k2, k3, k4, k5⟩ := HK.out w3 HB3.out
         clear hr3 hb3))
  all_goals
    go_wp2
    have hA : AtE w (lessO p q) (.returned (.tuple #[plV R.low (.slice ar L cr), .bool b])) ((w3.setCell ⟨w.heap.size, 0, none⟩ (.int .i64 R.low)).setCell ⟨w.heap.size, 1, none⟩ (.slice ar L cr)) := by
      refine ⟨?_, resBelow _ _ (HBW.out.trans (HB3.out.mono HBW.out.size))⟩
      have h := HTO.out
      cases b with
      | false => exact .inl ⟨_, _, _, _, h, rfl⟩
      | true => exact .inr ⟨R, _, _, _, h, rfl, resRow (.int .i64 R.low) (.slice ar L cr) HR3.out (by show w.heap.size < W.heap.size; omega)⟩
    refine bodyPost_ret (v := .tuple #[plV R.low (.slice ar L cr), .bool b]) ?_ rfl hA
    simp [results, Try.results112, go_sem, e0, e1, plV]

end Go.Proofs.Ytbbkpaledlbcmaa

/- The program's MatrixLess. -/

namespace Go.Proofs.Ytbbkpaledlbcmaa
open Go.RowKit Go.Shelf

/-- A matrix loaded whole behind a guard, in a region that draws its order. -/
theorem wpQuiet_load_mat_g {ops : Array Oper} {rest : List Oper} {o : Oper} {a : Act} {w : World} {Q : Act → Prop} (hw : Region.wanted o (yielded ops a.tmps) = true) (x : Operand) (ho : o.op = .load MA x) (B : Nat) (g : Nat → Option Addr) (hx : a.eval x = .pointer (some ⟨B, 0, none⟩)) (hh : w.heap[B]? = some (.cells (mC g) MA (0, 0)))
    (h : wpQuiet Try.prog ops (fun w' => ∃ p : BelowBy w, w' = p.world) Q rest (a.put o.dst (.agg (mC g)))) : wpQuiet Try.prog ops (fun w' => ∃ p : BelowBy w, w' = p.world) Q (o :: rest) a := by
  refine wpQuiet_step fun K hK => ?_
  rw [if_pos hw]
  refine ⟨.agg (mC g), ?_, hK _ h⟩
  rintro _ ⟨p, rfl⟩
  have hl := loadM ((p.below.block B (Array.getElem?_eq_some_iff.1 hh).1).trans hh)
  simp [Oper.quietAt, execOp, ho, hx, Instr.loadAt, Instr.sureAddr, hl, Result.andThen, Oper.quietUpon]

set_option maxRecDepth 100000 in
set_option maxHeartbeats 8000000 in
theorem iMatrixLess_any (a b : Option Addr) (ca na cb nb : Nat) (A B : Mx) (w : World) (ha : IsPSS w a na A) (hb : IsPSS w b nb B) :
    Calls Try.prog 40 #[.slice a na ca, .slice b nb cb] w (IM w (lessM A B)) := by
  have hmx : Try.prog.follows .mixedOrders = true := by kernel_rfl
  have hmf : ∀ (fn : Fn) (first cap : Array Value) (w : World), (Instr.makeFunc fn first cap).run Try.prog w = .ok (.func fn first cap) w := fun _ _ _ _ => rfl
  have HSB := Lib.hid hb
  have HSA := Lib.hid ha
  clear ha hb
  go_enter Try.func40, Try.ntmps40
  go_wp2_with fail
  refine (matrixOf_any a ca na A w HSA.out).mono ?_
  intro e w1 hR
  obtain ⟨gA, NA, CA, rfl, hshA, hb1, hcaseA⟩ := hR.any
  have HSHA := Lib.hid hshA
  have HCASEA := Lib.hid hcaseA
  have HB1 := Lib.hid hb1
  clear hR hshA hcaseA hb1
  go_wp2_with fail
  refine (matrixOf_any b cb nb B w1 (HSB.out.below HB1.out)).mono ?_
  intro e w2 hR
  obtain ⟨gB, NB, CB, rfl, hshB, hb2, hcaseB⟩ := hR.any
  have HSHB := Lib.hid hshB
  have HCASEB := Lib.hid hcaseB
  have HB12 := Lib.hid hb2
  have HB2 := Lib.hid (HB1.out.trans (hb2.mono HB1.out.size))
  clear hR hshB hcaseB hb2
  obtain ⟨V, hV⟩ : ∃ V, (w2.alloc (.cells (mC fun _ => none) MA)).alloc (.cells (mC fun _ => none) MA) = V := ⟨_, rfl⟩
  have hv6 : V.heap[w2.heap.size]? = some (.cells (mC fun _ => none) MA (0, 0)) := by
    rw [← hV, Below.heap_alloc _ _ _ (by simp)]
    exact World.alloc_heap_new w2 _
  have hv7 : V.heap[w2.heap.size + 1]? = some (.cells (mC fun _ => none) MA (0, 0)) := by
    rw [← hV]
    have h := World.alloc_heap_new (w2.alloc (.cells (mC fun _ => none) MA)) (.cells (mC fun _ => none) MA)
    rwa [World.size_alloc] at h
  have hbV : Below w2.heap.size w2 V := by rw [← hV]; exact ((Below.refl _ w2).alloc (Nat.le_refl _) _).alloc (by simp) _
  have HV6 := Lib.hid hv6
  have HV7 := Lib.hid hv7
  have HBV := Lib.hid hbV
  simp only [mC] at hV
  have HV := Lib.hid hV
  clear hv6 hv7 hbV hV
  go_wp2_with (first
    | (refine wpList_store_mat rfl _ _ rfl w2.heap.size (fun _ => none) gA rfl rfl (by rw [HV.out]; exact HV6.out) ?_; rw [HV.out]; intro w3 hp3; have HP3 := Lib.hid hp3; clear hp3)
    | (refine wpList_store_mat rfl _ _ rfl (w2.heap.size + 1) (fun _ => none) gB rfl rfl ((HP3.out.off _ (by omega)).trans HV7.out) ?_; intro w4 hp4; have HP4 := Lib.hid hp4; clear hp4))
  have HX6 := Lib.hid ((HP4.out.off _ (by omega)).trans HP3.out.heap)
  have HX7 := Lib.hid HP4.out.heap
  have HB24 := Lib.hid (HP4.out.below (HP3.out.below HBV.out (Nat.le_refl _)) (Nat.le_succ _))
  have HB4 := Lib.hid (HB2.out.trans (HB24.out.mono HB2.out.size))
  have hl6 := (Array.getElem?_eq_some_iff.1 HX6.out).1
  have hl7 := (Array.getElem?_eq_some_iff.1 HX7.out).1
  have HROWA : Hid (∀ p : BelowBy w4, Calls Try.prog 97 #[.agg (mC gA)] p.world fun e w' => e = .returned (.int .i64 NA) ∧ Below p.world.heap.size p.world w') := Lib.hid fun p => rows_any gA NA CA HSHA.out p.world
  have HROWB : Hid (∀ p : BelowBy w4, Calls Try.prog 97 #[.agg (mC gB)] p.world fun e w' => e = .returned (.int .i64 NB) ∧ Below p.world.heap.size p.world w') := Lib.hid fun p => rows_any gB NB CB HSHB.out p.world
  have HCOLA : Hid (∀ p : BelowBy w4, Calls Try.prog 96 #[.agg (mC gA)] p.world fun e w' => e = .returned (.int .i64 CA) ∧ Below p.world.heap.size p.world w') := Lib.hid fun p => columns_any gA NA CA HSHA.out p.world
  have HCOLB : Hid (∀ p : BelowBy w4, Calls Try.prog 96 #[.agg (mC gB)] p.world fun e w' => e = .returned (.int .i64 CB) ∧ Below p.world.heap.size p.world w') := Lib.hid fun p => columns_any gB NB CB HSHB.out p.world
  have hpick : (NA = NB ∧ CA = CB) ∨ (NA ≠ NB ∧ ((NA : Int) == (NB : Int)) = false ∧ ((NA : Int) != (NB : Int)) = true ∧ decide ((NA : Int) = (NB : Int)) = false) ∨ (NA = NB ∧ CA ≠ CB ∧ ((CA : Int) == (CB : Int)) = false ∧ ((CA : Int) != (CB : Int)) = true ∧ decide ((CA : Int) = (CB : Int)) = false) := by
    by_cases e : NA = NB
    · by_cases e1 : CA = CB
      · exact .inl ⟨e, e1⟩
      · have e2 : ¬ (CA : Int) = (CB : Int) := by omega
        exact .inr (.inr ⟨e, e1, by simp [e2], by simp [e2], by simp [e2]⟩)
    · have e2 : ¬ (NA : Int) = (NB : Int) := by omega
      exact .inr (.inl ⟨e, by simp [e2], by simp [e2], by simp [e2]⟩)
  clear HP3 HP4 HV HV6 HV7 HBV
  rcases hpick with ⟨rfl, rfl⟩ | ⟨hCN, hd1, hd2, hd3⟩ | ⟨rfl, hCN, hd1, hd2, hd3⟩
  · refine wp_region_below hmx (by kernel_rfl) ?_
    refine wpQuiet_load_mat rfl _ rfl w2.heap.size gA rfl HX6.out ?_
    (with_reducible refine wpQuiet_step (fun K hK => ?_)); go_simp; apply Exists.intro; (with_reducible refine ⟨fun _ => ?_, hK _ ?_⟩); (go_at_call 97; exact Calls.bel (HROWA.out _)); clear hK K
    refine wpQuiet_load_mat rfl _ rfl (w2.heap.size + 1) gB rfl HX7.out ?_
    (with_reducible refine wpQuiet_step (fun K hK => ?_)); go_simp; apply Exists.intro; (with_reducible refine ⟨fun _ => ?_, hK _ ?_⟩); (go_at_call 97; exact Calls.bel (HROWB.out _)); clear hK K
    (with_reducible refine wpQuiet_step (fun K hK => ?_)); go_simp; first | (with_reducible refine hK _ ?_) | (refine (if_neg (by decide)).mpr ?_; with_reducible refine hK _ ?_); clear hK K
    (with_reducible refine wpQuiet_step (fun K hK => ?_)); go_simp; first | (with_reducible refine hK _ ?_) | (refine (if_neg (by decide)).mpr ?_; with_reducible refine hK _ ?_); clear hK K
    refine wpQuiet_load_mat_g (by go_simp) _ rfl w2.heap.size gA rfl HX6.out ?_
    (with_reducible refine wpQuiet_step (fun K hK => ?_)); go_simp; apply Exists.intro; (with_reducible refine ⟨fun _ => ?_, hK _ ?_⟩); (go_at_call 96; exact Calls.bel (HCOLA.out _)); clear hK K
    refine wpQuiet_load_mat_g (by go_simp) _ rfl (w2.heap.size + 1) gB rfl HX7.out ?_
    (with_reducible refine wpQuiet_step (fun K hK => ?_)); go_simp; apply Exists.intro; (with_reducible refine ⟨fun _ => ?_, hK _ ?_⟩); (go_at_call 96; exact Calls.bel (HCOLB.out _)); clear hK K
    (with_reducible refine wpQuiet_step (fun K hK => ?_)); go_simp; first | (with_reducible refine hK _ ?_) | (refine (if_neg (by decide)).mpr ?_; with_reducible refine hK _ ?_); clear hK K
    (with_reducible refine wpQuiet_step (fun K hK => ?_)); go_simp; first | (with_reducible refine hK _ ?_) | (refine (if_neg (by decide)).mpr ?_; with_reducible refine hK _ ?_); clear hK K
    with_reducible refine wpQuiet_nil ?_
    rintro V5 ⟨⟨V5, hV5⟩, rfl⟩
    have HB5 := Lib.hid (HB4.out.trans (hV5.mono HB4.out.size))
    have HB25 := Lib.hid (HB24.out.trans (hV5.mono HB24.out.size))
    have HY6 := Lib.hid ((hV5.block _ hl6).trans HX6.out)
    have HY7 := Lib.hid ((hV5.block _ hl7).trans HX7.out)
    have hs5 := hV5.size
    clear hV5 HCOLA HCOLB HROWA HROWB HX6 HX7
    have hg6 : w2.heap.size < V5.heap.size := by omega
    have hg7 : w2.heap.size + 1 < V5.heap.size := by omega
    have HROWA : Hid (∀ p : BelowBy V5, Calls Try.prog 97 #[.agg (mC gA)] p.world fun e w' => e = .returned (.int .i64 NA) ∧ Below p.world.heap.size p.world w') := Lib.hid fun p => rows_any gA NA CA HSHA.out p.world
    have HROWB : Hid (∀ p : BelowBy V5, Calls Try.prog 97 #[.agg (mC gB)] p.world fun e w' => e = .returned (.int .i64 NA) ∧ Below p.world.heap.size p.world w') := Lib.hid fun p => rows_any gB NA CA HSHB.out p.world
    have HCOLA : Hid (∀ p : BelowBy V5, Calls Try.prog 96 #[.agg (mC gA)] p.world fun e w' => e = .returned (.int .i64 CA) ∧ Below p.world.heap.size p.world w') := Lib.hid fun p => columns_any gA NA CA HSHA.out p.world
    have HCOLB : Hid (∀ p : BelowBy V5, Calls Try.prog 96 #[.agg (mC gB)] p.world fun e w' => e = .returned (.int .i64 CA) ∧ Below p.world.heap.size p.world w') := Lib.hid fun p => columns_any gB NA CA HSHB.out p.world
    go_wp2_with fail
    refine wp_region_below_then 5 #[true, true, true, true, true, false, false, false, false, false, false] hmx (by kernel_rfl) ?_
    simp only [List.take_succ_cons, List.take_zero]
    refine wpQuiet_load_mat rfl _ rfl w2.heap.size gA rfl HY6.out ?_
    (with_reducible refine wpQuiet_step (fun K hK => ?_)); go_simp; apply Exists.intro; (with_reducible refine ⟨fun _ => ?_, hK _ ?_⟩); (go_at_call 97; exact Calls.bel (HROWA.out _)); clear hK K
    refine wpQuiet_load_mat rfl _ rfl w2.heap.size gA rfl HY6.out ?_
    (with_reducible refine wpQuiet_step (fun K hK => ?_)); go_simp; apply Exists.intro; (with_reducible refine ⟨fun _ => ?_, hK _ ?_⟩); (go_at_call 96; exact Calls.bel (HCOLA.out _)); clear hK K
    (with_reducible refine wpQuiet_step (fun K hK => ?_)); go_simp; first | (with_reducible refine hK _ ?_) | (refine (if_neg (by decide)).mpr ?_; with_reducible refine hK _ ?_); clear hK K
    with_reducible refine wpQuiet_nil ?_
    rintro V6 ⟨⟨V6, hV6⟩, rfl⟩
    change wpAny _ _ _ _ (5 + 1) _ _ V6
    have HB6 := Lib.hid (HB5.out.trans (hV6.mono HB5.out.size))
    have HB26 := Lib.hid (HB25.out.trans (hV6.mono HB25.out.size))
    have HZ6 := Lib.hid ((hV6.block _ hg6).trans HY6.out)
    have HZ7 := Lib.hid ((hV6.block _ hg7).trans HY7.out)
    have hs6 := hV6.size
    clear hV6 HCOLA HCOLB HROWA HROWB HY6 HY7
    have HBY := Lib.hid (matrixBy_any 112 #[.pointer (some ⟨w2.heap.size, 0, none⟩), .pointer (some ⟨w2.heap.size + 1, 0, none⟩)] NA CA (fun i k => lessO (at2 A i k) (at2 B i k)) V6 HSHA.out.n4 HSHA.out.m4 (by have h1 := HSHA.out.both; omega) (fun _ _ => by go_simp)
      (fun i k W hi hk hW => by
        rcases HCASEA.out with ⟨h1, h2, h3, pv, hM⟩ | ⟨h1, h2, h3⟩
        · rcases HCASEB.out with ⟨g1, g2, g3, qv, hN⟩ | ⟨g1, g2, g3⟩
          · exact less1_any gA gB NA CA w.heap.size w1.heap.size w2.heap.size (w2.heap.size + 1) i k (at2 A) (at2 B) pv qv W (((hM.below HB12.out).below HB26.out).below hW) ((hN.below HB26.out).below hW) ((hW.block _ (by omega)).trans HZ6.out) ((hW.block _ (by omega)).trans HZ7.out) hi hk (fun i j hi hj => matB_at h1 (by omega) (by omega)) (fun j k hj hk => matB_at g1 (by omega) (by omega))
          · have h := HSHB.out
            rw [g3] at h
            have := h.bare
            omega
        · have h := HSHA.out
          rw [h3] at h
          have := h.bare
          omega))
    refine wpAny_one (i := 5) rfl (by kernel_rfl) (fun K hK => ?_)
    go_simp
    refine HBY.out.mono ?_
    rintro e w7 ⟨⟨⟨i, k, hi, hk, hno⟩, rfl⟩ | ⟨g, P, pv, hP, rfl, hM⟩, hb7⟩
    · have HN : Hid (lessM A B = none) := Lib.hid (by
        by_cases h : matB A = true ∧ matB B = true ∧ A.length = B.length ∧ colsM A = colsM B
        · rw [lessM_yes h.1 h.2.1 h.2.2.1 h.2.2.2, gridO_none]
          rcases HCASEA.out with ⟨_, h2, h3, _⟩ | ⟨h1, _⟩
          · rcases HCASEB.out with ⟨_, g2, g3, _⟩ | ⟨g1, _⟩
            · exact ⟨i, k, by omega, by omega, hno⟩
            · rw [h.2.1] at g1; cases g1
          · rw [h.1] at h1; cases h1
        · exact lessM_no h)
      have HB7 := Lib.hid (HB6.out.trans (hb7.mono HB6.out.size))
      clear hno hb7
      go_wp2_with fail
      refine hK.out _ _ ?_
      clear hK K
      try simp only [List.setIfInBounds_toArray, List.set_cons_zero, List.set_cons_succ]
      refine wpAny_one (i := 6) rfl (by kernel_rfl) (fun K hK => ?_)
      go_simp
      refine (toldM_none w7).mono ?_
      rintro e w8 ⟨rfl, hb8⟩
      have HB8 := Lib.hid (HB7.out.trans (hb8.mono HB7.out.size))
      clear hb8
      go_wp2_with fail
      refine hK.out _ _ ?_
      clear hK K
      try simp only [List.setIfInBounds_toArray, List.set_cons_zero, List.set_cons_succ]
      refine wpAny_two (i := 7) (i2 := 8) rfl rfl (by kernel_rfl) (fun K hK => ?_) (fun K hK => ?_)
      · go_simp
        refine hK.out _ _ ?_
        clear hK K
        try simp only [List.setIfInBounds_toArray, List.set_cons_zero, List.set_cons_succ]
        refine wpAny_one (i := 8) rfl (by kernel_rfl) (fun K hK => ?_)
        go_simp
        refine hK.out _ _ ?_
        clear hK K
        try simp only [List.setIfInBounds_toArray, List.set_cons_zero, List.set_cons_succ]
        refine wpAny_one (i := 9) rfl (by kernel_rfl) (fun K hK => ?_)
        go_simp
        refine hK.out _ _ ?_
        clear hK K
        try simp only [List.setIfInBounds_toArray, List.set_cons_zero, List.set_cons_succ]
        refine wpAny_one (i := 10) rfl (by kernel_rfl) (fun K hK => ?_)
        go_simp
        refine hK.out _ _ ?_
        clear hK K
        try simp only [List.setIfInBounds_toArray, List.set_cons_zero, List.set_cons_succ]
        refine ⟨by kernel_rfl, ?_⟩
        go_wp2
        go_ret2
        exact IM.no HN.out HB8.out
      · go_simp
        refine hK.out _ _ ?_
        clear hK K
        try simp only [List.setIfInBounds_toArray, List.set_cons_zero, List.set_cons_succ]
        refine wpAny_one (i := 7) rfl (by kernel_rfl) (fun K hK => ?_)
        go_simp
        refine hK.out _ _ ?_
        clear hK K
        try simp only [List.setIfInBounds_toArray, List.set_cons_zero, List.set_cons_succ]
        refine wpAny_one (i := 9) rfl (by kernel_rfl) (fun K hK => ?_)
        go_simp
        refine hK.out _ _ ?_
        clear hK K
        try simp only [List.setIfInBounds_toArray, List.set_cons_zero, List.set_cons_succ]
        refine wpAny_one (i := 10) rfl (by kernel_rfl) (fun K hK => ?_)
        go_simp
        refine hK.out _ _ ?_
        clear hK K
        try simp only [List.setIfInBounds_toArray, List.set_cons_zero, List.set_cons_succ]
        refine ⟨by kernel_rfl, ?_⟩
        go_wp2
        go_ret2
        exact IM.no HN.out HB8.out
    · have HB7 := Lib.hid (HB6.out.trans (hb7.mono HB6.out.size))
      have HM := Lib.hid hM
      have HP := Lib.hid hP
      clear hb7 hM hP
      by_cases hn0 : 0 < NA
      · have HY : Hid (lessM A B = some (gridL P NA CA)) := Lib.hid (by
          rcases HCASEA.out with ⟨h1, h2, h3, _⟩ | ⟨h1, h2, h3⟩
          · rcases HCASEB.out with ⟨g1, g2, g3, _⟩ | ⟨g1, g2, g3⟩
            · rw [lessM_yes h1 g1 (by omega) (by omega), ← h2, ← h3]
              exact gridO_all P HP.out
            · have h := HSHB.out
              rw [g3] at h
              have h4 := h.bare
              have h5 := (matB_iff.1 h1).2.1
              omega
          · have h := HSHA.out
            rw [h3] at h
            have := h.bare
            omega)
        go_wp2_with fail
        refine hK.out _ _ ?_
        clear hK K
        try simp only [List.setIfInBounds_toArray, List.set_cons_zero, List.set_cons_succ]
        refine wpAny_one (i := 6) rfl (by kernel_rfl) (fun K hK => ?_)
        go_simp
        refine (toldM_any g NA CA w.heap.size _ _ w7 (HM.out.mono HB6.out.size) HB7.out.size hn0).mono ?_
        rintro e w8 ⟨v, rs, rfl, ho, hr, hb8⟩
        have HO := Lib.hid ho
        have HR := Lib.hid hr
        have HB8 := Lib.hid (HB7.out.trans (hb8.mono HB7.out.size))
        clear ho hr hb8
        go_wp2_with fail
        refine hK.out _ _ ?_
        clear hK K
        try simp only [List.setIfInBounds_toArray, List.set_cons_zero, List.set_cons_succ]
        refine wpAny_two (i := 7) (i2 := 8) rfl rfl (by kernel_rfl) (fun K hK => ?_) (fun K hK => ?_)
        · go_simp
          refine hK.out _ _ ?_
          clear hK K
          try simp only [List.setIfInBounds_toArray, List.set_cons_zero, List.set_cons_succ]
          refine wpAny_one (i := 8) rfl (by kernel_rfl) (fun K hK => ?_)
          go_simp
          refine hK.out _ _ ?_
          clear hK K
          try simp only [List.setIfInBounds_toArray, List.set_cons_zero, List.set_cons_succ]
          refine wpAny_one (i := 9) rfl (by kernel_rfl) (fun K hK => ?_)
          go_simp
          refine hK.out _ _ ?_
          clear hK K
          try simp only [List.setIfInBounds_toArray, List.set_cons_zero, List.set_cons_succ]
          refine wpAny_one (i := 10) rfl (by kernel_rfl) (fun K hK => ?_)
          go_simp
          refine hK.out _ _ ?_
          clear hK K
          try simp only [List.setIfInBounds_toArray, List.set_cons_zero, List.set_cons_succ]
          refine ⟨by kernel_rfl, ?_⟩
          go_wp2
          go_ret2
          exact IM.yes HY.out HO.out HR.out HB8.out
        · go_simp
          refine hK.out _ _ ?_
          clear hK K
          try simp only [List.setIfInBounds_toArray, List.set_cons_zero, List.set_cons_succ]
          refine wpAny_one (i := 7) rfl (by kernel_rfl) (fun K hK => ?_)
          go_simp
          refine hK.out _ _ ?_
          clear hK K
          try simp only [List.setIfInBounds_toArray, List.set_cons_zero, List.set_cons_succ]
          refine wpAny_one (i := 9) rfl (by kernel_rfl) (fun K hK => ?_)
          go_simp
          refine hK.out _ _ ?_
          clear hK K
          try simp only [List.setIfInBounds_toArray, List.set_cons_zero, List.set_cons_succ]
          refine wpAny_one (i := 10) rfl (by kernel_rfl) (fun K hK => ?_)
          go_simp
          refine hK.out _ _ ?_
          clear hK K
          try simp only [List.setIfInBounds_toArray, List.set_cons_zero, List.set_cons_succ]
          refine ⟨by kernel_rfl, ?_⟩
          go_wp2
          go_ret2
          exact IM.yes HY.out HO.out HR.out HB8.out
      · have HN : Hid (lessM A B = none) := Lib.hid (lessM_no fun h => by
          rcases HCASEA.out with ⟨h1, h2, _⟩ | ⟨h1, _⟩
          · have := (matB_iff.1 h1).1; omega
          · rw [h.1] at h1; cases h1)
        have hsh := HM.out.shp
        have h0 : NA = 0 := by omega
        have h00 : CA = 0 := by have := hsh.both; omega
        rw [h0, h00] at hsh
        have hg := mC_none hsh
        have HG := Lib.hid hg
        clear hg hsh
        rw [HG.out]
        go_wp2_with fail
        refine hK.out _ _ ?_
        clear hK K
        try simp only [List.setIfInBounds_toArray, List.set_cons_zero, List.set_cons_succ]
        refine wpAny_one (i := 6) rfl (by kernel_rfl) (fun K hK => ?_)
        go_simp
        refine (toldM_none w7).mono ?_
        rintro e w8 ⟨rfl, hb8⟩
        have HB8 := Lib.hid (HB7.out.trans (hb8.mono HB7.out.size))
        clear hb8
        go_wp2_with fail
        refine hK.out _ _ ?_
        clear hK K
        try simp only [List.setIfInBounds_toArray, List.set_cons_zero, List.set_cons_succ]
        refine wpAny_two (i := 7) (i2 := 8) rfl rfl (by kernel_rfl) (fun K hK => ?_) (fun K hK => ?_)
        · go_simp
          refine hK.out _ _ ?_
          clear hK K
          try simp only [List.setIfInBounds_toArray, List.set_cons_zero, List.set_cons_succ]
          refine wpAny_one (i := 8) rfl (by kernel_rfl) (fun K hK => ?_)
          go_simp
          refine hK.out _ _ ?_
          clear hK K
          try simp only [List.setIfInBounds_toArray, List.set_cons_zero, List.set_cons_succ]
          refine wpAny_one (i := 9) rfl (by kernel_rfl) (fun K hK => ?_)
          go_simp
          refine hK.out _ _ ?_
          clear hK K
          try simp only [List.setIfInBounds_toArray, List.set_cons_zero, List.set_cons_succ]
          refine wpAny_one (i := 10) rfl (by kernel_rfl) (fun K hK => ?_)
          go_simp
          refine hK.out _ _ ?_
          clear hK K
          try simp only [List.setIfInBounds_toArray, List.set_cons_zero, List.set_cons_succ]
          refine ⟨by kernel_rfl, ?_⟩
          go_wp2
          go_ret2
          exact IM.no HN.out HB8.out
        · go_simp
          refine hK.out _ _ ?_
          clear hK K
          try simp only [List.setIfInBounds_toArray, List.set_cons_zero, List.set_cons_succ]
          refine wpAny_one (i := 7) rfl (by kernel_rfl) (fun K hK => ?_)
          go_simp
          refine hK.out _ _ ?_
          clear hK K
          try simp only [List.setIfInBounds_toArray, List.set_cons_zero, List.set_cons_succ]
          refine wpAny_one (i := 9) rfl (by kernel_rfl) (fun K hK => ?_)
          go_simp
          refine hK.out _ _ ?_
          clear hK K
          try simp only [List.setIfInBounds_toArray, List.set_cons_zero, List.set_cons_succ]
          refine wpAny_one (i := 10) rfl (by kernel_rfl) (fun K hK => ?_)
          go_simp
          refine hK.out _ _ ?_
          clear hK K
          try simp only [List.setIfInBounds_toArray, List.set_cons_zero, List.set_cons_succ]
          refine ⟨by kernel_rfl, ?_⟩
          go_wp2
          go_ret2
          exact IM.no HN.out HB8.out
  · refine wp_region_below hmx (by kernel_rfl) ?_
    refine wpQuiet_load_mat rfl _ rfl w2.heap.size gA rfl HX6.out ?_
    (with_reducible refine wpQuiet_step (fun K hK => ?_)); go_simp; apply Exists.intro; (with_reducible refine ⟨fun _ => ?_, hK _ ?_⟩); (go_at_call 97; exact Calls.bel (HROWA.out _)); clear hK K
    refine wpQuiet_load_mat rfl _ rfl (w2.heap.size + 1) gB rfl HX7.out ?_
    (with_reducible refine wpQuiet_step (fun K hK => ?_)); go_simp; apply Exists.intro; (with_reducible refine ⟨fun _ => ?_, hK _ ?_⟩); (go_at_call 97; exact Calls.bel (HROWB.out _)); clear hK K
    (with_reducible refine wpQuiet_step (fun K hK => ?_)); go_simp; (try simp only [hd1, hd2, hd3]); first | (with_reducible refine hK _ ?_) | (refine (if_neg (by decide)).mpr ?_; with_reducible refine hK _ ?_); clear hK K
    (with_reducible refine wpQuiet_step (fun K hK => ?_)); go_simp; first | (with_reducible refine hK _ ?_) | (refine (if_neg (by decide)).mpr ?_; with_reducible refine hK _ ?_); clear hK K
    (with_reducible refine wpQuiet_step (fun K hK => ?_)); go_simp; first | (with_reducible refine hK _ ?_) | (refine (if_neg (by decide)).mpr ?_; with_reducible refine hK _ ?_); clear hK K
    (with_reducible refine wpQuiet_step (fun K hK => ?_)); go_simp; first | (with_reducible refine hK _ ?_) | (refine (if_neg (by decide)).mpr ?_; with_reducible refine hK _ ?_); clear hK K
    (with_reducible refine wpQuiet_step (fun K hK => ?_)); go_simp; first | (with_reducible refine hK _ ?_) | (refine (if_neg (by decide)).mpr ?_; with_reducible refine hK _ ?_); clear hK K
    (with_reducible refine wpQuiet_step (fun K hK => ?_)); go_simp; first | (with_reducible refine hK _ ?_) | (refine (if_neg (by decide)).mpr ?_; with_reducible refine hK _ ?_); clear hK K
    (with_reducible refine wpQuiet_step (fun K hK => ?_)); go_simp; first | (with_reducible refine hK _ ?_) | (refine (if_neg (by decide)).mpr ?_; with_reducible refine hK _ ?_); clear hK K
    (with_reducible refine wpQuiet_step (fun K hK => ?_)); go_simp; first | (with_reducible refine hK _ ?_) | (refine (if_neg (by decide)).mpr ?_; with_reducible refine hK _ ?_); clear hK K
    with_reducible refine wpQuiet_nil ?_
    rintro V5 ⟨⟨V5, hV5⟩, rfl⟩
    have HB5 := Lib.hid (HB4.out.trans (hV5.mono HB4.out.size))
    have HB25 := Lib.hid (HB24.out.trans (hV5.mono HB24.out.size))
    have HY6 := Lib.hid ((hV5.block _ hl6).trans HX6.out)
    have HY7 := Lib.hid ((hV5.block _ hl7).trans HX7.out)
    have hs5 := hV5.size
    clear hV5 HCOLA HCOLB HROWA HROWB HX6 HX7
    have HN : Hid (lessM A B = none) := Lib.hid (lessM_no fun h => by
      rcases HCASEA.out with ⟨h1, h2, h3, _⟩ | ⟨h1, _⟩
      · rcases HCASEB.out with ⟨g1, g2, g3, _⟩ | ⟨g1, _⟩
        · omega
        · rw [h.2.1] at g1; cases g1
      · rw [h.1] at h1; cases h1)
    go_wp2
    go_ret2
    exact IM.no HN.out HB5.out
  · refine wp_region_below hmx (by kernel_rfl) ?_
    refine wpQuiet_load_mat rfl _ rfl w2.heap.size gA rfl HX6.out ?_
    (with_reducible refine wpQuiet_step (fun K hK => ?_)); go_simp; apply Exists.intro; (with_reducible refine ⟨fun _ => ?_, hK _ ?_⟩); (go_at_call 97; exact Calls.bel (HROWA.out _)); clear hK K
    refine wpQuiet_load_mat rfl _ rfl (w2.heap.size + 1) gB rfl HX7.out ?_
    (with_reducible refine wpQuiet_step (fun K hK => ?_)); go_simp; apply Exists.intro; (with_reducible refine ⟨fun _ => ?_, hK _ ?_⟩); (go_at_call 97; exact Calls.bel (HROWB.out _)); clear hK K
    (with_reducible refine wpQuiet_step (fun K hK => ?_)); go_simp; first | (with_reducible refine hK _ ?_) | (refine (if_neg (by decide)).mpr ?_; with_reducible refine hK _ ?_); clear hK K
    (with_reducible refine wpQuiet_step (fun K hK => ?_)); go_simp; first | (with_reducible refine hK _ ?_) | (refine (if_neg (by decide)).mpr ?_; with_reducible refine hK _ ?_); clear hK K
    refine wpQuiet_load_mat_g (by go_simp) _ rfl w2.heap.size gA rfl HX6.out ?_
    (with_reducible refine wpQuiet_step (fun K hK => ?_)); go_simp; apply Exists.intro; (with_reducible refine ⟨fun _ => ?_, hK _ ?_⟩); (go_at_call 96; exact Calls.bel (HCOLA.out _)); clear hK K
    refine wpQuiet_load_mat_g (by go_simp) _ rfl (w2.heap.size + 1) gB rfl HX7.out ?_
    (with_reducible refine wpQuiet_step (fun K hK => ?_)); go_simp; apply Exists.intro; (with_reducible refine ⟨fun _ => ?_, hK _ ?_⟩); (go_at_call 96; exact Calls.bel (HCOLB.out _)); clear hK K
    (with_reducible refine wpQuiet_step (fun K hK => ?_)); go_simp; (try simp only [hd1, hd2, hd3]); first | (with_reducible refine hK _ ?_) | (refine (if_neg (by decide)).mpr ?_; with_reducible refine hK _ ?_); clear hK K
    (with_reducible refine wpQuiet_step (fun K hK => ?_)); go_simp; first | (with_reducible refine hK _ ?_) | (refine (if_neg (by decide)).mpr ?_; with_reducible refine hK _ ?_); clear hK K
    with_reducible refine wpQuiet_nil ?_
    rintro V5 ⟨⟨V5, hV5⟩, rfl⟩
    have HB5 := Lib.hid (HB4.out.trans (hV5.mono HB4.out.size))
    have HB25 := Lib.hid (HB24.out.trans (hV5.mono HB24.out.size))
    have HY6 := Lib.hid ((hV5.block _ hl6).trans HX6.out)
    have HY7 := Lib.hid ((hV5.block _ hl7).trans HX7.out)
    have hs5 := hV5.size
    clear hV5 HCOLA HCOLB HROWA HROWB HX6 HX7
    have HN : Hid (lessM A B = none) := Lib.hid (lessM_no fun h => by
      rcases HCASEA.out with ⟨h1, h2, h3, _⟩ | ⟨h1, _⟩
      · rcases HCASEB.out with ⟨g1, g2, g3, _⟩ | ⟨g1, _⟩
        · omega
        · rw [h.2.1] at g1; cases g1
      · rw [h.1] at h1; cases h1)
    go_wp2
    go_ret2
    exact IM.no HN.out HB5.out

end Go.Proofs.Ytbbkpaledlbcmaa

/- The model's MatrixLess. -/

namespace Go.Proofs.Ytbbkpaledlbcmaa
open Go.RowKit

def lessF (A B : Mx) (i k : Nat) : Option Pl := lessO (at2 A i k) (at2 B i k)
theorem lessM_is {A B : Mx} (h1 : matB A = true) (h2 : matB B = true) (h3 : A.length = B.length) (h4 : colsM A = colsM B) : lessM A B = gridO (lessF A B) (colsM A) A.length := lessM_yes h1 h2 h3 h4
theorem good_less (A B : Mx) : GoodM ((lessM A B).getD []) := by
  by_cases h : matB A = true ∧ matB B = true ∧ A.length = B.length ∧ colsM A = colsM B
  · have e : lessM A B = _ := lessM_yes h.1 h.2.1 h.2.2.1 h.2.2.2
    rw [e]
    cases e2 : gridO (fun i k => lessO (at2 A i k) (at2 B i k)) (colsM A) A.length with
    | none => exact GoodM.nil
    | some R => exact GoodM.grid e2 (by have := (matB_iff.1 h.1).1; omega) (by have := (matB_iff.1 h.1).2.1; omega) fun i k p _ _ hp => lessO_B hp
  · rw [lessM_no h]
    exact GoodM.nil

set_option maxRecDepth 100000 in
set_option maxHeartbeats 8000000 in
theorem sMatrixLess_any (a b : Option Addr) (ca na cb nb : Nat) (A B : Mx) (w : World) (ha : IsPSS w a na A) (hb : IsPSS w b nb B) :
    Calls Try.prog 41 #[.slice a na ca, .slice b nb cb] w (IM w (lessM A B)) := by
  have hmx : Try.prog.follows .mixedOrders = true := by kernel_rfl
  obtain ⟨i0, hi0, hi1, hi2, hi3⟩ := info_parts infoPolyS
  obtain ⟨p0, hp0, hp1, hp2, hp3⟩ := info_parts infoPoly
  obtain ⟨bA, hbA⟩ : ∃ b, matB A = b := ⟨_, rfl⟩
  obtain ⟨bB, hbB⟩ : ∃ b, matB B = b := ⟨_, rfl⟩
  obtain ⟨W, hW⟩ : ∃ W, w.alloc (.cells #[] PR) = W := ⟨_, rfl⟩
  have hbW : Below w.heap.size w W := by rw [← hW]; exact (Below.refl _ w).alloc (Nat.le_refl _) _
  have HBW := Lib.hid hbW
  have HMd : Hid (OwnM w.heap.size W (.slice (some ⟨w.heap.size, 0, none⟩) 0 0) []) := Lib.hid (by rw [← hW]; exact OwnM.made w)
  have HINA : Hid (∀ p : BelowBy W, Calls Try.prog 26 #[.slice a na ca] p.world fun e w' => e = .returned (.bool bA) ∧ Below p.world.heap.size p.world w') := Lib.hid fun p => sMatrixIn_any a ca na A bA p.world (ha.below (hbW.trans (p.below.mono hbW.size))) hbA
  have HINB : Hid (∀ p : BelowBy W, Calls Try.prog 26 #[.slice b nb cb] p.world fun e w' => e = .returned (.bool bB) ∧ Below p.world.heap.size p.world w') := Lib.hid fun p => sMatrixIn_any b cb nb B bB p.world (hb.below (hbW.trans (p.below.mono hbW.size))) hbB
  have HSA := Lib.hid ha
  have HSB := Lib.hid hb
  have HLA := Lib.hid ha.len
  have HLB := Lib.hid hb.len
  have HMA := Lib.hid hbA
  have HMB := Lib.hid hbB
  have HW := Lib.hid hW
  have HNo : Hid (∀ w1, Below W.heap.size W w1 → lessM A B = none → IM w (lessM A B) (.returned (.tuple #[.slice (some ⟨w.heap.size, 0, none⟩) 0 0, .bool false])) w1) := Lib.hid fun w1 h1 e => by
    rw [e]
    exact ⟨⟨_, [], rfl, HMd.out.below h1, rfl⟩, hbW.trans (h1.mono hbW.size)⟩
  clear ha hb hbA hbB hbW hW
  cases bA with
  | false =>
    have HN : Hid (lessM A B = none) := Lib.hid (lessM_no fun h => by rw [HMA.out] at h; exact absurd h.1 (by decide))
    go_enter Try.func41, Try.ntmps41
    go_wp2_with fail
    rw [HW.out]
    refine wp_region_below hmx (by kernel_rfl) ?_
    (with_reducible refine wpQuiet_step (fun K hK => ?_)); go_simp; first | (with_reducible refine hK _ ?_) | (refine (if_neg (by decide)).mpr ?_; with_reducible refine hK _ ?_); clear hK K
    (with_reducible refine wpQuiet_step (fun K hK => ?_)); go_simp; apply Exists.intro; (with_reducible refine ⟨fun _ => ?_, hK _ ?_⟩); (go_at_call 26; exact Calls.bel (HINA.out _)); clear hK K
    (with_reducible refine wpQuiet_step (fun K hK => ?_)); go_simp; first | (with_reducible refine hK _ ?_) | (refine (if_neg (by decide)).mpr ?_; with_reducible refine hK _ ?_); clear hK K
    (with_reducible refine wpQuiet_step (fun K hK => ?_)); go_simp; first | (with_reducible refine hK _ ?_) | (refine (if_neg (by decide)).mpr ?_; with_reducible refine hK _ ?_); clear hK K
    (with_reducible refine wpQuiet_step (fun K hK => ?_)); go_simp; first | (with_reducible refine hK _ ?_) | (refine (if_neg (by decide)).mpr ?_; with_reducible refine hK _ ?_); clear hK K
    (with_reducible refine wpQuiet_step (fun K hK => ?_)); go_simp; first | (with_reducible refine hK _ ?_) | (refine (if_neg (by decide)).mpr ?_; with_reducible refine hK _ ?_); clear hK K
    (with_reducible refine wpQuiet_step (fun K hK => ?_)); go_simp; first | (with_reducible refine hK _ ?_) | (refine (if_neg (by decide)).mpr ?_; with_reducible refine hK _ ?_); clear hK K
    (with_reducible refine wpQuiet_step (fun K hK => ?_)); go_simp; first | (with_reducible refine hK _ ?_) | (refine (if_neg (by decide)).mpr ?_; with_reducible refine hK _ ?_); clear hK K
    (with_reducible refine wpQuiet_step (fun K hK => ?_)); go_simp; first | (with_reducible refine hK _ ?_) | (refine (if_neg (by decide)).mpr ?_; with_reducible refine hK _ ?_); clear hK K
    (with_reducible refine wpQuiet_step (fun K hK => ?_)); go_simp; first | (with_reducible refine hK _ ?_) | (refine (if_neg (by decide)).mpr ?_; with_reducible refine hK _ ?_); clear hK K
    (with_reducible refine wpQuiet_step (fun K hK => ?_)); go_simp; first | (with_reducible refine hK _ ?_) | (refine (if_neg (by decide)).mpr ?_; with_reducible refine hK _ ?_); clear hK K
    (with_reducible refine wpQuiet_step (fun K hK => ?_)); go_simp; first | (with_reducible refine hK _ ?_) | (refine (if_neg (by decide)).mpr ?_; with_reducible refine hK _ ?_); clear hK K
    (with_reducible refine wpQuiet_step (fun K hK => ?_)); go_simp; first | (with_reducible refine hK _ ?_) | (refine (if_neg (by decide)).mpr ?_; with_reducible refine hK _ ?_); clear hK K
    (with_reducible refine wpQuiet_step (fun K hK => ?_)); go_simp; first | (with_reducible refine hK _ ?_) | (refine (if_neg (by decide)).mpr ?_; with_reducible refine hK _ ?_); clear hK K
    (with_reducible refine wpQuiet_step (fun K hK => ?_)); go_simp; first | (with_reducible refine hK _ ?_) | (refine (if_neg (by decide)).mpr ?_; with_reducible refine hK _ ?_); clear hK K
    (with_reducible refine wpQuiet_step (fun K hK => ?_)); go_simp; first | (with_reducible refine hK _ ?_) | (refine (if_neg (by decide)).mpr ?_; with_reducible refine hK _ ?_); clear hK K
    (with_reducible refine wpQuiet_step (fun K hK => ?_)); go_simp; first | (with_reducible refine hK _ ?_) | (refine (if_neg (by decide)).mpr ?_; with_reducible refine hK _ ?_); clear hK K
    (with_reducible refine wpQuiet_step (fun K hK => ?_)); go_simp; first | (with_reducible refine hK _ ?_) | (refine (if_neg (by decide)).mpr ?_; with_reducible refine hK _ ?_); clear hK K
    (with_reducible refine wpQuiet_step (fun K hK => ?_)); go_simp; first | (with_reducible refine hK _ ?_) | (refine (if_neg (by decide)).mpr ?_; with_reducible refine hK _ ?_); clear hK K
    (with_reducible refine wpQuiet_step (fun K hK => ?_)); go_simp; first | (with_reducible refine hK _ ?_) | (refine (if_neg (by decide)).mpr ?_; with_reducible refine hK _ ?_); clear hK K
    (with_reducible refine wpQuiet_step (fun K hK => ?_)); go_simp; first | (with_reducible refine hK _ ?_) | (refine (if_neg (by decide)).mpr ?_; with_reducible refine hK _ ?_); clear hK K
    (with_reducible refine wpQuiet_step (fun K hK => ?_)); go_simp; first | (with_reducible refine hK _ ?_) | (refine (if_neg (by decide)).mpr ?_; with_reducible refine hK _ ?_); clear hK K
    (with_reducible refine wpQuiet_step (fun K hK => ?_)); go_simp; first | (with_reducible refine hK _ ?_) | (refine (if_neg (by decide)).mpr ?_; with_reducible refine hK _ ?_); clear hK K
    (with_reducible refine wpQuiet_step (fun K hK => ?_)); go_simp; first | (with_reducible refine hK _ ?_) | (refine (if_neg (by decide)).mpr ?_; with_reducible refine hK _ ?_); clear hK K
    (with_reducible refine wpQuiet_step (fun K hK => ?_)); go_simp; first | (with_reducible refine hK _ ?_) | (refine (if_neg (by decide)).mpr ?_; with_reducible refine hK _ ?_); clear hK K
    (with_reducible refine wpQuiet_step (fun K hK => ?_)); go_simp; first | (with_reducible refine hK _ ?_) | (refine (if_neg (by decide)).mpr ?_; with_reducible refine hK _ ?_); clear hK K
    with_reducible refine wpQuiet_nil ?_
    rintro w2 ⟨⟨w2, hb2⟩, rfl⟩
    have HB2 := Lib.hid hb2
    clear hb2
    change Exit.then _ _ _ _ w2
    go_wp2
    go_ret2
    exact HNo.out w2 HB2.out HN.out
  | true =>
    obtain ⟨h4, hc4, _⟩ := matB_iff.1 HMA.out
    obtain ⟨xa, rfl, _, _⟩ := HSA.out.at_ (by have := HLA.out; omega)
    obtain ⟨ma, hma⟩ : ∃ m, colsM A = m := ⟨_, rfl⟩
    rw [hma] at hc4
    have hna4 : 1 ≤ na ∧ na ≤ 4 := by have := HLA.out; omega
    have HCA := Lib.hid hma
    clear hma h4
    cases bB with
    | false =>
      have HN : Hid (lessM A B = none) := Lib.hid (lessM_no fun h => by rw [HMB.out] at h; exact absurd h.2.1 (by decide))
      go_enter Try.func41, Try.ntmps41
      go_wp2_with fail
      rw [HW.out]
      refine wp_region_below hmx (by kernel_rfl) ?_
      (with_reducible refine wpQuiet_step (fun K hK => ?_)); go_simp; first | (with_reducible refine hK _ ?_) | (refine (if_neg (by decide)).mpr ?_; with_reducible refine hK _ ?_); clear hK K
      (with_reducible refine wpQuiet_step (fun K hK => ?_)); go_simp; apply Exists.intro; (with_reducible refine ⟨fun _ => ?_, hK _ ?_⟩); (go_at_call 26; exact Calls.bel (HINA.out _)); clear hK K
      (with_reducible refine wpQuiet_step (fun K hK => ?_)); go_simp; first | (with_reducible refine hK _ ?_) | (refine (if_neg (by decide)).mpr ?_; with_reducible refine hK _ ?_); clear hK K
      (with_reducible refine wpQuiet_step (fun K hK => ?_)); go_simp; first | (with_reducible refine hK _ ?_) | (refine (if_neg (by decide)).mpr ?_; with_reducible refine hK _ ?_); clear hK K
      (with_reducible refine wpQuiet_step (fun K hK => ?_)); go_simp; first | (with_reducible refine hK _ ?_) | (refine (if_neg (by decide)).mpr ?_; with_reducible refine hK _ ?_); clear hK K
      (with_reducible refine wpQuiet_step (fun K hK => ?_)); go_simp; apply Exists.intro; (with_reducible refine ⟨fun _ => ?_, hK _ ?_⟩); (go_at_call 26; exact Calls.bel (HINB.out _)); clear hK K
      (with_reducible refine wpQuiet_step (fun K hK => ?_)); go_simp; first | (with_reducible refine hK _ ?_) | (refine (if_neg (by decide)).mpr ?_; with_reducible refine hK _ ?_); clear hK K
      (with_reducible refine wpQuiet_step (fun K hK => ?_)); go_simp; first | (with_reducible refine hK _ ?_) | (refine (if_neg (by decide)).mpr ?_; with_reducible refine hK _ ?_); clear hK K
      (with_reducible refine wpQuiet_step (fun K hK => ?_)); go_simp; first | (with_reducible refine hK _ ?_) | (refine (if_neg (by decide)).mpr ?_; with_reducible refine hK _ ?_); clear hK K
      (with_reducible refine wpQuiet_step (fun K hK => ?_)); go_simp; first | (with_reducible refine hK _ ?_) | (refine (if_neg (by decide)).mpr ?_; with_reducible refine hK _ ?_); clear hK K
      (with_reducible refine wpQuiet_step (fun K hK => ?_)); go_simp; first | (with_reducible refine hK _ ?_) | (refine (if_neg (by decide)).mpr ?_; with_reducible refine hK _ ?_); clear hK K
      (with_reducible refine wpQuiet_step (fun K hK => ?_)); go_simp; first | (with_reducible refine hK _ ?_) | (refine (if_neg (by decide)).mpr ?_; with_reducible refine hK _ ?_); clear hK K
      (with_reducible refine wpQuiet_step (fun K hK => ?_)); go_simp; first | (with_reducible refine hK _ ?_) | (refine (if_neg (by decide)).mpr ?_; with_reducible refine hK _ ?_); clear hK K
      (with_reducible refine wpQuiet_step (fun K hK => ?_)); go_simp; first | (with_reducible refine hK _ ?_) | (refine (if_neg (by decide)).mpr ?_; with_reducible refine hK _ ?_); clear hK K
      (with_reducible refine wpQuiet_step (fun K hK => ?_)); go_simp; first | (with_reducible refine hK _ ?_) | (refine (if_neg (by decide)).mpr ?_; with_reducible refine hK _ ?_); clear hK K
      (with_reducible refine wpQuiet_step (fun K hK => ?_)); go_simp; first | (with_reducible refine hK _ ?_) | (refine (if_neg (by decide)).mpr ?_; with_reducible refine hK _ ?_); clear hK K
      (with_reducible refine wpQuiet_step (fun K hK => ?_)); go_simp; first | (with_reducible refine hK _ ?_) | (refine (if_neg (by decide)).mpr ?_; with_reducible refine hK _ ?_); clear hK K
      (with_reducible refine wpQuiet_step (fun K hK => ?_)); go_simp; first | (with_reducible refine hK _ ?_) | (refine (if_neg (by decide)).mpr ?_; with_reducible refine hK _ ?_); clear hK K
      (with_reducible refine wpQuiet_step (fun K hK => ?_)); go_simp; first | (with_reducible refine hK _ ?_) | (refine (if_neg (by decide)).mpr ?_; with_reducible refine hK _ ?_); clear hK K
      (with_reducible refine wpQuiet_step (fun K hK => ?_)); go_simp; first | (with_reducible refine hK _ ?_) | (refine (if_neg (by decide)).mpr ?_; with_reducible refine hK _ ?_); clear hK K
      (with_reducible refine wpQuiet_step (fun K hK => ?_)); go_simp; first | (with_reducible refine hK _ ?_) | (refine (if_neg (by decide)).mpr ?_; with_reducible refine hK _ ?_); clear hK K
      (with_reducible refine wpQuiet_step (fun K hK => ?_)); go_simp; first | (with_reducible refine hK _ ?_) | (refine (if_neg (by decide)).mpr ?_; with_reducible refine hK _ ?_); clear hK K
      (with_reducible refine wpQuiet_step (fun K hK => ?_)); go_simp; first | (with_reducible refine hK _ ?_) | (refine (if_neg (by decide)).mpr ?_; with_reducible refine hK _ ?_); clear hK K
      (with_reducible refine wpQuiet_step (fun K hK => ?_)); go_simp; first | (with_reducible refine hK _ ?_) | (refine (if_neg (by decide)).mpr ?_; with_reducible refine hK _ ?_); clear hK K
      (with_reducible refine wpQuiet_step (fun K hK => ?_)); go_simp; first | (with_reducible refine hK _ ?_) | (refine (if_neg (by decide)).mpr ?_; with_reducible refine hK _ ?_); clear hK K
      (with_reducible refine wpQuiet_step (fun K hK => ?_)); go_simp; first | (with_reducible refine hK _ ?_) | (refine (if_neg (by decide)).mpr ?_; with_reducible refine hK _ ?_); clear hK K
      with_reducible refine wpQuiet_nil ?_
      rintro w2 ⟨⟨w2, hb2⟩, rfl⟩
      have HB2 := Lib.hid hb2
      clear hb2
      change Exit.then _ _ _ _ w2
      go_wp2
      go_ret2
      exact HNo.out w2 HB2.out HN.out
    | true =>
      obtain ⟨g4, gc4, _⟩ := matB_iff.1 HMB.out
      obtain ⟨xb, rfl, _, _⟩ := HSB.out.at_ (by have := HLB.out; omega)
      obtain ⟨mb, hmb⟩ : ∃ m, colsM B = m := ⟨_, rfl⟩
      rw [hmb] at gc4
      have hnb4 : 1 ≤ nb ∧ nb ≤ 4 := by have := HLB.out; omega
      have HCB := Lib.hid hmb
      clear hmb g4
      obtain ⟨ya, cia, _, _, hxab, _, cA, _⟩ := HSA.out.place (i := 0) (k := 0) HMA.out HCA.out (by omega) (by omega)
      obtain ⟨yb, cib, _, _, hxbb, _, cB, _⟩ := HSB.out.place (i := 0) (k := 0) HMB.out HCB.out (by omega) (by omega)
      rw [show xa.add 0 = xa by simp [Addr.add]] at cA
      rw [show xb.add 0 = xb by simp [Addr.add]] at cB
      have HXA : Hid (∀ V, Below w.heap.size w V → V.cell? xa = some (.slice (some ya) ma cia)) := Lib.hid fun V hV => (hV.cell (p := xa) hxab).trans cA
      have HXB : Hid (∀ V, Below w.heap.size w V → V.cell? xb = some (.slice (some yb) mb cib)) := Lib.hid fun V hV => (hV.cell (p := xb) hxbb).trans cB
      have h0a : (0 : Int) < (na : Int) := by omega
      have h0b : (0 : Int) < (nb : Int) := by omega
      have h0an : 0 < na := by omega
      have h0bn : 0 < nb := by omega
      have v0 := BelowBy.cell (w := W) (Nat.lt_of_lt_of_le hxab HBW.out.size) (HXA.out W HBW.out)
      have v1 := BelowBy.cell (w := W) (Nat.lt_of_lt_of_le hxbb HBW.out.size) (HXB.out W HBW.out)
      clear cA cB hxab hxbb
      have hpick : (na = nb ∧ ma = mb) ∨ (na ≠ nb ∧ ((na : Int) == (nb : Int)) = false ∧ ((na : Int) != (nb : Int)) = true ∧ decide ((na : Int) = (nb : Int)) = false) ∨ (na = nb ∧ ma ≠ mb ∧ ((ma : Int) == (mb : Int)) = false ∧ ((ma : Int) != (mb : Int)) = true ∧ decide ((ma : Int) = (mb : Int)) = false) := by
        by_cases e : na = nb
        · by_cases e1 : ma = mb
          · exact .inl ⟨e, e1⟩
          · have e2 : ¬ (ma : Int) = (mb : Int) := by omega
            exact .inr (.inr ⟨e, e1, by simp [e2], by simp [e2], by simp [e2]⟩)
        · have e2 : ¬ (na : Int) = (nb : Int) := by omega
          exact .inr (.inl ⟨e, by simp [e2], by simp [e2], by simp [e2]⟩)
      rcases hpick with ⟨hnn, hmm⟩ | ⟨hnn, hd1, hd2, hd3⟩ | ⟨hnn, hmm, hd1, hd2, hd3⟩
      rotate_left
      · have HN : Hid (lessM A B = none) := Lib.hid (lessM_no fun h => by have h1 := HLA.out; have h2 := HLB.out; have h3 := h.2.2.1; omega)
        go_enter Try.func41, Try.ntmps41
        go_wp2_with fail
        rw [HW.out]
        refine wp_region_below hmx (by kernel_rfl) ?_
        (with_reducible refine wpQuiet_step (fun K hK => ?_)); go_simp; first | (with_reducible refine hK _ ?_) | (refine (if_neg (by decide)).mpr ?_; with_reducible refine hK _ ?_); clear hK K
        (with_reducible refine wpQuiet_step (fun K hK => ?_)); go_simp; apply Exists.intro; (with_reducible refine ⟨fun _ => ?_, hK _ ?_⟩); (go_at_call 26; exact Calls.bel (HINA.out _)); clear hK K
        (with_reducible refine wpQuiet_step (fun K hK => ?_)); go_simp; first | (with_reducible refine hK _ ?_) | (refine (if_neg (by decide)).mpr ?_; with_reducible refine hK _ ?_); clear hK K
        (with_reducible refine wpQuiet_step (fun K hK => ?_)); go_simp; first | (with_reducible refine hK _ ?_) | (refine (if_neg (by decide)).mpr ?_; with_reducible refine hK _ ?_); clear hK K
        (with_reducible refine wpQuiet_step (fun K hK => ?_)); go_simp; first | (with_reducible refine hK _ ?_) | (refine (if_neg (by decide)).mpr ?_; with_reducible refine hK _ ?_); clear hK K
        (with_reducible refine wpQuiet_step (fun K hK => ?_)); go_simp; apply Exists.intro; (with_reducible refine ⟨fun _ => ?_, hK _ ?_⟩); (go_at_call 26; exact Calls.bel (HINB.out _)); clear hK K
        (with_reducible refine wpQuiet_step (fun K hK => ?_)); go_simp; first | (with_reducible refine hK _ ?_) | (refine (if_neg (by decide)).mpr ?_; with_reducible refine hK _ ?_); clear hK K
        (with_reducible refine wpQuiet_step (fun K hK => ?_)); go_simp; first | (with_reducible refine hK _ ?_) | (refine (if_neg (by decide)).mpr ?_; with_reducible refine hK _ ?_); clear hK K
        (with_reducible refine wpQuiet_step (fun K hK => ?_)); go_simp; first | (with_reducible refine hK _ ?_) | (refine (if_neg (by decide)).mpr ?_; with_reducible refine hK _ ?_); clear hK K
        (with_reducible refine wpQuiet_step (fun K hK => ?_)); go_simp; first | (with_reducible refine hK _ ?_) | (refine (if_neg (by decide)).mpr ?_; with_reducible refine hK _ ?_); clear hK K
        (with_reducible refine wpQuiet_step (fun K hK => ?_)); go_simp; first | (with_reducible refine hK _ ?_) | (refine (if_neg (by decide)).mpr ?_; with_reducible refine hK _ ?_); clear hK K
        (with_reducible refine wpQuiet_step (fun K hK => ?_)); go_simp; first | (with_reducible refine hK _ ?_) | (refine (if_neg (by decide)).mpr ?_; with_reducible refine hK _ ?_); clear hK K
        (with_reducible refine wpQuiet_step (fun K hK => ?_)); go_simp; (try simp only [hd1, hd2, hd3]); first | (with_reducible refine hK _ ?_) | (refine (if_neg (by decide)).mpr ?_; with_reducible refine hK _ ?_); clear hK K
        (with_reducible refine wpQuiet_step (fun K hK => ?_)); go_simp; first | (with_reducible refine hK _ ?_) | (refine (if_neg (by decide)).mpr ?_; with_reducible refine hK _ ?_); clear hK K
        (with_reducible refine wpQuiet_step (fun K hK => ?_)); go_simp; first | (with_reducible refine hK _ ?_) | (refine (if_neg (by decide)).mpr ?_; with_reducible refine hK _ ?_); clear hK K
        (with_reducible refine wpQuiet_step (fun K hK => ?_)); go_simp; first | (with_reducible refine hK _ ?_) | (refine (if_neg (by decide)).mpr ?_; with_reducible refine hK _ ?_); clear hK K
        (with_reducible refine wpQuiet_step (fun K hK => ?_)); go_simp; first | (with_reducible refine hK _ ?_) | (refine (if_neg (by decide)).mpr ?_; with_reducible refine hK _ ?_); clear hK K
        (with_reducible refine wpQuiet_step (fun K hK => ?_)); go_simp; first | (with_reducible refine hK _ ?_) | (refine (if_neg (by decide)).mpr ?_; with_reducible refine hK _ ?_); clear hK K
        (with_reducible refine wpQuiet_step (fun K hK => ?_)); go_simp; first | (with_reducible refine hK _ ?_) | (refine (if_neg (by decide)).mpr ?_; with_reducible refine hK _ ?_); clear hK K
        (with_reducible refine wpQuiet_step (fun K hK => ?_)); go_simp; first | (with_reducible refine hK _ ?_) | (refine (if_neg (by decide)).mpr ?_; with_reducible refine hK _ ?_); clear hK K
        (with_reducible refine wpQuiet_step (fun K hK => ?_)); go_simp; first | (with_reducible refine hK _ ?_) | (refine (if_neg (by decide)).mpr ?_; with_reducible refine hK _ ?_); clear hK K
        (with_reducible refine wpQuiet_step (fun K hK => ?_)); go_simp; first | (with_reducible refine hK _ ?_) | (refine (if_neg (by decide)).mpr ?_; with_reducible refine hK _ ?_); clear hK K
        (with_reducible refine wpQuiet_step (fun K hK => ?_)); go_simp; first | (with_reducible refine hK _ ?_) | (refine (if_neg (by decide)).mpr ?_; with_reducible refine hK _ ?_); clear hK K
        (with_reducible refine wpQuiet_step (fun K hK => ?_)); go_simp; first | (with_reducible refine hK _ ?_) | (refine (if_neg (by decide)).mpr ?_; with_reducible refine hK _ ?_); clear hK K
        (with_reducible refine wpQuiet_step (fun K hK => ?_)); go_simp; first | (with_reducible refine hK _ ?_) | (refine (if_neg (by decide)).mpr ?_; with_reducible refine hK _ ?_); clear hK K
        (with_reducible refine wpQuiet_step (fun K hK => ?_)); go_simp; first | (with_reducible refine hK _ ?_) | (refine (if_neg (by decide)).mpr ?_; with_reducible refine hK _ ?_); clear hK K
        clear v0 v1
        with_reducible refine wpQuiet_nil ?_
        rintro w2 ⟨⟨w2, hb2⟩, rfl⟩
        have HB2 := Lib.hid hb2
        clear hb2
        change Exit.then _ _ _ _ w2
        go_wp2
        go_ret2
        exact HNo.out w2 HB2.out HN.out
      · have HN : Hid (lessM A B = none) := Lib.hid (lessM_no fun h => by have h1 := HCA.out; have h2 := HCB.out; have h3 := h.2.2.2; omega)
        subst hnn
        go_enter Try.func41, Try.ntmps41
        go_wp2_with fail
        rw [HW.out]
        refine wp_region_below hmx (by kernel_rfl) ?_
        (with_reducible refine wpQuiet_step (fun K hK => ?_)); go_simp; first | (with_reducible refine hK _ ?_) | (refine (if_neg (by decide)).mpr ?_; with_reducible refine hK _ ?_); clear hK K
        (with_reducible refine wpQuiet_step (fun K hK => ?_)); go_simp; apply Exists.intro; (with_reducible refine ⟨fun _ => ?_, hK _ ?_⟩); (go_at_call 26; exact Calls.bel (HINA.out _)); clear hK K
        (with_reducible refine wpQuiet_step (fun K hK => ?_)); go_simp; first | (with_reducible refine hK _ ?_) | (refine (if_neg (by decide)).mpr ?_; with_reducible refine hK _ ?_); clear hK K
        (with_reducible refine wpQuiet_step (fun K hK => ?_)); go_simp; first | (with_reducible refine hK _ ?_) | (refine (if_neg (by decide)).mpr ?_; with_reducible refine hK _ ?_); clear hK K
        (with_reducible refine wpQuiet_step (fun K hK => ?_)); go_simp; first | (with_reducible refine hK _ ?_) | (refine (if_neg (by decide)).mpr ?_; with_reducible refine hK _ ?_); clear hK K
        (with_reducible refine wpQuiet_step (fun K hK => ?_)); go_simp; apply Exists.intro; (with_reducible refine ⟨fun _ => ?_, hK _ ?_⟩); (go_at_call 26; exact Calls.bel (HINB.out _)); clear hK K
        (with_reducible refine wpQuiet_step (fun K hK => ?_)); go_simp; first | (with_reducible refine hK _ ?_) | (refine (if_neg (by decide)).mpr ?_; with_reducible refine hK _ ?_); clear hK K
        (with_reducible refine wpQuiet_step (fun K hK => ?_)); go_simp; first | (with_reducible refine hK _ ?_) | (refine (if_neg (by decide)).mpr ?_; with_reducible refine hK _ ?_); clear hK K
        (with_reducible refine wpQuiet_step (fun K hK => ?_)); go_simp; first | (with_reducible refine hK _ ?_) | (refine (if_neg (by decide)).mpr ?_; with_reducible refine hK _ ?_); clear hK K
        (with_reducible refine wpQuiet_step (fun K hK => ?_)); go_simp; first | (with_reducible refine hK _ ?_) | (refine (if_neg (by decide)).mpr ?_; with_reducible refine hK _ ?_); clear hK K
        (with_reducible refine wpQuiet_step (fun K hK => ?_)); go_simp; first | (with_reducible refine hK _ ?_) | (refine (if_neg (by decide)).mpr ?_; with_reducible refine hK _ ?_); clear hK K
        (with_reducible refine wpQuiet_step (fun K hK => ?_)); go_simp; first | (with_reducible refine hK _ ?_) | (refine (if_neg (by decide)).mpr ?_; with_reducible refine hK _ ?_); clear hK K
        (with_reducible refine wpQuiet_step (fun K hK => ?_)); go_simp; first | (with_reducible refine hK _ ?_) | (refine (if_neg (by decide)).mpr ?_; with_reducible refine hK _ ?_); clear hK K
        (with_reducible refine wpQuiet_step (fun K hK => ?_)); go_simp; first | (with_reducible refine hK _ ?_) | (refine (if_neg (by decide)).mpr ?_; with_reducible refine hK _ ?_); clear hK K
        (with_reducible refine wpQuiet_step (fun K hK => ?_)); go_simp; first | (with_reducible refine hK _ ?_) | (refine (if_neg (by decide)).mpr ?_; with_reducible refine hK _ ?_); clear hK K
        (with_reducible refine wpQuiet_step (fun K hK => ?_)); go_simp; first | (with_reducible refine hK _ ?_) | (refine (if_neg (by decide)).mpr ?_; with_reducible refine hK _ ?_); clear hK K
        (with_reducible refine wpQuiet_step (fun K hK => ?_)); go_simp; first | (with_reducible refine hK _ ?_) | (refine (if_neg (by decide)).mpr ?_; with_reducible refine hK _ ?_); clear hK K
        (with_reducible refine wpQuiet_step (fun K hK => ?_)); go_simp; first | (with_reducible refine hK _ ?_) | (refine (if_neg (by decide)).mpr ?_; with_reducible refine hK _ ?_); clear hK K
        (with_reducible refine wpQuiet_step (fun K hK => ?_)); go_simp; first | (with_reducible refine hK _ ?_) | (refine (if_neg (by decide)).mpr ?_; with_reducible refine hK _ ?_); clear hK K
        (with_reducible refine wpQuiet_step (fun K hK => ?_)); go_simp; first | (with_reducible refine hK _ ?_) | (refine (if_neg (by decide)).mpr ?_; with_reducible refine hK _ ?_); clear hK K
        (with_reducible refine wpQuiet_step (fun K hK => ?_)); go_simp; first | (with_reducible refine hK _ ?_) | (refine (if_neg (by decide)).mpr ?_; with_reducible refine hK _ ?_); clear hK K
        (with_reducible refine wpQuiet_step (fun K hK => ?_)); go_simp; first | (with_reducible refine hK _ ?_) | (refine (if_neg (by decide)).mpr ?_; with_reducible refine hK _ ?_); clear hK K
        (with_reducible refine wpQuiet_step (fun K hK => ?_)); go_simp; first | (with_reducible refine hK _ ?_) | (refine (if_neg (by decide)).mpr ?_; with_reducible refine hK _ ?_); clear hK K
        (with_reducible refine wpQuiet_step (fun K hK => ?_)); go_simp; first | (with_reducible refine hK _ ?_) | (refine (if_neg (by decide)).mpr ?_; with_reducible refine hK _ ?_); clear hK K
        (with_reducible refine wpQuiet_step (fun K hK => ?_)); go_simp; (try simp only [hd1, hd2, hd3]); first | (with_reducible refine hK _ ?_) | (refine (if_neg (by decide)).mpr ?_; with_reducible refine hK _ ?_); clear hK K
        (with_reducible refine wpQuiet_step (fun K hK => ?_)); go_simp; first | (with_reducible refine hK _ ?_) | (refine (if_neg (by decide)).mpr ?_; with_reducible refine hK _ ?_); clear hK K
        clear v0 v1
        with_reducible refine wpQuiet_nil ?_
        rintro w2 ⟨⟨w2, hb2⟩, rfl⟩
        have HB2 := Lib.hid hb2
        clear hb2
        change Exit.then _ _ _ _ w2
        go_wp2
        go_ret2
        exact HNo.out w2 HB2.out HN.out
      subst hnn
      subst hmm
      go_enter Try.func41, Try.ntmps41
      go_wp2_with fail
      rw [HW.out]
      refine wp_region_below hmx (by kernel_rfl) ?_
      (with_reducible refine wpQuiet_step (fun K hK => ?_)); go_simp; first | (with_reducible refine hK _ ?_) | (refine (if_neg (by decide)).mpr ?_; with_reducible refine hK _ ?_); clear hK K
      (with_reducible refine wpQuiet_step (fun K hK => ?_)); go_simp; apply Exists.intro; (with_reducible refine ⟨fun _ => ?_, hK _ ?_⟩); (go_at_call 26; exact Calls.bel (HINA.out _)); clear hK K
      (with_reducible refine wpQuiet_step (fun K hK => ?_)); go_simp; first | (with_reducible refine hK _ ?_) | (refine (if_neg (by decide)).mpr ?_; with_reducible refine hK _ ?_); clear hK K
      (with_reducible refine wpQuiet_step (fun K hK => ?_)); go_simp; first | (with_reducible refine hK _ ?_) | (refine (if_neg (by decide)).mpr ?_; with_reducible refine hK _ ?_); clear hK K
      (with_reducible refine wpQuiet_step (fun K hK => ?_)); go_simp; first | (with_reducible refine hK _ ?_) | (refine (if_neg (by decide)).mpr ?_; with_reducible refine hK _ ?_); clear hK K
      (with_reducible refine wpQuiet_step (fun K hK => ?_)); go_simp; apply Exists.intro; (with_reducible refine ⟨fun _ => ?_, hK _ ?_⟩); (go_at_call 26; exact Calls.bel (HINB.out _)); clear hK K
      (with_reducible refine wpQuiet_step (fun K hK => ?_)); go_simp; first | (with_reducible refine hK _ ?_) | (refine (if_neg (by decide)).mpr ?_; with_reducible refine hK _ ?_); clear hK K
      (with_reducible refine wpQuiet_step (fun K hK => ?_)); go_simp; first | (with_reducible refine hK _ ?_) | (refine (if_neg (by decide)).mpr ?_; with_reducible refine hK _ ?_); clear hK K
      (with_reducible refine wpQuiet_step (fun K hK => ?_)); go_simp; first | (with_reducible refine hK _ ?_) | (refine (if_neg (by decide)).mpr ?_; with_reducible refine hK _ ?_); clear hK K
      (with_reducible refine wpQuiet_step (fun K hK => ?_)); go_simp; first | (with_reducible refine hK _ ?_) | (refine (if_neg (by decide)).mpr ?_; with_reducible refine hK _ ?_); clear hK K
      (with_reducible refine wpQuiet_step (fun K hK => ?_)); go_simp; first | (with_reducible refine hK _ ?_) | (refine (if_neg (by decide)).mpr ?_; with_reducible refine hK _ ?_); clear hK K
      (with_reducible refine wpQuiet_step (fun K hK => ?_)); go_simp; first | (with_reducible refine hK _ ?_) | (refine (if_neg (by decide)).mpr ?_; with_reducible refine hK _ ?_); clear hK K
      (with_reducible refine wpQuiet_step (fun K hK => ?_)); go_simp; first | (with_reducible refine hK _ ?_) | (refine (if_neg (by decide)).mpr ?_; with_reducible refine hK _ ?_); clear hK K
      (with_reducible refine wpQuiet_step (fun K hK => ?_)); go_simp; first | (with_reducible refine hK _ ?_) | (refine (if_neg (by decide)).mpr ?_; with_reducible refine hK _ ?_); clear hK K
      (with_reducible refine wpQuiet_step (fun K hK => ?_)); go_simp; first | (with_reducible refine hK _ ?_) | (refine (if_neg (by decide)).mpr ?_; with_reducible refine hK _ ?_); clear hK K
      (with_reducible refine wpQuiet_step (fun K hK => ?_)); go_simp; first | (with_reducible refine hK _ ?_) | (refine (if_neg (by decide)).mpr ?_; with_reducible refine hK _ ?_); clear hK K
      (with_reducible refine wpQuiet_step (fun K hK => ?_)); go_simp; first | (with_reducible refine hK _ ?_) | (refine (if_neg (by decide)).mpr ?_; with_reducible refine hK _ ?_); clear hK K
      (with_reducible refine wpQuiet_step (fun K hK => ?_)); go_simp; first | (with_reducible refine hK _ ?_) | (refine (if_neg (by decide)).mpr ?_; with_reducible refine hK _ ?_); clear hK K
      (with_reducible refine wpQuiet_step (fun K hK => ?_)); go_simp; first | (with_reducible refine hK _ ?_) | (refine (if_neg (by decide)).mpr ?_; with_reducible refine hK _ ?_); clear hK K
      (with_reducible refine wpQuiet_step (fun K hK => ?_)); go_simp; first | (with_reducible refine hK _ ?_) | (refine (if_neg (by decide)).mpr ?_; with_reducible refine hK _ ?_); clear hK K
      (with_reducible refine wpQuiet_step (fun K hK => ?_)); go_simp; first | (with_reducible refine hK _ ?_) | (refine (if_neg (by decide)).mpr ?_; with_reducible refine hK _ ?_); clear hK K
      (with_reducible refine wpQuiet_step (fun K hK => ?_)); go_simp; first | (with_reducible refine hK _ ?_) | (refine (if_neg (by decide)).mpr ?_; with_reducible refine hK _ ?_); clear hK K
      (with_reducible refine wpQuiet_step (fun K hK => ?_)); go_simp; first | (with_reducible refine hK _ ?_) | (refine (if_neg (by decide)).mpr ?_; with_reducible refine hK _ ?_); clear hK K
      (with_reducible refine wpQuiet_step (fun K hK => ?_)); go_simp; first | (with_reducible refine hK _ ?_) | (refine (if_neg (by decide)).mpr ?_; with_reducible refine hK _ ?_); clear hK K
      (with_reducible refine wpQuiet_step (fun K hK => ?_)); go_simp; first | (with_reducible refine hK _ ?_) | (refine (if_neg (by decide)).mpr ?_; with_reducible refine hK _ ?_); clear hK K
      (with_reducible refine wpQuiet_step (fun K hK => ?_)); go_simp; first | (with_reducible refine hK _ ?_) | (refine (if_neg (by decide)).mpr ?_; with_reducible refine hK _ ?_); clear hK K
      clear v0 v1
      with_reducible refine wpQuiet_nil ?_
      rintro w2 ⟨⟨w2, hb2⟩, rfl⟩
      have HB2 := Lib.hid hb2
      clear hb2
      change Exit.then _ _ _ _ w2
      have HBw2 := Lib.hid (HBW.out.trans (HB2.out.mono HBW.out.size))
      have HTM : Hid (lessM A B = gridO (lessF A B) ma na) := Lib.hid (by rw [lessM_is HMA.out HMB.out (by rw [HLA.out, HLB.out]) (by rw [HCA.out, HCB.out]), HLA.out, HCA.out])
      have HM2 := Lib.hid (HMd.out.below HB2.out)
      go_wp2
      go_loopw [6, 7] (fun v i wr => ∃ (r : Nat) (rs : List Rv), r ≤ na ∧ i = .int .i64 r ∧ Hid (gridO (lessF A B) ma r = some (rowsOf rs)) ∧ Hid (OwnM w.heap.size wr v rs) ∧ Below w.heap.size w wr) (fun _ i _ => na - (intOf i).toNat)
      case atStart => exact ⟨0, [], Nat.zero_le _, rfl, Lib.hid rfl, HM2, HBw2.out⟩
      case round =>
        obtain ⟨k, rs, hk, rfl, HG, HR, hB⟩ := hrel
        obtain ⟨U, hU⟩ : ∃ U, U = wr := ⟨_, rfl⟩
        subst hU
        by_cases hlt : k < na
        · have HBU := Lib.hid hB
          have HRM := Lib.hid (OwnR.made U)
          have hbU : Below U.heap.size U (U.alloc (.cells #[] PO)) := (Below.refl _ U).alloc (Nat.le_refl _) _
          obtain ⟨av, cv, hv⟩ := HR.out.is_slice
          have hkl := (gridO_some HG.out).1
          rw [rowsOf_len] at hkl
          rw [hkl] at hv
          have HKL := Lib.hid hkl
          clear hkl
          subst hv
          clear hB
          go_wp2
          go_loopw [8, 9] (fun u i wr => ∃ (l : Nat) (xs : List Pv), l ≤ ma ∧ i = .int .i64 l ∧ Hid (rowO (lessF A B k) l = some (xs.map (·.p))) ∧ Hid (OwnR U.heap.size wr u xs) ∧ Below U.heap.size U wr) (fun _ i _ => ma - (intOf i).toNat)
          case atStart => exact ⟨0, [], Nat.zero_le _, rfl, Lib.hid rfl, HRM, hbU⟩
          case round =>
            obtain ⟨l, xs, hl, rfl, HO, HW1, hBU⟩ := hrel
            obtain ⟨Z, hZ⟩ : ∃ Z, Z = wr := ⟨_, rfl⟩
            subst hZ
            obtain ⟨au, cu, hu⟩ := HW1.out.is_slice
            have hll := (rowO_some HO.out).1
            rw [List.length_map] at hll
            rw [hll] at hu
            subst hu
            have HLL := Lib.hid hll
            have hwZ := HBU.out.trans (hBU.mono HBU.out.size)
            obtain ⟨y, ci, ak, ck, hxb, hyb, c0, c1, c2, hJ, hle⟩ := HSA.out.place (k := 0) HMA.out HCA.out hlt (by omega)
            have q1 : Z.cell? (xa.add k) = some (.slice (some y) ma ci) := (hwZ.cell (p := xa.add k) (by rw [addr_add_block]; exact hxb)).trans c0
            clear hxb hyb c0 c1 c2 hJ hle
            clear hll
            by_cases hlt2 : l < ma
            · have HBUr := Lib.hid hBU
              have hUr := hBU.size
              have HWZ := Lib.hid hwZ
              obtain ⟨y, ci, ak, ck, hxb, hyb, c0, c1, c2, hJ, hle⟩ := HSA.out.place HMA.out HCA.out hlt hlt2
              obtain ⟨y2, ci2, ak2, ck2, hxb2, hyb2, c3, c4, c5, hJ2, hle2⟩ := HSB.out.place HMB.out HCB.out hlt hlt2
              have hPB : polyB (at2 A k l) = true := matB_at HMA.out (by have := HLA.out; omega) (by have := HCA.out; omega)
              have hQB : polyB (at2 B k l) = true := matB_at HMB.out (by have := HLB.out; omega) (by have := HCB.out; omega)
              obtain ⟨p, hp⟩ : ∃ p, at2 A k l = p := ⟨_, rfl⟩
              obtain ⟨q, hq⟩ : ∃ q, at2 B k l = q := ⟨_, rfl⟩
              rw [hp] at c1 c2 hJ hle hPB
              rw [hq] at c4 c5 hJ2 hle2 hQB
              obtain ⟨mp, hmp⟩ : ∃ mp, p.cs.length = mp := ⟨_, rfl⟩
              obtain ⟨mq, hmq⟩ : ∃ mq, q.cs.length = mq := ⟨_, rfl⟩
              rw [hmp] at c2 hJ hle
              rw [hmq] at c5 hJ2 hle2
              have HK : Hid (∀ V, Below Z.heap.size Z V → (V.cell? (xa.add k) = some (.slice (some y) ma ci) ∧ V.cell? (y.add (l * 2)) = some (.int .i64 p.low) ∧ V.cell? ⟨(y.add (l * 2)).block, (y.add (l * 2)).off + 1, none⟩ = some (.slice ak mp ck) ∧ V.cell? (xb.add k) = some (.slice (some y2) ma ci2) ∧ V.cell? (y2.add (l * 2)) = some (.int .i64 q.low) ∧ V.cell? ⟨(y2.add (l * 2)).block, (y2.add (l * 2)).off + 1, none⟩ = some (.slice ak2 mq ck2)) ∧
                  (V.heap.size ≠ (xa.add k).block ∧ (xa.add k).block ≠ V.heap.size) ∧ (V.heap.size ≠ (y.add (l * 2)).block ∧ (y.add (l * 2)).block ≠ V.heap.size) ∧ (V.heap.size ≠ (xb.add k).block ∧ (xb.add k).block ≠ V.heap.size) ∧ (V.heap.size ≠ (y2.add (l * 2)).block ∧ (y2.add (l * 2)).block ≠ V.heap.size) ∧ (V.heap.size ≠ xa.block ∧ xa.block ≠ V.heap.size) ∧ (V.heap.size ≠ y.block ∧ y.block ≠ V.heap.size) ∧ (V.heap.size ≠ xb.block ∧ xb.block ≠ V.heap.size) ∧ V.heap.size ≠ y2.block ∧ y2.block ≠ V.heap.size) := Lib.hid fun V hV => by
                have hwV := hwZ.trans (hV.mono hwZ.size)
                have hwV2 := hwV.size
                refine ⟨⟨(hwV.cell (p := xa.add k) (by rw [addr_add_block]; exact hxb)).trans c0, (hwV.cell (p := y.add (l * 2)) (by rw [addr_add_block]; exact hyb)).trans c1, (hwV.cell (p := ⟨(y.add (l * 2)).block, (y.add (l * 2)).off + 1, none⟩) (by show (y.add (l * 2)).block < _; rw [addr_add_block]; exact hyb)).trans c2,
                  (hwV.cell (p := xb.add k) (by rw [addr_add_block]; exact hxb2)).trans c3, (hwV.cell (p := y2.add (l * 2)) (by rw [addr_add_block]; exact hyb2)).trans c4, (hwV.cell (p := ⟨(y2.add (l * 2)).block, (y2.add (l * 2)).off + 1, none⟩) (by show (y2.add (l * 2)).block < _; rw [addr_add_block]; exact hyb2)).trans c5⟩, ?_⟩
                rw [addr_add_block, addr_add_block, addr_add_block, addr_add_block]
                omega
              obtain ⟨S, hS⟩ : ∃ S, sumP p (-1) q = S := ⟨_, rfl⟩
              obtain ⟨sl, hsl⟩ : ∃ sl, S.cs.length = sl := ⟨_, rfl⟩
              obtain ⟨bb, hbb⟩ : ∃ bb, polyB S = bb := ⟨_, rfl⟩
              obtain ⟨R, hR⟩ : ∃ R, doneP bb S = R := ⟨_, rfl⟩
              obtain ⟨L, hLR⟩ : ∃ L, R.cs.length = L := ⟨_, rfl⟩
              have HF : Hid (lessF A B k l = if bb = true then some R else none) := Lib.hid (by
                unfold lessF lessO
                rw [hp, hq, hS, hbb, ← hR]
                cases bb <;> rfl)
              have hsl3 : sl ≤ 300000 := by
                obtain ⟨_, h1, h2, h3, _⟩ := polyB_trim hPB
                obtain ⟨_, h4, h5, h6, _⟩ := polyB_trim hQB
                rw [← hsl, ← hS]
                exact sum_len (by omega) (by omega) (by omega) (by omega)
              have HSUM : Hid (∀ V, Below Z.heap.size Z V → Calls Try.prog 115 #[plV p.low (.slice ak mp ck), .int .i64 (-1), plV q.low (.slice ak2 mq ck2)] V fun e w' => ∃ a c, e = .returned (plV S.low (.slice a sl c)) ∧ Ints w' a sl S.cs ∧ Below V.heap.size V w') := Lib.hid fun V hV => by
                have hwV := hwZ.trans (hV.mono hwZ.size)
                obtain ⟨_, h1, h2, h3, hx⟩ := polyB_trim hPB
                obtain ⟨_, h4, h5, h6, hy⟩ := polyB_trim hQB
                refine (l6pSum_any p.low q.low (-1) p.cs q.cs ak ak2 ck ck2 mp mq V (hJ.below hwV) (hJ2.below hwV) hle (by omega) (by omega) (by omega) (by omega) (fun i => by have := hx i; omega) (fun i => by have := hy i; omega)).mono ?_
                rw [show sumP ⟨p.low, p.cs⟩ (-1) ⟨q.low, q.cs⟩ = S from hS]
                rintro e w' ⟨⟨v, rfl, hrd⟩, hB⟩
                obtain ⟨a3, c3, rfl, _, hi3⟩ := hrd
                rw [hsl] at hi3 ⊢
                exact ⟨_, _, rfl, hi3, hB⟩
              have HDN : Hid (∀ (V : World) (a : Option Addr) (c : Nat), Ints V a sl S.cs → Calls Try.prog 114 #[plV S.low (.slice a sl c)] V fun e w' => ∃ a c, e = .returned (.tuple #[plV R.low (.slice a L c), .bool bb]) ∧ IntRow V.heap.size w' (.slice a L c) R.cs ∧ Below V.heap.size V w') := Lib.hid fun V a c hi => by
                refine (l6pDone_any S.low S.cs a c sl bb V hi (by omega) hbb).mono ?_
                rw [show doneP bb ⟨S.low, S.cs⟩ = R from hR]
                rintro e w' ⟨⟨v, rfl, hr⟩, hB⟩
                obtain ⟨a3, _, c3, rfl, _⟩ := hr.shape
                rw [hLR] at hr ⊢
                exact ⟨_, _, rfl, hr, hB⟩
              have HBk : Hid (Below Z.heap.size Z Z) := Lib.hid (Below.refl _ _)
              clear q1 hBU hwZ
              obtain ⟨⟨k0, k1, k2, k3, k4, k5⟩, ⟨m1, m2⟩, ⟨m3, m4⟩, ⟨m5, m6⟩, ⟨m7, m8⟩, ⟨m9, m10⟩, ⟨m11, m12⟩, ⟨m13, m14⟩, m15, m16⟩ := HK.out Z (Below.refl _ _)
              clear c0 c1 c2 c3 c4 c5 hJ hJ2 hle hle2 hp hq hmp hmq hbb hR hLR hxb hyb hxb2 hyb2 hPB hQB hS hsl
              go_upto_region 11 with fail
              go_cut [10, 11] (fun s1 s2 wx => AnsMk Z wx s1 s2 R.low R.cs L bb)
              case first =>
                go_region_held3 (fun w' : World => w'.cell? (xa.add k) = some (.slice (some y) ma ci) ∧ w'.cell? (y.add (l * 2)) = some (.int .i64 p.low) ∧ w'.cell? ⟨(y.add (l * 2)).block, (y.add (l * 2)).off + 1, none⟩ = some (.slice ak mp ck) ∧ w'.cell? (xb.add k) = some (.slice (some y2) ma ci2) ∧ w'.cell? (y2.add (l * 2)) = some (.int .i64 q.low) ∧ w'.cell? ⟨(y2.add (l * 2)).block, (y2.add (l * 2)).off + 1, none⟩ = some (.slice ak2 mq ck2)) (first | go_keep | exact ⟨k0, k1, k2, k3, k4, k5⟩)
                  (first
                    | (go_at_call 115
                       with_reducible refine (HSUM.out _ (by first | exact HBk.out.drew | exact (HBk.out.alloc HBk.out.size _).drew | exact HBk.out | exact HBk.out.alloc HBk.out.size _)).mono ?_
                       rintro e V ⟨aS, cS, rfl, his, hbv⟩
                       have HI := Lib.hid his
                       clear his
                       have hbn : Below Z.heap.size Z V := by
                         first
                         | exact HBk.out.trans (hbv.mono HBk.out.size)
                         | exact HBk.out.drew.trans (hbv.mono HBk.out.size)
                         | exact below_alloc HBk.out HBk.out.size hbv
                         | exact below_drewAlloc HBk.out HBk.out.size hbv
                       first
                       | (have HZ : Hid (BoxZ V Z.heap.size) := Lib.hid (BoxZ.of (w := Z.drew) hbv); have HZL := Lib.hid (Nat.le_refl Z.heap.size); obtain ⟨_, y0, y1, y2, y3⟩ := HZ.out)
                       | (have HZ : Hid (BoxZ V Z.heap.size) := Lib.hid (BoxZ.ofd (w := Z) hbv); have HZL := Lib.hid (Nat.le_refl Z.heap.size); obtain ⟨_, y0, y1, y2, y3⟩ := HZ.out)
                       | (have HZ := Lib.hid (BoxZ.of hbv); have HZL := Lib.hid HBk.out.size; obtain ⟨_, y0, y1, y2, y3⟩ := HZ.out)
                       | (have HZ' := Lib.hid (HZ.out.below hbv); clear HZ y0 y1 y2 y3; have HZ := HZ'; clear HZ'; obtain ⟨_, y0, y1, y2, y3⟩ := HZ.out)
                       | skip
                       obtain ⟨⟨k0, k1, k2, k3, k4, k5⟩, ⟨o1, o2⟩, ⟨o3, o4⟩, ⟨o5, o6⟩, ⟨o7, o8⟩, ⟨o9, o10⟩, ⟨o11, o12⟩, ⟨o13, o14⟩, o15, o16⟩ := HK.out V hbn
                       clear HBk
                       have HBk := Lib.hid hbn
                       clear hbv hbn)
                    | (go_at_call 114
                       with_reducible refine (HDN.out _ _ _ (by first | exact HI.out | exact HI.out.below ((Below.refl _ _).alloc (Nat.le_refl _) _))).mono ?_
                       rintro e V ⟨aq, cq, rfl, hoq, hbv⟩
                       have HOG := Lib.hid (own_ge hoq)
                       have HRQ := Lib.hid hoq
                       have HBS := Lib.hid HBk.out.size
                       clear hoq HI
                       have hbn : Below Z.heap.size Z V := by
                         first
                         | exact HBk.out.trans (hbv.mono HBk.out.size)
                         | exact HBk.out.drew.trans (hbv.mono HBk.out.size)
                         | exact below_alloc HBk.out HBk.out.size hbv
                         | exact below_drewAlloc HBk.out HBk.out.size hbv
                       first
                       | (have HZ : Hid (BoxZ V Z.heap.size) := Lib.hid (BoxZ.of (w := Z.drew) hbv); have HZL := Lib.hid (Nat.le_refl Z.heap.size); have HZO := Lib.hid (BoxZ.lt hbv); obtain ⟨_, y0, y1, y2, y3⟩ := HZ.out)
                       | (have HZ : Hid (BoxZ V Z.heap.size) := Lib.hid (BoxZ.ofd (w := Z) hbv); have HZL := Lib.hid (Nat.le_refl Z.heap.size); have HZO := Lib.hid (BoxZ.lt hbv); obtain ⟨_, y0, y1, y2, y3⟩ := HZ.out)
                       | (have HZ := Lib.hid (BoxZ.of hbv); have HZL := Lib.hid HBk.out.size; have HZO := Lib.hid (BoxZ.lt hbv); obtain ⟨_, y0, y1, y2, y3⟩ := HZ.out)
                       | (have HZO := Lib.hid HZ.out.1; have HZ' := Lib.hid (HZ.out.below hbv); clear HZ y0 y1 y2 y3; have HZ := HZ'; clear HZ'; obtain ⟨_, y0, y1, y2, y3⟩ := HZ.out)
                       | skip
                       obtain ⟨⟨k0, k1, k2, k3, k4, k5⟩, ⟨o1, o2⟩, ⟨o3, o4⟩, ⟨o5, o6⟩, ⟨o7, o8⟩, ⟨o9, o10⟩, ⟨o11, o12⟩, ⟨o13, o14⟩, o15, o16⟩ := HK.out V hbn
                       clear HBk
                       have HBk := Lib.hid hbn
                       clear hbv hbn))
                all_goals (go_wp2_with fail; go_meet)
                all_goals first
                  | exact ansA HBk.out HRQ.out (by have := HBS.out; first | exact this | (simp; done) | (simp; omega))
                  | exact ansC HBk.out HRQ.out (by have := HBS.out; first | exact this | (simp; done) | (simp; omega)) HZ.out HZL.out (fun k e => by have h1 := HOG.out k e; have h2 := HZO.out; first | omega | (simp at h1; omega) | (simp [World.drew] at h1; omega))
              case rest =>
              obtain ⟨j6, a6, c6, hs1, hs2', hbox, hj6, how, hnew, hb3⟩ := hcut
              subst hs1
              subst hs2'
              clear HBk k0 k1 k2 k3 k4 k5 m1 m2 m3 m4 m5 m6 m7 m8 m9 m10 m11 m12 m13 m14 m15 m16
              obtain ⟨w5, hwq⟩ : ∃ X, wc = X := ⟨_, rfl⟩
              rw [hwq] at hbox how hb3 ⊢
              clear hwq
              obtain ⟨hj6w, g0, g1⟩ := hbox
              cases bb with
              | false =>
                have HN : Hid (lessM A B = none) := Lib.hid (by
                  rw [HTM.out, gridO_none]
                  exact ⟨k, l, hlt, hlt2, HF.out⟩)
                have hq := HWZ.out.trans (hb3.mono HWZ.out.size)
                have HQ := Lib.hid hq
                clear how hnew hb3 hq g0 g1
                go_wp2
                go_ret2
                rw [HN.out]
                exact ⟨⟨_, [], rfl, (OwnM.made w5).mono HQ.out.size, rfl⟩, HQ.out.alloc HQ.out.size _⟩
              | true =>
                have hr5 : IntRow Z.heap.size w5 (.slice a6 L c6) R.cs := how
                have hW3 := HW1.out.below hb3
                have hrow3 := hW3.row
                rw [HLL.out] at hrow3
                have hbA3 := hb3.trans (((Below.refl w5.heap.size w5).alloc (Nat.le_refl _) (.cells #[.int .i64 R.low, .slice a6 L c6] PO)).mono hb3.size)
                have HR3 := Lib.hid (hr5.below ((Below.refl w5.heap.size w5).alloc (Nat.le_refl _) (.cells #[.int .i64 R.low, .slice a6 L c6] PO)))
                have HNEWS := Lib.hid (heap_alloc_new w5 (.cells #[.int .i64 R.low, .slice a6 L c6] PO))
                have HSZA : Hid ((w5.alloc (.cells #[.int .i64 R.low, .slice a6 L c6] PO)).heap.size = w5.heap.size + 1) := Lib.hid (by simp)
                have HROWA := Lib.hid (hrow3.alloc (.cells #[.int .i64 R.low, .slice a6 L c6] PO))
                have HBA3 := Lib.hid hbA3
                clear how hnew hb3 hr5 hW3 hrow3 hbA3
                go_wp2_with (at_builtin; refine wpList_append_lies _ rfl _ _ _ rfl U.heap.size PO p0 _ 2 32 Try.underlying28 hp0 hp1 hp2 hp3 rfl (by omega) (.slice au l cu) l (cellsP xs) rfl HROWA.out ⟨w5.heap.size, 0, none⟩ 1 1 [.int .i64 R.low, .slice a6 L c6] rfl rfl (World.news_of_block (cs := #[.int .i64 R.low, .slice a6 L c6]) (t := PO) (fr := (0, 0)) HNEWS.out) (by simp [Value.oneCell']) (by omega) (by unfold maxLen; omega) (by omega) (by rw [HSZA.out]; omega) (w5.heap.size + 1) HSZA.out ?_; intro g1 cap1 w4 hown hgrow hat hlt4)
                have hB4 : Below U.heap.size U w4 := (HBUr.out.trans (HBA3.out.mono HBUr.out.size)).grown hgrow (Nat.le_trans HBUr.out.size HBA3.out.size) fun b e => (ownsRow_lt HROWA.out b e).1
                have HW4 := Lib.hid (HW1.out.push (p := R) HBA3.out HR3.out HBUr.out.size (by rw [HLL.out]; exact hown) hgrow rfl (hat.imp id fun e => by rw [e, HSZA.out]; omega))
                have HO4 := Lib.hid (rowO_next (v := .slice a6 L c6) HO.out (show lessF A B k l = some R from HF.out))
                clear hown hgrow hat hlt4
                go_wp2
                go_roundw
                case rel => exact ⟨l + 1, _, by omega, by go_num, HO4, HW4, hB4⟩
                case measure => simp [intOf]; omega
            · obtain rfl : l = ma := by omega
              have HBUr := Lib.hid hBU
              have hUr := hBU.size
              have HRr := Lib.hid (HR.out.below hBU)
              have hrowr := HRr.out.row
              rw [HKL.out] at hrowr
              have HROW := Lib.hid hrowr
              have HWU := Lib.hid (HBU.out.size)
              clear hBU hrowr hwZ
              have hwU := HWU.out
              go_wp2_with (at_builtin; refine wpList_append_lies _ rfl _ _ _ rfl w.heap.size PR i0 _ 1 24 Try.underlying23 hi0 hi1 hi2 hi3 rfl (by omega) (.slice av k cv) k (rs.map (·.u)) rfl (HROW.out.alloc _) ⟨Z.heap.size, 0, none⟩ 1 1 [.slice au l cu] rfl rfl (World.news_of_block (cs := #[.slice au l cu]) (t := PR) (fr := (0, 0)) (heap_alloc_new Z _)) (by simp [Value.oneCell']) (by omega) (by unfold maxLen; omega) (by omega) (by simp; omega) (Z.heap.size + 1) (by simp) ?_; intro g1 cap1 w4 hown hgrow hat hlt4)
              have hbA4 : Below U.heap.size U (Z.alloc (.cells #[.slice au l cu] PR)) := HBUr.out.alloc hUr _
              have hB4 : Below w.heap.size w w4 := (HBU.out.trans (hbA4.mono HBU.out.size)).grown hgrow (Nat.le_trans HBU.out.size hbA4.size) fun b e => (ownsRow_lt HROW.out b e).1
              have HW4 := Lib.hid (HR.out.push (r := ⟨.slice au l cu, xs⟩) hbA4 (HW1.out.below ((Below.refl _ Z).alloc (Nat.le_refl _) _)) HBU.out.size (by rw [HKL.out]; exact hown) hgrow rfl (hat.imp id fun e => by rw [e]; simp))
              have HG4 := Lib.hid (gridO_next (f := lessF A B) (u := .slice au l cu) HG.out HO.out)
              clear hown hgrow hat hlt4 hbA4
              go_wp2
              go_roundw
              case rel => exact ⟨k + 1, _, by omega, by go_num, HG4, HW4, hB4⟩
              case measure => simp [intOf]; omega
        · obtain rfl : k = na := by omega
          have HBr := Lib.hid hB
          clear hB
          go_wp2
          go_ret2
          exact IM.yes (by rw [HTM.out]; exact HG.out) HR.out rfl HBr.out

end Go.Proofs.Ytbbkpaledlbcmaa

/- The contracts of the laws' own helpers that mark memory and look the marks up. -/

namespace Go.Proofs.Ytbbkpaledlbcmaa
open Go.RowKit Go.Shelf

/-- A term is stored: its two cells. -/
theorem set_terms (us : List Tm) (i : Nat) (t : Tm) (hi : i < us.length) : ((termsV us).set (i * 2) (.int .i64 t.c)).set (i * 2 + 1) (.string t.s) = termsV (us.set i t) := by
  have e : us = us.take i ++ us[i] :: us.drop (i + 1) := by rw [List.getElem_cons_drop]; exact (List.take_append_drop i us).symm
  have hl : (termsV (us.take i)).length = i * 2 := by rw [termsV_len, List.length_take, Nat.min_eq_left (by omega)]
  have hset : us.set i t = us.take i ++ t :: us.drop (i + 1) := by rw [List.set_eq_take_append_cons_drop, if_pos hi]
  rw [hset]
  have e2 : termsV us = termsV (us.take i) ++ .int .i64 us[i].c :: .string us[i].s :: termsV (us.drop (i + 1)) := by
    rw [← termsV_cons, ← termsV_append, ← e]
  rw [e2, termsV_append, termsV_cons, List.set_append_right _ _ (by omega), List.set_append_right _ _ (by omega), hl, Nat.sub_self, show i * 2 + 1 - i * 2 = 1 by omega]
  rfl

/-- The text of a mark. -/
def mkB (m : Nat) (t : ByteArray) : ByteArray :=
  if _h : m = 0 then t else mkB (m / 10) (⟨#[UInt8.ofNat (48 + m % 10)]⟩ ++ t)
termination_by m
decreasing_by omega
theorem mkB_zero (t : ByteArray) : mkB 0 t = t := by rw [mkB]; simp
theorem mkB_step {m : Nat} (h : m ≠ 0) (t : ByteArray) : mkB (m / 10) (⟨#[UInt8.ofNat (48 + m % 10)]⟩ ++ t) = mkB m t := by conv => rhs; rw [mkB, dif_neg h]
def mkS (k : Nat) : ByteArray := ⟨#[109]⟩ ++ mkB k ⟨#[]⟩

set_option maxRecDepth 100000 in
set_option maxHeartbeats 1000000 in
theorem markText_any (k : Nat) (w : World) (hk0 : 0 < k) (hk : k ≤ 100000000) :
    Calls Try.prog 180 #[.int .i64 k] w fun e w' => e = .returned (.string (mkS k)) ∧ Below w.heap.size w w' := by
  have hk1 : ¬ k = 0 := by omega
  have hk2 : decide (k = 0) = false := decide_eq_false hk1
  go_enter Try.func180, Try.ntmps180
  go_wp2
  go_loopw [0, 3] (fun p s wr => ∃ (m : Nat) (t : ByteArray), p = .int .i64 m ∧ s = .string t ∧ Hid (mkB m t = mkB k ⟨#[]⟩) ∧ t.size + m ≤ k ∧ Hid (Below w.heap.size w wr)) (fun p _ _ => (intOf p).toNat)
  case atStart => exact ⟨k, ⟨#[]⟩, rfl, rfl, Lib.hid rfl, Nat.le_of_eq (Nat.zero_add k), Lib.hid (Below.refl _ _)⟩
  case round =>
    obtain ⟨m, t, rfl, rfl, HM, hsz, HB⟩ := hrel
    by_cases hm : m = 0
    · subst hm
      go_wp2
      go_ret
      refine ⟨?_, HB.out⟩
      rw [mkS, ← HM.out, mkB_zero]
      rfl
    · have hm0 : 0 < m := by omega
      have hlt : m % 10 < 10 := Nat.mod_lt _ (by omega)
      have hval : ((UInt8.ofNat (48 + m % 10)).toNat : Int) = 48 + (m : Int) % 10 := by
        rw [UInt8.toNat_ofNat']
        rw [Nat.mod_eq_of_lt (by omega)]
        omega
      have hconv : (convert 22 9 (.slice (some ⟨wr.heap.size, 0, none⟩) 1 1)).run Try.prog (wr.alloc (.cells #[.int .u8 (48 + (m : Int) % 10)] 5)) = .ok (.string ⟨#[UInt8.ofNat (48 + m % 10)]⟩) (wr.alloc (.cells #[.int .u8 (48 + (m : Int) % 10)] 5)) := by
        have := run_convert_bytes_back (P := Try.prog) (wr.alloc (.cells #[.int .u8 (48 + (m : Int) % 10)] 5)) 22 9 5 ⟨wr.heap.size, 0, none⟩ 1 [UInt8.ofNat (48 + m % 10)] Try.underlying22 Try.underlying5 Try.underlying9 (fun j hj => by
          have hj0 : j = 0 := by simp at hj; exact hj
          subst hj0
          show (wr.alloc _).cell? ((⟨wr.heap.size, 0, none⟩ : Addr).add 0) = some (.int .u8 ((UInt8.ofNat (48 + m % 10)).toNat : Int))
          rw [hval]
          exact cell_one_new _ _ _ 0 _ rfl)
        exact this
      have hrange : 0 ≤ 48 + (m : Int) % 10 ∧ 48 + (m : Int) % 10 ≤ 255 := by omega
      have hsz2 : ((⟨#[UInt8.ofNat (48 + m % 10)]⟩ : ByteArray) ++ t).size = 1 + t.size := by simp [ByteArray.size_append]; rfl
      obtain ⟨c, hc⟩ : ∃ c : ByteArray, (⟨#[UInt8.ofNat (48 + m % 10)]⟩ : ByteArray) = c := ⟨_, rfl⟩
      rw [hc] at hconv hsz2
      have HCC := Lib.hid hc
      have HVAL := Lib.hid hval
      have HSZ2 := Lib.hid hsz2
      have hcs : c.size = 1 := by rw [← hc]; rfl
      have hnot : ¬ 9223372036854775807 < c.size + t.size := by omega
      clear hc hval hsz2 hcs
      go_wp2
      go_roundw
      case rel =>
        refine ⟨m / 10, c ++ t, by go_num, rfl, Lib.hid ?_, by rw [HSZ2.out]; omega, Lib.hid (HB.out.alloc HB.out.size _)⟩
        rw [← HM.out, ← HCC.out]
        exact mkB_step hm t
      case measure => simp [intOf]; omega

end Go.Proofs.Ytbbkpaledlbcmaa

/- The contracts of the laws' 'markTermS' and 'heldTermS'. -/

namespace Go.Proofs.Ytbbkpaledlbcmaa
open Go.RowKit Go.Shelf

def markT (k i : Nat) : Tm := ⟨((k + 2 * i : Nat) : Int), mkS (k + 2 * i + 1)⟩
/-- The marks from k on. -/
def marksT (k n : Nat) : List Tm := (List.range n).map (markT k)
theorem marksT_len (k n : Nat) : (marksT k n).length = n := by simp [marksT]
theorem marksT_get (k n i : Nat) (h : i < (marksT k n).length) : (marksT k n)[i] = markT k i := by simp [marksT]
theorem marksT_set (k j n : Nat) (us : List Tm) (hl : us.length = n) (hj : j < n) : (marksT k j ++ us.drop j).set j (markT k j) = marksT k (j + 1) ++ us.drop (j + 1) := by
  rw [List.set_append_right _ _ (by rw [marksT_len]; exact Nat.le_refl _), marksT_len, Nat.sub_self, List.drop_eq_getElem_cons (by omega : j < us.length), List.set_cons_zero]
  unfold marksT
  rw [List.range_succ, List.map_append, List.append_assoc]
  rfl

theorem ownsRow_past {w w' : World} {base : Nat} {e : TypeId} {size : Nat} {v : Value} {n : Nat} {xs : List Value} (h : w.ownsRow base e size v n xs) (hb : Below w.heap.size w w') : w'.ownsRow base e size v n xs :=
  h.kept ⟨hb.os, hb.tape, hb.output, hb.size, fun j hj _ => hb.block j hj⟩ (row := none) (by
    rcases h.2 with ⟨rfl, _⟩ | ⟨g, cap, cur, rfl, _⟩
    · exact .inl rfl
    · exact .inr (by simp [Value.ownBlock]))
theorem marksT_row (k j n : Nat) (us : List Tm) (hl : us.length = n) (hj : j < n) :
    ((termsV (marksT k j ++ us.drop j)).set (j * 2) (.int .i64 ((k + 2 * j : Nat) : Int))).set (j * 2 + 1) (.string (mkS (k + 2 * j + 1))) = termsV (marksT k (j + 1) ++ us.drop (j + 1)) := by
  rw [← marksT_set k j n us hl hj]
  exact set_terms _ j (markT k j) (by rw [List.length_append, marksT_len, List.length_drop]; omega)

theorem grown_trans {a b c : World} {row : Option Nat} (h : a.grownBy b row) (k : b.grownBy c row) : a.grownBy c row :=
  ⟨k.os.trans h.os, k.tape.trans h.tape, k.output.trans h.output, Nat.le_trans h.size k.size, fun i hi hne => (k.block i (Nat.lt_of_lt_of_le hi h.size) hne).trans (h.block i hi hne)⟩
theorem grown_refl (a : World) (row : Option Nat) : a.grownBy a row := ⟨rfl, rfl, rfl, Nat.le_refl _, fun _ _ _ => rfl⟩
theorem grown_below {a b : World} (row : Option Nat) (h : Below a.heap.size a b) : a.grownBy b row := ⟨h.os, h.tape, h.output, h.size, fun i hi _ => h.block i hi⟩
theorem mkB_size : ∀ (m : Nat) (t : ByteArray), (mkB m t).size ≤ t.size + m := by
  intro m
  induction m using Nat.strongRecOn with
  | _ m ih =>
    intro t
    by_cases h : m = 0
    · subst h; rw [mkB_zero]; exact Nat.le_refl _
    · rw [← mkB_step h]
      have h1 := ih (m / 10) (by omega) (⟨#[UInt8.ofNat (48 + m % 10)]⟩ ++ t)
      have h2 : ((⟨#[UInt8.ofNat (48 + m % 10)]⟩ : ByteArray) ++ t).size = 1 + t.size := by simp [ByteArray.size_append]; rfl
      omega
theorem mkS_size (k : Nat) : (mkS k).size ≤ k + 1 := by
  have h := mkB_size k ⟨#[]⟩
  have h0 : (⟨#[]⟩ : ByteArray).size = 0 := rfl
  have h1 : (mkS k).size = 1 + (mkB k ⟨#[]⟩).size := by unfold mkS; simp [ByteArray.size_append]; rfl
  omega
theorem marksT_small (k n : Nat) (hk : k ≤ 1000000) (hn : n ≤ 1048576) : SmallT (marksT k n) :=
  ⟨by rw [marksT_len]; unfold maxLen; omega, fun t ht => by
    unfold marksT at ht
    obtain ⟨i, hi, rfl⟩ := List.mem_map.1 ht
    have hi := List.mem_range.1 hi
    have := mkS_size (k + 2 * i + 1)
    unfold markT maxLen
    dsimp only
    omega⟩

def marksS (k n : Nat) : List ByteArray := (List.range n).map fun i => mkS (k + i)
theorem marksS_len (k n : Nat) : (marksS k n).length = n := by simp [marksS]
theorem marksS_set (k j n : Nat) (us : List ByteArray) (hl : us.length = n) (hj : j < n) : (strsV (marksS k j ++ us.drop j)).set j (.string (mkS (k + j))) = strsV (marksS k (j + 1) ++ us.drop (j + 1)) := by
  have h1 : (marksS k j ++ us.drop j).set j (mkS (k + j)) = marksS k (j + 1) ++ us.drop (j + 1) := by
    rw [List.set_append_right _ _ (by rw [marksS_len]; exact Nat.le_refl _), marksS_len, Nat.sub_self, List.drop_eq_getElem_cons (by omega : j < us.length), List.set_cons_zero]
    unfold marksS
    rw [List.range_succ, List.map_append, List.append_assoc]
    rfl
  rw [← h1]
  unfold strsV
  rw [List.map_set]
def OwnS (base : Nat) (w : World) (v : Value) (zs : List ByteArray) : Prop := w.ownsRow base 9 1 v zs.length (strsV zs)
theorem OwnS.below {base : Nat} {w w' : World} {v : Value} {zs : List ByteArray} (h : OwnS base w v zs) (hb : Below w.heap.size w w') : OwnS base w' v zs := ownsRow_past h hb

set_option maxRecDepth 100000 in
set_option maxHeartbeats 2000000 in
theorem markStringS_any (base k : Nat) (v : Value) (us : List ByteArray) (w : World) (h : OwnS base w v us) (hn : us.length ≤ 1048576) (hk0 : 0 < k) (hk : k ≤ 10000000) :
    Calls Try.prog 141 #[v, .int .i64 k] w fun e w' => e = .returned (.int .i64 ((k + us.length : Nat) : Int)) ∧ OwnS base w' v (marksS k us.length) ∧ w.grownBy w' v.ownBlock := by
  obtain ⟨a, cap, rfl⟩ : ∃ a cap, v = .slice a us.length cap := by
    rcases h.2 with ⟨rfl, h0⟩ | ⟨g, cap, cur, rfl, _⟩
    · exact ⟨none, 0, by rw [h0]⟩
    · exact ⟨_, _, rfl⟩
  obtain ⟨n, hl⟩ : ∃ n, us.length = n := ⟨_, rfl⟩
  unfold OwnS at h ⊢
  rw [hl] at h hn ⊢
  rw [marksS_len]
  have HH := Lib.hid h
  have HL := Lib.hid hl
  clear h hl
  go_enter Try.func141, Try.ntmps141
  go_wp2
  go_loopw [1, 5] (fun q i wr => ∃ j : Nat, j ≤ n ∧ q = .int .i64 ((k + j : Nat) : Int) ∧ i = .int .i64 j ∧ Hid (wr.ownsRow base 9 1 (.slice a n cap) n (strsV (marksS k j ++ us.drop j))) ∧ Hid (w.grownBy wr (Value.slice a n cap).ownBlock)) (fun _ i _ => n - (intOf i).toNat)
  case atStart => exact ⟨0, Nat.zero_le _, rfl, rfl, Lib.hid (by simpa [marksS] using HH.out), Lib.hid (grown_refl _ _)⟩
  case round =>
    obtain ⟨j, hj, rfl, rfl, HR, HB⟩ := hrel
    by_cases hlt : j < n
    · obtain ⟨g, rfl, hg⟩ : ∃ g, a = some ⟨g, 0, none⟩ ∧ base ≤ g := by
        rcases HR.out.2 with ⟨_, e1⟩ | ⟨g, cap1, cur, e0, hg, _⟩
        · omega
        · simp only [Value.slice.injEq] at e0; exact ⟨g, e0.1, hg⟩
      obtain ⟨m, hm⟩ : ∃ m, k + j = m := ⟨_, rfl⟩
      have hm1 : m ≤ 20000000 := by omega
      have hm0 : 0 < m := by omega
      rw [hm]
      have HM := Lib.hid hm
      clear hm
      go_wp2_with fail
      refine (markText_any m _ (by omega) (by omega)).mono ?_
      rintro e w4 ⟨rfl, hb4⟩
      have hr4 := ownsRow_past HR.out hb4
      have hxl : (strsV (marksS k j ++ us.drop j)).length = n := by rw [strsV_len, List.length_append, marksS_len, List.length_drop, HL.out]; omega
      have hd1 : ∃ u, w4.cell? ⟨g, j, none⟩ = some u := by rw [hr4.cellAt _ (by omega)]; exact ⟨_, List.getElem?_eq_getElem (by omega)⟩
      obtain ⟨u1, hu1⟩ := hd1
      have hf1 := hr4.frozenAt j
      have HR4 := Lib.hid hr4
      have HB4 := Lib.hid (grown_trans HB.out (grown_below _ hb4))
      clear hr4 hb4 hxl
      go_wp2
      go_roundw
      case rel =>
        refine ⟨j + 1, by omega, by have := HM.out; go_num, by go_num, Lib.hid ?_, Lib.hid (grown_trans HB4.out (HR4.out.stored j (.string (mkS m))).2)⟩
        rw [← marksS_set k j n us HL.out hlt, HM.out]
        exact (HR4.out.stored j (.string (mkS m))).1
      case measure => simp [intOf]; omega
    · obtain rfl : j = n := by omega
      go_wp2
      go_ret
      refine ⟨rfl, ?_, HB.out⟩
      have := HR.out
      rw [List.drop_of_length_le (by rw [HL.out]; exact Nat.le_refl _), List.append_nil] at this
      exact this

end Go.Proofs.Ytbbkpaledlbcmaa

/- The contract of the laws' 'heldStringS'. -/

namespace Go.Proofs.Ytbbkpaledlbcmaa
open Go.RowKit Go.Shelf

theorem marksS_get (k n i : Nat) (h : i < (marksS k n).length) : (marksS k n)[i] = mkS (k + i) := by simp [marksS]
theorem marksS_small (k n : Nat) (hk : k ≤ 1000000) (hn : n ≤ 1048576) : ∀ s ∈ marksS k n, s.size ≤ maxLen := fun t ht => by
  unfold marksS at ht
  obtain ⟨i, hi, rfl⟩ := List.mem_map.1 ht
  have hi := List.mem_range.1 hi
  have := mkS_size (k + i)
  unfold maxLen
  omega

set_option maxRecDepth 100000 in
set_option maxHeartbeats 2000000 in
theorem heldStringS_any (k : Nat) (a : Option Addr) (cap n : Nat) (w : World) (hs : StrsAt w a (marksS k n)) (hn : n ≤ 1048576) (hk0 : 0 < k) (hk : k ≤ 1000000) :
    Calls Try.prog 152 #[.slice a n cap, .int .i64 k] w fun e w' => e = .returned (.int .i64 ((k + n : Nat) : Int)) ∧ Below w.heap.size w w' := by
  have HS := Lib.hid hs
  have hmx : Try.prog.follows .mixedOrders = true := by kernel_rfl
  clear hs
  go_enter Try.func152, Try.ntmps152
  go_wp2
  go_loopw [1, 5] (fun q i wr => ∃ j : Nat, j ≤ n ∧ q = .int .i64 ((k + j : Nat) : Int) ∧ i = .int .i64 j ∧ Below w.heap.size w wr) (fun _ i _ => n - (intOf i).toNat)
  case atStart => exact ⟨0, Nat.zero_le _, rfl, rfl, Below.refl _ _⟩
  case round =>
    obtain ⟨j, hj, rfl, rfl, hB⟩ := hrel
    by_cases hlt : j < n
    · obtain ⟨x, rfl, hb, hc⟩ := HS.out.cells (by rw [marksS_len]; omega)
      have hcj := (hB.cell (p := x.add j) (by rw [addr_add_block]; exact hb)).trans (hc j (by rw [marksS_len]; exact hlt))
      rw [marksS_get] at hcj
      obtain ⟨m, hm⟩ : ∃ m, k + j = m := ⟨_, rfl⟩
      have hm1 : m ≤ 4000000 := by omega
      have hm0 : 0 < m := by omega
      rw [hm] at hcj ⊢
      have hbx := Nat.lt_of_lt_of_le hb hB.size
      have v1 := BelowBy.cell (w := wr) (by show (x.add j).block < _; rw [addr_add_block]; exact hbx) hcj
      have HT : Hid (∀ W : World, Calls Try.prog 180 #[.int .i64 (m : Int)] W fun e w' => e = .returned (.string (mkS m)) ∧ Below W.heap.size W w') :=
        Lib.hid fun W => markText_any m W (by omega) (by omega)
      have HM := Lib.hid hm
      clear hm hc hcj
      go_wp2
      refine wp_region_below hmx (by kernel_rfl) ?_
      repeat (((with_reducible refine wpQuiet_step (fun K hK => ?_)); go_simp; first | ((with_reducible refine hK _ ?_); clear hK K) | (refine (if_neg (by decide)).mpr ?_; (with_reducible refine hK _ ?_); clear hK K) | (apply Exists.intro; (with_reducible refine ⟨fun _ => ?_, hK _ ?_⟩); (go_at_call 180; exact Calls.bel (HT.out _)); clear hK K)))
      with_reducible refine wpQuiet_nil ?_
      rintro W ⟨⟨W, hW⟩, rfl⟩
      clear v1
      have hBW : Below w.heap.size w W := hB.trans (hW.mono hB.size)
      change Exit.then _ _ _ _ W
      go_wp2
      go_roundw
      case rel => exact ⟨j + 1, by omega, by have := HM.out; go_num, by go_num, hBW⟩
      case measure => simp [intOf]; omega
    · obtain rfl : j = n := by omega
      go_wp2
      go_ret
      exact ⟨rfl, hB⟩

end Go.Proofs.Ytbbkpaledlbcmaa

/- Texts that are owned, read as a list of texts. -/

namespace Go.Proofs.Ytbbkpaledlbcmaa
open Go.RowKit Go.Shelf

theorem OwnS.at_ {base : Nat} {w : World} {a : Option Addr} {n c : Nat} {us : List ByteArray} (h : OwnS base w (.slice a n c) us) (hs : ∀ z ∈ us, z.size ≤ maxLen) : StrsAt w a us := by
  rcases h.2 with ⟨e, h0⟩ | ⟨g, cap, cur, e, h1⟩
  · refine ⟨fun h2 => ?_, hs⟩
    omega
  · have h' := h
    simp only [Value.slice.injEq] at e
    obtain ⟨rfl, rfl, rfl⟩ := e
    exact (strsAt_of_owns rfl h' hs).1
theorem OwnS.strs {base : Nat} {w : World} {v : Value} {us : List ByteArray} (h : OwnS base w v us) (hs : ∀ z ∈ us, z.size ≤ maxLen) : ∃ a c, v = .slice a us.length c ∧ StrsAt w a us := by
  rcases h.2 with ⟨rfl, h0⟩ | ⟨g, cap, cur, rfl, h1⟩
  · exact ⟨none, 0, by rw [h0], OwnS.at_ h hs⟩
  · exact ⟨_, _, rfl, OwnS.at_ h hs⟩

end Go.Proofs.Ytbbkpaledlbcmaa

/- The laws' own helpers for groups: szGroup, toGroup, eqGroup, markGroup, heldGroup. -/

namespace Go.Proofs.Ytbbkpaledlbcmaa
open Go.RowKit Go.Shelf Go.ChangeShapes Go.WideShapes

/-- The slice v is a row of the texts zs of one's own, none of them too long. -/
def GRow (base : Nat) (w : World) (v : Value) (zs : List ByteArray) : Prop := OwnS base w v zs ∧ Hid (∀ z ∈ zs, z.size ≤ maxLen)
theorem GRow.below {base : Nat} {w w' : World} {v : Value} {zs : List ByteArray} (h : GRow base w v zs) (hb : Below w.heap.size w w') : GRow base w' v zs := ⟨OwnS.below h.1 hb, h.2⟩
theorem GRow.grown {base : Nat} {w w' : World} {v : Value} {zs : List ByteArray} {row : Option Nat} (h : GRow base w v zs) (hg : w.grownBy w' row) (hne : ∀ j, v.ownBlock = some j → row ≠ some j) : GRow base w' v zs :=
  ⟨World.ownsRow.kept h.1 hg (by
    rcases h.1.2 with ⟨rfl, _⟩ | ⟨g, cap, cur, rfl, _⟩
    · exact .inl rfl
    · exact .inr fun e => hne g rfl e.symm), h.2⟩
theorem GRow.shape {base : Nat} {w : World} {v : Value} {zs : List ByteArray} (h : GRow base w v zs) : ∃ (a : Option Addr) (_g cap : Nat), v = .slice a zs.length cap ∧ True := by
  rcases h.1.2 with ⟨rfl, h0⟩ | ⟨g, cap, cur, rfl, _⟩
  · exact ⟨none, 0, 0, by rw [h0], trivial⟩
  · exact ⟨_, 0, cap, rfl, trivial⟩
theorem GRow.strs {base : Nat} {w : World} {v : Value} {zs : List ByteArray} (h : GRow base w v zs) : ∃ a c, v = .slice a zs.length c ∧ StrsAt w a zs := OwnS.strs h.1 h.2.out
theorem GRow.mono {b1 b2 : Nat} {w : World} {v : Value} {zs : List ByteArray} (h : GRow b1 w v zs) (hb : b2 ≤ b1) : GRow b2 w v zs := ⟨ownsRow_base h.1 hb, h.2⟩
theorem GRow.nothing (lo : Nat) (w : World) : GRow lo w (.slice none 0 0) [] := ⟨⟨rfl, .inl ⟨rfl, rfl⟩⟩, Lib.hid fun z h => by cases h⟩
theorem IsStrs.below {w w' : World} {a : Option Addr} {n : Nat} {zs : List ByteArray} (h : IsStrs w a n zs) (hb : Below w.heap.size w w') : IsStrs w' a n zs := ⟨h.len, h.max, h.at_.below hb⟩

theorem strs_of {H : Type} {enc : TypeId × Value → H} {W : World} {base : Nat} {spare : Nat → Bool} {held : Bool} {fuel : Nat} {a : Option Addr} {len cap : Nat} {x : DataW H × List MemPlace}
    (hf : DataW.trod enc Try.prog W base spare held fuel 59 [.slice a len cap] = some x) : ∃ zs, IsStrs W a len zs := by
  rcases open_strings Try.underlying59 Try.underlying9 (by kernel_rfl) hf with ⟨hcs, _⟩ | ⟨x, l, c, zs, hcs, _, hl, hm, hz, _, hcell, hws⟩
  · simp at hcs
    obtain ⟨rfl, rfl, rfl⟩ := hcs
    exact ⟨[], rfl, Nat.zero_le _, fun h => absurd h (Nat.lt_irrefl _), fun s h => by cases h⟩
  · simp at hcs
    obtain ⟨rfl, rfl, rfl⟩ := hcs
    have hlz : len ≤ zs.length := by rw [hz]; split <;> omega
    exact ⟨zs.take len, by rw [List.length_take]; omega, by omega, strsAt_new _ _ _ zs x rfl hlz hcell hws⟩
theorem group_of {H : Type} {enc : TypeId × Value → H} {W : World} {base : Nat} {spare : Nat → Bool} {held : Bool} {fuel : Nat} {cs : Array Value} {x : DataW H × List MemPlace}
    (h : DataW.trod enc Try.prog W base spare held fuel 61 cs.toList = some x) : ∃ (low : Int) (a : Option Addr) (len cap : Nat) (zs : List ByteArray), cs = #[.int .i64 low, .slice a len cap] ∧ (-9223372036854775808 ≤ low ∧ low ≤ 9223372036854775807) ∧ IsStrs W a len zs := by
  obtain ⟨y0, y1, n, rfl, hl, h0, h1⟩ := trod_struct2 Try.underlying61 h
  have hc : cs.toList.length = 2 := hl.trans (by kernel_rfl)
  match hcs : cs.toList, hc with
  | [u, v], _ =>
    rw [hcs] at h0 h1
    obtain ⟨k, hk, _, hwf⟩ := DataW.trod_int Try.underlying3 h0
    have hu : u = .int .i64 k := by simpa [show Try.prog.cellsOf 3 = 1 by kernel_rfl] using hk
    have h1' : DataW.trod enc Try.prog W base spare held n 59 [v] = some y1 := by simpa [show Try.prog.cellsOf 59 = 1 by kernel_rfl] using h1
    obtain ⟨a, len, cap, hv⟩ : ∃ a len cap, v = .slice a len cap := by
      rcases open_strings Try.underlying59 Try.underlying9 (by kernel_rfl) h1' with ⟨hcs, _⟩ | ⟨y, l, c, zs, hcs, _⟩
      · exact ⟨none, 0, 0, by simpa using hcs⟩
      · exact ⟨some y, l, c, by simpa using hcs⟩
    subst hv
    obtain ⟨zs, hz⟩ := strs_of h1'
    simp only [Lit.wf, Bool.and_eq_true, decide_eq_true_eq] at hwf
    exact ⟨k, a, len, cap, zs, by rw [← hu]; exact Array.toList_inj.1 hcs, ⟨hwf.1, hwf.2⟩, hz⟩

set_option maxHeartbeats 1000000 in
theorem szGroup_any (low : Int) (a : Option Addr) (cap n left : Nat) (zs : List ByteArray) (w : World) (hs : IsStrs w a n zs) (hl : left ≤ 1048576) :
    Calls Try.prog 65 #[plV low (.slice a n cap), .int .i64 left] w fun e w' => (∃ k : Int, e = .returned (.int .i64 k) ∧ (k < 0 ∨ (0 ≤ k ∧ n ≤ left ∧ Hid (∀ s ∈ zs, s.size ≤ left)))) ∧ Below w.heap.size w w' := by
  have hbW : Below w.heap.size w (w.alloc (.cells #[.int .i64 low, .slice a n cap] 61)) := (Below.refl _ w).alloc (Nat.le_refl _) _
  have HS := Lib.hid (szStringS_any a cap n left zs _ hs.len hs.max ((hs.below hbW).at_) hl)
  have HB := Lib.hid hbW
  clear hbW hs
  go_enter Try.func65, Try.ntmps65
  go_wp2_with fail
  refine HS.out.mono ?_
  rintro e w1 ⟨⟨k, rfl, hk⟩, rfl⟩
  by_cases h0 : k < 0
  · have hd : decide (k < 0) = true := decide_eq_true h0
    clear hk
    go_wp2
    go_ret
    exact ⟨⟨_, rfl, .inl (by omega)⟩, HB.out⟩
  · have hd : decide (k < 0) = false := decide_eq_false h0
    have HK := Lib.hid hk
    clear hk
    go_wp2
    go_ret
    exact ⟨⟨_, rfl, HK.out⟩, HB.out⟩

set_option maxRecDepth 100000 in
set_option maxHeartbeats 2000000 in
theorem toGroup_any (low : Int) (a : Option Addr) (cap n : Nat) (zs : List ByteArray) (w : World) (hm : n ≤ 1048576) (hs : IsStrs w a n zs) :
    Calls Try.prog 67 #[plV low (.slice a n cap)] w fun e w' => (∃ g, e = .returned (plV low (.slice (some ⟨g, 0, none⟩) n n)) ∧ w.heap.size ≤ g ∧ GRow w.heap.size w' (.slice (some ⟨g, 0, none⟩) n n) zs) ∧ Below w.heap.size w w' := by
  obtain ⟨W, hW⟩ : ∃ W, ((w.alloc (.cells #[.int .i64 low, .slice a n cap] 61)).alloc (.cells #[.int .i64 0, .slice none 0 0] 64)).alloc (.cells #[.int .i64 low, .slice none 0 0] 64) = W := ⟨_, rfl⟩
  have hsz : W.heap.size = w.heap.size + 3 := by rw [← hW]; simp
  have hbW : Below w.heap.size w W := by rw [← hW]; exact (((Below.refl _ w).alloc (Nat.le_refl _) _).alloc (by simp) _).alloc (by simp; omega) _
  have hk2 : W.heap[w.heap.size + 1 + 1]? = some (.cells #[.int .i64 low, .slice none 0 0] 64 (0, 0)) := by
    have h := World.alloc_heap_new ((w.alloc (.cells #[.int .i64 low, .slice a n cap] 61)).alloc (.cells #[.int .i64 0, .slice none 0 0] 64)) (.cells #[.int .i64 low, .slice none 0 0] 64)
    rw [hW, World.size_alloc, World.size_alloc] at h
    exact h
  have hk1 : W.heap[w.heap.size + 1]? = some (.cells #[.int .i64 0, .slice none 0 0] 64 (0, 0)) := by
    have h := World.alloc_heap_new (w.alloc (.cells #[.int .i64 low, .slice a n cap] 61)) (.cells #[.int .i64 0, .slice none 0 0] 64)
    have g := World.grownBy_alloc ((w.alloc (.cells #[.int .i64 low, .slice a n cap] 61)).alloc (.cells #[.int .i64 0, .slice none 0 0] 64)) (.cells #[.int .i64 low, .slice none 0 0] 64) none
    rw [hW] at g
    rw [World.size_alloc] at h
    exact (g.block (w.heap.size + 1) (by simp) (by simp)).trans h
  have HT := Lib.hid (toStringS_any a cap n zs W hs.len hm (hs.below hbW).at_)
  have HSM := Lib.hid hs.at_.small
  have HLN := Lib.hid hs.len
  have HBW := Lib.hid hbW
  have HK1 := Lib.hid hk1
  have HK2 := Lib.hid hk2
  have HW := Lib.hid hW
  clear hs hbW hk1 hk2 hW
  go_enter Try.func67, Try.ntmps67
  go_wp2_with fail
  rw [HW.out]
  refine HT.out.mono ?_
  rintro e w1 ⟨rfl, hr1, hb1⟩
  have h1 := (hb1.block (w.heap.size + 1) (by omega)).trans HK1.out
  have h2 := (hb1.block (w.heap.size + 1 + 1) (by omega)).trans HK2.out
  have d0 : w1.cell? ⟨w.heap.size + 1 + 1, 0, none⟩ = some (.int .i64 low) := by simp [World.cell?, h2]
  have d1 : w1.cell? ⟨w.heap.size + 1 + 1, 1, none⟩ = some (.slice none 0 0) := by simp [World.cell?, h2]
  have f0 : w1.frozen? ⟨w.heap.size + 1 + 1, 0, none⟩ = false := by simp [World.frozen?, h2]
  have f1 : w1.frozen? ⟨w.heap.size + 1 + 1, 1, none⟩ = false := by simp [World.frozen?, h2]
  have e0 : w1.cell? ⟨w.heap.size + 1, 0, none⟩ = some (.int .i64 0) := by simp [World.cell?, h1]
  have e1 : w1.cell? ⟨w.heap.size + 1, 1, none⟩ = some (.slice none 0 0) := by simp [World.cell?, h1]
  have g0 : w1.frozen? ⟨w.heap.size + 1, 0, none⟩ = false := by simp [World.frozen?, h1]
  have g1 : w1.frozen? ⟨w.heap.size + 1, 1, none⟩ = false := by simp [World.frozen?, h1]
  have HR := Lib.hid hr1
  have HB1 := Lib.hid (HBW.out.trans (hb1.mono HBW.out.size))
  clear hr1 hb1 h1 h2
  go_wp2
  have q1 : w.heap.size + 1 < W.heap.size := by omega
  have q2 : w.heap.size + 1 + 1 < W.heap.size := by omega
  have r1 : w.heap.size ≤ w.heap.size + 1 := by omega
  have r2 : w.heap.size ≤ w.heap.size + 1 + 1 := by omega
  have hR3 := ownsRow_setCell_below (ownsRow_setCell_below (ownsRow_setCell_below HR.out (a := ⟨w.heap.size + 1 + 1, 1, none⟩) q2 (.slice (some ⟨w.heap.size + 3, 0, none⟩) n n)) (a := ⟨w.heap.size + 1, 0, none⟩) q1 (.int .i64 low)) (a := ⟨w.heap.size + 1, 1, none⟩) q1 (.slice (some ⟨w.heap.size + 3, 0, none⟩) n n)
  have hB3 := ((HB1.out.setCell (p := ⟨w.heap.size + 1 + 1, 1, none⟩) r2 (.slice (some ⟨w.heap.size + 3, 0, none⟩) n n)).setCell (p := ⟨w.heap.size + 1, 0, none⟩) r1 (.int .i64 low)).setCell (p := ⟨w.heap.size + 1, 1, none⟩) r1 (.slice (some ⟨w.heap.size + 3, 0, none⟩) n n)
  rw [hsz] at hR3
  have hR4 : GRow w.heap.size _ (.slice (some ⟨w.heap.size + 3, 0, none⟩) n n) zs := ⟨by unfold OwnS; rw [HLN.out]; exact ownsRow_base hR3 (by omega), HSM⟩
  refine bodyPost_ret (v := plV low (.slice (some ⟨w.heap.size + 3, 0, none⟩) n n)) ?_ rfl ⟨⟨w.heap.size + 3, rfl, by omega, hR4⟩, hB3⟩
  simp [results, Try.results67, go_sem, e0, e1, plV]

theorem toGroup_t (low : Int) (a : Option Addr) (cap n : Nat) (zs : List ByteArray) (w : World) (hm : n ≤ 1048576) (hs : IsStrs w a n zs) :
    Calls Try.prog 67 #[plV low (.slice a n cap)] w fun e w' => (∃ g, e = .returned (plV low (.slice (some ⟨g, 0, none⟩) n n)) ∧ w.heap.size ≤ g ∧ GRow w.heap.size w' (.slice (some ⟨g, 0, none⟩) n n) zs ∧ IsStrs w' (some ⟨g, 0, none⟩) n zs) ∧ Below w.heap.size w w' := by
  refine (toGroup_any low a cap n zs w hm hs).mono ?_
  rintro e w1 ⟨⟨g, rfl, hg, hr⟩, hb⟩
  have hl := hs.len
  have h1 := hr.1
  subst hl
  exact ⟨⟨g, rfl, hg, hr, ⟨rfl, hs.max, OwnS.at_ h1 hr.2.out⟩⟩, hb⟩

set_option maxHeartbeats 2000000 in
theorem eqGroup_yes (b1 b2 : Nat) (low : Int) (v1 v2 : Value) (zs : List ByteArray) (w : World) (hn : zs.length ≤ 1048576) (h1 : GRow b1 w v1 zs) (h2 : GRow b2 w v2 zs) :
    Calls Try.prog 69 #[plV low v1, plV low v2] w fun e w' => e = .returned (.bool true) ∧ Below w.heap.size w w' := by
  have hb : Below w.heap.size w ((w.alloc (.cells #[.int .i64 low, v1] 64)).alloc (.cells #[.int .i64 low, v2] 64)) := ((Below.refl _ w).alloc (Nat.le_refl _) _).alloc (by simp) _
  obtain ⟨a1, c1, rfl, s1⟩ := (h1.below hb).strs
  obtain ⟨a2, c2, rfl, s2⟩ := (h2.below hb).strs
  have HE := Lib.hid (eqStringS_yes a1 a2 c1 c2 zs.length zs _ rfl (by unfold maxLen; omega) s1 s2)
  have HB := Lib.hid hb
  clear h1 h2 s1 s2 hb
  go_enter Try.func69, Try.ntmps69
  go_wp2_with fail
  refine HE.out.mono ?_
  rintro e w1 ⟨rfl, hb1⟩
  have HB1 := Lib.hid (HB.out.trans (hb1.mono HB.out.size))
  clear hb1
  go_wp2
  go_ret
  exact ⟨rfl, HB1.out⟩

set_option maxRecDepth 100000 in
set_option maxHeartbeats 2000000 in
theorem markGroup_g (base : Nat) (low : Int) (v : Value) (zs : List ByteArray) (k : Nat) (w : World) (h : GRow base w v zs) (hk0 : 0 < k) (hk : k ≤ 1000000) (hn2 : zs.length ≤ 1048576) :
    Calls Try.prog 75 #[plV low v, .int .i64 k] w fun e w' => e = .returned (.int .i64 ((k + zs.length : Nat) : Int)) ∧ GRow base w' v (marksS k zs.length) ∧ w.grownBy w' v.ownBlock := by
  have hbW : Below w.heap.size w (w.alloc (.cells #[.int .i64 low, v] 64)) := (Below.refl _ w).alloc (Nat.le_refl _) _
  have HM := Lib.hid (markStringS_any base k v zs _ (h.below hbW).1 hn2 hk0 (by omega))
  have HG0 := Lib.hid (World.grownBy_alloc w (.cells #[.int .i64 low, v] 64) v.ownBlock)
  clear h hbW
  go_enter Try.func75, Try.ntmps75
  go_wp2_with fail
  refine HM.out.mono ?_
  rintro e w1 ⟨rfl, hr, hg⟩
  have HR := Lib.hid hr
  have HG := Lib.hid (HG0.out.trans hg)
  clear hr hg
  go_wp2
  go_ret
  exact ⟨rfl, ⟨HR.out, Lib.hid (marksS_small k _ hk hn2)⟩, HG.out⟩

set_option maxRecDepth 100000 in
set_option maxHeartbeats 2000000 in
theorem heldGroup_any (base : Nat) (low : Int) (v : Value) (n k : Nat) (w : World) (h : GRow base w v (marksS k n)) (hk0 : 0 < k) (hk : k ≤ 1000000) (hn2 : n ≤ 1048576) :
    Calls Try.prog 82 #[plV low v, .int .i64 k] w fun e w' => e = .returned (.int .i64 ((k + n : Nat) : Int)) ∧ Below w.heap.size w w' := by
  have hbW : Below w.heap.size w (w.alloc (.cells #[.int .i64 low, v] 64)) := (Below.refl _ w).alloc (Nat.le_refl _) _
  obtain ⟨a, c, rfl, hs⟩ := (h.below hbW).strs
  simp only [marksS_len] at h hbW hs ⊢
  have HM := Lib.hid (heldStringS_any k a c n _ hs hn2 hk0 hk)
  have HB := Lib.hid hbW
  have hlt : decide (((k + n : Nat) : Int) < 0) = false := decide_eq_false (by omega)
  obtain ⟨q, hq⟩ : ∃ q, k + n = q := ⟨_, rfl⟩
  rw [hq] at hlt HM ⊢
  clear h hbW hs
  go_enter Try.func82, Try.ntmps82
  go_wp2_with fail
  refine HM.out.mono ?_
  rintro e w1 ⟨rfl, hb1⟩
  have HB1 := Lib.hid (HB.out.trans (hb1.mono HB.out.size))
  clear hb1
  go_wp2
  go_ret
  exact ⟨rfl, HB1.out⟩

end Go.Proofs.Ytbbkpaledlbcmaa

/- Polynomials of sums (mathematics). -/

namespace Go.Proofs.Ytbbkpaledlbcmaa
open Go.RowKit

/-- The power of t that belongs to a word. -/
def pwL : List UInt8 → Int
  | [] => 0
  | c :: r => sgnB c + pwL r
theorem pwL_snoc (l : List UInt8) (c : UInt8) : pwL (l ++ [c]) = pwL l + sgnB c := by
  induction l with
  | nil => simp [pwL]
  | cons x r ih => rw [List.cons_append, pwL, pwL, ih]; omega
theorem sgnB_bound (c : UInt8) : -1 ≤ sgnB c ∧ sgnB c ≤ 1 := by unfold sgnB; split <;> omega
theorem pwL_bound : ∀ l : List UInt8, -(l.length : Int) ≤ pwL l ∧ pwL l ≤ (l.length : Int)
  | [] => by simp [pwL]
  | c :: r => by
    have h1 := pwL_bound r
    have h2 := sgnB_bound c
    rw [pwL, List.length_cons]
    omega
def four (z : List Int) : Int := z.getD 0 0 + z.getD 1 0 + z.getD 2 0 + z.getD 3 0
theorem four_step (z : List Int) (c : UInt8) (hz : z.length = 4) (hc : idxB c < 4) : four (sumsStep z c) = four z + sgnB c := by
  obtain ⟨j, hj⟩ : ∃ j, idxB c = j := ⟨_, rfl⟩
  obtain ⟨u, hu⟩ : ∃ u, sgnB c = u := ⟨_, rfl⟩
  unfold sumsStep
  rw [hj] at hc
  rw [hj, hu]
  match z, hz with
  | [z0, z1, z2, z3], _ =>
    have : j = 0 ∨ j = 1 ∨ j = 2 ∨ j = 3 := by omega
    rcases this with rfl | rfl | rfl | rfl <;> simp [four] <;> omega
theorem sums_power (l : List UInt8) (hl : letL l = true) : four (sumsL l) = pwL l := by
  have key : ∀ (n : Nat) (l : List UInt8), l.length = n → letL l = true → four (sumsL l) = pwL l := by
    intro n
    induction n with
    | zero =>
      intro l hl _
      obtain rfl := List.length_eq_zero_iff.1 hl
      rfl
    | succ n ih =>
      intro l hl hlet
      obtain ⟨p, c, rfl⟩ := last_split l (by omega)
      rw [letL_append, Bool.and_eq_true] at hlet
      have hp : p.length = n := by simp at hl; omega
      have hc : letB c = true := by
        have h := hlet.2
        unfold letL at h
        simpa using h
      rw [sumsL_snoc, pwL_snoc, four_step _ _ (sumsL_inv p hlet.1).1 (idxB_lt c hc), ih p hp hlet.1]
  exact key l.length l rfl hl

def pwT (t : Tm) : Int := pwL t.s.data.toList
/-- The coefficients of a list of terms. -/
def ofF : List Tm → Int → Int
  | [], _ => 0
  | t :: r, z => pat ⟨pwT t, [t.c]⟩ z + ofF r z
theorem ofF_snoc (l : List Tm) (t : Tm) (z : Int) : ofF (l ++ [t]) z = ofF l z + pat ⟨pwT t, [t.c]⟩ z := by
  induction l with
  | nil => simp [ofF]
  | cons x r ih => rw [List.cons_append, ofF, ofF, ih]; omega
theorem pat_one (low c z : Int) : pat ⟨low, [c]⟩ z = if z = low then c else 0 := by
  by_cases h : z = low
  · subst h
    have e := pat_at ⟨z, [c]⟩ 0
    rw [if_pos rfl]
    simpa using e
  · rw [if_neg h]
    by_cases h2 : z < low
    · exact pat_low _ h2
    · exact pat_high _ (by show low + ((1 : Nat) : Int) ≤ z; omega)
theorem pat_many (low c z : Int) : c * pat ⟨low, [1]⟩ z = pat ⟨low, [c]⟩ z := by
  rw [pat_one, pat_one]
  split
  · exact Int.mul_one c
  · exact Int.mul_zero c
/-- The sum of the powers, term for term. -/
def sumsP (ts : List Tm) : Pl := ts.foldl (fun p t => sumP p t.c ⟨pwT t, [1]⟩) ⟨0, []⟩
theorem sumsP_snoc (l : List Tm) (t : Tm) : sumsP (l ++ [t]) = sumP (sumsP l) t.c ⟨pwT t, [1]⟩ := by
  unfold sumsP
  rw [List.foldl_append]
  rfl
theorem sumsP_succ (x : List Tm) (k : Nat) (h : k < x.length) : sumsP (x.take (k + 1)) = sumP (sumsP (x.take k)) x[k].c ⟨pwT x[k], [1]⟩ := by
  rw [List.take_succ_eq_append_getElem h, sumsP_snoc]
theorem ofF_succ (x : List Tm) (k : Nat) (h : k < x.length) (z : Int) : ofF (x.take (k + 1)) z = ofF (x.take k) z + pat ⟨pwT x[k], [x[k].c]⟩ z := by
  rw [List.take_succ_eq_append_getElem h, ofF_snoc]
theorem sumsP_trim (x : List Tm) : ∀ k, k ≤ x.length → Trim (sumsP (x.take k))
  | 0, _ => .inl ⟨rfl, rfl⟩
  | k + 1, h => by
    rw [sumsP_succ x k h]
    exact sum_trim _ _ (sumsP_trim x k (by omega))
theorem sumsP_pat (x : List Tm) (z : Int) : ∀ k, k ≤ x.length → pat (sumsP (x.take k)) z = ofF (x.take k) z
  | 0, _ => pat_nil _ _
  | k + 1, h => by
    rw [sumsP_succ x k h, ofF_succ x k h, sum_pat, sumsP_pat x z k (by omega), pat_many]
theorem ofF_bound (x : List Tm) (hx : ∀ t ∈ x, -1000000 ≤ t.c ∧ t.c ≤ 1000000) (z : Int) : ∀ k : Nat, k ≤ x.length → -1000000 * (k : Int) ≤ ofF (x.take k) z ∧ ofF (x.take k) z ≤ 1000000 * (k : Int)
  | 0, _ => by simp [ofF]
  | k + 1, h => by
    have h1 := ofF_bound x hx z k (by omega)
    have h2 := hx x[k] (List.getElem_mem _)
    rw [ofF_succ x k h, pat_one]
    split <;> omega
theorem ofF_out (x : List Tm) (hx : ∀ t ∈ x, t.s.size ≤ 60) (z : Int) (hz : z < -60 ∨ 60 < z) : ∀ k : Nat, k ≤ x.length → ofF (x.take k) z = 0
  | 0, _ => rfl
  | k + 1, h => by
    have h1 := ofF_out x hx z hz k (by omega)
    have h2 := hx x[k] (List.getElem_mem _)
    have h3 := pwL_bound x[k].s.data.toList
    rw [show x[k].s.data.toList.length = x[k].s.size by simp] at h3
    rw [ofF_succ x k h, h1, pat_one, if_neg (by unfold pwT; omega)]
    rfl
/-- What a trimmed polynomial's powers and coefficients lie between. -/
theorem trim_within {p : Pl} {a b M : Int} (h : Trim p) (hab : a ≤ 0 ∧ 0 ≤ b) (_ : 0 ≤ M) (h0 : ∀ z, z < a ∨ b < z → pat p z = 0) (hm : ∀ z, -M ≤ pat p z ∧ pat p z ≤ M) :
    a ≤ p.low ∧ p.low ≤ b ∧ (p.cs.length : Int) ≤ b - a + 1 ∧ ∀ i, -M ≤ p.cs.getD i 0 ∧ p.cs.getD i 0 ≤ M := by
  have hc : ∀ i, -M ≤ p.cs.getD i 0 ∧ p.cs.getD i 0 ≤ M := fun i => by
    rw [← pat_at p i]
    exact hm _
  rcases h with ⟨h1, h2⟩ | ⟨h1, h2, h3⟩
  · rw [h1, h2]
    refine ⟨hab.1, hab.2, by simp; omega, ?_⟩
    rw [h1] at hc
    exact hc
  · have hl := List.length_pos_iff.2 h1
    have e1 := pat_at p 0
    have e2 := pat_at p (p.cs.length - 1)
    have c1 : ¬ (p.low + ((0 : Nat) : Int) < a ∨ b < p.low + ((0 : Nat) : Int)) := fun h => h2 (by rw [← e1]; exact h0 _ h)
    have c2 : ¬ (p.low + ((p.cs.length - 1 : Nat) : Int) < a ∨ b < p.low + ((p.cs.length - 1 : Nat) : Int)) := fun h => h3 (by rw [← e2]; exact h0 _ h)
    exact ⟨by omega, by omega, by omega, hc⟩
theorem sumsP_in (x : List Tm) (h1 : ∀ t ∈ x, -1000000 ≤ t.c ∧ t.c ≤ 1000000) (h2 : ∀ t ∈ x, t.s.size ≤ 60) (hl : x.length ≤ 300) (k : Nat) (hk : k ≤ x.length) :
    -60 ≤ (sumsP (x.take k)).low ∧ (sumsP (x.take k)).low ≤ 60 ∧ ((sumsP (x.take k)).cs.length : Int) ≤ 121 ∧ ∀ i, -300000000 ≤ (sumsP (x.take k)).cs.getD i 0 ∧ (sumsP (x.take k)).cs.getD i 0 ≤ 300000000 :=
  trim_within (p := sumsP (x.take k)) (a := -60) (b := 60) (M := 300000000) (sumsP_trim x k hk) (by omega) (by omega)
    (fun z hz => by rw [sumsP_pat x z k hk]; exact ofF_out x h2 z hz k hk)
    (fun z => by rw [sumsP_pat x z k hk]; have := ofF_bound x h1 z k hk; omega)
theorem sumsP_all (x : List Tm) : sumsP (x.take x.length) = sumsP x := by rw [List.take_length]

def ofSumB (ts : List Tm) : Bool := sumB ts && polyB (sumsP ts)
def ofSumP (ts : List Tm) : Pl := doneP (ofSumB ts) (sumsP ts)
theorem ofSum_len {ts : List Tm} {b : Bool} {p : Pl} (_ : ofSumB ts = b) (hp : ofSumP ts = p) : p.cs.length ≤ 200 := by
  unfold ofSumP at hp
  refine doneP_len (fun h => ?_) hp
  unfold ofSumB at h
  simp only [Bool.and_eq_true] at h
  exact h.2
theorem ofSum_fit {w : World} {a : Option Addr} {n : Nat} {ts : List Tm} {b : Bool} {p : Pl} (_ : IsTerms w a n ts) (hb : ofSumB ts = b) (hp : ofSumP ts = p) : p.cs.length ≤ 200 := ofSum_len hb hp

end Go.Proofs.Ytbbkpaledlbcmaa

/- The model's l8Only, GroupIn, l8All and GroupEven. -/

namespace Go.Proofs.Ytbbkpaledlbcmaa
open Go.RowKit Go.Shelf

/-- Only the first n generators. -/
def onlyB (n : Int) (l : List UInt8) : Bool := l.all fun c => decide ((idxB c : Int) < n)
theorem onlyB_no {n : Int} {l : List UInt8} {k : Nat} (hk : k < l.length) (h : ¬ (idxB l[k] : Int) < n) : onlyB n l = false := List.all_eq_false.2 ⟨_, List.getElem_mem hk, by simpa using h⟩
theorem onlyB_yes {n : Int} {l : List UInt8} (h : ∀ j (hj : j < l.length), (idxB l[j] : Int) < n) : onlyB n l = true := List.all_eq_true.2 fun c hc => by
  obtain ⟨j, hj, rfl⟩ := List.getElem_of_mem hc
  exact decide_eq_true (h j hj)
/-- A relator of a group with n generators. -/
def relB (n : Int) (s : ByteArray) : Bool := wordB s.data.toList && onlyB n s.data.toList
def groupB (n : Int) (zs : List ByteArray) : Bool := inR 1 4 n && (decide (zs.length ≤ 4) && zs.all (relB n))
def evenB (n : Int) (zs : List ByteArray) : Bool := groupB n zs && zs.all fun s => decide (pwL s.data.toList = 0)
theorem groupB_iff {n : Int} {zs : List ByteArray} : groupB n zs = true ↔ (1 ≤ n ∧ n ≤ 4) ∧ zs.length ≤ 4 ∧ ∀ s ∈ zs, wordB s.data.toList = true ∧ onlyB n s.data.toList = true := by
  unfold groupB inR relB
  simp only [Bool.and_eq_true, decide_eq_true_eq, List.all_eq_true]

set_option maxRecDepth 100000 in
set_option maxHeartbeats 1000000 in
theorem l8Only_any (s : ByteArray) (n : Int) (b : Bool) (w : World) (hs : s.size ≤ 1048576) (hl : letL s.data.toList = true) (hb : onlyB n s.data.toList = b) :
    Calls Try.prog 134 #[.string s, .int .i64 n] w fun e w' => e = .returned (.bool b) ∧ w = w' := by
  have HL := Lib.hid hl
  have HB := Lib.hid hb
  clear hl hb
  go_enter Try.func134, Try.ntmps134
  go_wp2
  go_loopw [5] (fun i wr => ∃ k : Nat, k ≤ s.size ∧ i = .int .i64 k ∧ Hid (∀ j (h : j < s.data.toList.length), j < k → (idxB s.data.toList[j] : Int) < n) ∧ w = wr) (fun i _ => s.size - (intOf i).toNat)
  case atStart => exact ⟨0, Nat.zero_le _, rfl, Lib.hid (fun j _ h => absurd h (Nat.not_lt_zero _)), rfl⟩
  case round =>
    obtain ⟨k, hk, rfl, HJ, rfl⟩ := hrel
    by_cases hlt : k < s.size
    · have hl : k < s.data.toList.length := by simpa using hlt
      have HLet : Hid (letB s[k] = true) := Lib.hid (letL_get _ HL.out k hl)
      obtain ⟨m, hm⟩ : ∃ m, idxB s[k] = m := ⟨_, rfl⟩
      have hm2 : idxB s.data.toList[k] = m := hm
      have HM := Lib.hid hm
      by_cases hge : (m : Int) < n
      · have HJ2 : Hid (∀ j (h : j < s.data.toList.length), j < k + 1 → (idxB s.data.toList[j] : Int) < n) := Lib.hid fun j hj hjk => by
          by_cases e : j = k
          · subst e; rw [hm2]; exact hge
          · exact HJ.out j hj (by omega)
        clear hm hm2
        go_wp2_with fail
        refine (sIndex_any _ _ HLet.out).mono ?_
        rw [HM.out]
        rintro e w2 ⟨rfl, rfl⟩
        go_wp2
        go_roundw
        case rel => exact ⟨k + 1, by omega, by go_num, HJ2, by first | trivial | rfl⟩
        case measure => simp [intOf]; omega
      · obtain rfl : b = false := by rw [← HB.out]; exact onlyB_no hl (by rw [hm2]; exact hge)
        clear hm hm2
        go_wp2_with fail
        refine (sIndex_any _ _ HLet.out).mono ?_
        rw [HM.out]
        rintro e w2 ⟨rfl, rfl⟩
        go_wp2
        go_ret
        exact ⟨rfl, rfl⟩
    · obtain rfl : k = s.size := by omega
      obtain rfl : b = true := by rw [← HB.out]; exact onlyB_yes fun j hj => HJ.out j hj (by simpa using hj)
      go_wp2
      go_ret
      exact ⟨rfl, rfl⟩

set_option maxRecDepth 100000 in
set_option maxHeartbeats 4000000 in
theorem sGroupIn_any (low : Int) (a : Option Addr) (cap n : Nat) (zs : List ByteArray) (b : Bool) (w : World) (hs : IsStrs w a n zs) (hb : groupB low zs = b) :
    Calls Try.prog 66 #[plV low (.slice a n cap)] w fun e w' => e = .returned (.bool b) ∧ Below w.heap.size w w' := by
  have hmx : Try.prog.follows .mixedOrders = true := by kernel_rfl
  have hm := hs.max
  unfold maxLen at hm
  obtain ⟨W, hW⟩ : ∃ W, w.alloc (.cells #[.int .i64 low, .slice a n cap] 64) = W := ⟨_, rfl⟩
  have hbW : Below w.heap.size w W := by rw [← hW]; exact (Below.refl _ w).alloc (Nat.le_refl _) _
  have hsz : w.heap.size < W.heap.size := by rw [← hW]; simp
  have HX := Lib.hid (boxNew hW)
  have hc0 := HX.out.2.1
  have hc1 := HX.out.2.2
  have HS := Lib.hid (hs.below hbW)
  have HN := Lib.hid hs.len
  have HB := Lib.hid hb
  have HBW := Lib.hid hbW
  have HW := Lib.hid hW
  rw [← hW] at hc0 hc1
  clear hs hb hbW hW
  cases hl : inR 1 4 low with
  | false =>
    obtain rfl : b = false := by rw [← HB.out]; unfold groupB; rw [hl]; rfl
    have HL := Lib.hid hl
    clear hl
    go_enter Try.func66, Try.ntmps66
    go_wp2_with fail
    rw [HW.out]
    refine (l6In_eq _ _ _ false _ HL.out).mono ?_
    rintro e w1 ⟨rfl, rfl⟩
    go_wp2
    go_ret
    exact ⟨rfl, HBW.out⟩
  | true =>
    have HL := Lib.hid hl
    clear hl
    by_cases h4 : n ≤ 4
    case neg =>
      obtain rfl : b = false := by rw [← HB.out]; unfold groupB; rw [HN.out, decide_eq_false h4, Bool.false_and, Bool.and_false]
      go_enter Try.func66, Try.ntmps66
      go_wp2_with fail
      rw [HW.out]
      refine (l6In_eq _ _ _ true _ HL.out).mono ?_
      rintro e w1 ⟨rfl, rfl⟩
      clear hc0 hc1
      obtain ⟨_, c0, c1⟩ := HX.out
      go_wp2
      go_ret
      exact ⟨rfl, HBW.out⟩
    go_enter Try.func66, Try.ntmps66
    go_wp2_with fail
    rw [HW.out]
    refine (l6In_eq _ _ _ true _ HL.out).mono ?_
    rintro e w1 ⟨rfl, rfl⟩
    clear hc0 hc1
    obtain ⟨_, c0, c1⟩ := HX.out
    go_wp2
    clear c0 c1
    go_loopw [3] (fun i wr => ∃ k : Nat, k ≤ n ∧ i = .int .i64 k ∧ Hid (∀ j (h : j < zs.length), j < k → relB low zs[j] = true) ∧ Below W.heap.size W wr) (fun i _ => n - (intOf i).toNat)
    case atStart => exact ⟨0, Nat.zero_le _, rfl, Lib.hid (fun j _ h => absurd h (Nat.not_lt_zero _)), Below.refl _ _⟩
    case round =>
      obtain ⟨k, hk, rfl, HJ, hB⟩ := hrel
      obtain ⟨hlx, c0, c1⟩ := HX.out.below hB
      by_cases hlt : k < n
      · have hkz : k < zs.length := by rw [HN.out]; exact hlt
        obtain ⟨x, rfl, hbx, hcx⟩ := HS.out.at_.cells (by omega)
        obtain ⟨s, hs⟩ : ∃ s, zs[k] = s := ⟨_, rfl⟩
        have hck : wr.cell? (x.add k) = some (.string s) := by rw [← hs]; exact (hB.cell (p := x.add k) (by rw [addr_add_block]; exact hbx)).trans (hcx k hkz)
        have hsm : s.size ≤ maxLen := by rw [← hs]; exact HS.out.at_.small _ (List.getElem_mem hkz)
        have HE := Lib.hid hs
        have hbx2 : x.block < wr.heap.size := Nat.lt_of_lt_of_le hbx hB.size
        have v0 := BelowBy.cell (w := wr) hlx c0
        have v1 := BelowBy.cell (w := wr) hlx c1
        have v2 := BelowBy.cell (w := wr) (by show (x.add k).block < _; rw [addr_add_block]; exact hbx2) hck
        have HBw := Lib.hid hB
        obtain ⟨b1, hb1⟩ : ∃ b, wordB s.data.toList = b := ⟨_, rfl⟩
        have HT : Hid (∀ V : World, Calls Try.prog 124 #[.string s] V fun e w' => e = .returned (.bool b1) ∧ Below V.heap.size V w') := Lib.hid fun V => sWordIn_is s b1 V hsm hb1
        have HB1 := Lib.hid hb1
        clear hs hcx hck hb1
        cases b1 with
        | false =>
          have HF : Hid (groupB low zs = false) := Lib.hid (by
            unfold groupB
            rw [List.all_eq_false.2 ⟨zs[k], List.getElem_mem hkz, by unfold relB; rw [HE.out, HB1.out]; simp⟩, Bool.and_false, Bool.and_false])
          obtain rfl : b = false := by rw [← HB.out]; exact HF.out
          go_wp2
          refine wp_region_below hmx (by kernel_rfl) ?_
          repeat (((with_reducible refine wpQuiet_step (fun K hK => ?_)); go_simp; first | ((with_reducible refine hK _ ?_); clear hK K) | (refine (if_neg (by decide)).mpr ?_; (with_reducible refine hK _ ?_); clear hK K) | (apply Exists.intro; (with_reducible refine ⟨fun _ => ?_, hK _ ?_⟩); (go_at_call 124; exact Calls.bel (HT.out _)); clear hK K)))
          with_reducible refine wpQuiet_nil ?_
          rintro V ⟨⟨V, hV⟩, rfl⟩
          clear v0 v1 v2 c0 c1
          have HBV := Lib.hid (HBW.out.trans ((HBw.out.trans (hV.mono HBw.out.size)).mono HBW.out.size))
          change Exit.then _ _ _ _ V
          go_wp2
          go_ret
          exact ⟨rfl, HBV.out⟩
        | true =>
          obtain ⟨b2, hb2⟩ : ∃ b, onlyB low s.data.toList = b := ⟨_, rfl⟩
          have HO : Hid (∀ V : World, Calls Try.prog 134 #[.string s, .int .i64 low] V fun e w' => e = .returned (.bool b2) ∧ Below V.heap.size V w') := Lib.hid fun V => by
            obtain ⟨h1, h2, _⟩ := (wordB_iff _).1 HB1.out
            refine (l8Only_any s low b2 V (by have : s.size ≤ 60 := by simpa using h1
                                              omega) h2 hb2).mono ?_
            rintro e w' ⟨h, rfl⟩
            exact ⟨h, Below.refl _ _⟩
          have HB2 := Lib.hid hb2
          clear hb2
          go_wp2
          refine wp_region_below hmx (by kernel_rfl) ?_
          repeat (((with_reducible refine wpQuiet_step (fun K hK => ?_)); go_simp; first | ((with_reducible refine hK _ ?_); clear hK K) | (refine (if_neg (by decide)).mpr ?_; (with_reducible refine hK _ ?_); clear hK K) | (apply Exists.intro; (with_reducible refine ⟨fun _ => ?_, hK _ ?_⟩); (first | (go_at_call 124; exact Calls.bel (HT.out _)) | (go_at_call 134; exact Calls.bel (HO.out _))); clear hK K)))
          with_reducible refine wpQuiet_nil ?_
          rintro V ⟨⟨V, hV⟩, rfl⟩
          clear v0 v1 v2 c0 c1
          have hBV := HBw.out.trans (hV.mono HBw.out.size)
          have HBV := Lib.hid (HBW.out.trans (hBV.mono HBW.out.size))
          change Exit.then _ _ _ _ V
          cases b2 with
          | false =>
            have HF : Hid (groupB low zs = false) := Lib.hid (by
              unfold groupB
              rw [List.all_eq_false.2 ⟨zs[k], List.getElem_mem hkz, by unfold relB; rw [HE.out, HB1.out, HB2.out]; simp⟩, Bool.and_false, Bool.and_false])
            obtain rfl : b = false := by rw [← HB.out]; exact HF.out
            go_wp2
            go_ret
            exact ⟨rfl, HBV.out⟩
          | true =>
            have HJ2 : Hid (∀ j (h : j < zs.length), j < k + 1 → relB low zs[j] = true) := Lib.hid fun j hj hjk => by
              by_cases e : j = k
              · subst e; unfold relB; rw [HE.out, HB1.out, HB2.out]; rfl
              · exact HJ.out j hj (by omega)
            go_wp2
            go_roundw
            case rel => exact ⟨k + 1, by omega, by go_num, HJ2, hBV⟩
            case measure => simp [intOf]; omega
      · obtain rfl : k = n := by omega
        obtain rfl : b = true := by
          rw [← HB.out]
          unfold groupB
          rw [HL.out, HN.out, decide_eq_true h4, List.all_eq_true.2]
          · rfl
          · intro t ht
            obtain ⟨j, hj, rfl⟩ := List.getElem_of_mem ht
            exact HJ.out j hj (by rw [← HN.out]; exact hj)
        go_wp2
        go_ret
        exact ⟨rfl, HBW.out.trans (hB.mono HBW.out.size)⟩

set_option maxRecDepth 100000 in
set_option maxHeartbeats 2000000 in
theorem l8All_any (s : ByteArray) (w : World) (h : wordB s.data.toList = true) :
    Calls Try.prog 138 #[.string s] w fun e w' => e = .returned (.int .i64 (pwL s.data.toList)) ∧ Below w.heap.size w w' := by
  obtain ⟨h1, h2, _⟩ := (wordB_iff _).1 h
  have hs : s.size ≤ 60 := by simpa using h1
  obtain ⟨z4, zb⟩ := sumsL_inv _ h2
  have hp := sums_power _ h2
  have HS := Lib.hid (sSums_any s w (by omega) h2)
  rw [show s.data.toList.length = s.size by simp] at zb
  obtain ⟨zs, hzs⟩ : ∃ zs, sumsL s.data.toList = zs := ⟨_, rfl⟩
  rw [hzs] at z4 zb hp HS
  obtain ⟨p, hpp⟩ : ∃ p, pwL s.data.toList = p := ⟨_, rfl⟩
  rw [hpp] at hp ⊢
  clear h h1 h2 hzs hpp
  match zs, z4 with
  | [z0, z1, z2, z3], _ =>
    have b0 := zb z0 (by simp)
    have b1 := zb z1 (by simp)
    have b2 := zb z2 (by simp)
    have b3 := zb z3 (by simp)
    have hp : z0 + z1 + z2 + z3 = p := hp
    obtain ⟨u1, hu1⟩ : ∃ u, z0 + z1 = u := ⟨_, rfl⟩
    obtain ⟨u2, hu2⟩ : ∃ u, u1 + z2 = u := ⟨_, rfl⟩
    have w1 : IntKind.i64.wrap (z0 + z1) = u1 := by rw [IntWalk.i64_in _ (by omega)]; exact hu1
    have w2 : IntKind.i64.wrap (u1 + z2) = u2 := by rw [IntWalk.i64_in _ (by omega)]; exact hu2
    have w3 : IntKind.i64.wrap (u2 + z3) = p := by rw [IntWalk.i64_in _ (by omega)]; omega
    clear zb b0 b1 b2 b3 hp hu1 hu2
    go_enter Try.func138, Try.ntmps138
    go_wp2_with fail
    refine HS.out.mono ?_
    rintro e w4 ⟨v, rfl, hr, hb⟩
    obtain ⟨a, g, cap, rfl, q1, q2, q3⟩ := hr.shape
    obtain ⟨rfl, _, hgl⟩ := q1 (by simp)
    have c0 := (q3 0 (by simp)).1
    have c1 := (q3 1 (by simp)).1
    have c2 := (q3 2 (by simp)).1
    have c3 := (q3 3 (by simp)).1
    have HB := Lib.hid hb
    simp only [List.getElem_cons_zero, List.getElem_cons_succ, List.length_cons, List.length_nil, Nat.reduceAdd] at c0 c1 c2 c3 ⊢
    clear hr hb q1 q2 q3
    go_wp2
    go_quiet (fail)
    go_wp2
    go_ret
    exact ⟨rfl, below_drewN HB.out _⟩

set_option maxRecDepth 100000 in
set_option maxHeartbeats 4000000 in
theorem sGroupEven_any (low : Int) (a : Option Addr) (cap n : Nat) (zs : List ByteArray) (b : Bool) (w : World) (hs : IsStrs w a n zs) (hb : evenB low zs = b) :
    Calls Try.prog 70 #[plV low (.slice a n cap)] w fun e w' => e = .returned (.bool b) ∧ Below w.heap.size w w' := by
  have hm := hs.max
  unfold maxLen at hm
  obtain ⟨W, hW⟩ : ∃ W, w.alloc (.cells #[.int .i64 low, .slice a n cap] 64) = W := ⟨_, rfl⟩
  have hbW : Below w.heap.size w W := by rw [← hW]; exact (Below.refl _ w).alloc (Nat.le_refl _) _
  have hsz : w.heap.size < W.heap.size := by rw [← hW]; simp
  have HX := Lib.hid (boxNew hW)
  have hc0 := HX.out.2.1
  have hc1 := HX.out.2.2
  obtain ⟨bg, hbg⟩ : ∃ bg, groupB low zs = bg := ⟨_, rfl⟩
  have HS := Lib.hid (hs.below hbW)
  have HG := Lib.hid (sGroupIn_any low a cap n zs bg W (hs.below hbW) hbg)
  have HN := Lib.hid hs.len
  have HB := Lib.hid hb
  have HBG := Lib.hid hbg
  have HBW := Lib.hid hbW
  have HW := Lib.hid hW
  rw [← hW] at hc0 hc1
  clear hs hb hbW hW hbg
  go_enter Try.func70, Try.ntmps70
  go_wp2_with fail
  rw [HW.out]
  refine HG.out.mono ?_
  rintro e w1 ⟨rfl, hb1⟩
  have HB1 := Lib.hid hb1
  clear hc0 hc1 hb1
  cases bg with
  | false =>
    obtain rfl : b = false := by rw [← HB.out]; unfold evenB; rw [HBG.out]; rfl
    go_wp2
    go_ret
    exact ⟨rfl, HBW.out.trans (HB1.out.mono HBW.out.size)⟩
  | true =>
    have HREL := Lib.hid (groupB_iff.1 HBG.out).2.2
    go_wp2
    go_loopw [3] (fun i wr => ∃ k : Nat, k ≤ n ∧ i = .int .i64 k ∧ Hid (∀ j (h : j < zs.length), j < k → pwL zs[j].data.toList = 0) ∧ Below W.heap.size W wr) (fun i _ => n - (intOf i).toNat)
    case atStart => exact ⟨0, Nat.zero_le _, rfl, Lib.hid (fun j _ h => absurd h (Nat.not_lt_zero _)), HB1.out⟩
    case round =>
      obtain ⟨k, hk, rfl, HJ, hB⟩ := hrel
      obtain ⟨hlx, c0, c1⟩ := HX.out.below hB
      by_cases hlt : k < n
      · have hkz : k < zs.length := by rw [HN.out]; exact hlt
        obtain ⟨x, rfl, hbx, hcx⟩ := HS.out.at_.cells (by omega)
        obtain ⟨s, hs⟩ : ∃ s, zs[k] = s := ⟨_, rfl⟩
        have hck : wr.cell? (x.add k) = some (.string s) := by rw [← hs]; exact (hB.cell (p := x.add k) (by rw [addr_add_block]; exact hbx)).trans (hcx k hkz)
        have HWD : Hid (wordB s.data.toList = true) := Lib.hid (by rw [← hs]; exact (HREL.out _ (List.getElem_mem hkz)).1)
        obtain ⟨m, hm⟩ : ∃ m, pwL s.data.toList = m := ⟨_, rfl⟩
        have hpm : pwL zs[k].data.toList = m := by rw [hs]; exact hm
        have HP := Lib.hid hm
        have HBw := Lib.hid hB
        have HPM := Lib.hid hpm
        clear hs hcx hm hpm
        go_wp2_with fail
        refine (l8All_any s wr HWD.out).mono ?_
        rw [HP.out]
        rintro e w2 ⟨rfl, hb2⟩
        have hB2 := HBw.out.trans (hb2.mono HBw.out.size)
        clear hb2
        by_cases h0 : m = 0
        · subst h0
          have HJ2 : Hid (∀ j (h : j < zs.length), j < k + 1 → pwL zs[j].data.toList = 0) := Lib.hid fun j hj hjk => by
            by_cases e : j = k
            · subst e; exact HPM.out
            · exact HJ.out j hj (by omega)
          go_wp2
          go_roundw
          case rel => exact ⟨k + 1, by omega, by go_num, HJ2, hB2⟩
          case measure => simp [intOf]; omega
        · have hm0 : (m == 0) = false := by simpa using h0
          have hm1 : (m != 0) = true := by simpa using h0
          obtain rfl : b = false := by
            rw [← HB.out]
            unfold evenB
            rw [List.all_eq_false.2 ⟨zs[k], List.getElem_mem hkz, by rw [HPM.out]; simpa using h0⟩, Bool.and_false]
          go_wp2
          go_ret
          exact ⟨rfl, HBW.out.trans (hB2.mono HBW.out.size)⟩
      · obtain rfl : k = n := by omega
        obtain rfl : b = true := by
          rw [← HB.out]
          unfold evenB
          rw [HBG.out, Bool.true_and, List.all_eq_true]
          intro t ht
          obtain ⟨j, hj, rfl⟩ := List.getElem_of_mem ht
          exact decide_eq_true (HJ.out j hj (by rw [← HN.out]; exact hj))
        go_wp2
        go_ret
        exact ⟨rfl, HBW.out.trans (hB.mono HBW.out.size)⟩

end Go.Proofs.Ytbbkpaledlbcmaa

/- The program's power of a word. -/

namespace Go.Proofs.Ytbbkpaledlbcmaa
open Go.RowKit Go.Shelf

attribute [local go_sem] Oper.semAt_some

set_option maxRecDepth 100000 in
set_option maxHeartbeats 2000000 in
theorem power_in (n : Nat) (hn : 40 ≤ n) (gw cw : Nat) (s : ByteArray) (w : World) (h : wordB s.data.toList = true) (hw : IsWord w.heap.size w (.slice (some ⟨gw, 0, none⟩) s.size cw) s.data.toList) :
    CallsIn Fence.wide n Try.prog 179 #[.slice (some ⟨gw, 0, none⟩) s.size cw] w fun e w' => e = .returned (.int .i64 (pwL s.data.toList)) ∧ Below w.heap.size w w' := by
  obtain ⟨h1, h2, _⟩ := (wordB_iff _).1 h
  have hs : s.size ≤ 60 := by simpa using h1
  have H2 := Lib.hid h2
  have HW := Lib.hid hw
  clear h h1 h2 hw
  refine callsIn_of_wp_marks Try.func179 rfl trivial ?_ rfl
  simp only [Try.ntmps179, List.size_toArray, List.length_cons, List.length_nil, Nat.reduceAdd, Nat.reduceSub, Array.replicate_succ, Array.replicate_zero, List.push_toArray, List.append_toArray, List.nil_append, List.cons_append]
  gi_wp2_with fail
  refine ⟨trivial, fun _ => by omega, ?_⟩
  refine (callsIn_wide.2 (letters_fwd _ _ _ 1 _ (by decide))).mono ?_
  rintro e w2 ⟨rfl, rfl⟩
  have hbx := (Boxed.new w 3 (.int .i64 0)).alloc (.cells #[.slice (some ⟨gw, 0, none⟩) s.size cw] WT)
  have hbi := Boxed.new (w.alloc (.cells #[.int .i64 0] 3)) WT (.slice (some ⟨gw, 0, none⟩) s.size cw)
  have hBv : Below w.heap.size w ((w.alloc (.cells #[.int .i64 0] 3)).alloc (.cells #[.slice (some ⟨gw, 0, none⟩) s.size cw] WT)) := ((Below.refl _ w).alloc (Nat.le_refl _) _).alloc (by simp) _
  have hsz : ((w.alloc (.cells #[.int .i64 0] 3)).alloc (.cells #[.slice (some ⟨gw, 0, none⟩) s.size cw] WT)).heap.size = w.heap.size + 2 := by simp
  simp only [World.size_alloc] at hbx hbi ⊢
  generalize ((w.alloc (.cells #[.int .i64 0] 3)).alloc (.cells #[.slice (some ⟨gw, 0, none⟩) s.size cw] WT)) = V at hbx hbi hBv hsz ⊢
  have hwV : IsWord w.heap.size V (.slice (some ⟨gw, 0, none⟩) s.size cw) s.data.toList := HW.out.below hBv
  have HBI := Lib.hid hbi
  have HBX := Lib.hid hbx
  have HWV := Lib.hid hwV
  clear hbx hbi hwV
  gi_wp2_with fail
  refine range_letters (by omega) (gf := 204) (lb := #[.pointer (some ⟨w.heap.size + 1, 0, none⟩)]) rfl (enters_of Try.func204 (by kernel_rfl) rfl)
    (n₀ := w.heap.size) (B := w.heap.size) (xs := s.data.toList) (values_seq s.data.toList _ V (w.heap.size + 1) w.heap.size (by omega) (by omega) HBI.out.cell HWV.out) (by omega) (Nat.le_refl _) (by omega)
    (fun pre X => Boxed X w.heap.size 3 (.int .i64 (pwL pre)) ∧ Below w.heap.size w X)
    (OwnFrom.and (Own.from (boxed_own w.heap.size 3 (fun pre : List UInt8 => .int .i64 (pwL pre))) _) (ownFrom_below (Nat.le_refl _) (by omega)))
    ⟨HBX.out, hBv⟩
    (fun x => { tmps := #[.slice (some ⟨gw, 0, none⟩) s.size cw, undef, .int .i64 0, .pointer (some ⟨w.heap.size, 0, none⟩), .int .u8 (x.toNat : Int), .slice (some ⟨gw, 0, none⟩) s.size cw, .func (.func 204) #[] #[.pointer (some ⟨w.heap.size + 1, 0, none⟩)], .int .u8 (x.toNat : Int), undef, undef, undef, undef, undef], defers := [] }) ?assign ?body ?done
  case assign =>
    intro l x W K hK
    gi_wp2
    exact hK
  case body =>
    rintro l pre x X ⟨hbx, hB⟩ hpre
    have hlet : letB x = true := List.all_eq_true.1 H2.out x (prefix_mem hpre)
    have hplen := prefix_len hpre
    rw [show s.data.toList.length = s.size by simp] at hplen
    have hpb := pwL_bound pre
    obtain ⟨p, hp⟩ : ∃ p, pwL pre = p := ⟨_, rfl⟩
    rw [hp] at hpb hbx
    obtain ⟨hp1, hp2⟩ := hpb
    have hbc := hbx.cell
    have hfr := hbx.frozen
    have hsg := sgnB_bound x
    obtain ⟨u, hu⟩ : ∃ u, sgnB x = u := ⟨_, rfl⟩
    rw [hu] at hsg
    obtain ⟨hu1, hu2⟩ := hsg
    have HST : Hid (pwL (pre ++ [x]) = p + u) := Lib.hid (by rw [pwL_snoc, hp, hu])
    have HBX' := Lib.hid hbx
    have hd : 1 ≤ n - 1 - 1 := by omega
    have hmx : Try.prog.follows .mixedOrders = true := by kernel_rfl
    have hsx : ∀ W, Calls Try.prog 172 #[.int .u8 (x.toNat : Int)] W fun e w' => e = .returned (.int .i64 u) ∧ w' = W := fun W => by rw [← hu]; exact iSign_any x W hlet
    have HSX := Lib.hid hsx
    have hwrap : IntKind.i64.wrap (p + u) = p + u := IntWalk.i64_in _ (by omega)
    clear hlet hp hu hbx hpre hsx
    gi_wp2
    gi_region_with_o (first | (refine ⟨trivial, ?_⟩; gi_at_call 172; refine (CallsIn.inRound l (callsIn_wide.2 (HSX.out _))).mono ?_; rintro e w' ⟨rfl, rfl⟩))
    all_goals gi_wp2
    all_goals
      try rw [hwrap]
      have hst := HBX'.out.set (.int .i64 (p + u))
      rw [← HST.out] at hst ⊢
      have hko : KeepsOthers X (X.setCell ⟨w.heap.size, 0, none⟩ (.int .i64 (pwL (pre ++ [x])))).drew := (KeepsOthers.setCell _ _ _).trans (KeepsOthers.drew _)
      exact ⟨hko.from _, ⟨((Below.refl _ X).setCell (p := ⟨w.heap.size, 0, none⟩) (Nat.le_refl _) _).drew, fun k cs t r hk _ hkB => (Below.heap_setCell _ _ _ k hkB).trans hk, hko.from _⟩,
        hst, (hB.setCell (p := ⟨w.heap.size, 0, none⟩) (Nat.le_refl _) _).drew⟩
  case done =>
    rintro D X hD ⟨hbx, hB⟩ hK
    have hbc := hbx.cell
    gi_wp2
    refine ⟨by simp, .inl ⟨_, _, rfl, run_takeDeferred hK, ?_⟩⟩
    refine ⟨.int .i64 (pwL s.data.toList), by simp [results, Try.f179, go_sem], rfl, hB.trans (belowK_b (w := w) (Nat.le_refl _) X D _ _ (by omega) hK rfl rfl)⟩

theorem power_any (gw cw : Nat) (s : ByteArray) (w : World) (h : wordB s.data.toList = true) (hw : IsWord w.heap.size w (.slice (some ⟨gw, 0, none⟩) s.size cw) s.data.toList) :
    Calls Try.prog 179 #[.slice (some ⟨gw, 0, none⟩) s.size cw] w fun e w' => e = .returned (.int .i64 (pwL s.data.toList)) ∧ Below w.heap.size w w' :=
  (callsIn_wide (n := 50)).1 (power_in 50 (by omega) gw cw s w h hw)

end Go.Proofs.Ytbbkpaledlbcmaa

/- The program's tests on words and relators: slices.IndexFunc and slices.ContainsFunc at letters and at words; hasOnly, haveOnly, even. -/

namespace Go.Proofs.Ytbbkpaledlbcmaa
open Go.RowKit Go.Shelf

theorem firstN_any {p : Nat → Bool} {n : Nat} {r : Int} (h : (r = -1 ∧ ∀ j, j < n → p j = false) ∨ ∃ i, i < n ∧ r = (i : Int) ∧ p i = true) : (List.range n).any p = decide (0 ≤ r) := by
  rcases h with ⟨rfl, h⟩ | ⟨i, hi, rfl, h⟩
  · rw [List.any_eq_false.2]
    · rfl
    · intro j hj
      simpa using h j (List.mem_range.1 hj)
  · rw [decide_eq_true (by omega : (0 : Int) ≤ i)]
    exact List.any_eq_true.2 ⟨i, List.mem_range.2 hi, h⟩
theorem any_range {α : Type} (l : List α) (p : α → Bool) (d : α) : (List.range l.length).any (fun j => p (l.getD j d)) = l.any p := by
  rw [Bool.eq_iff_iff, List.any_eq_true, List.any_eq_true]
  constructor
  · rintro ⟨j, hj, h⟩
    have hj := List.mem_range.1 hj
    rw [List.getD_eq_getElem?_getD, List.getElem?_eq_getElem hj] at h
    exact ⟨_, List.getElem_mem hj, h⟩
  · rintro ⟨x, hx, h⟩
    obtain ⟨j, hj, rfl⟩ := List.getElem_of_mem hx
    exact ⟨j, List.mem_range.2 hj, by rw [List.getD_eq_getElem?_getD, List.getElem?_eq_getElem hj]; exact h⟩

set_option maxRecDepth 100000 in
set_option maxHeartbeats 2000000 in
theorem indexW_any (F : FuncId) (lb : Array Value) (p : UInt8 → Bool) (n₀ : Nat) (sv : Value) (l : List UInt8) (w : World) (eg : ∀ (args : Array Value) (w : World), (callFunc F args).run Try.prog w = .ok (.enter F args) w) (hw : IsWord n₀ w sv l)
    (hn₀ : n₀ ≤ w.heap.size) (hF : ∀ x ∈ l, ∀ W, Below w.heap.size w W → Calls Try.prog F (#[.int .u8 (x.toNat : Int)] ++ lb) W fun e w' => e = .returned (.bool (p x)) ∧ Below W.heap.size W w') :
    Calls Try.prog 207 #[sv, .func (.func F) #[] lb] w fun e w' => (∃ r, e = .returned (.int .i64 r) ∧ ((r = -1 ∧ ∀ j, j < l.length → p (l.getD j 0) = false) ∨ ∃ i, i < l.length ∧ r = (i : Int) ∧ p (l.getD i 0) = true)) ∧ Below w.heap.size w w' := by
  obtain ⟨g, off, cap, rfl, hg, hL, hc⟩ := hw
  obtain ⟨n, hn⟩ : ∃ n, l.length = n := ⟨_, rfl⟩
  have HG : Hid (∀ j (h : j < l.length), l.getD j 0 = l[j]) := Lib.hid fun j hj => by rw [List.getD_eq_getElem?_getD, List.getElem?_eq_getElem hj]; rfl
  have HN := Lib.hid hn
  have HC := Lib.hid hc
  have HF := Lib.hid hF
  rw [hn] at hL ⊢
  clear hc hF hn
  go_enter Try.func207, Try.ntmps207
  go_wp2
  go_loopw [8] (fun i wr => ∃ k : Nat, k ≤ n ∧ i = .int .i64 (k : Int) ∧ Hid (∀ j, j < k → p (l.getD j 0) = false) ∧ Below w.heap.size w wr) (fun i _ => n - (intOf i).toNat)
  case atStart => exact ⟨0, Nat.zero_le _, rfl, Lib.hid (fun j h => absurd h (Nat.not_lt_zero _)), Below.refl _ _⟩
  case round =>
    obtain ⟨k, hk, rfl, HJ, hB⟩ := hrel
    by_cases hlt : k < n
    · have hkz : k < l.length := by rw [HN.out]; exact hlt
      obtain ⟨x, hx⟩ : ∃ x, l[k] = x := ⟨_, rfl⟩
      have hck := (hB.cell (p := ⟨g, off + k, none⟩) (Nat.lt_of_lt_of_le hg hn₀)).trans (HC.out k hkz)
      rw [hx] at hck
      have HX := Lib.hid (HF.out x (by rw [← hx]; exact List.getElem_mem hkz) wr hB)
      have hgx : l.getD k 0 = x := (HG.out k hkz).trans hx
      have HGX := Lib.hid hgx
      obtain ⟨t, ht⟩ : ∃ t, p x = t := ⟨_, rfl⟩
      have HT := Lib.hid ht
      rw [ht] at HX
      clear hx hgx ht
      go_wp2_with fail
      refine HX.out.mono ?_
      rintro e w2 ⟨rfl, hb2⟩
      have hB2 := hB.trans (hb2.mono hB.size)
      cases t with
      | true =>
        go_wp2
        go_ret
        exact ⟨⟨_, rfl, .inr ⟨k, hlt, rfl, by rw [HGX.out]; exact HT.out⟩⟩, hB2⟩
      | false =>
        clear hck
        go_wp2
        go_roundw
        case rel =>
          refine ⟨k + 1, by omega, by go_num, Lib.hid ?_, hB2⟩
          intro j hjk
          by_cases e : j = k
          · subst e; rw [HGX.out]; exact HT.out
          · exact HJ.out j (by omega)
        case measure => simp [intOf]; omega
    · obtain rfl : k = n := by omega
      go_wp2
      go_ret
      exact ⟨⟨_, rfl, .inl ⟨rfl, fun j hj => HJ.out j hj⟩⟩, hB⟩

theorem containsW_any (F : FuncId) (lb : Array Value) (p : UInt8 → Bool) (b : Bool) (n₀ : Nat) (sv : Value) (l : List UInt8) (w : World) (eg : ∀ (args : Array Value) (w : World), (callFunc F args).run Try.prog w = .ok (.enter F args) w) (hw : IsWord n₀ w sv l)
    (hn₀ : n₀ ≤ w.heap.size) (hF : ∀ x ∈ l, ∀ W, Below w.heap.size w W → Calls Try.prog F (#[.int .u8 (x.toNat : Int)] ++ lb) W fun e w' => e = .returned (.bool (p x)) ∧ Below W.heap.size W w') (hb : l.any p = b) :
    Calls Try.prog 190 #[sv, .func (.func F) #[] lb] w fun e w' => e = .returned (.bool b) ∧ Below w.heap.size w w' := by
  subst hb
  have HI := Lib.hid (indexW_any F lb p n₀ sv l w eg hw hn₀ hF)
  have HA := Lib.hid (any_range l p 0)
  clear hw hF
  go_enter Try.func190, Try.ntmps190
  go_wp2_with fail
  refine HI.out.mono ?_
  rintro e w2 ⟨⟨r, rfl, hr⟩, hb2⟩
  have HR := Lib.hid (firstN_any (p := fun j => p (l.getD j 0)) hr)
  have HB := Lib.hid hb2
  clear hr hb2
  go_wp2
  go_ret
  exact ⟨ret_bool (by rw [← HA.out, HR.out]), HB.out⟩

set_option maxHeartbeats 1000000 in
theorem hasOnly1_any (c : UInt8) (n : Int) (B : Nat) (w : World) (hc : letB c = true) (hB : w.cell? ⟨B, 0, none⟩ = some (.int .i64 n)) :
    Calls Try.prog 191 #[.int .u8 (c.toNat : Int), .pointer (some ⟨B, 0, none⟩)] w fun e w' => e = .returned (.bool (decide (n ≤ (idxB c : Int)))) ∧ Below w.heap.size w w' := by
  have hmx : Try.prog.follows .mixedOrders = true := by kernel_rfl
  have hBl := World.block_lt_of_cell? _ _ hB
  obtain ⟨j, hj⟩ : ∃ j, idxB c = j := ⟨_, rfl⟩
  have HIX : Hid (∀ X : World, Calls Try.prog 171 #[.int .u8 (c.toNat : Int)] X fun e X' => e = .returned (.int .i64 (j : Int)) ∧ Below X.heap.size X X') := Lib.hid fun X => by
    rw [← hj]
    refine (iIndex_any c X hc).mono ?_
    rintro e w' ⟨h, rfl⟩
    exact ⟨h, Below.refl _ _⟩
  have v0 := BelowBy.cell (w := w) hBl hB
  rw [hj]
  clear hc hj
  go_enter Try.func191, Try.ntmps191
  go_wp2
  refine wp_region_below hmx (by kernel_rfl) ?_
  repeat (((with_reducible refine wpQuiet_step (fun K hK => ?_)); go_simp; first | ((with_reducible refine hK _ ?_); clear hK K) | (apply Exists.intro; (with_reducible refine ⟨fun _ => ?_, hK _ ?_⟩); (go_at_call 171; exact Calls.bel (HIX.out _)); clear hK K)))
  with_reducible refine wpQuiet_nil ?_
  rintro V ⟨⟨V, hV⟩, rfl⟩
  change Exit.then _ _ _ _ V
  go_wp2
  go_ret
  exact ⟨ret_bool (by simp), hV⟩

theorem only_any (n : Int) : ∀ l : List UInt8, (l.any fun c => decide (n ≤ (idxB c : Int))) = !onlyB n l
  | [] => rfl
  | c :: r => by
    have ih := only_any n r
    unfold onlyB at ih ⊢
    rw [List.any_cons, List.all_cons, ih, Bool.not_and]
    congr 1
    by_cases h : (idxB c : Int) < n
    · rw [decide_eq_true h, decide_eq_false (by omega)]; rfl
    · rw [decide_eq_false h, decide_eq_true (by omega)]; rfl
theorem all_any {α : Type} (p q : α → Bool) (h : ∀ x, p x = !q x) : ∀ l : List α, l.any p = !l.all q
  | [] => rfl
  | x :: r => by rw [List.any_cons, List.all_cons, all_any p q h r, Bool.not_and, h]

set_option maxRecDepth 100000 in
set_option maxHeartbeats 1000000 in
theorem hasOnly_any (n₀ : Nat) (sv : Value) (l : List UInt8) (n : Int) (b : Bool) (w : World) (hw : IsWord n₀ w sv l) (hn : n₀ ≤ w.heap.size) (hl : letL l = true) (hb : onlyB n l = b) :
    Calls Try.prog 153 #[sv, .int .i64 n] w fun e w' => e = .returned (.bool b) ∧ Below w.heap.size w w' := by
  have hmf : ∀ (fn : Fn) (first cap : Array Value) (w : World), (Instr.makeFunc fn first cap).run Try.prog w = .ok (.func fn first cap) w := fun _ _ _ _ => rfl
  obtain ⟨W, hW⟩ : ∃ W, w.alloc (.cells #[.int .i64 n] 3) = W := ⟨_, rfl⟩
  have hbW : Below w.heap.size w W := by rw [← hW]; exact (Below.refl _ w).alloc (Nat.le_refl _) _
  have hB : W.cell? ⟨w.heap.size, 0, none⟩ = some (.int .i64 n) := by rw [← hW]; exact (World.cell?_alloc_at _ _ _ _ (by simp)).trans rfl
  have hsz : w.heap.size < W.heap.size := by rw [← hW]; simp
  have HC := Lib.hid (containsW_any 191 #[.pointer (some ⟨w.heap.size, 0, none⟩)] (fun c => decide (n ≤ (idxB c : Int))) (!b) n₀ sv l W (enters_of Try.func191 (by kernel_rfl) rfl) (hw.below (hbW.mono hn)) (Nat.le_trans hn hbW.size)
    (fun x hx V hV => hasOnly1_any x n w.heap.size V (List.all_eq_true.1 hl x hx) ((hV.cell (p := ⟨w.heap.size, 0, none⟩) hsz).trans hB)) (by rw [only_any, hb]))
  have HBW := Lib.hid hbW
  have HW := Lib.hid hW
  clear hw hl hb hW hbW hB
  go_enter Try.func153, Try.ntmps153
  go_wp2_with fail
  rw [HW.out]
  refine HC.out.mono ?_
  rintro e w2 ⟨rfl, hb2⟩
  have HB2 := Lib.hid (HBW.out.trans (hb2.mono HBW.out.size))
  clear hb2
  go_wp2
  go_ret
  exact ⟨ret_bool (by cases b <;> rfl), HB2.out⟩

set_option maxRecDepth 100000 in
set_option maxHeartbeats 2000000 in
theorem indexR_any (F : FuncId) (lb : Array Value) (p : Nat → Bool) (g cap n : Nat) (vs : List Value) (w : World) (eg : ∀ (args : Array Value) (w : World), (callFunc F args).run Try.prog w = .ok (.enter F args) w) (hn : vs.length = n) (hm : n ≤ 1000000) (hg : g < w.heap.size)
    (hc : ∀ j (h : j < vs.length), w.cell? ⟨g, j, none⟩ = some vs[j])
    (hF : ∀ j (h : j < vs.length) W, Below w.heap.size w W → Calls Try.prog F (#[vs[j]] ++ lb) W fun e w' => e = .returned (.bool (p j)) ∧ Below W.heap.size W w') :
    Calls Try.prog 201 #[.slice (some ⟨g, 0, none⟩) n cap, .func (.func F) #[] lb] w fun e w' => (∃ r, e = .returned (.int .i64 r) ∧ ((r = -1 ∧ ∀ j, j < n → p j = false) ∨ ∃ i, i < n ∧ r = (i : Int) ∧ p i = true)) ∧ Below w.heap.size w w' := by
  have HN := Lib.hid hn
  have HC := Lib.hid hc
  have HF := Lib.hid hF
  clear hc hF hn
  go_enter Try.func201, Try.ntmps201
  go_wp2
  go_loopw [8] (fun i wr => ∃ k : Nat, k ≤ n ∧ i = .int .i64 (k : Int) ∧ Hid (∀ j, j < k → p j = false) ∧ Below w.heap.size w wr) (fun i _ => n - (intOf i).toNat)
  case atStart => exact ⟨0, Nat.zero_le _, rfl, Lib.hid (fun j h => absurd h (Nat.not_lt_zero _)), Below.refl _ _⟩
  case round =>
    obtain ⟨k, hk, rfl, HJ, hB⟩ := hrel
    by_cases hlt : k < n
    · have hkz : k < vs.length := by rw [HN.out]; exact hlt
      obtain ⟨x, hx⟩ : ∃ x, vs[k] = x := ⟨_, rfl⟩
      have hck : wr.cell? ⟨g, k, none⟩ = some x := by rw [← hx]; exact (hB.cell (p := ⟨g, k, none⟩) hg).trans (HC.out k hkz)
      have hX := HF.out k hkz wr hB
      obtain ⟨t, ht⟩ : ∃ t, p k = t := ⟨_, rfl⟩
      rw [ht, hx] at hX
      have HX := Lib.hid hX
      have HT := Lib.hid ht
      clear hx hX ht
      go_wp2_with fail
      refine HX.out.mono ?_
      rintro e w2 ⟨rfl, hb2⟩
      have hB2 := hB.trans (hb2.mono hB.size)
      cases t with
      | true =>
        go_wp2
        go_ret
        exact ⟨⟨_, rfl, .inr ⟨k, hlt, rfl, HT.out⟩⟩, hB2⟩
      | false =>
        clear hck
        go_wp2
        go_roundw
        case rel =>
          refine ⟨k + 1, by omega, by go_num, Lib.hid ?_, hB2⟩
          intro j hjk
          by_cases e : j = k
          · subst e; exact HT.out
          · exact HJ.out j (by omega)
        case measure => simp [intOf]; omega
    · obtain rfl : k = n := by omega
      go_wp2
      go_ret
      exact ⟨⟨_, rfl, .inl ⟨rfl, fun j hj => HJ.out j hj⟩⟩, hB⟩

theorem containsR_any (F : FuncId) (lb : Array Value) (p : Nat → Bool) (b : Bool) (g cap n : Nat) (vs : List Value) (w : World) (eg : ∀ (args : Array Value) (w : World), (callFunc F args).run Try.prog w = .ok (.enter F args) w) (hn : vs.length = n) (hm : n ≤ 1000000) (hg : g < w.heap.size)
    (hc : ∀ j (h : j < vs.length), w.cell? ⟨g, j, none⟩ = some vs[j])
    (hF : ∀ j (h : j < vs.length) W, Below w.heap.size w W → Calls Try.prog F (#[vs[j]] ++ lb) W fun e w' => e = .returned (.bool (p j)) ∧ Below W.heap.size W w') (hb : (List.range n).any p = b) :
    Calls Try.prog 177 #[.slice (some ⟨g, 0, none⟩) n cap, .func (.func F) #[] lb] w fun e w' => e = .returned (.bool b) ∧ Below w.heap.size w w' := by
  subst hb
  have HI := Lib.hid (indexR_any F lb p g cap n vs w eg hn hm hg hc hF)
  clear hn hc hF
  go_enter Try.func177, Try.ntmps177
  go_wp2_with fail
  refine HI.out.mono ?_
  rintro e w2 ⟨⟨r, rfl, hr⟩, hb2⟩
  have HR := Lib.hid (firstN_any hr)
  have HB := Lib.hid hb2
  clear hr hb2
  go_wp2
  go_ret
  exact ⟨ret_bool (by rw [HR.out]), HB.out⟩

/-- Relators as words of one's own. -/
structure RelsAt (lo : Nat) (w : World) (g : Nat) (zs : List ByteArray) (vs : List Value) : Prop where
  row : w.ownsRow lo WT 1 (.slice (some ⟨g, 0, none⟩) zs.length zs.length) zs.length vs
  at_ : ∀ j (h : j < zs.length) v, vs[j]? = some v → WordAt lo w v zs[j].data.toList
theorem RelsAt.below {lo : Nat} {w w' : World} {g : Nat} {zs : List ByteArray} {vs : List Value} (h : RelsAt lo w g zs vs) (hb : Below w.heap.size w w') : RelsAt lo w' g zs vs :=
  ⟨ownsRow_past h.row hb, fun j hj v hv => (h.at_ j hj v hv).below hb⟩
theorem RelsAt.len {lo : Nat} {w : World} {g : Nat} {zs : List ByteArray} {vs : List Value} (h : RelsAt lo w g zs vs) : vs.length = zs.length := by have := h.row.1; omega
theorem RelsAt.lt {lo : Nat} {w : World} {g : Nat} {zs : List ByteArray} {vs : List Value} (h : RelsAt lo w g zs vs) : lo ≤ g ∧ g < w.heap.size := ⟨own_ge h.row g rfl, own_lt h.row g rfl⟩
theorem RelsAt.cell {lo : Nat} {w : World} {g : Nat} {zs : List ByteArray} {vs : List Value} (h : RelsAt lo w g zs vs) : ∀ j (hj : j < vs.length), w.cell? ⟨g, j, none⟩ = some vs[j] := fun j hj => by
  rw [h.row.cellAt j (by have := h.len; omega)]
  exact List.getElem?_eq_getElem hj
theorem RelsAt.word {lo : Nat} {w : World} {g : Nat} {zs : List ByteArray} {vs : List Value} (h : RelsAt lo w g zs vs) {j : Nat} (hj : j < vs.length) : WordAt lo w vs[j] (zs.getD j ByteArray.empty).data.toList := by
  have hz : j < zs.length := by have := h.len; omega
  have e : zs.getD j ByteArray.empty = zs[j] := by rw [List.getD_eq_getElem?_getD, List.getElem?_eq_getElem hz]; rfl
  rw [e]
  exact h.at_ j hz _ (List.getElem?_eq_getElem hj)

set_option maxRecDepth 100000 in
set_option maxHeartbeats 1000000 in
theorem haveOnly1_any (sv : Value) (l : List UInt8) (n : Int) (b : Bool) (B : Nat) (w : World) (hw : IsWord w.heap.size w sv l) (hl : letL l = true) (hb : onlyB n l = b) (hB : w.cell? ⟨B, 0, none⟩ = some (.int .i64 n)) :
    Calls Try.prog 200 #[sv, .pointer (some ⟨B, 0, none⟩)] w fun e w' => e = .returned (.bool !b) ∧ Below w.heap.size w w' := by
  have HC := Lib.hid (hasOnly_any _ sv l n b w hw (Nat.le_refl _) hl hb)
  clear hw hl hb
  go_enter Try.func200, Try.ntmps200
  go_wp2_with fail
  refine HC.out.mono ?_
  rintro e w2 ⟨rfl, hb2⟩
  go_wp2
  go_ret
  exact ⟨rfl, hb2⟩

set_option maxRecDepth 100000 in
set_option maxHeartbeats 1000000 in
theorem haveOnly_any (lo g : Nat) (zs : List ByteArray) (vs : List Value) (n : Int) (b : Bool) (w : World) (h : RelsAt lo w g zs vs) (hm : zs.length ≤ 1000000) (hl : ∀ s ∈ zs, wordB s.data.toList = true) (hb : (zs.all fun s => onlyB n s.data.toList) = b) :
    Calls Try.prog 176 #[.slice (some ⟨g, 0, none⟩) zs.length zs.length, .int .i64 n] w fun e w' => e = .returned (.bool b) ∧ Below w.heap.size w w' := by
  have hmf : ∀ (fn : Fn) (first cap : Array Value) (w : World), (Instr.makeFunc fn first cap).run Try.prog w = .ok (.func fn first cap) w := fun _ _ _ _ => rfl
  obtain ⟨W, hW⟩ : ∃ W, w.alloc (.cells #[.int .i64 n] 3) = W := ⟨_, rfl⟩
  have hbW : Below w.heap.size w W := by rw [← hW]; exact (Below.refl _ w).alloc (Nat.le_refl _) _
  have hsz : w.heap.size < W.heap.size := by rw [← hW]; simp
  have hB : W.cell? ⟨w.heap.size, 0, none⟩ = some (.int .i64 n) := by rw [← hW]; exact (World.cell?_alloc_at _ _ _ _ (by simp)).trans rfl
  have h2 := h.below hbW
  have HC := Lib.hid (containsR_any 200 #[.pointer (some ⟨w.heap.size, 0, none⟩)] (fun j => (fun s : ByteArray => !onlyB n s.data.toList) (zs.getD j ByteArray.empty)) (!b) g zs.length zs.length vs W (enters_of Try.func200 (by kernel_rfl) rfl) h2.len hm h2.lt.2 h2.cell
    (fun j hj V hV => by
      have hz : j < zs.length := by have := h2.len; omega
      have e : zs.getD j ByteArray.empty = zs[j] := by rw [List.getD_eq_getElem?_getD, List.getElem?_eq_getElem hz]; rfl
      have hwd := (h2.word hj).below hV
      exact haveOnly1_any vs[j] _ n _ w.heap.size V hwd.isWord (by rw [e]; exact ((wordB_iff _).1 (hl _ (List.getElem_mem hz))).2.1) rfl ((hV.cell (p := ⟨w.heap.size, 0, none⟩) hsz).trans hB))
    (by rw [any_range zs (fun s : ByteArray => !onlyB n s.data.toList) ByteArray.empty, all_any (fun s : ByteArray => !onlyB n s.data.toList) (fun s => onlyB n s.data.toList) (fun _ => rfl), hb]))
  have HBW := Lib.hid hbW
  have HW := Lib.hid hW
  clear h h2 hl hb hW hbW hB
  go_enter Try.func176, Try.ntmps176
  go_wp2_with fail
  rw [HW.out]
  refine HC.out.mono ?_
  rintro e w2 ⟨rfl, hb2⟩
  have HB2 := Lib.hid (HBW.out.trans (hb2.mono HBW.out.size))
  clear hb2
  go_wp2
  go_ret
  exact ⟨ret_bool (by cases b <;> rfl), HB2.out⟩

set_option maxRecDepth 100000 in
set_option maxHeartbeats 1000000 in
theorem even1_any (lo : Nat) (sv : Value) (s : ByteArray) (b : Bool) (w : World) (hw : WordAt lo w sv s.data.toList) (h : wordB s.data.toList = true) (hb : decide (pwL s.data.toList = 0) = b) :
    Calls Try.prog 178 #[sv] w fun e w' => e = .returned (.bool !b) ∧ Below w.heap.size w w' := by
  have hi := hw.isWord
  obtain ⟨g, c, rfl⟩ := hw.slice
  rw [show s.data.toList.length = s.size by simp] at hi ⊢
  obtain ⟨m, hm⟩ : ∃ m, pwL s.data.toList = m := ⟨_, rfl⟩
  have HC := Lib.hid (power_any g c s w h hi)
  rw [hm] at HC hb
  clear hw hi h hm
  have hne : (m != 0) = !b := by rw [← hb]; by_cases e : m = 0 <;> simp [e]
  go_enter Try.func178, Try.ntmps178
  go_wp2_with fail
  refine HC.out.mono ?_
  rintro e w2 ⟨rfl, hb2⟩
  go_wp2
  go_ret
  first | exact ⟨rfl, hb2⟩ | exact ⟨ret_bool hne, hb2⟩ | exact ⟨ret_bool (by rw [← hne]; rfl), hb2⟩ | exact ⟨ret_bool (by rw [← hne]; simp [bne]), hb2⟩

set_option maxRecDepth 100000 in
set_option maxHeartbeats 1000000 in
theorem even_any (lo g : Nat) (zs : List ByteArray) (vs : List Value) (b : Bool) (w : World) (h : RelsAt lo w g zs vs) (hm : zs.length ≤ 1000000) (hl : ∀ s ∈ zs, wordB s.data.toList = true) (hb : (zs.all fun s => decide (pwL s.data.toList = 0)) = b) :
    Calls Try.prog 139 #[.slice (some ⟨g, 0, none⟩) zs.length zs.length] w fun e w' => e = .returned (.bool b) ∧ Below w.heap.size w w' := by
  have HC := Lib.hid (containsR_any 178 #[] (fun j => (fun s : ByteArray => !decide (pwL s.data.toList = 0)) (zs.getD j ByteArray.empty)) (!b) g zs.length zs.length vs w (enters_of Try.func178 (by kernel_rfl) rfl) h.len hm h.lt.2 h.cell
    (fun j hj V hV => by
      have hz : j < zs.length := by have := h.len; omega
      have e : zs.getD j ByteArray.empty = zs[j] := by rw [List.getD_eq_getElem?_getD, List.getElem?_eq_getElem hz]; rfl
      exact even1_any lo vs[j] _ _ V ((h.word hj).below hV) (by rw [e]; exact hl _ (List.getElem_mem hz)) rfl)
    (by rw [any_range zs (fun s : ByteArray => !decide (pwL s.data.toList = 0)) ByteArray.empty, all_any (fun s : ByteArray => !decide (pwL s.data.toList = 0)) (fun s => decide (pwL s.data.toList = 0)) (fun _ => rfl), hb]))
  clear h hl hb
  go_enter Try.func139, Try.ntmps139
  go_wp2_with fail
  refine HC.out.mono ?_
  rintro e w2 ⟨rfl, hb2⟩
  go_wp2
  go_ret
  exact ⟨ret_bool (by cases b <;> rfl), hb2⟩

end Go.Proofs.Ytbbkpaledlbcmaa

/- The program's groupOf, GroupIn and GroupEven. -/

namespace Go.Proofs.Ytbbkpaledlbcmaa
open Go.RowKit Go.Shelf

theorem boxes2 {w w1 W : World} {t1 t2 : TypeId} {x y : Value} (hW : (w.alloc (.cells #[x, y] t1)).alloc (.cells #[.int .i64 0, .slice none 0 0] t2) = W) (hg : Below W.heap.size W w1) :
    (w1.cell? ⟨w.heap.size, 0, none⟩ = some x ∧ w1.cell? ⟨w.heap.size, 1, none⟩ = some y) ∧ w1.cell? ⟨w.heap.size + 1, 0, none⟩ = some (.int .i64 0) ∧ w1.cell? ⟨w.heap.size + 1, 1, none⟩ = some (.slice none 0 0) ∧ w1.frozen? ⟨w.heap.size + 1, 0, none⟩ = false ∧ w1.frozen? ⟨w.heap.size + 1, 1, none⟩ = false := by
  have hsz : W.heap.size = w.heap.size + 2 := by rw [← hW]; simp
  have k0 : W.heap[w.heap.size]? = some (.cells #[x, y] t1 (0, 0)) := by
    rw [← hW, Below.heap_alloc _ _ _ (by simp)]
    exact World.alloc_heap_new w _
  have k1 : W.heap[w.heap.size + 1]? = some (.cells #[.int .i64 0, .slice none 0 0] t2 (0, 0)) := by
    rw [← hW]
    have h := World.alloc_heap_new (w.alloc (.cells #[x, y] t1)) (.cells #[.int .i64 0, .slice none 0 0] t2)
    rwa [World.size_alloc] at h
  have e0 := (hg.block w.heap.size (by omega)).trans k0
  have e1 := (hg.block (w.heap.size + 1) (by omega)).trans k1
  refine ⟨⟨?_, ?_⟩, ?_, ?_, ?_, ?_⟩ <;> simp [World.cell?, World.frozen?, e0, e1]
theorem boxes2Below {w W : World} {t1 t2 : TypeId} {x y u v : Value} (hW : (w.alloc (.cells #[x, y] t1)).alloc (.cells #[u, v] t2) = W) : Below w.heap.size w W ∧ W.heap.size = w.heap.size + 2 := by
  rw [← hW]
  exact ⟨((Below.refl _ w).alloc (Nat.le_refl _) _).alloc (by simp) _, by simp⟩
theorem RelsAt.setCell {lo : Nat} {w : World} {g : Nat} {zs : List ByteArray} {vs : List Value} (h : RelsAt lo w g zs vs) {a : Addr} (ha : a.block < lo) (u : Value) : RelsAt lo (w.setCell a u) g zs vs :=
  ⟨ownsRow_setCell_below h.row ha u, fun j hj v hv => (h.at_ j hj v hv).setCell ha u⟩
theorem WordAt.mono {lo lo2 : Nat} {w : World} {v : Value} {l : List UInt8} (h : WordAt lo w v l) (hl : lo2 ≤ lo) : WordAt lo2 w v l := by
  obtain ⟨g, c, e, h1, h2⟩ := h
  exact ⟨g, c, e, by omega, h2⟩
theorem RelsAt.mono {lo lo2 : Nat} {w : World} {g : Nat} {zs : List ByteArray} {vs : List Value} (h : RelsAt lo w g zs vs) (hl : lo2 ≤ lo) : RelsAt lo2 w g zs vs :=
  ⟨ownsRow_base h.row hl, fun j hj v hv => (h.at_ j hj v hv).mono hl⟩
/-- What groupOf comes to. -/
def GroupT (w : World) (low : Int) (zs : List ByteArray) (b : Bool) (e : Ending) (w' : World) : Prop :=
  ((b = false ∧ e = .returned (.tuple #[plV 0 (.slice none 0 0), .bool false])) ∨ (b = true ∧ ∃ g vs, e = .returned (.tuple #[plV low (.slice (some ⟨g, 0, none⟩) zs.length zs.length), .bool true]) ∧ RelsAt w.heap.size w' g zs vs)) ∧ Below w.heap.size w w'

theorem wordsOf_strs (g cap n : Nat) (ss : List ByteArray) (w : World) (hs : IsStrs w (some ⟨g, 0, none⟩) n ss) (hn : n ≤ 1000000) (h0 : 0 < w.heap.size) :
    Calls Try.prog 175 #[.slice (some ⟨g, 0, none⟩) n cap] w fun e w' =>
      ((e = .returned (.tuple #[.slice none 0 0, .bool false]) ∧ ∃ s ∈ ss, wordB s.data.toList = false) ∨
       (∃ g vals, e = .returned (.tuple #[.slice (some ⟨g, 0, none⟩) n n, .bool true]) ∧ (∀ s ∈ ss, wordB s.data.toList = true) ∧ RelsAt w.heap.size w' g ss vals)) ∧ Below w.heap.size w w' := by
  have key : Calls Try.prog 175 #[.slice (some ⟨g, 0, none⟩) n cap] w fun e w' =>
      ((e = .returned (.tuple #[.slice none 0 0, .bool false]) ∧ ∃ s ∈ ss, wordB s.data.toList = false) ∨
       (∃ g vals, e = .returned (.tuple #[.slice (some ⟨g, 0, none⟩) n n, .bool true]) ∧ (∀ s ∈ ss, wordB s.data.toList = true) ∧ w'.ownsRow w.heap.size WT 1 (.slice (some ⟨g, 0, none⟩) n n) n vals ∧
        ∀ j (h : j < ss.length) v, vals[j]? = some v → WordAt w.heap.size w' v ss[j].data.toList)) ∧ Below w.heap.size w w' := by
    by_cases h : 0 < n
    · have hl := hs.len
      obtain ⟨x, e, hb, hc⟩ := hs.at_.cells (by omega)
      cases e
      refine wordsOf_any _ g 0 cap n ss w hs.len hn (fun _ => rfl) hb (fun i hi => ?_) hs.at_.small
      have e1 : (⟨g, 0, none⟩ : Addr).add i = ⟨g, 0 + i, none⟩ := by unfold Addr.add; split <;> simp_all
      rw [← e1]
      exact hc i hi
    · exact wordsOf_any _ 0 0 cap n ss w hs.len hn (fun h2 => absurd h2 h) h0 (fun i hi => by have := hs.len; omega) hs.at_.small
  refine key.mono ?_
  rintro e w' ⟨h | ⟨g2, vals, he, hall, hr, hv⟩, hB⟩
  · exact ⟨.inl h, hB⟩
  · have hl := hs.len
    subst hl
    exact ⟨.inr ⟨g2, vals, he, hall, ⟨hr, hv⟩⟩, hB⟩

set_option maxRecDepth 100000 in
set_option maxHeartbeats 4000000 in
theorem groupOf_any (low : Int) (g cap n : Nat) (zs : List ByteArray) (b : Bool) (w : World) (hs : IsStrs w (some ⟨g, 0, none⟩) n zs) (hb : groupB low zs = b) :
    Calls Try.prog 136 #[plV low (.slice (some ⟨g, 0, none⟩) n cap)] w (GroupT w low zs b) := by
  have hm := hs.max
  unfold maxLen at hm
  obtain ⟨W, hW⟩ : ∃ W, (w.alloc (.cells #[.int .i64 low, .slice (some ⟨g, 0, none⟩) n cap] 64)).alloc (.cells #[.int .i64 0, .slice none 0 0] 137) = W := ⟨_, rfl⟩
  obtain ⟨hbW, hsz⟩ := boxes2Below hW
  have HC : Hid (∀ w1, Below W.heap.size W w1 → _) := Lib.hid fun w1 (hg : Below W.heap.size W w1) => boxes2 hW hg
  obtain ⟨⟨p0, p1⟩, d0, d1, f0, f1⟩ := boxes2 hW (Below.refl _ _)
  have HS := Lib.hid (hs.below hbW)
  have HN := Lib.hid hs.len
  have HB := Lib.hid hb
  have HBW := Lib.hid hbW
  have HW := Lib.hid hW
  have HNO : Hid (∀ w1, Below W.heap.size W w1 → b = false → GroupT w low zs b (.returned (.tuple #[plV 0 (.slice none 0 0), .bool false])) ((w1.setCell ⟨w.heap.size + 1, 0, none⟩ (.int .i64 0)).setCell ⟨w.heap.size + 1, 1, none⟩ (.slice none 0 0))) := Lib.hid fun w1 h1 e =>
    ⟨.inl ⟨e, rfl⟩, ((hbW.trans (h1.mono hbW.size)).setCell (p := ⟨w.heap.size + 1, 0, none⟩) (by show w.heap.size ≤ w.heap.size + 1; omega) _).setCell (p := ⟨w.heap.size + 1, 1, none⟩) (by show w.heap.size ≤ w.heap.size + 1; omega) _⟩
  rw [← hW] at p0 p1 d0 d1 f0 f1
  clear hs hb hbW hW
  by_cases hr : (1 ≤ low ∧ low ≤ 4) ∧ n ≤ 4
  case neg =>
    have HF : Hid (b = false) := Lib.hid (by
      rw [← HB.out]
      unfold groupB inR
      rw [HN.out]
      by_cases h1 : 1 ≤ low
      · by_cases h2 : low ≤ 4
        · rw [decide_eq_false (fun h : n ≤ 4 => hr ⟨⟨h1, h2⟩, h⟩), Bool.false_and, Bool.and_false]
        · rw [decide_eq_false h2, Bool.and_false, Bool.false_and]
      · rw [decide_eq_false h1, Bool.false_and, Bool.false_and])
    by_cases h1 : low < 1
    · go_enter Try.func136, Try.ntmps136
      go_wp2
      rw [HW.out]
      clear p0 p1 d0 d1 f0 f1
      obtain ⟨_, d0, d1, _⟩ := HC.out W (Below.refl _ _)
      refine bodyPost_ret (v := .tuple #[plV 0 (.slice none 0 0), .bool false]) ?_ rfl ⟨.inl ⟨HF.out, rfl⟩, HBW.out⟩
      simp [results, Try.results136, go_sem, d0, d1, plV]
    · by_cases h2 : 4 < low
      · go_enter Try.func136, Try.ntmps136
        go_wp2
        rw [HW.out]
        clear p0 p1 d0 d1 f0 f1
        obtain ⟨_, d0, d1, _⟩ := HC.out W (Below.refl _ _)
        refine bodyPost_ret (v := .tuple #[plV 0 (.slice none 0 0), .bool false]) ?_ rfl ⟨.inl ⟨HF.out, rfl⟩, HBW.out⟩
        simp [results, Try.results136, go_sem, d0, d1, plV]
      · have h3 : 4 < n := by omega
        have h3i : (4 : Int) < (n : Int) := by omega
        go_enter Try.func136, Try.ntmps136
        go_wp2
        rw [HW.out]
        clear p0 p1 d0 d1 f0 f1
        obtain ⟨_, d0, d1, _⟩ := HC.out W (Below.refl _ _)
        refine bodyPost_ret (v := .tuple #[plV 0 (.slice none 0 0), .bool false]) ?_ rfl ⟨.inl ⟨HF.out, rfl⟩, HBW.out⟩
        simp [results, Try.results136, go_sem, d0, d1, plV]
  obtain ⟨⟨h1, h2⟩, h4⟩ := hr
  have h1' : ¬ low < 1 := by omega
  have h2' : ¬ 4 < low := by omega
  have h4' : ¬ (4 : Int) < (n : Int) := by omega
  have HWO := Lib.hid (wordsOf_strs g cap n zs W HS.out (by omega) (by omega))
  go_enter Try.func136, Try.ntmps136
  go_wp2_with fail
  rw [HW.out]
  refine HWO.out.mono ?_
  rintro e w1 ⟨⟨rfl, s, hs, hsw⟩ | ⟨g2, vals, rfl, hall, hrel⟩, hb1⟩
  · clear p0 p1 d0 d1 f0 f1
    obtain ⟨⟨p0, p1⟩, _⟩ := HC.out w1 hb1
    obtain ⟨_, d0, d1, f0, f1⟩ := HC.out _ (hb1.alloc hb1.size (.cells #[.int .i64 low, .slice none 0 0] 137))
    have HF : Hid (b = false) := Lib.hid (by
      rw [← HB.out]
      unfold groupB
      rw [List.all_eq_false.2 ⟨s, hs, by unfold relB; rw [hsw]; simp⟩, Bool.and_false, Bool.and_false])
    have HB1 := Lib.hid hb1
    clear hb1 hs hsw
    go_wp2
    refine bodyPost_ret (v := .tuple #[plV 0 (.slice none 0 0), .bool false]) ?_ rfl (HNO.out _ (HB1.out.alloc HB1.out.size (.cells #[.int .i64 low, .slice none 0 0] 137)) HF.out)
    simp [results, Try.results136, go_sem, d0, d1, plV]
  · clear p0 p1 d0 d1 f0 f1
    obtain ⟨⟨p0, p1⟩, _⟩ := HC.out w1 hb1
    have hs1 := hb1.size
    obtain ⟨V, hV⟩ : ∃ V, w1.alloc (.cells #[.int .i64 low, .slice (some ⟨g2, 0, none⟩) n n] 137) = V := ⟨_, rfl⟩
    have hbV : Below w1.heap.size w1 V := by rw [← hV]; exact (Below.refl _ _).alloc (Nat.le_refl _) _
    have hx := boxNew hV
    obtain ⟨_, q0, q1⟩ := hx
    have HX : Hid (BoxAt V w1.heap.size (.int .i64 low) (.slice (some ⟨g2, 0, none⟩) n n)) := Lib.hid (boxNew hV)
    have HBV := Lib.hid (hb1.trans (hbV.mono hs1))
    obtain ⟨⟨p2, p3⟩, _⟩ := HC.out V HBV.out
    have HREL := Lib.hid (hrel.below hbV)
    have hlz := HN.out
    obtain ⟨b2, hb2⟩ : ∃ b2, (zs.all fun s => onlyB low s.data.toList) = b2 := ⟨_, rfl⟩
    have HHO := Lib.hid (haveOnly_any W.heap.size g2 zs vals low b2 V HREL.out (by omega) hall hb2)
    rw [hlz] at HHO
    have HBE : Hid (b = b2) := Lib.hid (by
      rw [← HB.out, ← hb2]
      unfold groupB inR
      rw [decide_eq_true h1, decide_eq_true h2, HN.out, decide_eq_true h4, Bool.true_and, Bool.true_and, Bool.true_and, Bool.eq_iff_iff, List.all_eq_true, List.all_eq_true]
      unfold relB
      exact ⟨fun h t ht => by have := h t ht; simp only [Bool.and_eq_true] at this; exact this.2, fun h t ht => by rw [hall t ht, h t ht]; rfl⟩)
    have HV := Lib.hid hV
    rw [← hV] at q0 q1 p2 p3
    clear hrel hV hbV hb1 hb2
    go_wp2_with fail
    rw [HV.out]
    refine HHO.out.mono ?_
    rintro e w3 ⟨rfl, hb3⟩
    have HB3 := Lib.hid (HBV.out.trans (hb3.mono HBV.out.size))
    clear p0 p1 p2 p3 q0 q1
    obtain ⟨_, d0, d1, f0, f1⟩ := HC.out w3 HB3.out
    obtain ⟨_, q0, q1⟩ := HX.out.below hb3
    have HREL3 := Lib.hid (HREL.out.below hb3)
    clear hb3
    cases b2 with
    | false =>
      go_wp2
      refine bodyPost_ret (v := .tuple #[plV 0 (.slice none 0 0), .bool false]) ?_ rfl (HNO.out w3 HB3.out HBE.out)
      simp [results, Try.results136, go_sem, d0, d1, plV]
    | true =>
      go_wp2
      have hfin : GroupT w low zs b (.returned (.tuple #[plV low (.slice (some ⟨g2, 0, none⟩) n n), .bool true])) ((w3.setCell ⟨w.heap.size + 1, 0, none⟩ (.int .i64 low)).setCell ⟨w.heap.size + 1, 1, none⟩ (.slice (some ⟨g2, 0, none⟩) n n)) := by
        refine ⟨.inr ⟨HBE.out, g2, vals, by rw [HN.out], ?_⟩, ((HBW.out.trans (HB3.out.mono HBW.out.size)).setCell (p := ⟨w.heap.size + 1, 0, none⟩) (by show w.heap.size ≤ w.heap.size + 1; omega) _).setCell (p := ⟨w.heap.size + 1, 1, none⟩) (by show w.heap.size ≤ w.heap.size + 1; omega) _⟩
        exact ((HREL3.out.setCell (a := ⟨w.heap.size + 1, 0, none⟩) (by show w.heap.size + 1 < W.heap.size; omega) _).setCell (a := ⟨w.heap.size + 1, 1, none⟩) (by show w.heap.size + 1 < W.heap.size; omega) _).mono (by omega)
      refine bodyPost_ret (v := .tuple #[plV low (.slice (some ⟨g2, 0, none⟩) n n), .bool true]) ?_ rfl hfin
      simp [results, Try.results136, go_sem, d0, d1, plV]

set_option maxRecDepth 100000 in
set_option maxHeartbeats 2000000 in
theorem iGroupIn_any (low : Int) (g cap n : Nat) (zs : List ByteArray) (b : Bool) (w : World) (hs : IsStrs w (some ⟨g, 0, none⟩) n zs) (hb : groupB low zs = b) :
    Calls Try.prog 68 #[plV low (.slice (some ⟨g, 0, none⟩) n cap)] w fun e w' => e = .returned (.bool b) ∧ Below w.heap.size w w' := by
  obtain ⟨W, hW⟩ : ∃ W, w.alloc (.cells #[.int .i64 low, .slice (some ⟨g, 0, none⟩) n cap] 64) = W := ⟨_, rfl⟩
  have hbW : Below w.heap.size w W := by rw [← hW]; exact (Below.refl _ w).alloc (Nat.le_refl _) _
  obtain ⟨_, p0, p1⟩ := boxNew hW
  have HG := Lib.hid (groupOf_any low g cap n zs b W (hs.below hbW) hb)
  have HBW := Lib.hid hbW
  have HW := Lib.hid hW
  rw [← hW] at p0 p1
  clear hs hb hbW hW
  go_enter Try.func68, Try.ntmps68
  go_wp2_with fail
  rw [HW.out]
  refine HG.out.mono ?_
  rintro e w1 ⟨⟨rfl, rfl⟩ | ⟨rfl, g2, vs, rfl, hr⟩, hb1⟩
  · have HB1 := Lib.hid (HBW.out.trans (hb1.mono HBW.out.size))
    clear hb1 p0 p1
    go_wp2
    go_ret
    exact ⟨rfl, HB1.out.alloc HB1.out.size _⟩
  · have HB1 := Lib.hid (HBW.out.trans (hb1.mono HBW.out.size))
    clear hb1 hr p0 p1
    go_wp2
    go_ret
    exact ⟨rfl, HB1.out.alloc HB1.out.size _⟩

set_option maxRecDepth 100000 in
set_option maxHeartbeats 2000000 in
theorem iGroupEven_any (low : Int) (g cap n : Nat) (zs : List ByteArray) (b : Bool) (w : World) (hs : IsStrs w (some ⟨g, 0, none⟩) n zs) (hb : evenB low zs = b) :
    Calls Try.prog 71 #[plV low (.slice (some ⟨g, 0, none⟩) n cap)] w fun e w' => e = .returned (.bool b) ∧ Below w.heap.size w w' := by
  obtain ⟨W, hW⟩ : ∃ W, w.alloc (.cells #[.int .i64 low, .slice (some ⟨g, 0, none⟩) n cap] 64) = W := ⟨_, rfl⟩
  have hbW : Below w.heap.size w W := by rw [← hW]; exact (Below.refl _ w).alloc (Nat.le_refl _) _
  obtain ⟨_, p0, p1⟩ := boxNew hW
  obtain ⟨bg, hbg⟩ : ∃ bg, groupB low zs = bg := ⟨_, rfl⟩
  have HG := Lib.hid (groupOf_any low g cap n zs bg W (hs.below hbW) hbg)
  have HBG := Lib.hid hbg
  have HB := Lib.hid hb
  have HBW := Lib.hid hbW
  have HW := Lib.hid hW
  rw [← hW] at p0 p1
  clear hs hb hbW hW hbg
  go_enter Try.func71, Try.ntmps71
  go_wp2_with fail
  rw [HW.out]
  refine HG.out.mono ?_
  rintro e w1 ⟨⟨rfl, rfl⟩ | ⟨rfl, g2, vs, rfl, hr⟩, hb1⟩
  · have HB1 := Lib.hid (HBW.out.trans (hb1.mono HBW.out.size))
    obtain rfl : b = false := by rw [← HB.out]; unfold evenB; rw [HBG.out]; rfl
    clear hb1 p0 p1
    go_wp2
    go_ret
    exact ⟨rfl, HB1.out.alloc HB1.out.size _⟩
  · obtain ⟨m, hm⟩ : ∃ m, zs.length = m := ⟨_, rfl⟩
    obtain ⟨V, hV⟩ : ∃ V, w1.alloc (.cells #[.int .i64 low, .slice (some ⟨g2, 0, none⟩) m m] 137) = V := ⟨_, rfl⟩
    have hbV : Below w1.heap.size w1 V := by rw [← hV]; exact (Below.refl _ _).alloc (Nat.le_refl _) _
    obtain ⟨_, q0, q1⟩ := boxNew hV
    have hg4 := groupB_iff.1 HBG.out
    have HE := Lib.hid (even_any W.heap.size g2 zs vs b V (hr.below hbV) (by omega) (fun s h => (hg4.2.2 s h).1) (by rw [← HB.out]; unfold evenB; rw [HBG.out]; rfl))
    have HBV := Lib.hid (HBW.out.trans ((hb1.trans (hbV.mono hb1.size)).mono HBW.out.size))
    have HV := Lib.hid hV
    rw [hm] at HE ⊢
    rw [← hV] at q0 q1
    clear hb1 hr p0 p1 hV hbV hg4 hm
    go_wp2_with fail
    rw [HV.out]
    refine HE.out.mono ?_
    rintro e w2 ⟨rfl, hb2⟩
    have HB2 := Lib.hid (HBV.out.trans (hb2.mono HBV.out.size))
    clear hb2 q0 q1
    cases b with
    | false =>
      go_wp2
      go_ret
      exact ⟨rfl, HB2.out⟩
    | true =>
      go_wp2
      go_ret
      exact ⟨rfl, HB2.out⟩

end Go.Proofs.Ytbbkpaledlbcmaa

/- How GroupIn and GroupEven and the model answer, for the laws. -/

namespace Go.Proofs.Ytbbkpaledlbcmaa
open Go.RowKit

section
variable {low : Int} {a : Option Addr} {g n c : Nat} {zs : List ByteArray} {b : Bool} {w : World}
theorem sGroupIn_law (hs : IsStrs w a n zs) (hb : groupB low zs = b) : Calls Try.prog 66 #[plV low (.slice a n c)] w fun e w' => e = .returned (.bool b) ∧ Below w.heap.size w w' := sGroupIn_any low a c n zs b w hs hb
theorem sGroupEven_law (hs : IsStrs w a n zs) (hb : evenB low zs = b) : Calls Try.prog 70 #[plV low (.slice a n c)] w fun e w' => e = .returned (.bool b) ∧ Below w.heap.size w w' := sGroupEven_any low a c n zs b w hs hb
theorem iGroupIn_law (hs : IsStrs w (some ⟨g, 0, none⟩) n zs) (hb : groupB low zs = b) : Calls Try.prog 68 #[plV low (.slice (some ⟨g, 0, none⟩) n c)] w fun e w' => e = .returned (.bool b) ∧ Below w.heap.size w w' := iGroupIn_any low g c n zs b w hs hb
theorem iGroupEven_law (hs : IsStrs w (some ⟨g, 0, none⟩) n zs) (hb : evenB low zs = b) : Calls Try.prog 71 #[plV low (.slice (some ⟨g, 0, none⟩) n c)] w fun e w' => e = .returned (.bool b) ∧ Below w.heap.size w w' := iGroupEven_any low g c n zs b w hs hb
end

end Go.Proofs.Ytbbkpaledlbcmaa

/- A group's answer out of a region that draws its order, makes memory and lays a box. -/

namespace Go.Proofs.Ytbbkpaledlbcmaa
open Go.RowKit Go.Shelf

theorem gBox.new (w : World) : BoxZ (w.alloc (.cells #[.int .i64 0, .slice none 0 0] 64)) w.heap.size := by
  have hx := boxNew (w := w) (t := 64) (x := .int .i64 0) (y := .slice none 0 0) rfl
  have e := World.alloc_heap_new w (.cells #[.int .i64 0, .slice none 0 0] 64)
  refine ⟨hx.1, hx.2.1, hx.2.2, ?_, ?_⟩
  · unfold World.frozen?; rw [show (⟨w.heap.size, 0, none⟩ : Addr).block = w.heap.size from rfl, e]; rfl
  · unfold World.frozen?; rw [show (⟨w.heap.size, 1, none⟩ : Addr).block = w.heap.size from rfl, e]; rfl
theorem gBox.of {w w' : World} (hb : Below (w.alloc (.cells #[.int .i64 0, .slice none 0 0] 64)).heap.size (w.alloc (.cells #[.int .i64 0, .slice none 0 0] 64)) w') : BoxZ w' w.heap.size := (gBox.new w).below hb
theorem gBox.ofd {w w' : World} (hb : Below (w.alloc (.cells #[.int .i64 0, .slice none 0 0] 64)).drew.heap.size (w.alloc (.cells #[.int .i64 0, .slice none 0 0] 64)).drew w') : BoxZ w' w.heap.size :=
  (gBox.new w).below (Below.trans (Below.refl _ _).drew hb)
theorem GRow.set {w : World} {base j o : Nat} {v x : Value} {zs : List ByteArray} (h : GRow base w v zs) (hj : ∀ k, v.ownBlock = some k → j < k) : GRow base (w.setCell ⟨j, o, none⟩ x) v zs := by
  refine ⟨?_, h.2⟩
  have h1 := h.1
  unfold OwnS at h1 ⊢
  have h' := h1
  rcases h1.2 with ⟨rfl, h0⟩ | ⟨g, cap, cur, rfl, hb, _⟩
  · exact ⟨h1.1, .inl ⟨rfl, h0⟩⟩
  · exact ownsRow_base (ownsRow_setCell_below (own_raise h') (a := ⟨j, o, none⟩) (hj g rfl) x) hb
/-- A group lies in a box, its relators in memory of their own. -/
def GAt (w wx : World) (s : Value) (pl : Int) (pc : List ByteArray) (L : Nat) : Prop :=
  ∃ (j : Nat) (a : Nat) (c : Nat), s = .pointer (some ⟨j, 0, none⟩) ∧ BoxAt wx j (.int .i64 pl) (.slice (some ⟨a, 0, none⟩) L c) ∧ w.heap.size ≤ j ∧ GRow w.heap.size wx (.slice (some ⟨a, 0, none⟩) L c) pc ∧ a ≠ j ∧ Below w.heap.size w wx
theorem gAtA {w V : World} {a L c base : Nat} {pl : Int} {pc : List ByteArray} (hB : Below w.heap.size w V) (hr : GRow base V (.slice (some ⟨a, 0, none⟩) L c) pc) (hb : w.heap.size ≤ base) :
    GAt w (V.alloc (.cells #[.int .i64 pl, .slice (some ⟨a, 0, none⟩) L c] 64)) (.pointer (some ⟨V.heap.size, 0, none⟩)) pl pc L :=
  ⟨V.heap.size, a, c, rfl, boxNew rfl, hB.size, (hr.mono hb).below ((Below.refl _ _).alloc (Nat.le_refl _) _), by have := own_lt hr.1 a rfl; omega, hB.alloc hB.size _⟩
theorem gAtC {w V : World} {a L c base j : Nat} {pl : Int} {pc : List ByteArray} (hB : Below w.heap.size w V) (hr : GRow base V (.slice (some ⟨a, 0, none⟩) L c) pc) (hb : w.heap.size ≤ base) (hZ : BoxZ V j) (hj : w.heap.size ≤ j) (hn : j < a) :
    GAt w ((V.setCell ⟨j, 0, none⟩ (.int .i64 pl)).setCell ⟨j, 1, none⟩ (.slice (some ⟨a, 0, none⟩) L c)) (.pointer (some ⟨j, 0, none⟩)) pl pc L := by
  have hk : ∀ k, (Value.slice (some ⟨a, 0, none⟩) L c).ownBlock = some k → j < k := fun k e => by simp [Value.ownBlock] at e; omega
  exact ⟨j, a, c, rfl, hZ.fill, hj, ((hr.mono hb).set hk).set hk, by omega, (hB.setCell (p := ⟨j, 0, none⟩) hj _).setCell (p := ⟨j, 1, none⟩) hj _⟩

end Go.Proofs.Ytbbkpaledlbcmaa

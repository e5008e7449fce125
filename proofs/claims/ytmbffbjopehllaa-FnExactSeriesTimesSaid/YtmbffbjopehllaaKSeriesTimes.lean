/-
  Proves 'Rows.FnExactSeriesTimesSaid': for every two lists of terms, the program's SeriesTimes answers as the model's SeriesTimes, leaves the lists alone, and its answer shares no memory with them nor with the answer of another call.
  Conditions: none beyond the row's own.
-/
import Derived.Test.YtmbffbjopehllaaRows
import Derived.WalkKit
import Derived.ProofKit
import Derived.OpenShut
import Derived.ShutString
import Derived.ChangeOld
import Derived.Below
import Derived.Test.YtmbffbjopehllaaBa
import Derived.Test.YtmbffbjopehllaaBb
import Derived.Test.YtmbffbjopehllaaBc

namespace Go.Proofs.Ytmbffbjopehllaa.LSeriesTimes
open Go.ChangeShapes Go.WideShapes Go.ChangeAt Go.RowKit
open Go.ChangeMaps (open_string shut_string)
set_option linter.unusedVariables false

theorem own : ownKnob Try.prog.godebug = none := by kernel_rfl
theorem laidOut : laidOutB Try.prog = true := by kernel_rfl

set_option maxRecDepth 100000 in
set_option maxHeartbeats 8000000 in
theorem walk (a0 : Option Addr) (len0 cap0 : Nat) (z0 : List Tm) (a1 : Option Addr) (len1 cap1 : Nat) (z1 : List Tm) (w : World) (w0 : IsTerms w a0 len0 z0) (w1 : IsTerms w a1 len1 z1) :
    Calls Try.prog 5 #[.slice a0 len0 cap0, .slice a1 len1 cap1] w fun e w' => e = .returned (.bool true) ∧ Below w.heap.size w w' := by
  have HS0 := Lib.hid w0
  have HS1 := Lib.hid w1
  obtain ⟨b, hb⟩ : ∃ b, serProdB z0 z1 = b := ⟨_, rfl⟩
  obtain ⟨L0, hL0⟩ : ∃ L0, canonT (pairsS z0 z1) = L0 := ⟨_, rfl⟩
  obtain ⟨us, hus⟩ : ∃ us, cond b L0 [] = us := ⟨_, rfl⟩
  obtain ⟨hsu, hl⟩ := told_smallS (by rw [← hL0]; exact serProdB_tw hb) hus
  obtain ⟨L, hL⟩ : ∃ L, us.length = L := ⟨_, rfl⟩
  rw [hL] at hl
  have HB := Lib.hid hb
  have HL0 := Lib.hid hL0
  have HUS := Lib.hid hus
  have HSU := Lib.hid hsu
  have HL := Lib.hid hL
  have hbb : (b != b) = false := by cases b <;> rfl
  clear w0 w1 hb hL0 hus hsu hL
  go_enter Try.func5, Try.ntmps5
  go_wp2_with fail
  refine (szTermS_any a0 cap0 len0 1048576 z0 _ HS0.out (by omega)).mono ?_
  rintro e W1 ⟨⟨k, rfl, hk⟩, hb1⟩
  have HB1 := Lib.hid hb1
  clear hb1
  by_cases hk0 : k < 0
  · clear hk
    go_wp2
    go_ret
    exact ⟨rfl, HB1.out⟩
  obtain ⟨hn0, q0, rfl, hq0⟩ : len0 ≤ 1048576 ∧ ∃ q : Nat, k = (q : Int) ∧ q ≤ 1048576 := by
    rcases hk with h | ⟨h1, h2, h3, _⟩
    · omega
    · exact ⟨by omega, k.toNat, by omega, by omega⟩
  clear hk hk0
  go_wp2_with fail
  refine (szTermS_any a1 cap1 len1 q0 z1 _ (HS1.out.below HB1.out) (by omega)).mono ?_
  rintro e W2 ⟨⟨k, rfl, hk⟩, hb2⟩
  have HB2 := Lib.hid (HB1.out.trans (hb2.mono HB1.out.size))
  clear hb2
  by_cases hk0 : k < 0
  · clear hk
    go_wp2
    go_ret
    exact ⟨rfl, HB2.out⟩
  obtain ⟨hn1, q1, rfl, hq1⟩ : len1 ≤ 1048576 ∧ ∃ q : Nat, k = (q : Int) ∧ q ≤ 1048576 := by
    rcases hk with h | ⟨h1, h2, h3, _⟩
    · omega
    · exact ⟨by omega, k.toNat, by omega, by omega⟩
  clear hk hk0
  go_wp2_with fail
  refine (toTermS_any a0 cap0 len0 z0 _ (HS0.out.below HB2.out) hn0).mono ?_
  rintro e W3 ⟨g3, rfl, hr3, hb3⟩
  have HR3 := Lib.hid (isTerms_owns HS0.out hr3)
  have HB3 := Lib.hid (HB2.out.trans (hb3.mono HB2.out.size))
  have hs3 := hb3.size
  clear hb3
  clear hr3
  go_wp2_with fail
  refine (toTermS_any a1 cap1 len1 z1 _ (HS1.out.below HB3.out) hn1).mono ?_
  rintro e W4 ⟨g4, rfl, hr4, hb4⟩
  have HR4 := Lib.hid (isTerms_owns HS1.out hr4)
  have HB4 := Lib.hid (HB3.out.trans (hb4.mono HB3.out.size))
  have hs4 := hb4.size
  have HR3_4 := Lib.hid (HR3.out.below hb4)
  clear hb4
  clear hr4
  go_wp2_with fail
  with_reducible refine (sSeriesTimes_law HR3_4.out HR4.out HB.out).mono ?_
  rw [HL0.out]
  rintro e W0 ⟨⟨vw, rfl, how⟩, hb5⟩
  rw [HUS.out] at how
  obtain ⟨aw, cw, rfl, hIw⟩ := how.own.isTerms HSU.out
  rw [HL.out] at hIw ⊢
  have HW := Lib.hid hIw
  have hB2 : Below w.heap.size w W0 := HB4.out.trans (hb5.mono HB4.out.size)
  clear how hIw hb5
  have HBz := Lib.hid (Below.refl W0.heap.size W0)
  go_wp2_with fail
  refine (toTermS_any a0 cap0 len0 z0 _ (HS0.out.below (hB2.trans (HBz.out.mono hB2.size))) hn0).mono ?_
  rintro e W6 ⟨g6, rfl, hr6, hb6⟩
  have HR6 := Lib.hid (isTerms_owns HS0.out hr6)
  have lo6 : W0.heap.size ≤ g6 := ownLow hr6 g6 rfl
  have hi6 : g6 < W6.heap.size := (ownsRow_cap hr6).2.2.2
  have HX6 : Hid (OwnT W0.heap.size W6 (.slice (some ⟨g6, 0, none⟩) len0 len0) z0) := Lib.hid (by unfold OwnT; rw [HS0.out.len]; exact ownsRow_base hr6 (by omega))
  have HB6 := Lib.hid (HBz.out.trans (hb6.mono HBz.out.size))
  have hs6 := hb6.size
  clear hb6
  clear hr6
  go_wp2_with fail
  refine (toTermS_any a1 cap1 len1 z1 _ (HS1.out.below (hB2.trans (HB6.out.mono hB2.size))) hn1).mono ?_
  rintro e W7 ⟨g7, rfl, hr7, hb7⟩
  have HR7 := Lib.hid (isTerms_owns HS1.out hr7)
  have lo7 : W6.heap.size ≤ g7 := ownLow hr7 g7 rfl
  have hi7 : g7 < W7.heap.size := (ownsRow_cap hr7).2.2.2
  have HX7 : Hid (OwnT W0.heap.size W7 (.slice (some ⟨g7, 0, none⟩) len1 len1) z1) := Lib.hid (by unfold OwnT; rw [HS1.out.len]; exact ownsRow_base hr7 (by omega))
  have HB7 := Lib.hid (HB6.out.trans (hb7.mono HB6.out.size))
  have hs7 := hb7.size
  have HX6_7 := Lib.hid (HX6.out.below hb7)
  have HR6_7 := Lib.hid (HR6.out.below hb7)
  clear hb7
  clear hr7
  go_wp2_with fail
  with_reducible refine (iSeriesTimes_law HR6_7.out HR7.out HB.out).mono ?_
  rw [HL0.out]
  rintro e W8 ⟨⟨vg, rfl, hog⟩, hb8⟩
  rw [HUS.out] at hog
  obtain ⟨ag, cg, rfl, hIg⟩ := hog.isTerms HSU.out
  rw [HL.out] at hog ⊢
  have HG := Lib.hid hog
  have hlg : ∀ j, (Value.slice ag L cg).ownBlock = some j → W7.heap.size ≤ j := ownLow hog
  have HLG := Lib.hid hlg
  clear hlg hIg hog
  have HB8 := Lib.hid (HB7.out.trans (hb8.mono HB7.out.size))
  have hs8 := hb8.size
  have HX6_8 := Lib.hid (HX6_7.out.below hb8)
  have HX7_8 := Lib.hid (HX7.out.below hb8)
  clear hb8
  go_wp2_with fail
  refine (eqTermS_yes _ _ _ _ L us _ (ownIsTerms HG.out HSU.out) (HW.out.below HB8.out)).mono ?_
  rintro e W9 ⟨rfl, hb9⟩
  have HB9 := Lib.hid (HB8.out.trans (hb9.mono HB8.out.size))
  have hs9 := hb9.size
  have HX6_9 := Lib.hid (HX6_8.out.below hb9)
  have HX7_9 := Lib.hid (HX7_8.out.below hb9)
  have HG_9 := Lib.hid (HG.out.below hb9)
  clear hb9
  go_wp2_with fail
  refine (toTermS_any a0 cap0 len0 z0 _ (HS0.out.below (hB2.trans (HB9.out.mono hB2.size))) hn0).mono ?_
  rintro e W10 ⟨g10, rfl, hr10, hb10⟩
  have HR10 := Lib.hid (isTerms_owns HS0.out hr10)
  have HB10 := Lib.hid (HB9.out.trans (hb10.mono HB9.out.size))
  have hs10 := hb10.size
  have HX6_10 := Lib.hid (HX6_9.out.below hb10)
  have HX7_10 := Lib.hid (HX7_9.out.below hb10)
  have HG_10 := Lib.hid (HG_9.out.below hb10)
  clear hb10
  clear hr10
  go_wp2_with fail
  refine (eqTermS_yes _ _ _ _ len0 z0 _ (ownIsTerms HX6_10.out HS0.out.smallT) HR10.out).mono ?_
  rintro e W11 ⟨rfl, hb11⟩
  have HB11 := Lib.hid (HB10.out.trans (hb11.mono HB10.out.size))
  have hs11 := hb11.size
  have HX6_11 := Lib.hid (HX6_10.out.below hb11)
  have HX7_11 := Lib.hid (HX7_10.out.below hb11)
  have HG_11 := Lib.hid (HG_10.out.below hb11)
  clear hb11
  go_wp2_with fail
  refine (toTermS_any a1 cap1 len1 z1 _ (HS1.out.below (hB2.trans (HB11.out.mono hB2.size))) hn1).mono ?_
  rintro e W12 ⟨g12, rfl, hr12, hb12⟩
  have HR12 := Lib.hid (isTerms_owns HS1.out hr12)
  have HB12 := Lib.hid (HB11.out.trans (hb12.mono HB11.out.size))
  have hs12 := hb12.size
  have HX6_12 := Lib.hid (HX6_11.out.below hb12)
  have HX7_12 := Lib.hid (HX7_11.out.below hb12)
  have HG_12 := Lib.hid (HG_11.out.below hb12)
  clear hb12
  clear hr12
  go_wp2_with fail
  refine (eqTermS_yes _ _ _ _ len1 z1 _ (ownIsTerms HX7_12.out HS1.out.smallT) HR12.out).mono ?_
  rintro e W13 ⟨rfl, hb13⟩
  have HB13 := Lib.hid (HB12.out.trans (hb13.mono HB12.out.size))
  have hs13 := hb13.size
  have HX6_13 := Lib.hid (HX6_12.out.below hb13)
  have HX7_13 := Lib.hid (HX7_12.out.below hb13)
  have HG_13 := Lib.hid (HG_12.out.below hb13)
  clear hb13
  obtain ⟨K0, hK0⟩ : ∃ K, 1 + 2 * z0.length = K := ⟨_, rfl⟩
  have hK0b : 0 < K0 ∧ K0 ≤ 1 + 2097152 := by have := HS0.out.len; omega
  have HMK0 := Lib.hid (markTermS_any W0.heap.size 1 _ z0 _ HX6_13.out (by rw [HS0.out.len]; exact hn0) (by omega) (by omega))
  rw [hK0] at HMK0
  clear hK0
  go_wp2_with fail
  refine HMK0.out.mono ?_
  rintro e W14 ⟨rfl, _, hgr⟩
  have hbk14 : Below W0.heap.size W13 W14 := (Below.refl _ _).grown hgr (HB13.out.size) (fun j ej => by
    have e : g6 = j := by simpa [Value.ownBlock] using ej
    omega)
  have HX7_14 := Lib.hid (HX7_13.out.keptBy hgr (fun e => by
    have e : g7 = g6 := by simpa [Value.ownBlock] using e
    omega))
  have HG_14 := Lib.hid (HG_13.out.keptBy hgr (fun e => by
    have := HLG.out g6 (by rw [e]; rfl)
    omega))
  have HB14 := Lib.hid (HB13.out.trans hbk14)
  have hs14 := hgr.size
  clear hgr hbk14 HMK0
  obtain ⟨K1, hK1⟩ : ∃ K, K0 + 2 * z1.length = K := ⟨_, rfl⟩
  have hK1b : 0 < K1 ∧ K1 ≤ K0 + 2097152 := by have := HS1.out.len; omega
  have HMK1 := Lib.hid (markTermS_any W0.heap.size K0 _ z1 _ HX7_14.out (by rw [HS1.out.len]; exact hn1) (by omega) (by omega))
  rw [hK1] at HMK1
  clear hK1
  have hK1n : decide ((K1 : Int) < 0) = false := decide_eq_false (by omega)
  have hK1l : ¬ (K1 : Int) < 0 := by omega
  go_wp2_with fail
  refine HMK1.out.mono ?_
  rintro e W15 ⟨rfl, _, hgr⟩
  have hbk15 : Below W0.heap.size W14 W15 := (Below.refl _ _).grown hgr (HB14.out.size) (fun j ej => by
    have e : g7 = j := by simpa [Value.ownBlock] using ej
    omega)
  have HG_15 := Lib.hid (HG_14.out.keptBy hgr (fun e => by
    have := HLG.out g7 (by rw [e]; rfl)
    omega))
  have HB15 := Lib.hid (HB14.out.trans hbk15)
  have hs15 := hgr.size
  clear hgr hbk15 HMK1
  go_wp2_with fail
  refine (eqTermS_yes _ _ _ _ L us _ (ownIsTerms HG_15.out HSU.out) (HW.out.below HB15.out)).mono ?_
  rintro e W17 ⟨rfl, hb17⟩
  have HB17 := Lib.hid (HB15.out.trans (hb17.mono HB15.out.size))
  have hs17 := hb17.size
  have HG_17 := Lib.hid (HG_15.out.below hb17)
  clear hb17
  obtain ⟨M, hM⟩ : ∃ M, 1 + 2 * L = M := ⟨_, rfl⟩
  have hMn : decide ((M : Int) < 0) = false := decide_eq_false (by omega)
  have hMl : ¬ (M : Int) < 0 := by omega
  have hMe : ((M : Int) != (M : Int)) = false := by simp
  have HMG := Lib.hid (markTermS_any W7.heap.size 1 _ us _ HG_17.out (by rw [HL.out]; omega) (by omega) (by omega))
  rw [HL.out, hM] at HMG
  go_wp2_with fail
  refine HMG.out.mono ?_
  rintro e W18 ⟨rfl, hm, hgr⟩
  have hbk18 : Below W0.heap.size W17 W18 := (Below.refl _ _).grown hgr (HB17.out.size) (fun j ej => by
    have := HLG.out j ej
    omega)
  have HB18 := Lib.hid (HB17.out.trans hbk18)
  have HM := Lib.hid hm
  clear hgr hbk18 hm HMG
  have HH19 := Lib.hid (heldTermS_any 1 ag cg L _ (ownIsTerms HM.out (marksT_small 1 L (by omega) (by omega))) (by omega) (by omega) (by omega))
  rw [hM] at HH19
  go_wp2_with fail
  refine HH19.out.mono ?_
  rintro e W19 ⟨rfl, hb19⟩
  have HB19 := Lib.hid (HB18.out.trans (hb19.mono HB18.out.size))
  have hs19 := hb19.size
  have HM_19 := Lib.hid (HM.out.below hb19)
  clear hb19
  go_wp2_with fail
  refine (toTermS_any a0 cap0 len0 z0 _ (HS0.out.below (hB2.trans (HB19.out.mono hB2.size))) hn0).mono ?_
  rintro e W20 ⟨g20, rfl, hr20, hb20⟩
  have HR20 := Lib.hid (isTerms_owns HS0.out hr20)
  have HB20 := Lib.hid (HB19.out.trans (hb20.mono HB19.out.size))
  have hs20 := hb20.size
  have HM_20 := Lib.hid (HM_19.out.below hb20)
  clear hb20
  clear hr20
  go_wp2_with fail
  refine (toTermS_any a1 cap1 len1 z1 _ (HS1.out.below (hB2.trans (HB20.out.mono hB2.size))) hn1).mono ?_
  rintro e W21 ⟨g21, rfl, hr21, hb21⟩
  have HR21 := Lib.hid (isTerms_owns HS1.out hr21)
  have HB21 := Lib.hid (HB20.out.trans (hb21.mono HB20.out.size))
  have hs21 := hb21.size
  have HM_21 := Lib.hid (HM_20.out.below hb21)
  have HR20_21 := Lib.hid (HR20.out.below hb21)
  clear hb21
  clear hr21
  go_wp2_with fail
  with_reducible refine (iSeriesTimes_law HR20_21.out HR21.out HB.out).mono ?_
  rw [HL0.out]
  rintro e W22 ⟨⟨vh, rfl, hoh⟩, hb22⟩
  rw [HUS.out] at hoh
  obtain ⟨ah, ch, rfl, hIh⟩ := hoh.isTerms HSU.out
  rw [HL.out] at hIh ⊢
  have HIH := Lib.hid hIh
  clear hoh hIh
  have HB22 := Lib.hid (HB21.out.trans (hb22.mono HB21.out.size))
  have hs22 := hb22.size
  have HM_22 := Lib.hid (HM_21.out.below hb22)
  clear hb22
  go_wp2_with fail
  refine (eqTermS_yes ah aw ch cw L us _ HIH.out (HW.out.below HB22.out)).mono ?_
  rintro e W23 ⟨rfl, hb23⟩
  have HB23 := Lib.hid (HB22.out.trans (hb23.mono HB22.out.size))
  have hs23 := hb23.size
  have HM_23 := Lib.hid (HM_22.out.below hb23)
  clear hb23
  have HH24 := Lib.hid (heldTermS_any 1 ag cg L _ (ownIsTerms HM_23.out (marksT_small 1 L (by omega) (by omega))) (by omega) (by omega) (by omega))
  rw [hM] at HH24
  go_wp2_with fail
  refine HH24.out.mono ?_
  rintro e W24 ⟨rfl, hb24⟩
  have HB24 := Lib.hid (HB23.out.trans (hb24.mono HB23.out.size))
  have hs24 := hb24.size
  have HM_24 := Lib.hid (HM_23.out.below hb24)
  clear hb24
  go_wp2
  go_ret
  exact ⟨rfl, hB2.trans (HB24.out.mono hB2.size)⟩

set_option maxRecDepth 100000 in
theorem lifted (os : Os) (started : os.Started) (H : Type) (enc : TypeId × Value → H) :
    ReturnsInHanded {} Try.checked os 5 .any (Rows.fnExactSeriesTimesSpec.pre6 enc Try.prog Try.f5 Rows.fnExactSeriesTimesRow.domain false) (Rows.fnExactSeriesTimesSpec.post enc Try.prog Try.f5 false true false false) := by
  refine returnsInHanded_of_change (C := Try.checked) own started (by kernel_rfl) Try.func5
    (ChangeSpec.witness6 (enc := enc) (C := Try.checked) false ⟨#[], #[.slice none 0 0, .slice none 0 0], []⟩ 8 (by kernel_rfl) (by kernel_rfl) (by kernel_rfl) (by kernel_rfl)) ?_
  intro W base args ds gs before hval0 hW hcnd _
  have hval : ∀ (j : Nat) t v, Try.f5.params[j]? = some t → args[j]? = some v → Value.okWide Try.prog W .any base t v := hval0
  have hW' := hW
  obtain ⟨p, q, hA0, hV, rfl, hfz, hnd⟩ := hW
  have hA : DataW.TrodAll enc Try.prog W 0 (fun _ => true) true Try.f5.params.toList args.toList ds p := hA0
  rw [Try.params5] at hA hval
  obtain ⟨v0, vs0, d0, ds0, p0, q0, hargs, rfl, rfl, h0, r0⟩ := trodAll_cons hA
  obtain ⟨v1, vs1, d1, ds1, p1, q1, rfl, rfl, rfl, h1, r1⟩ := trodAll_cons r0
  obtain ⟨rfl, rfl, rfl⟩ := trodAll_nil r1
  obtain rfl : args = #[v0, v1] := by cases args; simp_all
  obtain ⟨rfl, rfl⟩ := trodVars_none hV
  obtain ⟨a0, len0, cap0, rfl⟩ := okWide_slice Try.underlying22 (hval 0 22 v0 rfl rfl)
  have k0 := h0
  have lt0 : ∀ x ∈ p0, x.block < W.heap.size := by obtain ⟨m, hm⟩ := k0; exact DataW.trod_lt m _ _ _ hm
  obtain ⟨z0, w0⟩ : ∃ zs, IsTerms W a0 len0 zs := by
    obtain ⟨fuel, hf⟩ := h0
    exact isTerms_of hf
  obtain ⟨a1, len1, cap1, rfl⟩ := okWide_slice Try.underlying22 (hval 1 22 v1 rfl rfl)
  have k1 := h1
  have lt1 : ∀ x ∈ p1, x.block < W.heap.size := by obtain ⟨m, hm⟩ := k1; exact DataW.trod_lt m _ _ _ hm
  obtain ⟨z1, w1⟩ : ∃ zs, IsTerms W a1 len1 zs := by
    obtain ⟨fuel, hf⟩ := h1
    exact isTerms_of hf
  clear hA0 hval0
  refine (walk a0 len0 cap0 z0 a1 len1 cap1 z1 W w0 w1).mono fun e W' ⟨he, bel⟩ => ?_
  subst he
  exact ⟨_, rfl, _, _, _, [], _, [], hW', trodAll_mk1 (shut_bool Try.underlying4 _), (trodAll_cons_mk (Below.trod laidOut (by kernel_rfl) (of_decide_eq_true (by kernel_rfl)) k0 bel lt0) (trodAll_cons_mk (Below.trod laidOut (by kernel_rfl) (of_decide_eq_true (by kernel_rfl)) k1 bel lt1) trodAll_mk0)), rfl, bel.frame _, fun h => by cases h⟩

theorem over : Rows.fnExactSeriesTimesRow.holds Try.pinned (OpenSpec.ofChange Rows.fnExactSeriesTimesSpec) :=
  OpenClaim.holds_of_wide 5 Try.f5 rfl rfl rfl rfl rfl rfl rfl ⟨rfl, rfl, rfl, rfl, rfl⟩ rfl rfl rfl rfl rfl (by kernel_rfl) Try.func5 (by kernel_rfl)
    (of_decide_eq_true (by kernel_rfl)) (by unfold Func.isWrapper; first | (rw [if_pos (by decide +kernel)]; kernel_rfl) | (rw [if_neg (by decide +kernel)]; exact ⟨rfl, rfl⟩))
    (fun os started H enc _ => lifted os started H enc)

theorem proved : Rows.FnExactSeriesTimesSaid := over
#print axioms proved
end Go.Proofs.Ytmbffbjopehllaa.LSeriesTimes

/-
  Proves 'Rows.FnExactMatrixTimesSaid': for every argument, the program's MatrixTimes answers as the model's MatrixTimes, leaves its arguments alone, and its answer shares no memory with them nor with the answer of another call.
  Conditions: none beyond the row's own.
-/
import Derived.Test.YtbbkpaledlbcmaaRows
import Derived.WalkKit
import Derived.ProofKit
import Derived.OpenShut
import Derived.ShutString
import Derived.ChangeOld
import Derived.Below
import Derived.Test.YtbbkpaledlbcmaaBa
import Derived.Test.YtbbkpaledlbcmaaBb
import Derived.Test.YtbbkpaledlbcmaaBc
import Derived.Test.YtbbkpaledlbcmaaBd
import Derived.Test.YtbbkpaledlbcmaaBe

namespace Go.Proofs.Ytbbkpaledlbcmaa.LMatrixTimes
open Go.ChangeShapes Go.WideShapes Go.ChangeAt Go.RowKit
open Go.ChangeMaps (open_string shut_string)
set_option linter.unusedVariables false

theorem own : ownKnob Try.prog.godebug = none := by kernel_rfl
theorem laidOut : laidOutB Try.prog = true := by kernel_rfl

set_option maxRecDepth 100000 in
set_option maxHeartbeats 16000000 in
theorem walk (a0 : Option Addr) (len0 cap0 : Nat) (z0 : Mx) (a1 : Option Addr) (len1 cap1 : Nat) (z1 : Mx) (w : World) (w0 : IsPSS w a0 len0 z0) (w1 : IsPSS w a1 len1 z1) :
    Calls Try.prog 13 #[.slice a0 len0 cap0, .slice a1 len1 cap1] w fun e w' => e = .returned (.bool true) ∧ Below w.heap.size w w' := by
  have HS0 := Lib.hid w0
  have HN0 := Lib.hid w0.len
  have HBd0 := Lib.hid w0.bound
  have HS1 := Lib.hid w1
  have HN1 := Lib.hid w1.len
  have HBd1 := Lib.hid w1.bound
  obtain ⟨O, hO⟩ : ∃ O, timesM z0 z1 = O := ⟨_, rfl⟩
  have hgood : GoodM (O.getD []) := by rw [← hO]; exact good_times z0 z1
  obtain ⟨R, hR⟩ : ∃ R, O.getD [] = R := ⟨_, rfl⟩
  obtain ⟨b, hbo⟩ : ∃ b, O.isSome = b := ⟨_, rfl⟩
  rw [hR] at hgood
  have htot := hgood.total
  have hlenR := hgood.len
  obtain ⟨N, hN⟩ : ∃ N, R.length = N := ⟨_, rfl⟩
  rw [hN] at hlenR
  have HO := Lib.hid hO
  have HRO := Lib.hid hR
  have HBO := Lib.hid hbo
  have HGd := Lib.hid hgood
  have HNR := Lib.hid hN
  have hbb : (b != b) = false := by cases b <;> rfl
  have HB := Lib.hid (Below.refl w.heap.size w)
  clear w0 w1 hO hR hbo hgood hN
  go_enter Try.func13, Try.ntmps13
  go_wp2_with fail
  refine (szPolySS_any a0 cap0 len0 1048576 z0 _ (HS0.out.below HB.out) (by omega)).mono ?_
  rintro e W1 ⟨⟨k0, rfl, hk0⟩, hb⟩
  have HB := Lib.hid (HB.out.trans (hb.mono HB.out.size))
  clear hb
  by_cases hs0 : k0 < 0
  · clear hk0
    go_wp2
    go_ret
    exact ⟨rfl, HB.out⟩
  obtain ⟨hsz0, q0, rfl, hq0⟩ : len0 + totM z0 ≤ 1048576 ∧ ∃ q : Nat, k0 = (q : Int) ∧ q ≤ 1048576 := by
    rcases hk0 with h | ⟨h1, h2⟩
    · omega
    · exact ⟨by omega, k0.toNat, by omega, by omega⟩
  clear hk0 hs0
  go_wp2_with fail
  refine (szPolySS_any a1 cap1 len1 q0 z1 _ (HS1.out.below HB.out) (by omega)).mono ?_
  rintro e W2 ⟨⟨k1, rfl, hk1⟩, hb⟩
  have HB := Lib.hid (HB.out.trans (hb.mono HB.out.size))
  clear hb
  by_cases hs1 : k1 < 0
  · clear hk1
    go_wp2
    go_ret
    exact ⟨rfl, HB.out⟩
  obtain ⟨hsz1, q1, rfl, hq1⟩ : len1 + totM z1 ≤ 1048576 ∧ ∃ q : Nat, k1 = (q : Int) ∧ q ≤ 1048576 := by
    rcases hk1 with h | ⟨h1, h2⟩
    · omega
    · exact ⟨by omega, k1.toNat, by omega, by omega⟩
  clear hk1 hs1
  go_wp2_with fail
  refine (toPolySS_any a0 cap0 len0 z0 _ (HS0.out.below HB.out) hsz0).mono ?_
  rintro e W3 ⟨vm0, rsm0, rfl, hrm0, hom0, hb⟩
  have HB := Lib.hid (HB.out.trans (hb.mono HB.out.size))
  obtain ⟨am0, cm0, rfl, hIm0⟩ := own_isPSS hom0 hrm0 HBd0.out HN0.out (Nat.le_trans (by omega : len0 ≤ 1048576) (by unfold maxLen; omega))
  have HIm0 := Lib.hid hIm0
  have HXm0 := Lib.hid hom0
  have HRm0 := Lib.hid hrm0
  clear hIm0 hom0 hrm0 hb
  go_wp2_with fail
  refine (toPolySS_any a1 cap1 len1 z1 _ (HS1.out.below HB.out) hsz1).mono ?_
  rintro e W4 ⟨vm1, rsm1, rfl, hrm1, hom1, hb⟩
  have HIm0 := Lib.hid (HIm0.out.below hb)
  have HXm0 := Lib.hid (HXm0.out.below hb)
  have HB := Lib.hid (HB.out.trans (hb.mono HB.out.size))
  obtain ⟨am1, cm1, rfl, hIm1⟩ := own_isPSS hom1 hrm1 HBd1.out HN1.out (Nat.le_trans (by omega : len1 ≤ 1048576) (by unfold maxLen; omega))
  have HIm1 := Lib.hid hIm1
  have HXm1 := Lib.hid hom1
  have HRm1 := Lib.hid hrm1
  clear hIm1 hom1 hrm1 hb
  go_wp2_with fail
  refine (sMatrixTimes_any _ _ _ _ _ _ z0 z1  _ HIm0.out HIm1.out).mono ?_
  rw [HO.out]
  rintro e W5 ⟨⟨vw, rsw, rfl, how, hrw⟩, hb⟩
  rw [HRO.out] at hrw
  rw [HBO.out]
  have HIm0 := Lib.hid (HIm0.out.below hb)
  have HXm0 := Lib.hid (HXm0.out.below hb)
  have HIm1 := Lib.hid (HIm1.out.below hb)
  have HXm1 := Lib.hid (HXm1.out.below hb)
  have HB := Lib.hid (HB.out.trans (hb.mono HB.out.size))
  obtain ⟨aw, cw, rfl, hIw⟩ := own_isPSS how hrw HGd.out.bound HNR.out (by unfold maxLen; omega)
  have HIw := Lib.hid hIw
  have HXw := Lib.hid how
  have HRw := Lib.hid hrw
  clear hIw how hrw hb
  have HZ := Lib.hid (Below.refl W5.heap.size W5)
  have HIw0 := Lib.hid HIw.out
  have hZw : w.heap.size ≤ W5.heap.size := HB.out.size
  have hZ0 := HZ.out.size
  go_wp2_with fail
  refine (toPolySS_any a0 cap0 len0 z0 _ (HS0.out.below HB.out) hsz0).mono ?_
  rintro e W6 ⟨vx0, rsx0, rfl, hrx0, hox0, hb⟩
  have HIw := Lib.hid (HIw.out.below hb)
  have HB := Lib.hid (HB.out.trans (hb.mono HB.out.size))
  have HZ := Lib.hid (HZ.out.trans (hb.mono HZ.out.size))
  obtain ⟨ax0, cx0, rfl, hIx0⟩ := own_isPSS hox0 hrx0 HBd0.out HN0.out (Nat.le_trans (by omega : len0 ≤ 1048576) (by unfold maxLen; omega))
  have HIx0 := Lib.hid hIx0
  have HXx0 := Lib.hid hox0
  have HRx0 := Lib.hid hrx0
  clear hIx0 hox0 hrx0 hb
  have hZ1 := HZ.out.size
  have HLb0 := Lib.hid fun b (hb : FootM rsx0 b) => (HXx0.out.low hb).2
  go_wp2_with fail
  refine (toPolySS_any a1 cap1 len1 z1 _ (HS1.out.below HB.out) hsz1).mono ?_
  rintro e W7 ⟨vx1, rsx1, rfl, hrx1, hox1, hb⟩
  have HIw := Lib.hid (HIw.out.below hb)
  have HIx0 := Lib.hid (HIx0.out.below hb)
  have HXx0 := Lib.hid (HXx0.out.below hb)
  have HB := Lib.hid (HB.out.trans (hb.mono HB.out.size))
  have HZ := Lib.hid (HZ.out.trans (hb.mono HZ.out.size))
  obtain ⟨ax1, cx1, rfl, hIx1⟩ := own_isPSS hox1 hrx1 HBd1.out HN1.out (Nat.le_trans (by omega : len1 ≤ 1048576) (by unfold maxLen; omega))
  have HIx1 := Lib.hid hIx1
  have HXx1 := Lib.hid hox1
  have HRx1 := Lib.hid hrx1
  clear hIx1 hox1 hrx1 hb
  have hZq : W5.heap.size ≤ W7.heap.size := HZ.out.size
  have HLz0 : Hid (∀ b, FootM rsx0 b → W5.heap.size ≤ b) := Lib.hid fun b hb => Nat.le_trans hZ0 (HXx0.out.low hb).1
  have HLz1 : Hid (∀ b, FootM rsx1 b → W5.heap.size ≤ b) := Lib.hid fun b hb => Nat.le_trans hZ1 (HXx1.out.low hb).1
  have HLx0 : Hid (∀ b, FootM rsx0 b → b < W7.heap.size) := Lib.hid fun b hb => (HXx0.out.low hb).2
  have HLx1 : Hid (∀ b, FootM rsx1 b → b < W7.heap.size) := Lib.hid fun b hb => (HXx1.out.low hb).2
  go_wp2_with fail
  refine (iMatrixTimes_any _ _ _ _ _ _ z0 z1  _ HIx0.out HIx1.out).mono ?_
  rw [HO.out]
  rintro e W8 ⟨⟨vg, rsg, rfl, hog, hrg⟩, hb⟩
  rw [HRO.out] at hrg
  rw [HBO.out]
  have HIw := Lib.hid (HIw.out.below hb)
  have HIx0 := Lib.hid (HIx0.out.below hb)
  have HXx0 := Lib.hid (HXx0.out.below hb)
  have HIx1 := Lib.hid (HIx1.out.below hb)
  have HXx1 := Lib.hid (HXx1.out.below hb)
  have HB := Lib.hid (HB.out.trans (hb.mono HB.out.size))
  have HZ := Lib.hid (HZ.out.trans (hb.mono HZ.out.size))
  obtain ⟨ag, cg, rfl, hIg⟩ := own_isPSS hog hrg HGd.out.bound HNR.out (by unfold maxLen; omega)
  have HIg := Lib.hid hIg
  have HXg := Lib.hid hog
  have HRg := Lib.hid hrg
  clear hIg hog hrg hb
  have HLg : Hid (∀ b, FootM rsg b ∨ (Value.slice ag N cg).ownBlock = some b → W7.heap.size ≤ b) := Lib.hid fun b hb => hb.elim (fun h => (HXg.out.low h).1) fun h => (ownsRow_lt HXg.out.row b h).1
  go_wp2_with fail
  refine (eqPolySS_yes _ _ _ _ N R _ HIg.out HIw.out).mono ?_
  rintro e W9 ⟨rfl, hb⟩
  have HIw := Lib.hid (HIw.out.below hb)
  have HIx0 := Lib.hid (HIx0.out.below hb)
  have HXx0 := Lib.hid (HXx0.out.below hb)
  have HIx1 := Lib.hid (HIx1.out.below hb)
  have HXx1 := Lib.hid (HXx1.out.below hb)
  have HIg := Lib.hid (HIg.out.below hb)
  have HXg := Lib.hid (HXg.out.below hb)
  have HB := Lib.hid (HB.out.trans (hb.mono HB.out.size))
  have HZ := Lib.hid (HZ.out.trans (hb.mono HZ.out.size))
  clear hb
  go_wp2_with fail
  refine (toPolySS_any a0 cap0 len0 z0 _ (HS0.out.below HB.out) hsz0).mono ?_
  rintro e W10 ⟨vy0, rsy0, rfl, hry0, hoy0, hb⟩
  have HIw := Lib.hid (HIw.out.below hb)
  have HIx0 := Lib.hid (HIx0.out.below hb)
  have HXx0 := Lib.hid (HXx0.out.below hb)
  have HIx1 := Lib.hid (HIx1.out.below hb)
  have HXx1 := Lib.hid (HXx1.out.below hb)
  have HIg := Lib.hid (HIg.out.below hb)
  have HXg := Lib.hid (HXg.out.below hb)
  have HB := Lib.hid (HB.out.trans (hb.mono HB.out.size))
  have HZ := Lib.hid (HZ.out.trans (hb.mono HZ.out.size))
  obtain ⟨ay0, cy0, rfl, hIy0⟩ := own_isPSS hoy0 hry0 HBd0.out HN0.out (Nat.le_trans (by omega : len0 ≤ 1048576) (by unfold maxLen; omega))
  have HIy0 := Lib.hid hIy0
  have HXy0 := Lib.hid hoy0
  have HRy0 := Lib.hid hry0
  clear hIy0 hoy0 hry0 hb
  go_wp2_with fail
  refine (eqPolySS_yes _ _ _ _ len0 z0 _ HIx0.out HIy0.out).mono ?_
  rintro e W11 ⟨rfl, hb⟩
  have HIw := Lib.hid (HIw.out.below hb)
  have HIx0 := Lib.hid (HIx0.out.below hb)
  have HXx0 := Lib.hid (HXx0.out.below hb)
  have HIx1 := Lib.hid (HIx1.out.below hb)
  have HXx1 := Lib.hid (HXx1.out.below hb)
  have HIg := Lib.hid (HIg.out.below hb)
  have HXg := Lib.hid (HXg.out.below hb)
  have HIy0 := Lib.hid (HIy0.out.below hb)
  have HXy0 := Lib.hid (HXy0.out.below hb)
  have HB := Lib.hid (HB.out.trans (hb.mono HB.out.size))
  have HZ := Lib.hid (HZ.out.trans (hb.mono HZ.out.size))
  clear hb
  go_wp2_with fail
  refine (toPolySS_any a1 cap1 len1 z1 _ (HS1.out.below HB.out) hsz1).mono ?_
  rintro e W12 ⟨vy1, rsy1, rfl, hry1, hoy1, hb⟩
  have HIw := Lib.hid (HIw.out.below hb)
  have HIx0 := Lib.hid (HIx0.out.below hb)
  have HXx0 := Lib.hid (HXx0.out.below hb)
  have HIx1 := Lib.hid (HIx1.out.below hb)
  have HXx1 := Lib.hid (HXx1.out.below hb)
  have HIg := Lib.hid (HIg.out.below hb)
  have HXg := Lib.hid (HXg.out.below hb)
  have HB := Lib.hid (HB.out.trans (hb.mono HB.out.size))
  have HZ := Lib.hid (HZ.out.trans (hb.mono HZ.out.size))
  obtain ⟨ay1, cy1, rfl, hIy1⟩ := own_isPSS hoy1 hry1 HBd1.out HN1.out (Nat.le_trans (by omega : len1 ≤ 1048576) (by unfold maxLen; omega))
  have HIy1 := Lib.hid hIy1
  have HXy1 := Lib.hid hoy1
  have HRy1 := Lib.hid hry1
  clear hIy1 hoy1 hry1 hb
  go_wp2_with fail
  refine (eqPolySS_yes _ _ _ _ len1 z1 _ HIx1.out HIy1.out).mono ?_
  rintro e W13 ⟨rfl, hb⟩
  have HIw := Lib.hid (HIw.out.below hb)
  have HIx0 := Lib.hid (HIx0.out.below hb)
  have HXx0 := Lib.hid (HXx0.out.below hb)
  have HIx1 := Lib.hid (HIx1.out.below hb)
  have HXx1 := Lib.hid (HXx1.out.below hb)
  have HIg := Lib.hid (HIg.out.below hb)
  have HXg := Lib.hid (HXg.out.below hb)
  have HIy1 := Lib.hid (HIy1.out.below hb)
  have HXy1 := Lib.hid (HXy1.out.below hb)
  have HB := Lib.hid (HB.out.trans (hb.mono HB.out.size))
  have HZ := Lib.hid (HZ.out.trans (hb.mono HZ.out.size))
  clear hb
  obtain ⟨K0, hK0⟩ : ∃ K, 1 + totM z0 = K := ⟨_, rfl⟩
  have hKb0 : 0 < K0 ∧ K0 ≤ 1048577 := by omega
  have HMK := Lib.hid (markPolySS_any _ 1 _ rsx0 _ HXx0.out (by rw [rows_len HRx0.out HN0.out, HRx0.out]; omega) (by omega))
  rw [HRx0.out, hK0] at HMK
  clear hK0
  go_wp2_with fail
  refine HMK.out.mono ?_
  rintro e W14 ⟨rfl, _, htd⟩
  have HXx1 := Lib.hid (HXx1.out.touched htd (fun b hb hS => by have h1 := (ownsRow_lt HXx1.out.row b hb).1; have h2 := HLb0.out b hS; omega) fun b hb hS => by have h1 := (HXx1.out.low hb).1; have h2 := HLb0.out b hS; omega)
  have HXg := Lib.hid (HXg.out.touched htd (fun b hb hS => by have h1 := HLg.out b (.inr hb); have h2 := HLx0.out b hS; omega) fun b hb hS => by have h1 := HLg.out b (.inl hb); have h2 := HLx0.out b hS; omega)
  have hbz := htd.below (lo := W5.heap.size) HZ.out.size fun c hc => HLz0.out c hc
  have HZ := Lib.hid (HZ.out.trans hbz)
  have HB := Lib.hid (HB.out.trans (hbz.mono (by exact hZw)))
  have HIw := Lib.hid (HIw0.out.below HZ.out)
  clear htd hbz HMK
  obtain ⟨K1, hK1⟩ : ∃ K, K0 + totM z1 = K := ⟨_, rfl⟩
  have hKb1 : 0 < K1 ∧ K1 ≤ 2097153 := by omega
  have HMK := Lib.hid (markPolySS_any _ K0 _ rsx1 _ HXx1.out (by rw [rows_len HRx1.out HN1.out, HRx1.out]; omega) (by omega))
  rw [HRx1.out, hK1] at HMK
  clear hK1
  go_wp2_with fail
  refine HMK.out.mono ?_
  rintro e W15 ⟨rfl, _, htd⟩
  have HXg := Lib.hid (HXg.out.touched htd (fun b hb hS => by have h1 := HLg.out b (.inr hb); have h2 := HLx1.out b hS; omega) fun b hb hS => by have h1 := HLg.out b (.inl hb); have h2 := HLx1.out b hS; omega)
  have hbz := htd.below (lo := W5.heap.size) HZ.out.size fun c hc => HLz1.out c hc
  have HZ := Lib.hid (HZ.out.trans hbz)
  have HB := Lib.hid (HB.out.trans (hbz.mono (by exact hZw)))
  have HIw := Lib.hid (HIw0.out.below HZ.out)
  clear htd hbz HMK
  obtain ⟨ag2, cg2, eg, hIg⟩ := own_isPSS HXg.out HRg.out HGd.out.bound HNR.out (by unfold maxLen; omega)
  simp only [Value.slice.injEq] at eg
  obtain ⟨rfl, _, rfl⟩ := eg
  have HIg := Lib.hid hIg
  clear hIg
  have hKn : decide ((K1 : Int) < 0) = false := decide_eq_false (by omega)
  have hKl : ¬ (K1 : Int) < 0 := by omega
  go_wp2_with fail
  refine (eqPolySS_yes _ _ _ _ N R _ HIg.out HIw.out).mono ?_
  rintro e W16 ⟨rfl, hb⟩
  have HIw := Lib.hid (HIw.out.below hb)
  have HIg := Lib.hid (HIg.out.below hb)
  have HXg := Lib.hid (HXg.out.below hb)
  have HB := Lib.hid (HB.out.trans (hb.mono HB.out.size))
  have HZ := Lib.hid (HZ.out.trans (hb.mono HZ.out.size))
  clear hb
  obtain ⟨M, hM⟩ : ∃ M, 1 + totM R = M := ⟨_, rfl⟩
  have hMn : decide ((M : Int) < 0) = false := decide_eq_false (by omega)
  have hMl : ¬ (M : Int) < 0 := by omega
  have hMe : ((M : Int) != (M : Int)) = false := by simp
  have HMG := Lib.hid (markPolySS_any _ 1 _ rsg _ HXg.out (by rw [rows_len HRg.out HNR.out, HRg.out]; omega) (by omega))
  rw [HRg.out, hM] at HMG
  have HMM := Lib.hid hM
  clear hM
  go_wp2_with fail
  refine HMG.out.mono ?_
  rintro e W17 ⟨rfl, hmk, htd⟩
  have hbz := htd.below (lo := W5.heap.size) HZ.out.size fun c hc => Nat.le_trans hZq (HLg.out c (.inl hc))
  have HZ := Lib.hid (HZ.out.trans hbz)
  have HB := Lib.hid (HB.out.trans (hbz.mono hZw))
  have HIw := Lib.hid (HIw0.out.below HZ.out)
  have HXg := Lib.hid hmk
  clear htd hbz hmk HMG
  have HHG := Lib.hid (heldPolySS_any _ 1 _ rsg _ HXg.out (by rw [rows_len HRg.out HNR.out, HRg.out]; omega) (by omega))
  rw [HRg.out, HMM.out] at HHG
  go_wp2_with fail
  refine HHG.out.mono ?_
  rintro e W18 ⟨rfl, hb⟩
  have HIw := Lib.hid (HIw.out.below hb)
  have HXg := Lib.hid (HXg.out.below hb)
  have HB := Lib.hid (HB.out.trans (hb.mono HB.out.size))
  have HZ := Lib.hid (HZ.out.trans (hb.mono HZ.out.size))
  clear hb HHG
  go_wp2_with fail
  refine (toPolySS_any a0 cap0 len0 z0 _ (HS0.out.below HB.out) hsz0).mono ?_
  rintro e W19 ⟨vt0, rst0, rfl, hrt0, hot0, hb⟩
  have HIw := Lib.hid (HIw.out.below hb)
  have HXg := Lib.hid (HXg.out.below hb)
  have HB := Lib.hid (HB.out.trans (hb.mono HB.out.size))
  have HZ := Lib.hid (HZ.out.trans (hb.mono HZ.out.size))
  obtain ⟨at0, ct0, rfl, hIt0⟩ := own_isPSS hot0 hrt0 HBd0.out HN0.out (Nat.le_trans (by omega : len0 ≤ 1048576) (by unfold maxLen; omega))
  have HIt0 := Lib.hid hIt0
  have HXt0 := Lib.hid hot0
  have HRt0 := Lib.hid hrt0
  clear hIt0 hot0 hrt0 hb
  go_wp2_with fail
  refine (toPolySS_any a1 cap1 len1 z1 _ (HS1.out.below HB.out) hsz1).mono ?_
  rintro e W20 ⟨vt1, rst1, rfl, hrt1, hot1, hb⟩
  have HIw := Lib.hid (HIw.out.below hb)
  have HXg := Lib.hid (HXg.out.below hb)
  have HIt0 := Lib.hid (HIt0.out.below hb)
  have HXt0 := Lib.hid (HXt0.out.below hb)
  have HB := Lib.hid (HB.out.trans (hb.mono HB.out.size))
  have HZ := Lib.hid (HZ.out.trans (hb.mono HZ.out.size))
  obtain ⟨at1, ct1, rfl, hIt1⟩ := own_isPSS hot1 hrt1 HBd1.out HN1.out (Nat.le_trans (by omega : len1 ≤ 1048576) (by unfold maxLen; omega))
  have HIt1 := Lib.hid hIt1
  have HXt1 := Lib.hid hot1
  have HRt1 := Lib.hid hrt1
  clear hIt1 hot1 hrt1 hb
  go_wp2_with fail
  refine (iMatrixTimes_any _ _ _ _ _ _ z0 z1  _ HIt0.out HIt1.out).mono ?_
  rw [HO.out]
  rintro e W21 ⟨⟨vh, rsh, rfl, hoh, hrh⟩, hb⟩
  rw [HRO.out] at hrh
  rw [HBO.out]
  have HIw := Lib.hid (HIw.out.below hb)
  have HXg := Lib.hid (HXg.out.below hb)
  have HIt0 := Lib.hid (HIt0.out.below hb)
  have HXt0 := Lib.hid (HXt0.out.below hb)
  have HIt1 := Lib.hid (HIt1.out.below hb)
  have HXt1 := Lib.hid (HXt1.out.below hb)
  have HB := Lib.hid (HB.out.trans (hb.mono HB.out.size))
  have HZ := Lib.hid (HZ.out.trans (hb.mono HZ.out.size))
  obtain ⟨ah, ch, rfl, hIh⟩ := own_isPSS hoh hrh HGd.out.bound HNR.out (by unfold maxLen; omega)
  have HIh := Lib.hid hIh
  have HXh := Lib.hid hoh
  have HRh := Lib.hid hrh
  clear hIh hoh hrh hb
  go_wp2_with fail
  refine (eqPolySS_yes _ _ _ _ N R _ HIh.out HIw.out).mono ?_
  rintro e W22 ⟨rfl, hb⟩
  have HIw := Lib.hid (HIw.out.below hb)
  have HXg := Lib.hid (HXg.out.below hb)
  have HIh := Lib.hid (HIh.out.below hb)
  have HXh := Lib.hid (HXh.out.below hb)
  have HB := Lib.hid (HB.out.trans (hb.mono HB.out.size))
  have HZ := Lib.hid (HZ.out.trans (hb.mono HZ.out.size))
  clear hb
  have HHG := Lib.hid (heldPolySS_any _ 1 _ rsg _ HXg.out (by rw [rows_len HRg.out HNR.out, HRg.out]; omega) (by omega))
  rw [HRg.out, HMM.out] at HHG
  go_wp2_with fail
  refine HHG.out.mono ?_
  rintro e W23 ⟨rfl, hb⟩
  have HIw := Lib.hid (HIw.out.below hb)
  have HXg := Lib.hid (HXg.out.below hb)
  have HB := Lib.hid (HB.out.trans (hb.mono HB.out.size))
  have HZ := Lib.hid (HZ.out.trans (hb.mono HZ.out.size))
  clear hb HHG
  go_wp2
  go_ret
  exact ⟨rfl, HB.out⟩

set_option maxRecDepth 100000 in
theorem lifted (os : Os) (started : os.Started) (H : Type) (enc : TypeId × Value → H) :
    ReturnsInHanded {} Try.checked os 13 .any (Rows.fnExactMatrixTimesSpec.pre6 enc Try.prog Try.f13 Rows.fnExactMatrixTimesRow.domain false) (Rows.fnExactMatrixTimesSpec.post enc Try.prog Try.f13 false true false false) := by
  refine returnsInHanded_of_change (C := Try.checked) own started (by kernel_rfl) Try.func13
    (ChangeSpec.witness6 (enc := enc) (C := Try.checked) false ⟨#[], #[.slice none 0 0, .slice none 0 0], []⟩ 8 (by kernel_rfl) (by kernel_rfl) (by kernel_rfl) (by kernel_rfl)) ?_
  intro W base args ds gs before hval0 hW hcnd _
  have hval : ∀ (j : Nat) t v, Try.f13.params[j]? = some t → args[j]? = some v → Value.okWide Try.prog W .any base t v := hval0
  have hW' := hW
  obtain ⟨p, q, hA0, hV, rfl, hfz, hnd⟩ := hW
  have hA : DataW.TrodAll enc Try.prog W 0 (fun _ => true) true Try.f13.params.toList args.toList ds p := hA0
  rw [Try.params13] at hA hval
  obtain ⟨v0, vs0, d0, ds0, p0, q0, hargs, rfl, rfl, h0, r0⟩ := trodAll_cons hA
  obtain ⟨v1, vs1, d1, ds1, p1, q1, rfl, rfl, rfl, h1, r1⟩ := trodAll_cons r0
  obtain ⟨rfl, rfl, rfl⟩ := trodAll_nil r1
  obtain rfl : args = #[v0, v1] := by cases args; simp_all
  obtain ⟨rfl, rfl⟩ := trodVars_none hV
  obtain ⟨a0, len0, cap0, rfl⟩ := okWide_slice Try.underlying51 (hval 0 51 v0 rfl rfl)
  have k0 := h0
  have lt0 : ∀ x ∈ p0, x.block < W.heap.size := by obtain ⟨m, hm⟩ := k0; exact DataW.trod_lt m _ _ _ hm
  obtain ⟨z0, w0⟩ : ∃ zs, IsPSS W a0 len0 zs := by
    obtain ⟨fuel, hf⟩ := h0
    exact isPSS_of hf
  obtain ⟨a1, len1, cap1, rfl⟩ := okWide_slice Try.underlying51 (hval 1 51 v1 rfl rfl)
  have k1 := h1
  have lt1 : ∀ x ∈ p1, x.block < W.heap.size := by obtain ⟨m, hm⟩ := k1; exact DataW.trod_lt m _ _ _ hm
  obtain ⟨z1, w1⟩ : ∃ zs, IsPSS W a1 len1 zs := by
    obtain ⟨fuel, hf⟩ := h1
    exact isPSS_of hf
  clear hA0 hval0
  refine (walk a0 len0 cap0 z0 a1 len1 cap1 z1 W w0 w1).mono fun e W' ⟨he, bel⟩ => ?_
  subst he
  exact ⟨_, rfl, _, _, _, [], _, [], hW', trodAll_mk1 (shut_bool Try.underlying4 _), (trodAll_cons_mk (Below.trod laidOut (by kernel_rfl) (of_decide_eq_true (by kernel_rfl)) k0 bel lt0) (trodAll_cons_mk (Below.trod laidOut (by kernel_rfl) (of_decide_eq_true (by kernel_rfl)) k1 bel lt1) trodAll_mk0)), rfl, bel.frame _, fun h => by cases h⟩

theorem closed : joinedFacts Try.prog 13 Try.f13 Rows.fnExactMatrixTimesSpec Rows.fnExactMatrixTimesRow = true :=
  ((restOf Try.prog 13 Try.f13 Rows.fnExactMatrixTimesSpec Rows.fnExactMatrixTimesRow).2 enter_is lifts_is make_is).trans (by kernel_rfl)
theorem over : Rows.fnExactMatrixTimesRow.holds Try.pinned (OpenSpec.ofChange Rows.fnExactMatrixTimesSpec) := by
  first
  | exact OpenClaim.holds_of_wide_leaving 13 Try.f13 rfl rfl rfl rfl rfl rfl rfl ⟨rfl, rfl, rfl, rfl, rfl⟩ rfl rfl rfl rfl rfl (by kernel_rfl) Try.func13 closed
      (of_decide_eq_true (by kernel_rfl)) (by unfold Func.isWrapper; first | (rw [if_pos (by decide +kernel)]; kernel_rfl) | (rw [if_neg (by decide +kernel)]; exact ⟨rfl, rfl⟩))
      (fun os started H enc _ => leaving_of_handed (lifted os started H enc))
  | exact OpenClaim.holds_of_wide 13 Try.f13 rfl rfl rfl rfl rfl rfl rfl ⟨rfl, rfl, rfl, rfl, rfl⟩ rfl rfl rfl rfl rfl (by kernel_rfl) Try.func13 closed
      (of_decide_eq_true (by kernel_rfl)) (by unfold Func.isWrapper; first | (rw [if_pos (by decide +kernel)]; kernel_rfl) | (rw [if_neg (by decide +kernel)]; exact ⟨rfl, rfl⟩))
      (fun os started H enc _ => lifted os started H enc)

theorem proved : Rows.FnExactMatrixTimesSaid := over
#print axioms proved
end Go.Proofs.Ytbbkpaledlbcmaa.LMatrixTimes

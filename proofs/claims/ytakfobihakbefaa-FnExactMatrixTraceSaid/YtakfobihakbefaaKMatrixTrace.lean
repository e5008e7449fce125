/-
  Proves 'Rows.FnExactMatrixTraceSaid': for every argument, the program's MatrixTrace answers as the model's MatrixTrace, leaves its argument alone, and its answer shares no memory with it nor with the answer of another call.
  Conditions: none beyond the row's own.
-/
import Derived.Test.YtakfobihakbefaaRows
import Derived.WalkKit
import Derived.ProofKit
import Derived.OpenShut
import Derived.ShutString
import Derived.ChangeOld
import Derived.Below
import Derived.Test.YtakfobihakbefaaBya
import Derived.Test.YtakfobihakbefaaByb
import Derived.Test.YtakfobihakbefaaByc
import Derived.Test.YtakfobihakbefaaByd

namespace Go.Proofs.Ytakfobihakbefaa.LMatrixTrace
open Go.ChangeShapes Go.WideShapes Go.ChangeAt Go.RowKit
open Go.ChangeMaps (open_string shut_string)
set_option linter.unusedVariables false

theorem own : ownKnob Try.prog.godebug = none := by kernel_rfl
theorem laidOut : laidOutB Try.prog = true := by kernel_rfl

set_option maxRecDepth 100000 in
set_option maxHeartbeats 8000000 in
theorem walk (a0 : Option Addr) (len0 cap0 : Nat) (z0 : Mx) (w : World) (w0 : IsPSS w a0 len0 z0) :
    Calls Try.prog 23 #[.slice a0 len0 cap0] w fun e w' => e = .returned (.bool true) ∧ Below w.heap.size w w' := by
  have HS0 := Lib.hid w0
  have HL0 := Lib.hid w0.len
  have HBd0 := Lib.hid w0.bound
  obtain ⟨b, hb⟩ : ∃ b, (traceM z0).isSome = b := ⟨_, rfl⟩
  obtain ⟨p, hp⟩ : ∃ p, (traceM z0).getD zeroP = p := ⟨_, rfl⟩
  have hfit := trace_fit hp
  obtain ⟨pl, pc⟩ := p
  obtain ⟨L, hL⟩ : ∃ L, pc.length = L := ⟨_, rfl⟩
  have hln : L ≤ 200 := by rw [← hL]; exact hfit
  have HB := Lib.hid hb
  have HP := Lib.hid hp
  have HL := Lib.hid hL
  have hbb : (b != b) = false := by cases b <;> rfl
  clear hb hp hL hfit w0
  have HB0 := Lib.hid (Below.refl w.heap.size w)
  go_enter Try.func23, Try.ntmps23
  go_wp2_with fail
  refine (szPolySS_any a0 cap0 len0 1048576 z0 _ (HS0.out.below HB0.out) (by omega)).mono ?_
  rintro e W1 ⟨⟨k, rfl, hk⟩, hb1⟩
  have HBW1 := Lib.hid (HB0.out.trans (hb1.mono HB0.out.size))
  have hsW1 : w.heap.size ≤ W1.heap.size := hb1.size
  clear hb1
  by_cases hk0 : k < 0
  · clear hk
    go_wp2
    go_ret
    exact ⟨rfl, HBW1.out⟩
  obtain ⟨hn0, q0, rfl, hq0⟩ : len0 + totM z0 ≤ 1048576 ∧ ∃ q : Nat, k = (q : Int) ∧ q ≤ 1048576 := by
    rcases hk with h | ⟨h1, h2⟩
    · omega
    · exact ⟨by omega, k.toNat, by omega, by omega⟩
  clear hk hk0
  go_wp2_with fail
  refine (toPolySS_any a0 cap0 len0 z0 _ (HS0.out.below HBW1.out) hn0).mono ?_
  rintro e W2 ⟨vm2, rs2, rfl, hrr2, hr2, hb2⟩
  obtain ⟨am2, cm2, rfl, hi2⟩ := own_isPSS hr2 hrr2 HBd0.out HL0.out (Nat.le_trans (by omega : len0 ≤ 1048576) (by unfold maxLen; omega))
  have HRR2 := Lib.hid hrr2
  have HI2 := Lib.hid hi2
  have HT2 := Lib.hid hr2
  clear hi2 hr2 hrr2
  have HBW2 := Lib.hid (HBW1.out.trans (hb2.mono HBW1.out.size))
  have hsW2 : W1.heap.size ≤ W2.heap.size := hb2.size
  clear hb2
  go_wp2_with fail
  with_reducible refine (sMatrixTrace_law HI2.out HB.out HP.out).mono ?_
  rintro e W3 ⟨⟨vw, rfl, how⟩, hb3⟩
  obtain ⟨aw, _, cw, rfl, _⟩ := how.shape
  rw [show pc.length = L from HL.out] at how ⊢
  have vw_lo := Lib.hid (own_ge how)
  have vw_hi := Lib.hid (own_lt how)
  have HRw := Lib.hid how
  clear how
  have HBW3 := Lib.hid (HBW2.out.trans (hb3.mono HBW2.out.size))
  have hsW3 : W2.heap.size ≤ W3.heap.size := hb3.size
  clear hb3
  obtain ⟨B4, hB4⟩ : ∃ X, W3.alloc (.cells #[.int .i64 pl, (.slice aw L cw)] 25) = X := ⟨_, rfl⟩
  have zB4 : B4.heap.size = W3.heap.size + 1 := by rw [← hB4]; simp
  have hbB4 : Below W3.heap.size W3 B4 := by rw [← hB4]; exact (Below.refl _ _).alloc (Nat.le_refl _) _
  have HNB4 := Lib.hid (boxNew hB4)
  have HBB4 := Lib.hid (HBW3.out.trans (hbB4.mono HBW3.out.size))
  have hsB4 : W3.heap.size ≤ B4.heap.size := hbB4.size
  have HRw_B4 := Lib.hid (HRw.out.below hbB4)
  clear hbB4
  have HB4 := Lib.hid hB4
  clear hB4
  go_wp2_with fail
  rw [HB4.out]
  refine (toPolySS_any a0 cap0 len0 z0 _ (HS0.out.below HBB4.out) hn0).mono ?_
  rintro e W5 ⟨vm5, rs5, rfl, hrr5, hr5, hb5⟩
  obtain ⟨am5, cm5, rfl, hi5⟩ := own_isPSS hr5 hrr5 HBd0.out HL0.out (Nat.le_trans (by omega : len0 ≤ 1048576) (by unfold maxLen; omega))
  have HRR5 := Lib.hid hrr5
  have HI5 := Lib.hid hi5
  have HT5 := Lib.hid hr5
  clear hi5 hr5 hrr5
  have HBW5 := Lib.hid (HBB4.out.trans (hb5.mono HBB4.out.size))
  have hsW5 : B4.heap.size ≤ W5.heap.size := hb5.size
  have HRw_W5 := Lib.hid (HRw_B4.out.below hb5)
  have HNB4_W5 := Lib.hid (HNB4.out.below hb5)
  clear hb5
  have HT5_lo : Hid (∀ j, FootM rs5 j → B4.heap.size ≤ j) := Lib.hid fun j e => (HT5.out.low e).1
  have HT5_hi : Hid (∀ j, FootM rs5 j → j < W5.heap.size) := Lib.hid fun j e => (HT5.out.low e).2
  go_wp2_with fail
  with_reducible refine (iMatrixTrace_law HI5.out HB.out HP.out).mono ?_
  rintro e W6 ⟨⟨vg, rfl, hog⟩, hb6⟩
  obtain ⟨ag, _, cg, rfl, _⟩ := hog.shape
  rw [show pc.length = L from HL.out] at hog ⊢
  have vg_lo := Lib.hid (own_ge hog)
  have vg_hi := Lib.hid (own_lt hog)
  have HRg := Lib.hid hog
  clear hog
  have HBW6 := Lib.hid (HBW5.out.trans (hb6.mono HBW5.out.size))
  have hsW6 : W5.heap.size ≤ W6.heap.size := hb6.size
  have HRw_W6 := Lib.hid (HRw_W5.out.below hb6)
  have HNB4_W6 := Lib.hid (HNB4_W5.out.below hb6)
  have HT5_W6 := Lib.hid (HT5.out.below hb6)
  have HI5_W6 := Lib.hid (HI5.out.below hb6)
  clear hb6
  obtain ⟨B7, hB7⟩ : ∃ X, W6.alloc (.cells #[.int .i64 pl, (.slice ag L cg)] 25) = X := ⟨_, rfl⟩
  have zB7 : B7.heap.size = W6.heap.size + 1 := by rw [← hB7]; simp
  have hbB7 : Below W6.heap.size W6 B7 := by rw [← hB7]; exact (Below.refl _ _).alloc (Nat.le_refl _) _
  have HNB7 := Lib.hid (boxNew hB7)
  have HBB7 := Lib.hid (HBW6.out.trans (hbB7.mono HBW6.out.size))
  have hsB7 : W6.heap.size ≤ B7.heap.size := hbB7.size
  have HRw_B7 := Lib.hid (HRw_W6.out.below hbB7)
  have HNB4_B7 := Lib.hid (HNB4_W6.out.below hbB7)
  have HT5_B7 := Lib.hid (HT5_W6.out.below hbB7)
  have HI5_B7 := Lib.hid (HI5_W6.out.below hbB7)
  have HRg_B7 := Lib.hid (HRg.out.below hbB7)
  clear hbB7
  have HB7 := Lib.hid hB7
  clear hB7
  have hp0 := HNB7.out
  rw [← HB7.out] at hp0
  obtain ⟨_, c0_0, c0_1⟩ := hp0
  have hp1 := HNB4_B7.out
  rw [← HB7.out] at hp1
  obtain ⟨_, c1_0, c1_1⟩ := hp1
  go_wp2_with fail
  rw [HB7.out]
  refine (eqPoly_yes _ _ pl _ _ pc _ HRg_B7.out HRw_B7.out).mono ?_
  rintro e W8 ⟨rfl, hb8⟩
  clear c0_0 c0_1 c1_0 c1_1
  have HBW8 := Lib.hid (HBB7.out.trans (hb8.mono HBB7.out.size))
  have hsW8 : B7.heap.size ≤ W8.heap.size := hb8.size
  have HRw_W8 := Lib.hid (HRw_B7.out.below hb8)
  have HNB4_W8 := Lib.hid (HNB4_B7.out.below hb8)
  have HT5_W8 := Lib.hid (HT5_B7.out.below hb8)
  have HI5_W8 := Lib.hid (HI5_B7.out.below hb8)
  have HRg_W8 := Lib.hid (HRg_B7.out.below hb8)
  have HNB7_W8 := Lib.hid (HNB7.out.below hb8)
  clear hb8
  go_wp2_with fail
  refine (toPolySS_any a0 cap0 len0 z0 _ (HS0.out.below HBW8.out) hn0).mono ?_
  rintro e W9 ⟨vm9, rs9, rfl, hrr9, hr9, hb9⟩
  obtain ⟨am9, cm9, rfl, hi9⟩ := own_isPSS hr9 hrr9 HBd0.out HL0.out (Nat.le_trans (by omega : len0 ≤ 1048576) (by unfold maxLen; omega))
  have HRR9 := Lib.hid hrr9
  have HI9 := Lib.hid hi9
  have HT9 := Lib.hid hr9
  clear hi9 hr9 hrr9
  have HBW9 := Lib.hid (HBW8.out.trans (hb9.mono HBW8.out.size))
  have hsW9 : W8.heap.size ≤ W9.heap.size := hb9.size
  have HRw_W9 := Lib.hid (HRw_W8.out.below hb9)
  have HNB4_W9 := Lib.hid (HNB4_W8.out.below hb9)
  have HT5_W9 := Lib.hid (HT5_W8.out.below hb9)
  have HI5_W9 := Lib.hid (HI5_W8.out.below hb9)
  have HRg_W9 := Lib.hid (HRg_W8.out.below hb9)
  have HNB7_W9 := Lib.hid (HNB7_W8.out.below hb9)
  clear hb9
  go_wp2_with fail
  refine (eqPolySS_yes _ _ _ _ len0 z0 _ HI5_W9.out HI9.out).mono ?_
  rintro e W10 ⟨rfl, hb10⟩
  have HBW10 := Lib.hid (HBW9.out.trans (hb10.mono HBW9.out.size))
  have hsW10 : W9.heap.size ≤ W10.heap.size := hb10.size
  have HRw_W10 := Lib.hid (HRw_W9.out.below hb10)
  have HNB4_W10 := Lib.hid (HNB4_W9.out.below hb10)
  have HT5_W10 := Lib.hid (HT5_W9.out.below hb10)
  have HI5_W10 := Lib.hid (HI5_W9.out.below hb10)
  have HRg_W10 := Lib.hid (HRg_W9.out.below hb10)
  have HNB7_W10 := Lib.hid (HNB7_W9.out.below hb10)
  clear hb10
  obtain ⟨K0, hK0⟩ : ∃ K, 1 = K := ⟨_, rfl⟩
  clear hK0 K0
  obtain ⟨K0, hK0⟩ : ∃ K, 1 + totM z0 = K := ⟨_, rfl⟩
  have hKb0 : K0 ≤ 4000000 := by omega
  have HM := Lib.hid (markPolySS_any _ 1 _ rs5 _ HT5_W10.out (by rw [rows_len HRR5.out HL0.out, HRR5.out]; omega) (by omega))
  rw [HRR5.out, hK0] at HM
  go_wp2_with fail
  refine (HM.out).mono ?_
  rintro e W11 ⟨rfl, _, htd⟩
  have HBW11 := Lib.hid (HBW10.out.trans (htd.below (lo := w.heap.size) HBW10.out.size fun j e => by have := HT5_lo.out j e; omega))
  have hsW11 : W10.heap.size ≤ W11.heap.size := htd.size
  have HRw_W11 := Lib.hid (show IntRow _ W11 _ _ from ownsRow_touched HRw_W10.out fun j e hj => htd.block j hj fun e2 => by have h1 := vw_lo.out j e; have h2 := vw_hi.out j e; have h3 := HT5_lo.out j e2; have h4 := HT5_hi.out j e2; omega)
  have HNB4_W11 := Lib.hid (HNB4_W10.out.touched htd fun e => by have h1 := HT5_lo.out _ e; have h2 := HT5_hi.out _ e; omega)
  have HRg_W11 := Lib.hid (show IntRow _ W11 _ _ from ownsRow_touched HRg_W10.out fun j e hj => htd.block j hj fun e2 => by have h1 := vg_lo.out j e; have h2 := vg_hi.out j e; have h3 := HT5_lo.out j e2; have h4 := HT5_hi.out j e2; omega)
  have HNB7_W11 := Lib.hid (HNB7_W10.out.touched htd fun e => by have h1 := HT5_lo.out _ e; have h2 := HT5_hi.out _ e; omega)
  clear htd
  clear HM
  have hkn : decide ((K0 : Int) < 0) = false := decide_eq_false (by omega)
  have hkl : ¬ (K0 : Int) < 0 := by omega
  have hp0 := HNB7_W11.out
  obtain ⟨_, c0_0, c0_1⟩ := hp0
  have hp1 := HNB4_W11.out
  obtain ⟨_, c1_0, c1_1⟩ := hp1
  go_wp2_with fail
  refine (eqPoly_yes _ _ pl _ _ pc _ HRg_W11.out HRw_W11.out).mono ?_
  rintro e W12 ⟨rfl, hb12⟩
  clear c0_0 c0_1 c1_0 c1_1
  have HBW12 := Lib.hid (HBW11.out.trans (hb12.mono HBW11.out.size))
  have hsW12 : W11.heap.size ≤ W12.heap.size := hb12.size
  have HRw_W12 := Lib.hid (HRw_W11.out.below hb12)
  have HNB4_W12 := Lib.hid (HNB4_W11.out.below hb12)
  have HRg_W12 := Lib.hid (HRg_W11.out.below hb12)
  have HNB7_W12 := Lib.hid (HNB7_W11.out.below hb12)
  clear hb12
  obtain ⟨M, hM⟩ : ∃ M, 1 + L = M := ⟨_, rfl⟩
  have hMn : decide ((M : Int) < 0) = false := decide_eq_false (by omega)
  have hMl : ¬ (M : Int) < 0 := by omega
  have hMe : ((M : Int) != (M : Int)) = false := by simp
  have HM := Lib.hid (markPoly_g _ pl _ pc 1 _ HRg_W12.out (by omega) (by rw [HL.out]; omega))
  rw [HL.out, hM] at HM
  have hp0 := HNB7_W12.out
  obtain ⟨_, c0_0, c0_1⟩ := hp0
  go_wp2_with fail
  refine (HM.out).mono ?_
  rintro e W13 ⟨rfl, hm, hg13⟩
  clear c0_0 c0_1
  have HMG := Lib.hid hm
  clear hm
  have HBW13 := Lib.hid (HBW12.out.grown hg13 (HBW12.out.size) (fun j e => by have := vg_lo.out j e; omega))
  have hsW13 : W12.heap.size ≤ W13.heap.size := hg13.size
  have HRw_W13 := Lib.hid (HRw_W12.out.grown hg13 (fun j e e2 => by have h1 := vw_lo.out j e; have h2 := vw_hi.out j e; have h3 := vg_lo.out j e2; have h4 := vg_hi.out j e2; omega))
  have HNB4_W13 := Lib.hid (HNB4_W12.out.grown hg13 (fun e => by have h1 := vg_lo.out _ e; have h2 := vg_hi.out _ e; omega))
  have HNB7_W13 := Lib.hid (HNB7_W12.out.grown hg13 (fun e => by have h1 := vg_lo.out _ e; have h2 := vg_hi.out _ e; omega))
  clear hg13
  have HH := Lib.hid (heldPoly_any _ pl _ L 1 _ HMG.out (by omega) (by omega))
  rw [hM] at HH
  have hp0 := HNB7_W13.out
  obtain ⟨_, c0_0, c0_1⟩ := hp0
  go_wp2_with fail
  refine (HH.out).mono ?_
  rintro e W14 ⟨rfl, hb14⟩
  clear c0_0 c0_1
  have HBW14 := Lib.hid (HBW13.out.trans (hb14.mono HBW13.out.size))
  have hsW14 : W13.heap.size ≤ W14.heap.size := hb14.size
  have HRw_W14 := Lib.hid (HRw_W13.out.below hb14)
  have HNB4_W14 := Lib.hid (HNB4_W13.out.below hb14)
  have HNB7_W14 := Lib.hid (HNB7_W13.out.below hb14)
  have HMG_W14 := Lib.hid (HMG.out.below hb14)
  clear hb14
  clear HH
  go_wp2_with fail
  refine (toPolySS_any a0 cap0 len0 z0 _ (HS0.out.below HBW14.out) hn0).mono ?_
  rintro e W15 ⟨vm15, rs15, rfl, hrr15, hr15, hb15⟩
  obtain ⟨am15, cm15, rfl, hi15⟩ := own_isPSS hr15 hrr15 HBd0.out HL0.out (Nat.le_trans (by omega : len0 ≤ 1048576) (by unfold maxLen; omega))
  have HRR15 := Lib.hid hrr15
  have HI15 := Lib.hid hi15
  have HT15 := Lib.hid hr15
  clear hi15 hr15 hrr15
  have HBW15 := Lib.hid (HBW14.out.trans (hb15.mono HBW14.out.size))
  have hsW15 : W14.heap.size ≤ W15.heap.size := hb15.size
  have HRw_W15 := Lib.hid (HRw_W14.out.below hb15)
  have HNB4_W15 := Lib.hid (HNB4_W14.out.below hb15)
  have HNB7_W15 := Lib.hid (HNB7_W14.out.below hb15)
  have HMG_W15 := Lib.hid (HMG_W14.out.below hb15)
  clear hb15
  go_wp2_with fail
  with_reducible refine (iMatrixTrace_law HI15.out HB.out HP.out).mono ?_
  rintro e W16 ⟨⟨vh, rfl, hoh⟩, hb16⟩
  obtain ⟨ah, _, ch, rfl, _⟩ := hoh.shape
  rw [show pc.length = L from HL.out] at hoh ⊢
  have vh_lo := Lib.hid (own_ge hoh)
  have vh_hi := Lib.hid (own_lt hoh)
  have HRh := Lib.hid hoh
  clear hoh
  have HBW16 := Lib.hid (HBW15.out.trans (hb16.mono HBW15.out.size))
  have hsW16 : W15.heap.size ≤ W16.heap.size := hb16.size
  have HRw_W16 := Lib.hid (HRw_W15.out.below hb16)
  have HNB4_W16 := Lib.hid (HNB4_W15.out.below hb16)
  have HNB7_W16 := Lib.hid (HNB7_W15.out.below hb16)
  have HMG_W16 := Lib.hid (HMG_W15.out.below hb16)
  clear hb16
  obtain ⟨B17, hB17⟩ : ∃ X, W16.alloc (.cells #[.int .i64 pl, (.slice ah L ch)] 25) = X := ⟨_, rfl⟩
  have zB17 : B17.heap.size = W16.heap.size + 1 := by rw [← hB17]; simp
  have hbB17 : Below W16.heap.size W16 B17 := by rw [← hB17]; exact (Below.refl _ _).alloc (Nat.le_refl _) _
  have HNB17 := Lib.hid (boxNew hB17)
  have HBB17 := Lib.hid (HBW16.out.trans (hbB17.mono HBW16.out.size))
  have hsB17 : W16.heap.size ≤ B17.heap.size := hbB17.size
  have HRw_B17 := Lib.hid (HRw_W16.out.below hbB17)
  have HNB4_B17 := Lib.hid (HNB4_W16.out.below hbB17)
  have HNB7_B17 := Lib.hid (HNB7_W16.out.below hbB17)
  have HMG_B17 := Lib.hid (HMG_W16.out.below hbB17)
  have HRh_B17 := Lib.hid (HRh.out.below hbB17)
  clear hbB17
  have HB17 := Lib.hid hB17
  clear hB17
  have hp0 := HNB17.out
  rw [← HB17.out] at hp0
  obtain ⟨_, c0_0, c0_1⟩ := hp0
  have hp1 := HNB4_B17.out
  rw [← HB17.out] at hp1
  obtain ⟨_, c1_0, c1_1⟩ := hp1
  go_wp2_with fail
  rw [HB17.out]
  refine (eqPoly_yes _ _ pl _ _ pc _ HRh_B17.out HRw_B17.out).mono ?_
  rintro e W18 ⟨rfl, hb18⟩
  clear c0_0 c0_1 c1_0 c1_1
  have HBW18 := Lib.hid (HBB17.out.trans (hb18.mono HBB17.out.size))
  have hsW18 : B17.heap.size ≤ W18.heap.size := hb18.size
  have HRw_W18 := Lib.hid (HRw_B17.out.below hb18)
  have HNB4_W18 := Lib.hid (HNB4_B17.out.below hb18)
  have HNB7_W18 := Lib.hid (HNB7_B17.out.below hb18)
  have HMG_W18 := Lib.hid (HMG_B17.out.below hb18)
  have HRh_W18 := Lib.hid (HRh_B17.out.below hb18)
  have HNB17_W18 := Lib.hid (HNB17.out.below hb18)
  clear hb18
  have HH := Lib.hid (heldPoly_any _ pl _ L 1 _ HMG_W18.out (by omega) (by omega))
  rw [hM] at HH
  have hp0 := HNB7_W18.out
  obtain ⟨_, c0_0, c0_1⟩ := hp0
  go_wp2_with fail
  refine (HH.out).mono ?_
  rintro e W19 ⟨rfl, hb19⟩
  clear c0_0 c0_1
  have HBW19 := Lib.hid (HBW18.out.trans (hb19.mono HBW18.out.size))
  have hsW19 : W18.heap.size ≤ W19.heap.size := hb19.size
  have HRw_W19 := Lib.hid (HRw_W18.out.below hb19)
  have HNB4_W19 := Lib.hid (HNB4_W18.out.below hb19)
  have HNB7_W19 := Lib.hid (HNB7_W18.out.below hb19)
  have HMG_W19 := Lib.hid (HMG_W18.out.below hb19)
  have HRh_W19 := Lib.hid (HRh_W18.out.below hb19)
  have HNB17_W19 := Lib.hid (HNB17_W18.out.below hb19)
  clear hb19
  clear HH
  go_wp2
  go_ret
  exact ⟨rfl, HBW19.out⟩

set_option maxRecDepth 100000 in
theorem lifted (os : Os) (started : os.Started) (H : Type) (enc : TypeId × Value → H) :
    ReturnsInHanded {} Try.checked os 23 .any (Rows.fnExactMatrixTraceSpec.pre6 enc Try.prog Try.f23 Rows.fnExactMatrixTraceRow.domain false) (Rows.fnExactMatrixTraceSpec.post enc Try.prog Try.f23 false true false false) := by
  refine returnsInHanded_of_change (C := Try.checked) own started (by kernel_rfl) Try.func23
    (ChangeSpec.witness6 (enc := enc) (C := Try.checked) false ⟨#[], #[.slice none 0 0], []⟩ 8 (by kernel_rfl) (by kernel_rfl) (by kernel_rfl) (by kernel_rfl)) ?_
  intro W base args ds gs before hval0 hW hcnd _
  have hval : ∀ (j : Nat) t v, Try.f23.params[j]? = some t → args[j]? = some v → Value.okWide Try.prog W .any base t v := hval0
  have hW' := hW
  obtain ⟨p, q, hA0, hV, rfl, hfz, hnd⟩ := hW
  have hA : DataW.TrodAll enc Try.prog W 0 (fun _ => true) true Try.f23.params.toList args.toList ds p := hA0
  rw [Try.params23] at hA hval
  obtain ⟨v0, vs0, d0, ds0, p0, q0, hargs, rfl, rfl, h0, r0⟩ := trodAll_cons hA
  obtain ⟨rfl, rfl, rfl⟩ := trodAll_nil r0
  obtain rfl : args = #[v0] := by cases args; simp_all
  obtain ⟨rfl, rfl⟩ := trodVars_none hV
  obtain ⟨a0, len0, cap0, rfl⟩ := okWide_slice Try.underlying56 (hval 0 56 v0 rfl rfl)
  have k0 := h0
  have lt0 : ∀ x ∈ p0, x.block < W.heap.size := by obtain ⟨m, hm⟩ := k0; exact DataW.trod_lt m _ _ _ hm
  obtain ⟨z0, w0⟩ : ∃ zs, IsPSS W a0 len0 zs := by
    obtain ⟨fuel, hf⟩ := h0
    exact isPSS_of hf
  clear hA0 hval0
  refine (walk a0 len0 cap0 z0 W w0).mono fun e W' ⟨he, bel⟩ => ?_
  subst he
  exact ⟨_, rfl, _, _, _, [], _, [], hW', trodAll_mk1 (shut_bool Try.underlying4 _), (trodAll_cons_mk (Below.trod laidOut (by kernel_rfl) (of_decide_eq_true (by kernel_rfl)) k0 bel lt0) trodAll_mk0), rfl, bel.frame _, fun h => by cases h⟩

theorem closed : joinedFacts Try.prog 23 Try.f23 Rows.fnExactMatrixTraceSpec Rows.fnExactMatrixTraceRow = true :=
  ((restOf Try.prog 23 Try.f23 Rows.fnExactMatrixTraceSpec Rows.fnExactMatrixTraceRow).2 enter_is lifts_is make_is).trans (by kernel_rfl)
theorem over : Rows.fnExactMatrixTraceRow.holds Try.pinned (OpenSpec.ofChange Rows.fnExactMatrixTraceSpec) :=
  OpenClaim.holds_of_wide 23 Try.f23 rfl rfl rfl rfl rfl rfl rfl ⟨rfl, rfl, rfl, rfl, rfl⟩ rfl rfl rfl rfl rfl (by kernel_rfl) Try.func23 closed
    (of_decide_eq_true (by kernel_rfl)) (by unfold Func.isWrapper; first | (rw [if_pos (by decide +kernel)]; kernel_rfl) | (rw [if_neg (by decide +kernel)]; exact ⟨rfl, rfl⟩))
    (fun os started H enc _ => lifted os started H enc)

theorem proved : Rows.FnExactMatrixTraceSaid := over
#print axioms proved
end Go.Proofs.Ytakfobihakbefaa.LMatrixTrace

/-
  Proves 'Rows.FnExactPolyOfSaid': for every number and every list of numbers, the program's PolyOf answers as the model's PolyOf, leaves the list alone, and its answer shares no memory with it nor with the answer of another call.
  Conditions: none beyond the row's own.
-/
import Derived.Test.YtocklmiappppgaaRows
import Derived.WalkKit
import Derived.ProofKit
import Derived.OpenShut
import Derived.ShutString
import Derived.ChangeOld
import Derived.Below
import Derived.Test.YtocklmiappppgaaBa
import Derived.Test.YtocklmiappppgaaBb
import Derived.Test.YtocklmiappppgaaBc

namespace Go.Proofs.Ytocklmiappppgaa.LPolyOf
open Go.ChangeShapes Go.WideShapes Go.ChangeAt Go.RowKit
open Go.ChangeMaps (open_string shut_string)
set_option linter.unusedVariables false

theorem own : ownKnob Try.prog.godebug = none := by kernel_rfl
theorem laidOut : laidOutB Try.prog = true := by kernel_rfl

set_option maxRecDepth 100000 in
set_option maxHeartbeats 8000000 in
theorem walk (a0 : Int) (a1 : Option Addr) (len1 cap1 : Nat) (z1 : List Int) (w : World) (w0 : (Lit.int .i64 a0).wf = true) (w1 : Ints w a1 len1 z1) :
    Calls Try.prog 14 #[.int .i64 a0, .slice a1 len1 cap1] w fun e w' => e = .returned (.bool true) ∧ Below w.heap.size w w' := by
  have hmx1 := w1.max
  unfold maxLen at hmx1
  have HS1 := Lib.hid w1
  have HL1 := Lib.hid w1.len
  obtain ⟨b, hb⟩ : ∃ b, polyOfB a0 z1 = b := ⟨_, rfl⟩
  obtain ⟨p, hp⟩ : ∃ p, polyOfP a0 z1 = p := ⟨_, rfl⟩
  have hfit := polyOf_fit w1 hb hp
  obtain ⟨pl, pc⟩ := p
  obtain ⟨L, hL⟩ : ∃ L, pc.length = L := ⟨_, rfl⟩
  have hln : L ≤ 200 := by rw [← hL]; exact hfit
  have HB := Lib.hid hb
  have HP := Lib.hid hp
  have HL := Lib.hid hL
  have hbb : (b != b) = false := by cases b <;> rfl
  clear hb hp hL hfit w0 w1
  by_cases hn1 : ¬ len1 ≤ 1048576
  · have hd : decide ((1048576 : Int) < (len1 : Int)) = true := decide_eq_true (by omega)
    go_enter Try.func14, Try.ntmps14
    go_wp2_with fail
    go_ret
    exact ⟨rfl, Below.refl _ _⟩
  have hn1 : len1 ≤ 1048576 := by omega
  have hd : decide ((1048576 : Int) < (len1 : Int)) = false := decide_eq_false (by omega)
  have HB0 := Lib.hid (Below.refl w.heap.size w)
  go_enter Try.func14, Try.ntmps14
  go_wp2_with fail
  with_reducible refine (toIntS_t a1 cap1 len1 z1 _ hn1 (HS1.out.below HB0.out)).mono ?_
  rintro e W1 ⟨⟨g1, rfl, lo1, hr1, hi1⟩, hb1⟩
  have HI1 := Lib.hid hi1
  have HT1 := Lib.hid hr1
  have lt1 : g1 < W1.heap.size := own_lt hr1 g1 rfl
  clear hi1 hr1
  have HBW1 := Lib.hid (HB0.out.trans (hb1.mono HB0.out.size))
  have hsW1 : w.heap.size ≤ W1.heap.size := hb1.size
  clear hb1
  go_wp2_with fail
  with_reducible refine (sPolyOf_law HI1.out HB.out HP.out).mono ?_
  rintro e W2 ⟨⟨vw, rfl, how⟩, hb2⟩
  obtain ⟨aw, _, cw, rfl, _⟩ := how.shape
  rw [show pc.length = L from HL.out] at how ⊢
  have vw_lo := Lib.hid (own_ge how)
  have vw_hi := Lib.hid (own_lt how)
  have HRw := Lib.hid how
  clear how
  have HBW2 := Lib.hid (HBW1.out.trans (hb2.mono HBW1.out.size))
  have hsW2 : W1.heap.size ≤ W2.heap.size := hb2.size
  clear hb2
  obtain ⟨B3, hB3⟩ : ∃ X, W2.alloc (.cells #[.int .i64 pl, (.slice aw L cw)] 25) = X := ⟨_, rfl⟩
  have zB3 : B3.heap.size = W2.heap.size + 1 := by rw [← hB3]; simp
  have hbB3 : Below W2.heap.size W2 B3 := by rw [← hB3]; exact (Below.refl _ _).alloc (Nat.le_refl _) _
  have HNB3 := Lib.hid (boxNew hB3)
  have HBB3 := Lib.hid (HBW2.out.trans (hbB3.mono HBW2.out.size))
  have hsB3 : W2.heap.size ≤ B3.heap.size := hbB3.size
  have HRw_B3 := Lib.hid (HRw.out.below hbB3)
  clear hbB3
  have HB3 := Lib.hid hB3
  clear hB3
  go_wp2_with fail
  rw [HB3.out]
  with_reducible refine (toIntS_t a1 cap1 len1 z1 _ hn1 (HS1.out.below HBB3.out)).mono ?_
  rintro e W4 ⟨⟨g4, rfl, lo4, hr4, hi4⟩, hb4⟩
  have HI4 := Lib.hid hi4
  have HT4 := Lib.hid hr4
  have lt4 : g4 < W4.heap.size := own_lt hr4 g4 rfl
  clear hi4 hr4
  have HBW4 := Lib.hid (HBB3.out.trans (hb4.mono HBB3.out.size))
  have hsW4 : B3.heap.size ≤ W4.heap.size := hb4.size
  have HRw_W4 := Lib.hid (HRw_B3.out.below hb4)
  have HNB3_W4 := Lib.hid (HNB3.out.below hb4)
  clear hb4
  have HT4_lo : Hid (∀ j, (Value.slice (some ⟨g4, 0, none⟩) len1 len1).ownBlock = some j → g4 ≤ j) := Lib.hid fun j e => by simp [Value.ownBlock] at e; omega
  have HT4_hi : Hid (∀ j, (Value.slice (some ⟨g4, 0, none⟩) len1 len1).ownBlock = some j → j < g4 + 1) := Lib.hid fun j e => by simp [Value.ownBlock] at e; omega
  go_wp2_with fail
  with_reducible refine (iPolyOf_law HI4.out HB.out HP.out).mono ?_
  rintro e W5 ⟨⟨vg, rfl, hog⟩, hb5⟩
  obtain ⟨ag, _, cg, rfl, _⟩ := hog.shape
  rw [show pc.length = L from HL.out] at hog ⊢
  have vg_lo := Lib.hid (own_ge hog)
  have vg_hi := Lib.hid (own_lt hog)
  have HRg := Lib.hid hog
  clear hog
  have HBW5 := Lib.hid (HBW4.out.trans (hb5.mono HBW4.out.size))
  have hsW5 : W4.heap.size ≤ W5.heap.size := hb5.size
  have HRw_W5 := Lib.hid (HRw_W4.out.below hb5)
  have HNB3_W5 := Lib.hid (HNB3_W4.out.below hb5)
  have HT4_W5 := Lib.hid (HT4.out.below hb5)
  have HI4_W5 := Lib.hid (HI4.out.below hb5)
  clear hb5
  obtain ⟨B6, hB6⟩ : ∃ X, W5.alloc (.cells #[.int .i64 pl, (.slice ag L cg)] 25) = X := ⟨_, rfl⟩
  have zB6 : B6.heap.size = W5.heap.size + 1 := by rw [← hB6]; simp
  have hbB6 : Below W5.heap.size W5 B6 := by rw [← hB6]; exact (Below.refl _ _).alloc (Nat.le_refl _) _
  have HNB6 := Lib.hid (boxNew hB6)
  have HBB6 := Lib.hid (HBW5.out.trans (hbB6.mono HBW5.out.size))
  have hsB6 : W5.heap.size ≤ B6.heap.size := hbB6.size
  have HRw_B6 := Lib.hid (HRw_W5.out.below hbB6)
  have HNB3_B6 := Lib.hid (HNB3_W5.out.below hbB6)
  have HT4_B6 := Lib.hid (HT4_W5.out.below hbB6)
  have HI4_B6 := Lib.hid (HI4_W5.out.below hbB6)
  have HRg_B6 := Lib.hid (HRg.out.below hbB6)
  clear hbB6
  have HB6 := Lib.hid hB6
  clear hB6
  have hp0 := HNB6.out
  rw [← HB6.out] at hp0
  obtain ⟨_, c0_0, c0_1⟩ := hp0
  have hp1 := HNB3_B6.out
  rw [← HB6.out] at hp1
  obtain ⟨_, c1_0, c1_1⟩ := hp1
  go_wp2_with fail
  rw [HB6.out]
  with_reducible refine (eqPoly_yes _ _ pl _ _ pc _ HRg_B6.out HRw_B6.out).mono ?_
  rintro e W7 ⟨rfl, hb7⟩
  clear c0_0 c0_1 c1_0 c1_1
  have HBW7 := Lib.hid (HBB6.out.trans (hb7.mono HBB6.out.size))
  have hsW7 : B6.heap.size ≤ W7.heap.size := hb7.size
  have HRw_W7 := Lib.hid (HRw_B6.out.below hb7)
  have HNB3_W7 := Lib.hid (HNB3_B6.out.below hb7)
  have HT4_W7 := Lib.hid (HT4_B6.out.below hb7)
  have HI4_W7 := Lib.hid (HI4_B6.out.below hb7)
  have HRg_W7 := Lib.hid (HRg_B6.out.below hb7)
  have HNB6_W7 := Lib.hid (HNB6.out.below hb7)
  clear hb7
  go_wp2_with fail
  with_reducible refine (toIntS_t a1 cap1 len1 z1 _ hn1 (HS1.out.below HBW7.out)).mono ?_
  rintro e W8 ⟨⟨g8, rfl, lo8, hr8, hi8⟩, hb8⟩
  have HI8 := Lib.hid hi8
  have HT8 := Lib.hid hr8
  have lt8 : g8 < W8.heap.size := own_lt hr8 g8 rfl
  clear hi8 hr8
  have HBW8 := Lib.hid (HBW7.out.trans (hb8.mono HBW7.out.size))
  have hsW8 : W7.heap.size ≤ W8.heap.size := hb8.size
  have HRw_W8 := Lib.hid (HRw_W7.out.below hb8)
  have HNB3_W8 := Lib.hid (HNB3_W7.out.below hb8)
  have HT4_W8 := Lib.hid (HT4_W7.out.below hb8)
  have HI4_W8 := Lib.hid (HI4_W7.out.below hb8)
  have HRg_W8 := Lib.hid (HRg_W7.out.below hb8)
  have HNB6_W8 := Lib.hid (HNB6_W7.out.below hb8)
  clear hb8
  go_wp2_with fail
  with_reducible refine (eqIntS_yes _ _ _ _ z1 _ HT4_W8.out HT8.out).mono ?_
  rintro e W9 ⟨rfl, hb9⟩
  have HBW9 := Lib.hid (HBW8.out.trans (hb9.mono HBW8.out.size))
  have hsW9 : W8.heap.size ≤ W9.heap.size := hb9.size
  have HRw_W9 := Lib.hid (HRw_W8.out.below hb9)
  have HNB3_W9 := Lib.hid (HNB3_W8.out.below hb9)
  have HT4_W9 := Lib.hid (HT4_W8.out.below hb9)
  have HI4_W9 := Lib.hid (HI4_W8.out.below hb9)
  have HRg_W9 := Lib.hid (HRg_W8.out.below hb9)
  have HNB6_W9 := Lib.hid (HNB6_W8.out.below hb9)
  clear hb9
  obtain ⟨K0, hK0⟩ : ∃ K, 1 = K := ⟨_, rfl⟩
  clear hK0 K0
  obtain ⟨K1, hK1⟩ : ∃ K, 1 + z1.length = K := ⟨_, rfl⟩
  have hKb1 : K1 ≤ 3000000 := by have := HL1.out; omega
  have HM := Lib.hid (markIntS_any _ _ z1 (1) _ HT4_W9.out (by omega) (by have := HL1.out; omega))
  rw [hK1] at HM
  go_wp2_with fail
  refine HM.out.mono ?_
  rintro e W10 ⟨rfl, _, hg10⟩
  have HBW10 := Lib.hid (HBW9.out.grown hg10 (HBW9.out.size) (fun j e => by have := HT4_lo.out j e; omega))
  have hsW10 : W9.heap.size ≤ W10.heap.size := hg10.size
  have HRw_W10 := Lib.hid (HRw_W9.out.grown hg10 (fun j e e2 => by have h1 := vw_lo.out j e; have h2 := vw_hi.out j e; have h3 := HT4_lo.out j e2; have h4 := HT4_hi.out j e2; omega))
  have HNB3_W10 := Lib.hid (HNB3_W9.out.grown hg10 (fun e => by have h1 := HT4_lo.out _ e; have h2 := HT4_hi.out _ e; omega))
  have HRg_W10 := Lib.hid (HRg_W9.out.grown hg10 (fun j e e2 => by have h1 := vg_lo.out j e; have h2 := vg_hi.out j e; have h3 := HT4_lo.out j e2; have h4 := HT4_hi.out j e2; omega))
  have HNB6_W10 := Lib.hid (HNB6_W9.out.grown hg10 (fun e => by have h1 := HT4_lo.out _ e; have h2 := HT4_hi.out _ e; omega))
  clear hg10
  clear HM
  have hkn : decide ((K1 : Int) < 0) = false := decide_eq_false (by omega)
  have hkl : ¬ (K1 : Int) < 0 := by omega
  have hp0 := HNB6_W10.out
  obtain ⟨_, c0_0, c0_1⟩ := hp0
  have hp1 := HNB3_W10.out
  obtain ⟨_, c1_0, c1_1⟩ := hp1
  go_wp2_with fail
  with_reducible refine (eqPoly_yes _ _ pl _ _ pc _ HRg_W10.out HRw_W10.out).mono ?_
  rintro e W11 ⟨rfl, hb11⟩
  clear c0_0 c0_1 c1_0 c1_1
  have HBW11 := Lib.hid (HBW10.out.trans (hb11.mono HBW10.out.size))
  have hsW11 : W10.heap.size ≤ W11.heap.size := hb11.size
  have HRw_W11 := Lib.hid (HRw_W10.out.below hb11)
  have HNB3_W11 := Lib.hid (HNB3_W10.out.below hb11)
  have HRg_W11 := Lib.hid (HRg_W10.out.below hb11)
  have HNB6_W11 := Lib.hid (HNB6_W10.out.below hb11)
  clear hb11
  obtain ⟨M, hM⟩ : ∃ M, 1 + L = M := ⟨_, rfl⟩
  have hMn : decide ((M : Int) < 0) = false := decide_eq_false (by omega)
  have hMl : ¬ (M : Int) < 0 := by omega
  have hMe : ((M : Int) != (M : Int)) = false := by simp
  have HM := Lib.hid (markPoly_g _ pl _ pc 1 _ HRg_W11.out (by omega) (by rw [HL.out]; omega))
  rw [HL.out, hM] at HM
  have hp0 := HNB6_W11.out
  obtain ⟨_, c0_0, c0_1⟩ := hp0
  go_wp2_with fail
  refine HM.out.mono ?_
  rintro e W12 ⟨rfl, hm, hg12⟩
  clear c0_0 c0_1
  have HMG := Lib.hid hm
  clear hm
  have HBW12 := Lib.hid (HBW11.out.grown hg12 (HBW11.out.size) (fun j e => by have := vg_lo.out j e; omega))
  have hsW12 : W11.heap.size ≤ W12.heap.size := hg12.size
  have HRw_W12 := Lib.hid (HRw_W11.out.grown hg12 (fun j e e2 => by have h1 := vw_lo.out j e; have h2 := vw_hi.out j e; have h3 := vg_lo.out j e2; have h4 := vg_hi.out j e2; omega))
  have HNB3_W12 := Lib.hid (HNB3_W11.out.grown hg12 (fun e => by have h1 := vg_lo.out _ e; have h2 := vg_hi.out _ e; omega))
  have HNB6_W12 := Lib.hid (HNB6_W11.out.grown hg12 (fun e => by have h1 := vg_lo.out _ e; have h2 := vg_hi.out _ e; omega))
  clear hg12
  have HH := Lib.hid (heldPoly_any _ pl _ L 1 _ HMG.out (by omega) (by omega))
  rw [hM] at HH
  have hp0 := HNB6_W12.out
  obtain ⟨_, c0_0, c0_1⟩ := hp0
  go_wp2_with fail
  refine HH.out.mono ?_
  rintro e W13 ⟨rfl, hb13⟩
  clear c0_0 c0_1
  have HBW13 := Lib.hid (HBW12.out.trans (hb13.mono HBW12.out.size))
  have hsW13 : W12.heap.size ≤ W13.heap.size := hb13.size
  have HRw_W13 := Lib.hid (HRw_W12.out.below hb13)
  have HNB3_W13 := Lib.hid (HNB3_W12.out.below hb13)
  have HNB6_W13 := Lib.hid (HNB6_W12.out.below hb13)
  have HMG_W13 := Lib.hid (HMG.out.below hb13)
  clear hb13
  clear HH
  go_wp2_with fail
  with_reducible refine (toIntS_t a1 cap1 len1 z1 _ hn1 (HS1.out.below HBW13.out)).mono ?_
  rintro e W14 ⟨⟨g14, rfl, lo14, hr14, hi14⟩, hb14⟩
  have HI14 := Lib.hid hi14
  have HT14 := Lib.hid hr14
  have lt14 : g14 < W14.heap.size := own_lt hr14 g14 rfl
  clear hi14 hr14
  have HBW14 := Lib.hid (HBW13.out.trans (hb14.mono HBW13.out.size))
  have hsW14 : W13.heap.size ≤ W14.heap.size := hb14.size
  have HRw_W14 := Lib.hid (HRw_W13.out.below hb14)
  have HNB3_W14 := Lib.hid (HNB3_W13.out.below hb14)
  have HNB6_W14 := Lib.hid (HNB6_W13.out.below hb14)
  have HMG_W14 := Lib.hid (HMG_W13.out.below hb14)
  clear hb14
  go_wp2_with fail
  with_reducible refine (iPolyOf_law HI14.out HB.out HP.out).mono ?_
  rintro e W15 ⟨⟨vh, rfl, hoh⟩, hb15⟩
  obtain ⟨ah, _, ch, rfl, _⟩ := hoh.shape
  rw [show pc.length = L from HL.out] at hoh ⊢
  have vh_lo := Lib.hid (own_ge hoh)
  have vh_hi := Lib.hid (own_lt hoh)
  have HRh := Lib.hid hoh
  clear hoh
  have HBW15 := Lib.hid (HBW14.out.trans (hb15.mono HBW14.out.size))
  have hsW15 : W14.heap.size ≤ W15.heap.size := hb15.size
  have HRw_W15 := Lib.hid (HRw_W14.out.below hb15)
  have HNB3_W15 := Lib.hid (HNB3_W14.out.below hb15)
  have HNB6_W15 := Lib.hid (HNB6_W14.out.below hb15)
  have HMG_W15 := Lib.hid (HMG_W14.out.below hb15)
  clear hb15
  obtain ⟨B16, hB16⟩ : ∃ X, W15.alloc (.cells #[.int .i64 pl, (.slice ah L ch)] 25) = X := ⟨_, rfl⟩
  have zB16 : B16.heap.size = W15.heap.size + 1 := by rw [← hB16]; simp
  have hbB16 : Below W15.heap.size W15 B16 := by rw [← hB16]; exact (Below.refl _ _).alloc (Nat.le_refl _) _
  have HNB16 := Lib.hid (boxNew hB16)
  have HBB16 := Lib.hid (HBW15.out.trans (hbB16.mono HBW15.out.size))
  have hsB16 : W15.heap.size ≤ B16.heap.size := hbB16.size
  have HRw_B16 := Lib.hid (HRw_W15.out.below hbB16)
  have HNB3_B16 := Lib.hid (HNB3_W15.out.below hbB16)
  have HNB6_B16 := Lib.hid (HNB6_W15.out.below hbB16)
  have HMG_B16 := Lib.hid (HMG_W15.out.below hbB16)
  have HRh_B16 := Lib.hid (HRh.out.below hbB16)
  clear hbB16
  have HB16 := Lib.hid hB16
  clear hB16
  have hp0 := HNB16.out
  rw [← HB16.out] at hp0
  obtain ⟨_, c0_0, c0_1⟩ := hp0
  have hp1 := HNB3_B16.out
  rw [← HB16.out] at hp1
  obtain ⟨_, c1_0, c1_1⟩ := hp1
  go_wp2_with fail
  rw [HB16.out]
  with_reducible refine (eqPoly_yes _ _ pl _ _ pc _ HRh_B16.out HRw_B16.out).mono ?_
  rintro e W17 ⟨rfl, hb17⟩
  clear c0_0 c0_1 c1_0 c1_1
  have HBW17 := Lib.hid (HBB16.out.trans (hb17.mono HBB16.out.size))
  have hsW17 : B16.heap.size ≤ W17.heap.size := hb17.size
  have HRw_W17 := Lib.hid (HRw_B16.out.below hb17)
  have HNB3_W17 := Lib.hid (HNB3_B16.out.below hb17)
  have HNB6_W17 := Lib.hid (HNB6_B16.out.below hb17)
  have HMG_W17 := Lib.hid (HMG_B16.out.below hb17)
  have HRh_W17 := Lib.hid (HRh_B16.out.below hb17)
  have HNB16_W17 := Lib.hid (HNB16.out.below hb17)
  clear hb17
  have HH := Lib.hid (heldPoly_any _ pl _ L 1 _ HMG_W17.out (by omega) (by omega))
  rw [hM] at HH
  have hp0 := HNB6_W17.out
  obtain ⟨_, c0_0, c0_1⟩ := hp0
  go_wp2_with fail
  refine HH.out.mono ?_
  rintro e W18 ⟨rfl, hb18⟩
  clear c0_0 c0_1
  have HBW18 := Lib.hid (HBW17.out.trans (hb18.mono HBW17.out.size))
  have hsW18 : W17.heap.size ≤ W18.heap.size := hb18.size
  have HRw_W18 := Lib.hid (HRw_W17.out.below hb18)
  have HNB3_W18 := Lib.hid (HNB3_W17.out.below hb18)
  have HNB6_W18 := Lib.hid (HNB6_W17.out.below hb18)
  have HMG_W18 := Lib.hid (HMG_W17.out.below hb18)
  have HRh_W18 := Lib.hid (HRh_W17.out.below hb18)
  have HNB16_W18 := Lib.hid (HNB16_W17.out.below hb18)
  clear hb18
  clear HH
  go_wp2
  go_ret
  exact ⟨rfl, HBW18.out⟩

set_option maxRecDepth 100000 in
theorem lifted (os : Os) (started : os.Started) (H : Type) (enc : TypeId × Value → H) :
    ReturnsInHanded {} Try.checked os 14 .any (Rows.fnExactPolyOfSpec.pre6 enc Try.prog Try.f14 Rows.fnExactPolyOfRow.domain false) (Rows.fnExactPolyOfSpec.post enc Try.prog Try.f14 false true false false) := by
  refine returnsInHanded_of_change (C := Try.checked) own started (by kernel_rfl) Try.func14
    (ChangeSpec.witness6 (enc := enc) (C := Try.checked) false ⟨#[], #[.int .i64 0, .slice none 0 0], []⟩ 8 (by kernel_rfl) (by kernel_rfl) (by kernel_rfl) (by kernel_rfl)) ?_
  intro W base args ds gs before hval0 hW hcnd _
  have hval : ∀ (j : Nat) t v, Try.f14.params[j]? = some t → args[j]? = some v → Value.okWide Try.prog W .any base t v := hval0
  have hW' := hW
  obtain ⟨p, q, hA0, hV, rfl, hfz, hnd⟩ := hW
  have hA : DataW.TrodAll enc Try.prog W 0 (fun _ => true) true Try.f14.params.toList args.toList ds p := hA0
  rw [Try.params14] at hA hval
  obtain ⟨v0, vs0, d0, ds0, p0, q0, hargs, rfl, rfl, h0, r0⟩ := trodAll_cons hA
  obtain ⟨v1, vs1, d1, ds1, p1, q1, rfl, rfl, rfl, h1, r1⟩ := trodAll_cons r0
  obtain ⟨rfl, rfl, rfl⟩ := trodAll_nil r1
  obtain rfl : args = #[v0, v1] := by cases args; simp_all
  obtain ⟨rfl, rfl⟩ := trodVars_none hV
  obtain ⟨a0, rfl, rfl, rfl, w0⟩ := open_int Try.underlying3 (hval 0 3 v0 rfl rfl) h0
  obtain ⟨a1, len1, cap1, rfl⟩ := okWide_slice Try.underlying23 (hval 1 23 v1 rfl rfl)
  have k1 := h1
  have lt1 : ∀ x ∈ p1, x.block < W.heap.size := by obtain ⟨m, hm⟩ := k1; exact DataW.trod_lt m _ _ _ hm
  obtain ⟨z1, w1⟩ : ∃ zs, Ints W a1 len1 zs := by
    obtain ⟨fuel, hf⟩ := h1
    exact ints_of hf
  clear hA0 hval0
  refine (walk a0 a1 len1 cap1 z1 W w0 w1).mono fun e W' ⟨he, bel⟩ => ?_
  subst he
  exact ⟨_, rfl, _, _, _, [], _, [], hW', trodAll_mk1 (shut_bool Try.underlying4 _), (trodAll_cons_mk (shut_int Try.underlying3 w0) (trodAll_cons_mk (Below.trod laidOut (by kernel_rfl) (of_decide_eq_true (by kernel_rfl)) k1 bel lt1) trodAll_mk0)), rfl, bel.frame _, fun h => by cases h⟩

theorem closed : joinedFacts Try.prog 14 Try.f14 Rows.fnExactPolyOfSpec Rows.fnExactPolyOfRow = true :=
  ((restOf Try.prog 14 Try.f14 Rows.fnExactPolyOfSpec Rows.fnExactPolyOfRow).2 enter_is lifts_is make_is).trans (by kernel_rfl)
theorem over : Rows.fnExactPolyOfRow.holds Try.pinned (OpenSpec.ofChange Rows.fnExactPolyOfSpec) :=
  OpenClaim.holds_of_wide 14 Try.f14 rfl rfl rfl rfl rfl rfl rfl ⟨rfl, rfl, rfl, rfl, rfl⟩ rfl rfl rfl rfl rfl (by kernel_rfl) Try.func14 closed
    (of_decide_eq_true (by kernel_rfl)) (by unfold Func.isWrapper; first | (rw [if_pos (by decide +kernel)]; kernel_rfl) | (rw [if_neg (by decide +kernel)]; exact ⟨rfl, rfl⟩))
    (fun os started H enc _ => lifted os started H enc)

theorem proved : Rows.FnExactPolyOfSaid := over
#print axioms proved
end Go.Proofs.Ytocklmiappppgaa.LPolyOf

/-
  Proves 'Rows.FnExactGroupGrowSaid': for every group and text, the program's GroupGrow answers as the model's GroupGrow, leaves the relators alone, and its answer shares no memory with them nor with the answer of another call.
  Conditions: none beyond the row's own.
-/
import Derived.Test.YtbbkpaledlbcmaaRows
import Derived.WalkKit
import Derived.ProofKit
import Derived.OpenShut
import Derived.ShutString
import Derived.ChangeOld
import Derived.Below
import Derived.Test.YtbbkpaledlbcmaaBa
import Derived.Test.YtbbkpaledlbcmaaBb
import Derived.Test.YtbbkpaledlbcmaaBc
import Derived.Test.YtbbkpaledlbcmaaBd
import Derived.Test.YtbbkpaledlbcmaaBe
import Derived.Test.YtbbkpaledlbcmaaBf
import Derived.Test.YtbbkpaledlbcmaaBg

namespace Go.Proofs.Ytbbkpaledlbcmaa.LGroupGrow
open Go.ChangeShapes Go.WideShapes Go.ChangeAt Go.RowKit
open Go.ChangeMaps (open_string shut_string)
set_option linter.unusedVariables false

theorem own : ownKnob Try.prog.godebug = none := by kernel_rfl
theorem laidOut : laidOutB Try.prog = true := by kernel_rfl

set_option maxRecDepth 100000 in
set_option maxHeartbeats 8000000 in
theorem walk (low0 : Int) (a0 : Option Addr) (len0 cap0 : Nat) (z0 : List ByteArray) (a1 : ByteArray) (w : World) (b0 : -9223372036854775808 ≤ low0 ∧ low0 ≤ 9223372036854775807) (w0 : IsStrs w a0 len0 z0) (w1 : a1.size ≤ maxLen) :
    Calls Try.prog 23 #[.agg #[.int .i64 low0, .slice a0 len0 cap0], .string a1] w fun e w' => e = .returned (.bool true) ∧ Below w.heap.size w w' := by
  have hmx0 := w0.max
  unfold maxLen at hmx0
  have HS0 := Lib.hid w0
  have HL0 := Lib.hid w0.len
  obtain ⟨b, hb⟩ : ∃ b, grownB low0 z0 a1 = b := ⟨_, rfl⟩
  obtain ⟨p, hp⟩ : ∃ p, grownP low0 z0 a1 = p := ⟨_, rfl⟩
  have hfit := grownG_fit w0 hb hp
  obtain ⟨pl, pc⟩ := p
  obtain ⟨L, hL⟩ : ∃ L, pc.length = L := ⟨_, rfl⟩
  have hln : L ≤ 200 := by rw [← hL]; exact hfit
  have HB := Lib.hid hb
  have HP := Lib.hid hp
  have HL := Lib.hid hL
  have hbb : (b != b) = false := by cases b <;> rfl
  have HZ1 := Lib.hid w1
  clear hb hp hL hfit w0 b0 w1
  have hz1 := HZ1.out
  unfold maxLen at hz1
  by_cases hlong1 : ¬ a1.size ≤ 1048576
  · go_enter Try.func23, Try.ntmps23
    go_wp2_with fail
    go_ret
    exact ⟨rfl, (Below.refl _ _).alloc (Nat.le_refl _) _⟩
  have hlong1 : a1.size ≤ 1048576 := by omega
  have HB0 := Lib.hid (Below.refl w.heap.size w)
  obtain ⟨X0, hX0⟩ : ∃ X, w.alloc (.cells #[.int .i64 low0, .slice a0 len0 cap0] 61) = X := ⟨_, rfl⟩
  have zX0 : X0.heap.size = w.heap.size + 1 := by rw [← hX0]; simp
  have hbX0 : Below w.heap.size w X0 := by rw [← hX0]; exact (Below.refl _ _).alloc (Nat.le_refl _) _
  have HNX0 := Lib.hid (boxNew hX0)
  have HBX0 := Lib.hid (HB0.out.trans (hbX0.mono HB0.out.size))
  have hsX0 : w.heap.size ≤ X0.heap.size := hbX0.size
  clear hbX0
  have HX0 := Lib.hid hX0
  clear hX0
  go_enter Try.func23, Try.ntmps23
  have hp0 := HNX0.out
  rw [← HX0.out] at hp0
  obtain ⟨_, c0_0, c0_1⟩ := hp0
  go_wp2_with fail
  rw [HX0.out]
  refine (szGroup_any low0 a0 cap0 len0 1048576 z0 _ (HS0.out.below HBX0.out) (by omega)).mono ?_
  rintro e W1 ⟨⟨k, rfl, hk⟩, hb1⟩
  clear c0_0 c0_1
  have HBW1 := Lib.hid (HBX0.out.trans (hb1.mono HBX0.out.size))
  have hsW1 : X0.heap.size ≤ W1.heap.size := hb1.size
  have HNX0_W1 := Lib.hid (HNX0.out.below hb1)
  clear hb1
  by_cases hk0 : k < 0
  · clear hk
    go_wp2
    go_ret
    exact ⟨rfl, HBW1.out⟩
  obtain ⟨hn0, q0, rfl⟩ : len0 ≤ 1048576 ∧ ∃ q : Nat, k = (q : Int) := by
    rcases hk with h | ⟨h0, h1, _⟩
    · omega
    · exact ⟨by omega, k.toNat, by omega⟩
  clear hk hk0
  have hp0 := HNX0_W1.out
  obtain ⟨_, c0_0, c0_1⟩ := hp0
  go_wp2_with fail
  refine (toGroup_t low0 a0 cap0 len0 z0 _ hn0 (HS0.out.below HBW1.out)).mono ?_
  rintro e W2 ⟨⟨g2, rfl, lo2, hr2, hi2⟩, hb2⟩
  clear c0_0 c0_1
  have HI2 := Lib.hid hi2
  have HT2 := Lib.hid hr2
  have lt2 : g2 < W2.heap.size := own_lt hr2.1 g2 rfl
  clear hi2 hr2
  have HBW2 := Lib.hid (HBW1.out.trans (hb2.mono HBW1.out.size))
  have hsW2 : W1.heap.size ≤ W2.heap.size := hb2.size
  have HNX0_W2 := Lib.hid (HNX0_W1.out.below hb2)
  clear hb2
  go_wp2_with fail
  with_reducible refine (sGroupGrow_law HI2.out HZ1.out HB.out HP.out).mono ?_
  rintro e W3 ⟨⟨vw, rfl, how⟩, hb3⟩
  obtain ⟨aw, _, cw, rfl, _⟩ := how.shape
  rw [show pc.length = L from HL.out] at how ⊢
  have vw_lo := Lib.hid (own_ge how.1)
  have vw_hi := Lib.hid (own_lt how.1)
  have HRw := Lib.hid how
  clear how
  have HBW3 := Lib.hid (HBW2.out.trans (hb3.mono HBW2.out.size))
  have hsW3 : W2.heap.size ≤ W3.heap.size := hb3.size
  have HNX0_W3 := Lib.hid (HNX0_W2.out.below hb3)
  clear hb3
  obtain ⟨B4, hB4⟩ : ∃ X, W3.alloc (.cells #[.int .i64 pl, (.slice aw L cw)] 64) = X := ⟨_, rfl⟩
  have zB4 : B4.heap.size = W3.heap.size + 1 := by rw [← hB4]; simp
  have hbB4 : Below W3.heap.size W3 B4 := by rw [← hB4]; exact (Below.refl _ _).alloc (Nat.le_refl _) _
  have HNB4 := Lib.hid (boxNew hB4)
  have HBB4 := Lib.hid (HBW3.out.trans (hbB4.mono HBW3.out.size))
  have hsB4 : W3.heap.size ≤ B4.heap.size := hbB4.size
  have HNX0_B4 := Lib.hid (HNX0_W3.out.below hbB4)
  have HRw_B4 := Lib.hid (HRw.out.below hbB4)
  clear hbB4
  have HB4 := Lib.hid hB4
  clear hB4
  have hp0 := HNX0_B4.out
  rw [← HB4.out] at hp0
  obtain ⟨_, c0_0, c0_1⟩ := hp0
  go_wp2_with fail
  rw [HB4.out]
  refine (toGroup_t low0 a0 cap0 len0 z0 _ hn0 (HS0.out.below HBB4.out)).mono ?_
  rintro e W5 ⟨⟨g5, rfl, lo5, hr5, hi5⟩, hb5⟩
  clear c0_0 c0_1
  have HI5 := Lib.hid hi5
  have HT5 := Lib.hid hr5
  have lt5 : g5 < W5.heap.size := own_lt hr5.1 g5 rfl
  clear hi5 hr5
  have HBW5 := Lib.hid (HBB4.out.trans (hb5.mono HBB4.out.size))
  have hsW5 : B4.heap.size ≤ W5.heap.size := hb5.size
  have HNX0_W5 := Lib.hid (HNX0_B4.out.below hb5)
  have HRw_W5 := Lib.hid (HRw_B4.out.below hb5)
  have HNB4_W5 := Lib.hid (HNB4.out.below hb5)
  clear hb5
  have HT5_lo : Hid (∀ j, (Value.slice (some ⟨g5, 0, none⟩) len0 len0).ownBlock = some j → g5 ≤ j) := Lib.hid fun j e => by simp [Value.ownBlock] at e; omega
  have HT5_hi : Hid (∀ j, (Value.slice (some ⟨g5, 0, none⟩) len0 len0).ownBlock = some j → j < g5 + 1) := Lib.hid fun j e => by simp [Value.ownBlock] at e; omega
  obtain ⟨B6, hB6⟩ : ∃ X, W5.alloc (.cells #[.int .i64 low0, (.slice (some ⟨g5, 0, none⟩) len0 len0)] 64) = X := ⟨_, rfl⟩
  have zB6 : B6.heap.size = W5.heap.size + 1 := by rw [← hB6]; simp
  have hbB6 : Below W5.heap.size W5 B6 := by rw [← hB6]; exact (Below.refl _ _).alloc (Nat.le_refl _) _
  have HNB6 := Lib.hid (boxNew hB6)
  have HBB6 := Lib.hid (HBW5.out.trans (hbB6.mono HBW5.out.size))
  have hsB6 : W5.heap.size ≤ B6.heap.size := hbB6.size
  have HNX0_B6 := Lib.hid (HNX0_W5.out.below hbB6)
  have HRw_B6 := Lib.hid (HRw_W5.out.below hbB6)
  have HNB4_B6 := Lib.hid (HNB4_W5.out.below hbB6)
  have HT5_B6 := Lib.hid (HT5.out.below hbB6)
  have HI5_B6 := Lib.hid (HI5.out.below hbB6)
  clear hbB6
  have HB6 := Lib.hid hB6
  clear hB6
  have hp0 := HNB6.out
  rw [← HB6.out] at hp0
  obtain ⟨_, c0_0, c0_1⟩ := hp0
  go_wp2_with fail
  rw [HB6.out]
  with_reducible refine (iGroupGrow_law HI5_B6.out HZ1.out HB.out HP.out).mono ?_
  rintro e W7 ⟨⟨vg, rfl, hog⟩, hb7⟩
  clear c0_0 c0_1
  obtain ⟨ag, _, cg, rfl, _⟩ := hog.shape
  rw [show pc.length = L from HL.out] at hog ⊢
  have vg_lo := Lib.hid (own_ge hog.1)
  have vg_hi := Lib.hid (own_lt hog.1)
  have HRg := Lib.hid hog
  clear hog
  have HBW7 := Lib.hid (HBB6.out.trans (hb7.mono HBB6.out.size))
  have hsW7 : B6.heap.size ≤ W7.heap.size := hb7.size
  have HNX0_W7 := Lib.hid (HNX0_B6.out.below hb7)
  have HRw_W7 := Lib.hid (HRw_B6.out.below hb7)
  have HNB4_W7 := Lib.hid (HNB4_B6.out.below hb7)
  have HT5_W7 := Lib.hid (HT5_B6.out.below hb7)
  have HI5_W7 := Lib.hid (HI5_B6.out.below hb7)
  have HNB6_W7 := Lib.hid (HNB6.out.below hb7)
  clear hb7
  obtain ⟨B8, hB8⟩ : ∃ X, W7.alloc (.cells #[.int .i64 pl, (.slice ag L cg)] 64) = X := ⟨_, rfl⟩
  have zB8 : B8.heap.size = W7.heap.size + 1 := by rw [← hB8]; simp
  have hbB8 : Below W7.heap.size W7 B8 := by rw [← hB8]; exact (Below.refl _ _).alloc (Nat.le_refl _) _
  have HNB8 := Lib.hid (boxNew hB8)
  have HBB8 := Lib.hid (HBW7.out.trans (hbB8.mono HBW7.out.size))
  have hsB8 : W7.heap.size ≤ B8.heap.size := hbB8.size
  have HNX0_B8 := Lib.hid (HNX0_W7.out.below hbB8)
  have HRw_B8 := Lib.hid (HRw_W7.out.below hbB8)
  have HNB4_B8 := Lib.hid (HNB4_W7.out.below hbB8)
  have HT5_B8 := Lib.hid (HT5_W7.out.below hbB8)
  have HI5_B8 := Lib.hid (HI5_W7.out.below hbB8)
  have HNB6_B8 := Lib.hid (HNB6_W7.out.below hbB8)
  have HRg_B8 := Lib.hid (HRg.out.below hbB8)
  clear hbB8
  have HB8 := Lib.hid hB8
  clear hB8
  have hp0 := HNB8.out
  rw [← HB8.out] at hp0
  obtain ⟨_, c0_0, c0_1⟩ := hp0
  have hp1 := HNB4_B8.out
  rw [← HB8.out] at hp1
  obtain ⟨_, c1_0, c1_1⟩ := hp1
  go_wp2_with fail
  rw [HB8.out]
  refine (eqGroup_yes _ _ pl _ _ pc _ (by rw [HL.out]; omega) HRg_B8.out HRw_B8.out).mono ?_
  rintro e W9 ⟨rfl, hb9⟩
  clear c0_0 c0_1 c1_0 c1_1
  have HBW9 := Lib.hid (HBB8.out.trans (hb9.mono HBB8.out.size))
  have hsW9 : B8.heap.size ≤ W9.heap.size := hb9.size
  have HNX0_W9 := Lib.hid (HNX0_B8.out.below hb9)
  have HRw_W9 := Lib.hid (HRw_B8.out.below hb9)
  have HNB4_W9 := Lib.hid (HNB4_B8.out.below hb9)
  have HT5_W9 := Lib.hid (HT5_B8.out.below hb9)
  have HI5_W9 := Lib.hid (HI5_B8.out.below hb9)
  have HNB6_W9 := Lib.hid (HNB6_B8.out.below hb9)
  have HRg_W9 := Lib.hid (HRg_B8.out.below hb9)
  have HNB8_W9 := Lib.hid (HNB8.out.below hb9)
  clear hb9
  have hp0 := HNB6_W9.out
  obtain ⟨_, c0_0, c0_1⟩ := hp0
  have hp1 := HNX0_W9.out
  obtain ⟨_, c1_0, c1_1⟩ := hp1
  go_wp2
  go_region_held3 (fun w' : World => w'.cell? ⟨W5.heap.size, 0, none⟩ = some (.int .i64 low0) ∧ w'.cell? ⟨W5.heap.size, 1, none⟩ = some (.slice (some ⟨g5, 0, none⟩) len0 len0) ∧ w'.cell? ⟨w.heap.size, 0, none⟩ = some (.int .i64 low0) ∧ w'.cell? ⟨w.heap.size, 1, none⟩ = some (.slice a0 len0 cap0)) (first | go_keep | exact ⟨k0, k1, k2, k3⟩)
    (first
      | (go_at_call 67
         refine (toGroup_t low0 a0 cap0 len0 z0 _ hn0 (HS0.out.below HBW9.out.drew)).mono ?_
         rintro e W10 ⟨⟨g10, rfl, _, hr10, _⟩, hb10⟩
         have hbq10 := Below.trans (Below.refl W9.heap.size W9).drew hb10
         clear hb10
         have hb10 := hbq10
         clear hbq10
         have HT10 := Lib.hid hr10
         clear hr10
         have HBW10 := Lib.hid (HBW9.out.trans (hb10.mono HBW9.out.size))
         have hsW10 : W9.heap.size ≤ W10.heap.size := hb10.size
         have HNX0_W10 := Lib.hid (HNX0_W9.out.below hb10)
         have HRw_W10 := Lib.hid (HRw_W9.out.below hb10)
         have HNB4_W10 := Lib.hid (HNB4_W9.out.below hb10)
         have HT5_W10 := Lib.hid (HT5_W9.out.below hb10)
         have HI5_W10 := Lib.hid (HI5_W9.out.below hb10)
         have HNB6_W10 := Lib.hid (HNB6_W9.out.below hb10)
         have HRg_W10 := Lib.hid (HRg_W9.out.below hb10)
         have HNB8_W10 := Lib.hid (HNB8_W9.out.below hb10)
         clear hb10
         obtain ⟨_, k0, k1⟩ := HNB6_W10.out
         obtain ⟨_, k2, k3⟩ := HNX0_W10.out)
      | (go_at_call 69
         refine (eqGroup_yes _ _ low0 _ _ z0 _ (by rw [HL0.out]; exact hn0) HT5_W10.out HT10.out).mono ?_
         rintro e W11 ⟨rfl, hb11⟩
         have HBW11 := Lib.hid (HBW10.out.trans (hb11.mono HBW10.out.size))
         have hsW11 : W10.heap.size ≤ W11.heap.size := hb11.size
         have HNX0_W11 := Lib.hid (HNX0_W10.out.below hb11)
         have HRw_W11 := Lib.hid (HRw_W10.out.below hb11)
         have HNB4_W11 := Lib.hid (HNB4_W10.out.below hb11)
         have HT5_W11 := Lib.hid (HT5_W10.out.below hb11)
         have HI5_W11 := Lib.hid (HI5_W10.out.below hb11)
         have HNB6_W11 := Lib.hid (HNB6_W10.out.below hb11)
         have HRg_W11 := Lib.hid (HRg_W10.out.below hb11)
         have HNB8_W11 := Lib.hid (HNB8_W10.out.below hb11)
         have HT10_W11 := Lib.hid (HT10.out.below hb11)
         clear hb11
         obtain ⟨_, k0, k1⟩ := HNB6_W11.out
         obtain ⟨_, k2, k3⟩ := HNX0_W11.out))
  obtain ⟨K0, hK0⟩ : ∃ K, 1 = K := ⟨_, rfl⟩
  clear hK0 K0
  obtain ⟨K0, hK0⟩ : ∃ K, 1 + z0.length = K := ⟨_, rfl⟩
  have hKb0 : K0 ≤ 2000000 := by have := HL0.out; omega
  have HM := Lib.hid (markGroup_g _ low0 _ z0 (1) _ HT5_W11.out (by omega) (by omega) (by have := HL0.out; omega))
  rw [hK0] at HM
  have hp0 := HNB6_W11.out
  obtain ⟨_, c0_0, c0_1⟩ := hp0
  go_wp2_with fail
  refine (HM.out).mono ?_
  rintro e W12 ⟨rfl, _, hg12⟩
  clear c0_0 c0_1
  have HBW12 := Lib.hid (HBW11.out.grown hg12 (HBW11.out.size) (fun j e => by have := HT5_lo.out j e; omega))
  have hsW12 : W11.heap.size ≤ W12.heap.size := hg12.size
  have HNX0_W12 := Lib.hid (HNX0_W11.out.grown hg12 (fun e => by have h1 := HT5_lo.out _ e; have h2 := HT5_hi.out _ e; omega))
  have HRw_W12 := Lib.hid (HRw_W11.out.grown hg12 (fun j e e2 => by have h1 := vw_lo.out j e; have h2 := vw_hi.out j e; have h3 := HT5_lo.out j e2; have h4 := HT5_hi.out j e2; omega))
  have HNB4_W12 := Lib.hid (HNB4_W11.out.grown hg12 (fun e => by have h1 := HT5_lo.out _ e; have h2 := HT5_hi.out _ e; omega))
  have HNB6_W12 := Lib.hid (HNB6_W11.out.grown hg12 (fun e => by have h1 := HT5_lo.out _ e; have h2 := HT5_hi.out _ e; omega))
  have HRg_W12 := Lib.hid (HRg_W11.out.grown hg12 (fun j e e2 => by have h1 := vg_lo.out j e; have h2 := vg_hi.out j e; have h3 := HT5_lo.out j e2; have h4 := HT5_hi.out j e2; omega))
  have HNB8_W12 := Lib.hid (HNB8_W11.out.grown hg12 (fun e => by have h1 := HT5_lo.out _ e; have h2 := HT5_hi.out _ e; omega))
  clear hg12
  clear HM
  have hkn : decide ((K0 : Int) < 0) = false := decide_eq_false (by omega)
  have hkl : ¬ (K0 : Int) < 0 := by omega
  have hp0 := HNB8_W12.out
  obtain ⟨_, c0_0, c0_1⟩ := hp0
  have hp1 := HNB4_W12.out
  obtain ⟨_, c1_0, c1_1⟩ := hp1
  go_wp2_with fail
  refine (eqGroup_yes _ _ pl _ _ pc _ (by rw [HL.out]; omega) HRg_W12.out HRw_W12.out).mono ?_
  rintro e W13 ⟨rfl, hb13⟩
  clear c0_0 c0_1 c1_0 c1_1
  have HBW13 := Lib.hid (HBW12.out.trans (hb13.mono HBW12.out.size))
  have hsW13 : W12.heap.size ≤ W13.heap.size := hb13.size
  have HNX0_W13 := Lib.hid (HNX0_W12.out.below hb13)
  have HRw_W13 := Lib.hid (HRw_W12.out.below hb13)
  have HNB4_W13 := Lib.hid (HNB4_W12.out.below hb13)
  have HNB6_W13 := Lib.hid (HNB6_W12.out.below hb13)
  have HRg_W13 := Lib.hid (HRg_W12.out.below hb13)
  have HNB8_W13 := Lib.hid (HNB8_W12.out.below hb13)
  clear hb13
  obtain ⟨M, hM⟩ : ∃ M, 1 + L = M := ⟨_, rfl⟩
  have hMn : decide ((M : Int) < 0) = false := decide_eq_false (by omega)
  have hMl : ¬ (M : Int) < 0 := by omega
  have hMe : ((M : Int) != (M : Int)) = false := by simp
  have HM := Lib.hid (markGroup_g _ pl _ pc 1 _ HRg_W13.out (by omega) (by omega) (by rw [HL.out]; omega))
  rw [HL.out, hM] at HM
  have hp0 := HNB8_W13.out
  obtain ⟨_, c0_0, c0_1⟩ := hp0
  go_wp2_with fail
  refine (HM.out).mono ?_
  rintro e W14 ⟨rfl, hm, hg14⟩
  clear c0_0 c0_1
  have HMG := Lib.hid hm
  clear hm
  have HBW14 := Lib.hid (HBW13.out.grown hg14 (HBW13.out.size) (fun j e => by have := vg_lo.out j e; omega))
  have hsW14 : W13.heap.size ≤ W14.heap.size := hg14.size
  have HNX0_W14 := Lib.hid (HNX0_W13.out.grown hg14 (fun e => by have h1 := vg_lo.out _ e; have h2 := vg_hi.out _ e; omega))
  have HRw_W14 := Lib.hid (HRw_W13.out.grown hg14 (fun j e e2 => by have h1 := vw_lo.out j e; have h2 := vw_hi.out j e; have h3 := vg_lo.out j e2; have h4 := vg_hi.out j e2; omega))
  have HNB4_W14 := Lib.hid (HNB4_W13.out.grown hg14 (fun e => by have h1 := vg_lo.out _ e; have h2 := vg_hi.out _ e; omega))
  have HNB6_W14 := Lib.hid (HNB6_W13.out.grown hg14 (fun e => by have h1 := vg_lo.out _ e; have h2 := vg_hi.out _ e; omega))
  have HNB8_W14 := Lib.hid (HNB8_W13.out.grown hg14 (fun e => by have h1 := vg_lo.out _ e; have h2 := vg_hi.out _ e; omega))
  clear hg14
  have HH := Lib.hid (heldGroup_any _ pl _ L 1 _ HMG.out (by omega) (by omega) (by omega))
  rw [hM] at HH
  have hp0 := HNB8_W14.out
  obtain ⟨_, c0_0, c0_1⟩ := hp0
  go_wp2_with fail
  refine (HH.out).mono ?_
  rintro e W15 ⟨rfl, hb15⟩
  clear c0_0 c0_1
  have HBW15 := Lib.hid (HBW14.out.trans (hb15.mono HBW14.out.size))
  have hsW15 : W14.heap.size ≤ W15.heap.size := hb15.size
  have HNX0_W15 := Lib.hid (HNX0_W14.out.below hb15)
  have HRw_W15 := Lib.hid (HRw_W14.out.below hb15)
  have HNB4_W15 := Lib.hid (HNB4_W14.out.below hb15)
  have HNB6_W15 := Lib.hid (HNB6_W14.out.below hb15)
  have HNB8_W15 := Lib.hid (HNB8_W14.out.below hb15)
  have HMG_W15 := Lib.hid (HMG.out.below hb15)
  clear hb15
  clear HH
  have hp0 := HNX0_W15.out
  obtain ⟨_, c0_0, c0_1⟩ := hp0
  go_wp2_with fail
  refine (toGroup_t low0 a0 cap0 len0 z0 _ hn0 (HS0.out.below HBW15.out)).mono ?_
  rintro e W16 ⟨⟨g16, rfl, lo16, hr16, hi16⟩, hb16⟩
  clear c0_0 c0_1
  have HI16 := Lib.hid hi16
  have HT16 := Lib.hid hr16
  have lt16 : g16 < W16.heap.size := own_lt hr16.1 g16 rfl
  clear hi16 hr16
  have HBW16 := Lib.hid (HBW15.out.trans (hb16.mono HBW15.out.size))
  have hsW16 : W15.heap.size ≤ W16.heap.size := hb16.size
  have HNX0_W16 := Lib.hid (HNX0_W15.out.below hb16)
  have HRw_W16 := Lib.hid (HRw_W15.out.below hb16)
  have HNB4_W16 := Lib.hid (HNB4_W15.out.below hb16)
  have HNB6_W16 := Lib.hid (HNB6_W15.out.below hb16)
  have HNB8_W16 := Lib.hid (HNB8_W15.out.below hb16)
  have HMG_W16 := Lib.hid (HMG_W15.out.below hb16)
  clear hb16
  go_wp2_with fail
  with_reducible refine (iGroupGrow_law HI16.out HZ1.out HB.out HP.out).mono ?_
  rintro e W17 ⟨⟨vh, rfl, hoh⟩, hb17⟩
  obtain ⟨ah, _, ch, rfl, _⟩ := hoh.shape
  rw [show pc.length = L from HL.out] at hoh ⊢
  have vh_lo := Lib.hid (own_ge hoh.1)
  have vh_hi := Lib.hid (own_lt hoh.1)
  have HRh := Lib.hid hoh
  clear hoh
  have HBW17 := Lib.hid (HBW16.out.trans (hb17.mono HBW16.out.size))
  have hsW17 : W16.heap.size ≤ W17.heap.size := hb17.size
  have HNX0_W17 := Lib.hid (HNX0_W16.out.below hb17)
  have HRw_W17 := Lib.hid (HRw_W16.out.below hb17)
  have HNB4_W17 := Lib.hid (HNB4_W16.out.below hb17)
  have HNB6_W17 := Lib.hid (HNB6_W16.out.below hb17)
  have HNB8_W17 := Lib.hid (HNB8_W16.out.below hb17)
  have HMG_W17 := Lib.hid (HMG_W16.out.below hb17)
  clear hb17
  obtain ⟨B18, hB18⟩ : ∃ X, W17.alloc (.cells #[.int .i64 pl, (.slice ah L ch)] 64) = X := ⟨_, rfl⟩
  have zB18 : B18.heap.size = W17.heap.size + 1 := by rw [← hB18]; simp
  have hbB18 : Below W17.heap.size W17 B18 := by rw [← hB18]; exact (Below.refl _ _).alloc (Nat.le_refl _) _
  have HNB18 := Lib.hid (boxNew hB18)
  have HBB18 := Lib.hid (HBW17.out.trans (hbB18.mono HBW17.out.size))
  have hsB18 : W17.heap.size ≤ B18.heap.size := hbB18.size
  have HNX0_B18 := Lib.hid (HNX0_W17.out.below hbB18)
  have HRw_B18 := Lib.hid (HRw_W17.out.below hbB18)
  have HNB4_B18 := Lib.hid (HNB4_W17.out.below hbB18)
  have HNB6_B18 := Lib.hid (HNB6_W17.out.below hbB18)
  have HNB8_B18 := Lib.hid (HNB8_W17.out.below hbB18)
  have HMG_B18 := Lib.hid (HMG_W17.out.below hbB18)
  have HRh_B18 := Lib.hid (HRh.out.below hbB18)
  clear hbB18
  have HB18 := Lib.hid hB18
  clear hB18
  have hp0 := HNB18.out
  rw [← HB18.out] at hp0
  obtain ⟨_, c0_0, c0_1⟩ := hp0
  have hp1 := HNB4_B18.out
  rw [← HB18.out] at hp1
  obtain ⟨_, c1_0, c1_1⟩ := hp1
  go_wp2_with fail
  rw [HB18.out]
  refine (eqGroup_yes _ _ pl _ _ pc _ (by rw [HL.out]; omega) HRh_B18.out HRw_B18.out).mono ?_
  rintro e W19 ⟨rfl, hb19⟩
  clear c0_0 c0_1 c1_0 c1_1
  have HBW19 := Lib.hid (HBB18.out.trans (hb19.mono HBB18.out.size))
  have hsW19 : B18.heap.size ≤ W19.heap.size := hb19.size
  have HNX0_W19 := Lib.hid (HNX0_B18.out.below hb19)
  have HRw_W19 := Lib.hid (HRw_B18.out.below hb19)
  have HNB4_W19 := Lib.hid (HNB4_B18.out.below hb19)
  have HNB6_W19 := Lib.hid (HNB6_B18.out.below hb19)
  have HNB8_W19 := Lib.hid (HNB8_B18.out.below hb19)
  have HMG_W19 := Lib.hid (HMG_B18.out.below hb19)
  have HRh_W19 := Lib.hid (HRh_B18.out.below hb19)
  have HNB18_W19 := Lib.hid (HNB18.out.below hb19)
  clear hb19
  have HH := Lib.hid (heldGroup_any _ pl _ L 1 _ HMG_W19.out (by omega) (by omega) (by omega))
  rw [hM] at HH
  have hp0 := HNB8_W19.out
  obtain ⟨_, c0_0, c0_1⟩ := hp0
  go_wp2_with fail
  refine (HH.out).mono ?_
  rintro e W20 ⟨rfl, hb20⟩
  clear c0_0 c0_1
  have HBW20 := Lib.hid (HBW19.out.trans (hb20.mono HBW19.out.size))
  have hsW20 : W19.heap.size ≤ W20.heap.size := hb20.size
  have HNX0_W20 := Lib.hid (HNX0_W19.out.below hb20)
  have HRw_W20 := Lib.hid (HRw_W19.out.below hb20)
  have HNB4_W20 := Lib.hid (HNB4_W19.out.below hb20)
  have HNB6_W20 := Lib.hid (HNB6_W19.out.below hb20)
  have HNB8_W20 := Lib.hid (HNB8_W19.out.below hb20)
  have HMG_W20 := Lib.hid (HMG_W19.out.below hb20)
  have HRh_W20 := Lib.hid (HRh_W19.out.below hb20)
  have HNB18_W20 := Lib.hid (HNB18_W19.out.below hb20)
  clear hb20
  clear HH
  go_wp2
  go_ret
  exact ⟨rfl, HBW20.out⟩

set_option maxRecDepth 100000 in
theorem lifted (os : Os) (started : os.Started) (H : Type) (enc : TypeId × Value → H) :
    ReturnsInHanded {} Try.checked os 23 .any (Rows.fnExactGroupGrowSpec.pre6 enc Try.prog Try.f23 Rows.fnExactGroupGrowRow.domain false) (Rows.fnExactGroupGrowSpec.post enc Try.prog Try.f23 false true false false) := by
  refine returnsInHanded_of_change (C := Try.checked) own started (by kernel_rfl) Try.func23
    (ChangeSpec.witness6 (enc := enc) (C := Try.checked) false ⟨#[], #[.agg #[.int .i64 0, .slice none 0 0], .string ByteArray.empty], []⟩ 8 (by kernel_rfl) (by kernel_rfl) (by kernel_rfl) (by kernel_rfl)) ?_
  intro W base args ds gs before hval0 hW hcnd _
  have hval : ∀ (j : Nat) t v, Try.f23.params[j]? = some t → args[j]? = some v → Value.okWide Try.prog W .any base t v := hval0
  have hW' := hW
  obtain ⟨p, q, hA0, hV, rfl, hfz, hnd⟩ := hW
  have hA : DataW.TrodAll enc Try.prog W 0 (fun _ => true) true Try.f23.params.toList args.toList ds p := hA0
  rw [Try.params23] at hA hval
  obtain ⟨v0, vs0, d0, ds0, p0, q0, hargs, rfl, rfl, h0, r0⟩ := trodAll_cons hA
  obtain ⟨v1, vs1, d1, ds1, p1, q1, rfl, rfl, rfl, h1, r1⟩ := trodAll_cons r0
  obtain ⟨rfl, rfl, rfl⟩ := trodAll_nil r1
  obtain rfl : args = #[v0, v1] := by cases args; simp_all
  obtain ⟨rfl, rfl⟩ := trodVars_none hV
  obtain ⟨cs0, rfl, _⟩ := okWide_struct Try.underlying61 (hval 0 61 v0 rfl rfl)
  have k0 := h0
  have lt0 : ∀ x ∈ p0, x.block < W.heap.size := by obtain ⟨m, hm⟩ := k0; exact DataW.trod_lt m _ _ _ hm
  obtain ⟨low0, a0, len0, cap0, z0, rfl, b0, w0⟩ : ∃ (low : Int) (a : Option Addr) (len cap : Nat) (zs : List ByteArray), cs0 = #[.int .i64 low, .slice a len cap] ∧ (-9223372036854775808 ≤ low ∧ low ≤ 9223372036854775807) ∧ IsStrs W a len zs := by
    obtain ⟨fuel, hf⟩ := h0
    exact group_of hf
  obtain ⟨a1, rfl, rfl, rfl, w1⟩ := open_string Try.underlying9 (hval 1 9 v1 rfl rfl) h1
  clear hA0 hval0
  refine (walk low0 a0 len0 cap0 z0 a1 W b0 w0 w1).mono fun e W' ⟨he, bel⟩ => ?_
  subst he
  exact ⟨_, rfl, _, _, _, [], _, [], hW', trodAll_mk1 (shut_bool Try.underlying4 _), (trodAll_cons_mk (Below.trod laidOut (by kernel_rfl) (of_decide_eq_true (by kernel_rfl)) k0 bel lt0) (trodAll_cons_mk (shut_string Try.underlying9 w1) trodAll_mk0)), rfl, bel.frame _, fun h => by cases h⟩

theorem closed : joinedFacts Try.prog 23 Try.f23 Rows.fnExactGroupGrowSpec Rows.fnExactGroupGrowRow = true :=
  ((restOf Try.prog 23 Try.f23 Rows.fnExactGroupGrowSpec Rows.fnExactGroupGrowRow).2 enter_is lifts_is make_is).trans (by kernel_rfl)
theorem over : Rows.fnExactGroupGrowRow.holds Try.pinned (OpenSpec.ofChange Rows.fnExactGroupGrowSpec) := by
  first
  | exact OpenClaim.holds_of_wide_leaving 23 Try.f23 rfl rfl rfl rfl rfl rfl rfl ⟨rfl, rfl, rfl, rfl, rfl⟩ rfl rfl rfl rfl rfl (by kernel_rfl) Try.func23 closed
      (of_decide_eq_true (by kernel_rfl)) (by unfold Func.isWrapper; first | (rw [if_pos (by decide +kernel)]; kernel_rfl) | (rw [if_neg (by decide +kernel)]; exact ⟨rfl, rfl⟩))
      (fun os started H enc _ => leaving_of_handed (lifted os started H enc))
  | exact OpenClaim.holds_of_wide 23 Try.f23 rfl rfl rfl rfl rfl rfl rfl ⟨rfl, rfl, rfl, rfl, rfl⟩ rfl rfl rfl rfl rfl (by kernel_rfl) Try.func23 closed
      (of_decide_eq_true (by kernel_rfl)) (by unfold Func.isWrapper; first | (rw [if_pos (by decide +kernel)]; kernel_rfl) | (rw [if_neg (by decide +kernel)]; exact ⟨rfl, rfl⟩))
      (fun os started H enc _ => lifted os started H enc)

theorem proved : Rows.FnExactGroupGrowSaid := over
#print axioms proved
end Go.Proofs.Ytbbkpaledlbcmaa.LGroupGrow

/-
  Proves 'Rows.FnExactPolyAlikeSaid': for every two values of type Poly, the program's PolyAlike answers as the model's PolyAlike and leaves the coefficients alone.
  Conditions: none beyond the row's own.
-/
import Derived.Test.YtakfobihakbefaaRows
import Derived.WalkKit
import Derived.ProofKit
import Derived.OpenShut
import Derived.ShutString
import Derived.ChangeOld
import Derived.Below
import Derived.Test.YtakfobihakbefaaBa
import Derived.Test.YtakfobihakbefaaBb
import Derived.Test.YtakfobihakbefaaBc
import Derived.Test.YtakfobihakbefaaBd

namespace Go.Proofs.Ytakfobihakbefaa.LPolyAlike
open Go.ChangeShapes Go.WideShapes Go.ChangeAt Go.RowKit
open Go.ChangeMaps (open_string shut_string)
set_option linter.unusedVariables false

theorem own : ownKnob Try.prog.godebug = none := by kernel_rfl
theorem laidOut : laidOutB Try.prog = true := by kernel_rfl

set_option maxRecDepth 100000 in
set_option maxHeartbeats 8000000 in
theorem walk (low0 : Int) (a0 : Option Addr) (len0 cap0 : Nat) (z0 : List Int) (low1 : Int) (a1 : Option Addr) (len1 cap1 : Nat) (z1 : List Int) (w : World) (b0 : -9223372036854775808 ≤ low0 ∧ low0 ≤ 9223372036854775807) (w0 : Ints w a0 len0 z0) (b1 : -9223372036854775808 ≤ low1 ∧ low1 ≤ 9223372036854775807) (w1 : Ints w a1 len1 z1) :
    Calls Try.prog 15 #[.agg #[.int .i64 low0, .slice a0 len0 cap0], .agg #[.int .i64 low1, .slice a1 len1 cap1]] w fun e w' => e = .returned (.bool true) ∧ Below w.heap.size w w' := by
  have hmx0 := w0.max
  unfold maxLen at hmx0
  have HS0 := Lib.hid w0
  have HL0 := Lib.hid w0.len
  have hmx1 := w1.max
  unfold maxLen at hmx1
  have HS1 := Lib.hid w1
  have HL1 := Lib.hid w1.len
  obtain ⟨b, hb⟩ : ∃ b, alikeB ⟨low0, z0⟩ ⟨low1, z1⟩ = b := ⟨_, rfl⟩
  have HB := Lib.hid hb
  have hbb : (b != b) = false := by cases b <;> rfl
  clear hb w0 b0 w1 b1
  have HB0 := Lib.hid (Below.refl w.heap.size w)
  obtain ⟨X0, hX0⟩ : ∃ X, w.alloc (.cells #[.int .i64 low0, .slice a0 len0 cap0] 50) = X := ⟨_, rfl⟩
  have zX0 : X0.heap.size = w.heap.size + 1 := by rw [← hX0]; simp
  have hbX0 : Below w.heap.size w X0 := by rw [← hX0]; exact (Below.refl _ _).alloc (Nat.le_refl _) _
  have HNX0 := Lib.hid (boxNew hX0)
  have HBX0 := Lib.hid (HB0.out.trans (hbX0.mono HB0.out.size))
  have hsX0 : w.heap.size ≤ X0.heap.size := hbX0.size
  clear hbX0
  have HX0 := Lib.hid hX0
  clear hX0
  obtain ⟨X1, hX1⟩ : ∃ X, X0.alloc (.cells #[.int .i64 low1, .slice a1 len1 cap1] 50) = X := ⟨_, rfl⟩
  have zX1 : X1.heap.size = X0.heap.size + 1 := by rw [← hX1]; simp
  have hbX1 : Below X0.heap.size X0 X1 := by rw [← hX1]; exact (Below.refl _ _).alloc (Nat.le_refl _) _
  have HNX1 := Lib.hid (boxNew hX1)
  rw [zX0] at HNX1
  have HBX1 := Lib.hid (HBX0.out.trans (hbX1.mono HBX0.out.size))
  have hsX1 : X0.heap.size ≤ X1.heap.size := hbX1.size
  have HNX0_X1 := Lib.hid (HNX0.out.below hbX1)
  clear hbX1
  have HX1 := Lib.hid hX1
  clear hX1
  go_enter Try.func15, Try.ntmps15
  have hp0 := HNX0_X1.out
  rw [← HX1.out, ← HX0.out] at hp0
  obtain ⟨_, c0_0, c0_1⟩ := hp0
  go_wp2_with fail
  rw [HX0.out, HX1.out]
  refine (szPoly_any low0 a0 cap0 len0 1048576 _ HS0.out.max (by omega)).mono ?_
  rintro e W1 ⟨⟨k, rfl, hk⟩, hb1⟩
  clear c0_0 c0_1
  have HBW1 := Lib.hid (HBX1.out.trans (hb1.mono HBX1.out.size))
  have hsW1 : X1.heap.size ≤ W1.heap.size := hb1.size
  have HNX0_W1 := Lib.hid (HNX0_X1.out.below hb1)
  have HNX1_W1 := Lib.hid (HNX1.out.below hb1)
  clear hb1
  by_cases hk0 : k < 0
  · clear hk
    go_wp2
    go_ret
    exact ⟨rfl, HBW1.out⟩
  obtain ⟨hn0, q0, rfl, hq0⟩ : len0 ≤ 1048576 ∧ ∃ q : Nat, k = (q : Int) ∧ q ≤ 1048576 := by
    rcases hk with h | ⟨h1, h2⟩
    · omega
    · exact ⟨by omega, k.toNat, by omega, by omega⟩
  clear hk hk0
  have hp0 := HNX1_W1.out
  obtain ⟨_, c0_0, c0_1⟩ := hp0
  go_wp2_with fail
  refine (szPoly_any low1 a1 cap1 len1 q0 _ HS1.out.max (by omega)).mono ?_
  rintro e W2 ⟨⟨k, rfl, hk⟩, hb2⟩
  clear c0_0 c0_1
  have HBW2 := Lib.hid (HBW1.out.trans (hb2.mono HBW1.out.size))
  have hsW2 : W1.heap.size ≤ W2.heap.size := hb2.size
  have HNX0_W2 := Lib.hid (HNX0_W1.out.below hb2)
  have HNX1_W2 := Lib.hid (HNX1_W1.out.below hb2)
  clear hb2
  by_cases hk0 : k < 0
  · clear hk
    go_wp2
    go_ret
    exact ⟨rfl, HBW2.out⟩
  obtain ⟨hn1, q1, rfl, hq1⟩ : len1 ≤ 1048576 ∧ ∃ q : Nat, k = (q : Int) ∧ q ≤ 1048576 := by
    rcases hk with h | ⟨h1, h2⟩
    · omega
    · exact ⟨by omega, k.toNat, by omega, by omega⟩
  clear hk hk0
  have HBk : Hid (Below W2.heap.size W2 W2) := Lib.hid (Below.refl _ _)
  obtain ⟨_, k0, k1⟩ := HNX0_W2.out
  obtain ⟨_, k2, k3⟩ := HNX1_W2.out
  go_upto_region 8 with fail
  go_cut [6] (fun s6 wx => s6 = .bool b ∧ Below W2.heap.size W2 wx)
  case first =>
    go_region_held3 (fun w' : World => w'.cell? ⟨w.heap.size, 0, none⟩ = some (.int .i64 low0) ∧ w'.cell? ⟨w.heap.size, 1, none⟩ = some (.slice a0 len0 cap0) ∧ w'.cell? ⟨w.heap.size + 1, 0, none⟩ = some (.int .i64 low1) ∧ w'.cell? ⟨w.heap.size + 1, 1, none⟩ = some (.slice a1 len1 cap1)) (first | go_keep | exact ⟨k0, k1, k2, k3⟩)
      (first
        | (go_at_call 59
           with_reducible refine (toPoly_t low0 a0 cap0 len0 z0 _ hn0 (ints_on HS0.out HBW2.out (by first | exact HBk.out.drew | exact HBk.out))).mono ?_
           rintro e V ⟨⟨gq0, rfl, _, _, hiq⟩, hbv⟩
           skip
           have HI0 := Lib.hid hiq
           clear hiq
           have hbn : Below W2.heap.size W2 V := by
             first
             | exact HBk.out.trans (hbv.mono HBk.out.size)
             | exact HBk.out.drew.trans (hbv.mono HBk.out.size)
           clear HBk
           have HBk := Lib.hid hbn
           obtain ⟨_, k0, k1⟩ := (HNX0_W2.out.below hbn)
           obtain ⟨_, k2, k3⟩ := (HNX1_W2.out.below hbn)
           clear hbv hbn)
        | (go_at_call 59
           with_reducible refine (toPoly_t low1 a1 cap1 len1 z1 _ hn1 (ints_on HS1.out HBW2.out (by first | exact HBk.out.drew | exact HBk.out))).mono ?_
           rintro e V ⟨⟨gq1, rfl, _, _, hiq⟩, hbv⟩
           have HI0' := Lib.hid (HI0.out.below hbv); clear HI0; have HI0 := HI0'; clear HI0'
           have HI1 := Lib.hid hiq
           clear hiq
           have hbn : Below W2.heap.size W2 V := by
             first
             | exact HBk.out.trans (hbv.mono HBk.out.size)
             | exact HBk.out.drew.trans (hbv.mono HBk.out.size)
           clear HBk
           have HBk := Lib.hid hbn
           obtain ⟨_, k0, k1⟩ := (HNX0_W2.out.below hbn)
           obtain ⟨_, k2, k3⟩ := (HNX1_W2.out.below hbn)
           clear hbv hbn)
        | (go_at_call 30
           with_reducible refine (sPolyAlike_law HI0.out HI1.out HB.out).mono ?_
           rintro e V ⟨rfl, hbv⟩
           have hbn : Below W2.heap.size W2 V := by
             first
             | exact HBk.out.trans (hbv.mono HBk.out.size)
             | exact HBk.out.drew.trans (hbv.mono HBk.out.size)
           clear HBk
           have HBk := Lib.hid hbn
           obtain ⟨_, k0, k1⟩ := (HNX0_W2.out.below hbn)
           obtain ⟨_, k2, k3⟩ := (HNX1_W2.out.below hbn)
           clear hbv hbn))
    all_goals (go_wp2_with fail; go_meet)
    all_goals exact ⟨rfl, HBk.out⟩
  case rest =>
  obtain ⟨hs6, hb3⟩ := hcut
  subst hs6
  clear HBk k0 k1 k2 k3
  obtain ⟨W3, hwq⟩ : ∃ X, wc = X := ⟨_, rfl⟩
  rw [hwq] at hb3 ⊢
  clear hwq
  have HBW3 := Lib.hid (HBW2.out.trans (hb3.mono HBW2.out.size))
  have hsW3 : W2.heap.size ≤ W3.heap.size := hb3.size
  have HNX0_W3 := Lib.hid (HNX0_W2.out.below hb3)
  have HNX1_W3 := Lib.hid (HNX1_W2.out.below hb3)
  clear hb3
  have hp0 := HNX0_W3.out
  obtain ⟨_, c0_0, c0_1⟩ := hp0
  go_wp2_with fail
  refine (toPoly_t low0 a0 cap0 len0 z0 _ hn0 (HS0.out.below HBW3.out)).mono ?_
  rintro e W4 ⟨⟨g4, rfl, lo4, hr4, hi4⟩, hb4⟩
  clear c0_0 c0_1
  have HI4 := Lib.hid hi4
  have HT4 := Lib.hid hr4
  have lt4 : g4 < W4.heap.size := own_lt hr4 g4 rfl
  clear hi4 hr4
  have HBW4 := Lib.hid (HBW3.out.trans (hb4.mono HBW3.out.size))
  have hsW4 : W3.heap.size ≤ W4.heap.size := hb4.size
  have HNX0_W4 := Lib.hid (HNX0_W3.out.below hb4)
  have HNX1_W4 := Lib.hid (HNX1_W3.out.below hb4)
  clear hb4
  have HT4_lo : Hid (∀ j, (Value.slice (some ⟨g4, 0, none⟩) len0 len0).ownBlock = some j → g4 ≤ j) := Lib.hid fun j e => by simp [Value.ownBlock] at e; omega
  have HT4_hi : Hid (∀ j, (Value.slice (some ⟨g4, 0, none⟩) len0 len0).ownBlock = some j → j < g4 + 1) := Lib.hid fun j e => by simp [Value.ownBlock] at e; omega
  obtain ⟨B5, hB5⟩ : ∃ X, W4.alloc (.cells #[.int .i64 low0, (.slice (some ⟨g4, 0, none⟩) len0 len0)] 25) = X := ⟨_, rfl⟩
  have zB5 : B5.heap.size = W4.heap.size + 1 := by rw [← hB5]; simp
  have hbB5 : Below W4.heap.size W4 B5 := by rw [← hB5]; exact (Below.refl _ _).alloc (Nat.le_refl _) _
  have HNB5 := Lib.hid (boxNew hB5)
  have HBB5 := Lib.hid (HBW4.out.trans (hbB5.mono HBW4.out.size))
  have hsB5 : W4.heap.size ≤ B5.heap.size := hbB5.size
  have HNX0_B5 := Lib.hid (HNX0_W4.out.below hbB5)
  have HNX1_B5 := Lib.hid (HNX1_W4.out.below hbB5)
  have HT4_B5 := Lib.hid (HT4.out.below hbB5)
  have HI4_B5 := Lib.hid (HI4.out.below hbB5)
  clear hbB5
  have HB5 := Lib.hid hB5
  clear hB5
  have hp0 := HNX1_B5.out
  rw [← HB5.out] at hp0
  obtain ⟨_, c0_0, c0_1⟩ := hp0
  go_wp2_with fail
  rw [HB5.out]
  refine (toPoly_t low1 a1 cap1 len1 z1 _ hn1 (HS1.out.below HBB5.out)).mono ?_
  rintro e W6 ⟨⟨g6, rfl, lo6, hr6, hi6⟩, hb6⟩
  clear c0_0 c0_1
  have HI6 := Lib.hid hi6
  have HT6 := Lib.hid hr6
  have lt6 : g6 < W6.heap.size := own_lt hr6 g6 rfl
  clear hi6 hr6
  have HBW6 := Lib.hid (HBB5.out.trans (hb6.mono HBB5.out.size))
  have hsW6 : B5.heap.size ≤ W6.heap.size := hb6.size
  have HNX0_W6 := Lib.hid (HNX0_B5.out.below hb6)
  have HNX1_W6 := Lib.hid (HNX1_B5.out.below hb6)
  have HT4_W6 := Lib.hid (HT4_B5.out.below hb6)
  have HI4_W6 := Lib.hid (HI4_B5.out.below hb6)
  have HNB5_W6 := Lib.hid (HNB5.out.below hb6)
  clear hb6
  have HT6_lo : Hid (∀ j, (Value.slice (some ⟨g6, 0, none⟩) len1 len1).ownBlock = some j → g6 ≤ j) := Lib.hid fun j e => by simp [Value.ownBlock] at e; omega
  have HT6_hi : Hid (∀ j, (Value.slice (some ⟨g6, 0, none⟩) len1 len1).ownBlock = some j → j < g6 + 1) := Lib.hid fun j e => by simp [Value.ownBlock] at e; omega
  obtain ⟨B7, hB7⟩ : ∃ X, W6.alloc (.cells #[.int .i64 low1, (.slice (some ⟨g6, 0, none⟩) len1 len1)] 25) = X := ⟨_, rfl⟩
  have zB7 : B7.heap.size = W6.heap.size + 1 := by rw [← hB7]; simp
  have hbB7 : Below W6.heap.size W6 B7 := by rw [← hB7]; exact (Below.refl _ _).alloc (Nat.le_refl _) _
  have HNB7 := Lib.hid (boxNew hB7)
  have HBB7 := Lib.hid (HBW6.out.trans (hbB7.mono HBW6.out.size))
  have hsB7 : W6.heap.size ≤ B7.heap.size := hbB7.size
  have HNX0_B7 := Lib.hid (HNX0_W6.out.below hbB7)
  have HNX1_B7 := Lib.hid (HNX1_W6.out.below hbB7)
  have HT4_B7 := Lib.hid (HT4_W6.out.below hbB7)
  have HI4_B7 := Lib.hid (HI4_W6.out.below hbB7)
  have HNB5_B7 := Lib.hid (HNB5_W6.out.below hbB7)
  have HT6_B7 := Lib.hid (HT6.out.below hbB7)
  have HI6_B7 := Lib.hid (HI6.out.below hbB7)
  clear hbB7
  have HB7 := Lib.hid hB7
  clear hB7
  have hp0 := HNB5_B7.out
  rw [← HB7.out] at hp0
  obtain ⟨_, c0_0, c0_1⟩ := hp0
  have hp1 := HNB7.out
  rw [← HB7.out] at hp1
  obtain ⟨_, c1_0, c1_1⟩ := hp1
  go_wp2_with fail
  rw [HB7.out]
  with_reducible refine (iPolyAlike_law HI4_B7.out HI6_B7.out HB.out).mono ?_
  rintro e W8 ⟨rfl, hb8⟩
  clear c0_0 c0_1 c1_0 c1_1
  have HBW8 := Lib.hid (HBB7.out.trans (hb8.mono HBB7.out.size))
  have hsW8 : B7.heap.size ≤ W8.heap.size := hb8.size
  have HNX0_W8 := Lib.hid (HNX0_B7.out.below hb8)
  have HNX1_W8 := Lib.hid (HNX1_B7.out.below hb8)
  have HT4_W8 := Lib.hid (HT4_B7.out.below hb8)
  have HI4_W8 := Lib.hid (HI4_B7.out.below hb8)
  have HNB5_W8 := Lib.hid (HNB5_B7.out.below hb8)
  have HT6_W8 := Lib.hid (HT6_B7.out.below hb8)
  have HI6_W8 := Lib.hid (HI6_B7.out.below hb8)
  have HNB7_W8 := Lib.hid (HNB7.out.below hb8)
  clear hb8
  have hp0 := HNB5_W8.out
  obtain ⟨_, c0_0, c0_1⟩ := hp0
  have hp1 := HNX0_W8.out
  obtain ⟨_, c1_0, c1_1⟩ := hp1
  go_wp2
  go_region_held3 (fun w' : World => w'.cell? ⟨W4.heap.size, 0, none⟩ = some (.int .i64 low0) ∧ w'.cell? ⟨W4.heap.size, 1, none⟩ = some (.slice (some ⟨g4, 0, none⟩) len0 len0) ∧ w'.cell? ⟨w.heap.size, 0, none⟩ = some (.int .i64 low0) ∧ w'.cell? ⟨w.heap.size, 1, none⟩ = some (.slice a0 len0 cap0)) (first | go_keep | exact ⟨k0, k1, k2, k3⟩)
    (first
      | (go_at_call 59
         refine (toPoly_t low0 a0 cap0 len0 z0 _ hn0 (HS0.out.below HBW8.out.drew)).mono ?_
         rintro e W9 ⟨⟨g9, rfl, _, hr9, _⟩, hb9⟩
         have hbq9 := Below.trans (Below.refl W8.heap.size W8).drew hb9
         clear hb9
         have hb9 := hbq9
         clear hbq9
         have HT9 := Lib.hid hr9
         clear hr9
         have HBW9 := Lib.hid (HBW8.out.trans (hb9.mono HBW8.out.size))
         have hsW9 : W8.heap.size ≤ W9.heap.size := hb9.size
         have HNX0_W9 := Lib.hid (HNX0_W8.out.below hb9)
         have HNX1_W9 := Lib.hid (HNX1_W8.out.below hb9)
         have HT4_W9 := Lib.hid (HT4_W8.out.below hb9)
         have HI4_W9 := Lib.hid (HI4_W8.out.below hb9)
         have HNB5_W9 := Lib.hid (HNB5_W8.out.below hb9)
         have HT6_W9 := Lib.hid (HT6_W8.out.below hb9)
         have HI6_W9 := Lib.hid (HI6_W8.out.below hb9)
         have HNB7_W9 := Lib.hid (HNB7_W8.out.below hb9)
         clear hb9
         obtain ⟨_, k0, k1⟩ := HNB5_W9.out
         obtain ⟨_, k2, k3⟩ := HNX0_W9.out)
      | (go_at_call 60
         refine (eqPoly_yes _ _ low0 _ _ z0 _ HT4_W9.out HT9.out).mono ?_
         rintro e W10 ⟨rfl, hb10⟩
         have HBW10 := Lib.hid (HBW9.out.trans (hb10.mono HBW9.out.size))
         have hsW10 : W9.heap.size ≤ W10.heap.size := hb10.size
         have HNX0_W10 := Lib.hid (HNX0_W9.out.below hb10)
         have HNX1_W10 := Lib.hid (HNX1_W9.out.below hb10)
         have HT4_W10 := Lib.hid (HT4_W9.out.below hb10)
         have HI4_W10 := Lib.hid (HI4_W9.out.below hb10)
         have HNB5_W10 := Lib.hid (HNB5_W9.out.below hb10)
         have HT6_W10 := Lib.hid (HT6_W9.out.below hb10)
         have HI6_W10 := Lib.hid (HI6_W9.out.below hb10)
         have HNB7_W10 := Lib.hid (HNB7_W9.out.below hb10)
         have HT9_W10 := Lib.hid (HT9.out.below hb10)
         clear hb10
         obtain ⟨_, k0, k1⟩ := HNB5_W10.out
         obtain ⟨_, k2, k3⟩ := HNX0_W10.out))
  have hp0 := HNB7_W10.out
  obtain ⟨_, c0_0, c0_1⟩ := hp0
  have hp1 := HNX1_W10.out
  obtain ⟨_, c1_0, c1_1⟩ := hp1
  go_wp2
  go_region_held3 (fun w' : World => w'.cell? ⟨W6.heap.size, 0, none⟩ = some (.int .i64 low1) ∧ w'.cell? ⟨W6.heap.size, 1, none⟩ = some (.slice (some ⟨g6, 0, none⟩) len1 len1) ∧ w'.cell? ⟨w.heap.size + 1, 0, none⟩ = some (.int .i64 low1) ∧ w'.cell? ⟨w.heap.size + 1, 1, none⟩ = some (.slice a1 len1 cap1)) (first | go_keep | exact ⟨k0, k1, k2, k3⟩)
    (first
      | (go_at_call 59
         refine (toPoly_t low1 a1 cap1 len1 z1 _ hn1 (HS1.out.below HBW10.out.drew)).mono ?_
         rintro e W11 ⟨⟨g11, rfl, _, hr11, _⟩, hb11⟩
         have hbq11 := Below.trans (Below.refl W10.heap.size W10).drew hb11
         clear hb11
         have hb11 := hbq11
         clear hbq11
         have HT11 := Lib.hid hr11
         clear hr11
         have HBW11 := Lib.hid (HBW10.out.trans (hb11.mono HBW10.out.size))
         have hsW11 : W10.heap.size ≤ W11.heap.size := hb11.size
         have HNX0_W11 := Lib.hid (HNX0_W10.out.below hb11)
         have HNX1_W11 := Lib.hid (HNX1_W10.out.below hb11)
         have HT4_W11 := Lib.hid (HT4_W10.out.below hb11)
         have HI4_W11 := Lib.hid (HI4_W10.out.below hb11)
         have HNB5_W11 := Lib.hid (HNB5_W10.out.below hb11)
         have HT6_W11 := Lib.hid (HT6_W10.out.below hb11)
         have HI6_W11 := Lib.hid (HI6_W10.out.below hb11)
         have HNB7_W11 := Lib.hid (HNB7_W10.out.below hb11)
         clear hb11
         obtain ⟨_, k0, k1⟩ := HNB7_W11.out
         obtain ⟨_, k2, k3⟩ := HNX1_W11.out)
      | (go_at_call 60
         refine (eqPoly_yes _ _ low1 _ _ z1 _ HT6_W11.out HT11.out).mono ?_
         rintro e W12 ⟨rfl, hb12⟩
         have HBW12 := Lib.hid (HBW11.out.trans (hb12.mono HBW11.out.size))
         have hsW12 : W11.heap.size ≤ W12.heap.size := hb12.size
         have HNX0_W12 := Lib.hid (HNX0_W11.out.below hb12)
         have HNX1_W12 := Lib.hid (HNX1_W11.out.below hb12)
         have HT4_W12 := Lib.hid (HT4_W11.out.below hb12)
         have HI4_W12 := Lib.hid (HI4_W11.out.below hb12)
         have HNB5_W12 := Lib.hid (HNB5_W11.out.below hb12)
         have HT6_W12 := Lib.hid (HT6_W11.out.below hb12)
         have HI6_W12 := Lib.hid (HI6_W11.out.below hb12)
         have HNB7_W12 := Lib.hid (HNB7_W11.out.below hb12)
         have HT11_W12 := Lib.hid (HT11.out.below hb12)
         clear hb12
         obtain ⟨_, k0, k1⟩ := HNB7_W12.out
         obtain ⟨_, k2, k3⟩ := HNX1_W12.out))
  go_wp2
  go_ret
  exact ⟨rfl, HBW12.out⟩

set_option maxRecDepth 100000 in
theorem lifted (os : Os) (started : os.Started) (H : Type) (enc : TypeId × Value → H) :
    ReturnsInHanded {} Try.checked os 15 .any (Rows.fnExactPolyAlikeSpec.pre6 enc Try.prog Try.f15 Rows.fnExactPolyAlikeRow.domain false) (Rows.fnExactPolyAlikeSpec.post enc Try.prog Try.f15 false true false false) := by
  refine returnsInHanded_of_change (C := Try.checked) own started (by kernel_rfl) Try.func15
    (ChangeSpec.witness6 (enc := enc) (C := Try.checked) false ⟨#[], #[.agg #[.int .i64 0, .slice none 0 0], .agg #[.int .i64 0, .slice none 0 0]], []⟩ 8 (by kernel_rfl) (by kernel_rfl) (by kernel_rfl) (by kernel_rfl)) ?_
  intro W base args ds gs before hval0 hW hcnd _
  have hval : ∀ (j : Nat) t v, Try.f15.params[j]? = some t → args[j]? = some v → Value.okWide Try.prog W .any base t v := hval0
  have hW' := hW
  obtain ⟨p, q, hA0, hV, rfl, hfz, hnd⟩ := hW
  have hA : DataW.TrodAll enc Try.prog W 0 (fun _ => true) true Try.f15.params.toList args.toList ds p := hA0
  rw [Try.params15] at hA hval
  obtain ⟨v0, vs0, d0, ds0, p0, q0, hargs, rfl, rfl, h0, r0⟩ := trodAll_cons hA
  obtain ⟨v1, vs1, d1, ds1, p1, q1, rfl, rfl, rfl, h1, r1⟩ := trodAll_cons r0
  obtain ⟨rfl, rfl, rfl⟩ := trodAll_nil r1
  obtain rfl : args = #[v0, v1] := by cases args; simp_all
  obtain ⟨rfl, rfl⟩ := trodVars_none hV
  obtain ⟨cs0, rfl, _⟩ := okWide_struct Try.underlying50 (hval 0 50 v0 rfl rfl)
  have k0 := h0
  have lt0 : ∀ x ∈ p0, x.block < W.heap.size := by obtain ⟨m, hm⟩ := k0; exact DataW.trod_lt m _ _ _ hm
  obtain ⟨low0, a0, len0, cap0, z0, rfl, b0, w0⟩ : ∃ (low : Int) (a : Option Addr) (len cap : Nat) (zs : List Int), cs0 = #[.int .i64 low, .slice a len cap] ∧ (-9223372036854775808 ≤ low ∧ low ≤ 9223372036854775807) ∧ Ints W a len zs := by
    obtain ⟨fuel, hf⟩ := h0
    exact poly_of hf
  obtain ⟨cs1, rfl, _⟩ := okWide_struct Try.underlying50 (hval 1 50 v1 rfl rfl)
  have k1 := h1
  have lt1 : ∀ x ∈ p1, x.block < W.heap.size := by obtain ⟨m, hm⟩ := k1; exact DataW.trod_lt m _ _ _ hm
  obtain ⟨low1, a1, len1, cap1, z1, rfl, b1, w1⟩ : ∃ (low : Int) (a : Option Addr) (len cap : Nat) (zs : List Int), cs1 = #[.int .i64 low, .slice a len cap] ∧ (-9223372036854775808 ≤ low ∧ low ≤ 9223372036854775807) ∧ Ints W a len zs := by
    obtain ⟨fuel, hf⟩ := h1
    exact poly_of hf
  clear hA0 hval0
  refine (walk low0 a0 len0 cap0 z0 low1 a1 len1 cap1 z1 W b0 w0 b1 w1).mono fun e W' ⟨he, bel⟩ => ?_
  subst he
  exact ⟨_, rfl, _, _, _, [], _, [], hW', trodAll_mk1 (shut_bool Try.underlying4 _), (trodAll_cons_mk (Below.trod laidOut (by kernel_rfl) (of_decide_eq_true (by kernel_rfl)) k0 bel lt0) (trodAll_cons_mk (Below.trod laidOut (by kernel_rfl) (of_decide_eq_true (by kernel_rfl)) k1 bel lt1) trodAll_mk0)), rfl, bel.frame _, fun h => by cases h⟩

theorem closed : joinedFacts Try.prog 15 Try.f15 Rows.fnExactPolyAlikeSpec Rows.fnExactPolyAlikeRow = true :=
  ((restOf Try.prog 15 Try.f15 Rows.fnExactPolyAlikeSpec Rows.fnExactPolyAlikeRow).2 enter_is lifts_is make_is).trans (by kernel_rfl)
theorem over : Rows.fnExactPolyAlikeRow.holds Try.pinned (OpenSpec.ofChange Rows.fnExactPolyAlikeSpec) :=
  OpenClaim.holds_of_wide 15 Try.f15 rfl rfl rfl rfl rfl rfl rfl ⟨rfl, rfl, rfl, rfl, rfl⟩ rfl rfl rfl rfl rfl (by kernel_rfl) Try.func15 closed
    (of_decide_eq_true (by kernel_rfl)) (by unfold Func.isWrapper; first | (rw [if_pos (by decide +kernel)]; kernel_rfl) | (rw [if_neg (by decide +kernel)]; exact ⟨rfl, rfl⟩))
    (fun os started H enc _ => lifted os started H enc)

theorem proved : Rows.FnExactPolyAlikeSaid := over
#print axioms proved
end Go.Proofs.Ytakfobihakbefaa.LPolyAlike

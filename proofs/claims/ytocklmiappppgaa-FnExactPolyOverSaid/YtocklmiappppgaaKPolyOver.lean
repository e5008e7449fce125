/-
  Proves 'Rows.FnExactPolyOverSaid': for every two values of type Poly, the program's PolyOver answers as the model's PolyOver, leaves the coefficients alone, and its answer shares no memory with them nor with the answer of another call.
  Conditions: none beyond the row's own.
-/
import Derived.Test.YtocklmiappppgaaRows
import Derived.WalkKit
import Derived.ProofKit
import Derived.OpenShut
import Derived.ShutString
import Derived.ChangeOld
import Derived.Below
import Derived.Test.YtocklmiappppgaaBa
import Derived.Test.YtocklmiappppgaaBb
import Derived.Test.YtocklmiappppgaaBc

namespace Go.Proofs.Ytocklmiappppgaa.LPolyOver
open Go.ChangeShapes Go.WideShapes Go.ChangeAt Go.RowKit
open Go.ChangeMaps (open_string shut_string)
set_option linter.unusedVariables false

theorem own : ownKnob Try.prog.godebug = none := by kernel_rfl
theorem laidOut : laidOutB Try.prog = true := by kernel_rfl

set_option maxRecDepth 100000 in
set_option maxHeartbeats 8000000 in
theorem walk (low0 : Int) (a0 : Option Addr) (len0 cap0 : Nat) (z0 : List Int) (low1 : Int) (a1 : Option Addr) (len1 cap1 : Nat) (z1 : List Int) (w : World) (b0 : -9223372036854775808 ≤ low0 ∧ low0 ≤ 9223372036854775807) (w0 : Ints w a0 len0 z0) (b1 : -9223372036854775808 ≤ low1 ∧ low1 ≤ 9223372036854775807) (w1 : Ints w a1 len1 z1) :
    Calls Try.prog 20 #[.agg #[.int .i64 low0, .slice a0 len0 cap0], .agg #[.int .i64 low1, .slice a1 len1 cap1]] w fun e w' => e = .returned (.bool true) ∧ Below w.heap.size w w' := by
  have hmx0 := w0.max
  unfold maxLen at hmx0
  have HS0 := Lib.hid w0
  have HL0 := Lib.hid w0.len
  have hmx1 := w1.max
  unfold maxLen at hmx1
  have HS1 := Lib.hid w1
  have HL1 := Lib.hid w1.len
  obtain ⟨b, hb⟩ : ∃ b, dividedB ⟨low0, z0⟩ ⟨low1, z1⟩ = b := ⟨_, rfl⟩
  obtain ⟨p, hp⟩ : ∃ p, dividedP ⟨low0, z0⟩ ⟨low1, z1⟩ = p := ⟨_, rfl⟩
  have hfit := divided_fit w0 w1 hb hp
  obtain ⟨pl, pc⟩ := p
  obtain ⟨L, hL⟩ : ∃ L, pc.length = L := ⟨_, rfl⟩
  have hln : L ≤ 200 := by rw [← hL]; exact hfit
  have HB := Lib.hid hb
  have HP := Lib.hid hp
  have HL := Lib.hid hL
  have hbb : (b != b) = false := by cases b <;> rfl
  clear hb hp hL hfit w0 b0 w1 b1
  have HB0 := Lib.hid (Below.refl w.heap.size w)
  obtain ⟨X0, hX0⟩ : ∃ X, w.alloc (.cells #[.int .i64 low0, .slice a0 len0 cap0] 40) = X := ⟨_, rfl⟩
  have zX0 : X0.heap.size = w.heap.size + 1 := by rw [← hX0]; simp
  have hbX0 : Below w.heap.size w X0 := by rw [← hX0]; exact (Below.refl _ _).alloc (Nat.le_refl _) _
  have HNX0 := Lib.hid (boxNew hX0)
  have HBX0 := Lib.hid (HB0.out.trans (hbX0.mono HB0.out.size))
  have hsX0 : w.heap.size ≤ X0.heap.size := hbX0.size
  clear hbX0
  have HX0 := Lib.hid hX0
  clear hX0
  obtain ⟨X1, hX1⟩ : ∃ X, X0.alloc (.cells #[.int .i64 low1, .slice a1 len1 cap1] 40) = X := ⟨_, rfl⟩
  have zX1 : X1.heap.size = X0.heap.size + 1 := by rw [← hX1]; simp
  have hbX1 : Below X0.heap.size X0 X1 := by rw [← hX1]; exact (Below.refl _ _).alloc (Nat.le_refl _) _
  have HNX1 := Lib.hid (boxNew hX1)
  rw [zX0] at HNX1
  have HBX1 := Lib.hid (HBX0.out.trans (hbX1.mono HBX0.out.size))
  have hsX1 : X0.heap.size ≤ X1.heap.size := hbX1.size
  have HNX0_X1 := Lib.hid (HNX0.out.below hbX1)
  clear hbX1
  have HX1 := Lib.hid hX1
  clear hX1
  go_enter Try.func20, Try.ntmps20
  have hp0 := HNX0_X1.out
  rw [← HX1.out, ← HX0.out] at hp0
  obtain ⟨_, c0_0, c0_1⟩ := hp0
  go_wp2_with fail
  rw [HX0.out, HX1.out]
  refine (szPoly_any low0 a0 cap0 len0 1048576 _ HS0.out.max (by omega)).mono ?_
  rintro e W1 ⟨⟨k, rfl, hk⟩, hb1⟩
  clear c0_0 c0_1
  have HBW1 := Lib.hid (HBX1.out.trans (hb1.mono HBX1.out.size))
  have hsW1 : X1.heap.size ≤ W1.heap.size := hb1.size
  have HNX0_W1 := Lib.hid (HNX0_X1.out.below hb1)
  have HNX1_W1 := Lib.hid (HNX1.out.below hb1)
  clear hb1
  by_cases hk0 : k < 0
  · clear hk
    go_wp2
    go_ret
    exact ⟨rfl, HBW1.out⟩
  obtain ⟨hn0, q0, rfl, hq0⟩ : len0 ≤ 1048576 ∧ ∃ q : Nat, k = (q : Int) ∧ q ≤ 1048576 := by
    rcases hk with h | ⟨h1, h2⟩
    · omega
    · exact ⟨by omega, k.toNat, by omega, by omega⟩
  clear hk hk0
  have hp0 := HNX1_W1.out
  obtain ⟨_, c0_0, c0_1⟩ := hp0
  go_wp2_with fail
  refine (szPoly_any low1 a1 cap1 len1 q0 _ HS1.out.max (by omega)).mono ?_
  rintro e W2 ⟨⟨k, rfl, hk⟩, hb2⟩
  clear c0_0 c0_1
  have HBW2 := Lib.hid (HBW1.out.trans (hb2.mono HBW1.out.size))
  have hsW2 : W1.heap.size ≤ W2.heap.size := hb2.size
  have HNX0_W2 := Lib.hid (HNX0_W1.out.below hb2)
  have HNX1_W2 := Lib.hid (HNX1_W1.out.below hb2)
  clear hb2
  by_cases hk0 : k < 0
  · clear hk
    go_wp2
    go_ret
    exact ⟨rfl, HBW2.out⟩
  obtain ⟨hn1, q1, rfl, hq1⟩ : len1 ≤ 1048576 ∧ ∃ q : Nat, k = (q : Int) ∧ q ≤ 1048576 := by
    rcases hk with h | ⟨h1, h2⟩
    · omega
    · exact ⟨by omega, k.toNat, by omega, by omega⟩
  clear hk hk0
  have HBk : Hid (Below W2.heap.size W2 W2) := Lib.hid (Below.refl _ _)
  obtain ⟨_, k0, k1⟩ := HNX0_W2.out
  obtain ⟨_, k2, k3⟩ := HNX1_W2.out
  obtain ⟨m1, m2, m3, m4, m5, m6⟩ := two_ahead (show w.heap.size + 1 < W2.heap.size by have := HNX1_W2.out.1; omega)
  go_upto_region 8 with fail
  go_cut [6, 7] (fun s1 s2 wx => AnsMk W2 wx s1 s2 pl pc L b)
  case first =>
    go_region_held3 (fun w' : World => w'.cell? ⟨w.heap.size, 0, none⟩ = some (.int .i64 low0) ∧ w'.cell? ⟨w.heap.size, 1, none⟩ = some (.slice a0 len0 cap0) ∧ w'.cell? ⟨w.heap.size + 1, 0, none⟩ = some (.int .i64 low1) ∧ w'.cell? ⟨w.heap.size + 1, 1, none⟩ = some (.slice a1 len1 cap1)) (first | go_keep | exact ⟨k0, k1, k2, k3⟩)
      (first
        | (go_at_call 52
           with_reducible refine (toPoly_t low0 a0 cap0 len0 z0 _ hn0 (ints_on HS0.out HBW2.out (by first | exact HBk.out.drew | exact (HBk.out.alloc HBk.out.size _).drew | exact HBk.out | exact HBk.out.alloc HBk.out.size _))).mono ?_
           rintro e V ⟨⟨gq0, rfl, _, _, hiq⟩, hbv⟩
           skip
           have HI0 := Lib.hid hiq
           clear hiq
           have hbn : Below W2.heap.size W2 V := by
             first
             | exact HBk.out.trans (hbv.mono HBk.out.size)
             | exact HBk.out.drew.trans (hbv.mono HBk.out.size)
             | exact below_alloc HBk.out HBk.out.size hbv
             | exact below_drewAlloc HBk.out HBk.out.size hbv
           first
           | (have HZ : Hid (BoxZ V W2.heap.size) := Lib.hid (BoxZ.of (w := W2.drew) hbv); have HZL := Lib.hid (Nat.le_refl W2.heap.size); obtain ⟨_, y0, y1, y2, y3⟩ := HZ.out)
           | (have HZ : Hid (BoxZ V W2.heap.size) := Lib.hid (BoxZ.ofd (w := W2) hbv); have HZL := Lib.hid (Nat.le_refl W2.heap.size); obtain ⟨_, y0, y1, y2, y3⟩ := HZ.out)
           | (have HZ := Lib.hid (BoxZ.of hbv); have HZL := Lib.hid HBk.out.size; obtain ⟨_, y0, y1, y2, y3⟩ := HZ.out)
           | (have HZ' := Lib.hid (HZ.out.below hbv); clear HZ y0 y1 y2 y3; have HZ := HZ'; clear HZ'; obtain ⟨_, y0, y1, y2, y3⟩ := HZ.out)
           | skip
           obtain ⟨o1, o2, o3, o4, o5, o6⟩ := two_ahead (Nat.lt_of_lt_of_le (show w.heap.size + 1 < W2.heap.size by have := HNX1_W2.out.1; omega) hbn.size)
           clear HBk
           have HBk := Lib.hid hbn
           obtain ⟨_, k0, k1⟩ := (HNX0_W2.out.below hbn)
           obtain ⟨_, k2, k3⟩ := (HNX1_W2.out.below hbn)
           clear hbv hbn)
        | (go_at_call 52
           with_reducible refine (toPoly_t low1 a1 cap1 len1 z1 _ hn1 (ints_on HS1.out HBW2.out (by first | exact HBk.out.drew | exact (HBk.out.alloc HBk.out.size _).drew | exact HBk.out | exact HBk.out.alloc HBk.out.size _))).mono ?_
           rintro e V ⟨⟨gq1, rfl, _, _, hiq⟩, hbv⟩
           have HI0' := Lib.hid (HI0.out.below (by first | exact hbv | exact below_alloc (Below.refl _ _) (Nat.le_refl _) hbv)); clear HI0; have HI0 := HI0'; clear HI0'
           have HI1 := Lib.hid hiq
           clear hiq
           have hbn : Below W2.heap.size W2 V := by
             first
             | exact HBk.out.trans (hbv.mono HBk.out.size)
             | exact HBk.out.drew.trans (hbv.mono HBk.out.size)
             | exact below_alloc HBk.out HBk.out.size hbv
             | exact below_drewAlloc HBk.out HBk.out.size hbv
           first
           | (have HZ : Hid (BoxZ V W2.heap.size) := Lib.hid (BoxZ.of (w := W2.drew) hbv); have HZL := Lib.hid (Nat.le_refl W2.heap.size); obtain ⟨_, y0, y1, y2, y3⟩ := HZ.out)
           | (have HZ : Hid (BoxZ V W2.heap.size) := Lib.hid (BoxZ.ofd (w := W2) hbv); have HZL := Lib.hid (Nat.le_refl W2.heap.size); obtain ⟨_, y0, y1, y2, y3⟩ := HZ.out)
           | (have HZ := Lib.hid (BoxZ.of hbv); have HZL := Lib.hid HBk.out.size; obtain ⟨_, y0, y1, y2, y3⟩ := HZ.out)
           | (have HZ' := Lib.hid (HZ.out.below hbv); clear HZ y0 y1 y2 y3; have HZ := HZ'; clear HZ'; obtain ⟨_, y0, y1, y2, y3⟩ := HZ.out)
           | skip
           obtain ⟨o1, o2, o3, o4, o5, o6⟩ := two_ahead (Nat.lt_of_lt_of_le (show w.heap.size + 1 < W2.heap.size by have := HNX1_W2.out.1; omega) hbn.size)
           clear HBk
           have HBk := Lib.hid hbn
           obtain ⟨_, k0, k1⟩ := (HNX0_W2.out.below hbn)
           obtain ⟨_, k2, k3⟩ := (HNX1_W2.out.below hbn)
           clear hbv hbn)
        | (go_at_call 48
           with_reducible refine (sPolyOver_law (HI0.out.below (by first | exact Below.refl _ _ | exact (Below.refl _ _).alloc (Nat.le_refl _) _)) (HI1.out.below (by first | exact Below.refl _ _ | exact (Below.refl _ _).alloc (Nat.le_refl _) _)) HB.out HP.out).mono ?_
           rintro e V ⟨⟨vq, rfl, hoq⟩, hbv⟩
           obtain ⟨aq, _, cq, rfl, _⟩ := hoq.shape
           rw [show pc.length = L from HL.out] at hoq ⊢
           have HOG := Lib.hid (own_ge hoq)
           have HRQ := Lib.hid hoq
           have HBS := Lib.hid HBk.out.size
           clear hoq
           have hbn : Below W2.heap.size W2 V := by
             first
             | exact HBk.out.trans (hbv.mono HBk.out.size)
             | exact HBk.out.drew.trans (hbv.mono HBk.out.size)
             | exact below_alloc HBk.out HBk.out.size hbv
             | exact below_drewAlloc HBk.out HBk.out.size hbv
           first
           | (have HZ : Hid (BoxZ V W2.heap.size) := Lib.hid (BoxZ.of (w := W2.drew) hbv); have HZL := Lib.hid (Nat.le_refl W2.heap.size); obtain ⟨_, y0, y1, y2, y3⟩ := HZ.out)
           | (have HZ : Hid (BoxZ V W2.heap.size) := Lib.hid (BoxZ.ofd (w := W2) hbv); have HZL := Lib.hid (Nat.le_refl W2.heap.size); obtain ⟨_, y0, y1, y2, y3⟩ := HZ.out)
           | (have HZ := Lib.hid (BoxZ.of hbv); have HZL := Lib.hid HBk.out.size; have HZO := Lib.hid (BoxZ.lt hbv); obtain ⟨_, y0, y1, y2, y3⟩ := HZ.out)
           | (have HZO := Lib.hid HZ.out.1; have HZ' := Lib.hid (HZ.out.below hbv); clear HZ y0 y1 y2 y3; have HZ := HZ'; clear HZ'; obtain ⟨_, y0, y1, y2, y3⟩ := HZ.out)
           | skip
           obtain ⟨o1, o2, o3, o4, o5, o6⟩ := two_ahead (Nat.lt_of_lt_of_le (show w.heap.size + 1 < W2.heap.size by have := HNX1_W2.out.1; omega) hbn.size)
           clear HBk
           have HBk := Lib.hid hbn
           obtain ⟨_, k0, k1⟩ := (HNX0_W2.out.below hbn)
           obtain ⟨_, k2, k3⟩ := (HNX1_W2.out.below hbn)
           clear hbv hbn))
    all_goals (go_wp2_with fail; go_meet)
    all_goals first
      | exact ansA HBk.out HRQ.out (by have := HBS.out; first | exact this | (simp; omega))
      | exact ansC HBk.out HRQ.out (by have := HBS.out; first | exact this | (simp; omega)) HZ.out HZL.out (fun k e => by have h1 := HOG.out k e; have h2 := HZO.out; first | omega | (simp at h1; omega))
  case rest =>
  obtain ⟨jw, aw, cw, hs1, hs2, hbox, hjlw, how, hnew, hb3⟩ := hcut
  subst hs1
  subst hs2
  clear HBk k0 k1 k2 k3 m1 m2 m3 m4 m5 m6
  obtain ⟨W3, hwq⟩ : ∃ X, wc = X := ⟨_, rfl⟩
  rw [hwq] at hbox how hb3 ⊢
  clear hwq
  have vw_lo := Lib.hid (own_ge how)
  have vw_hi := Lib.hid (own_lt how)
  have hjhw : jw < W3.heap.size := hbox.1
  have HNEw := Lib.hid hnew
  have HRw := Lib.hid how
  have HQw := Lib.hid hbox
  clear how hbox hnew
  have HBW3 := Lib.hid (HBW2.out.trans (hb3.mono HBW2.out.size))
  have hsW3 : W2.heap.size ≤ W3.heap.size := hb3.size
  have HNX0_W3 := Lib.hid (HNX0_W2.out.below hb3)
  have HNX1_W3 := Lib.hid (HNX1_W2.out.below hb3)
  clear hb3
  have hp0 := HNX0_W3.out
  obtain ⟨_, c0_0, c0_1⟩ := hp0
  go_wp2_with fail
  refine (toPoly_t low0 a0 cap0 len0 z0 _ hn0 (HS0.out.below HBW3.out)).mono ?_
  rintro e W4 ⟨⟨g4, rfl, lo4, hr4, hi4⟩, hb4⟩
  clear c0_0 c0_1
  have HI4 := Lib.hid hi4
  have HT4 := Lib.hid hr4
  have lt4 : g4 < W4.heap.size := own_lt hr4 g4 rfl
  clear hi4 hr4
  have HBW4 := Lib.hid (HBW3.out.trans (hb4.mono HBW3.out.size))
  have hsW4 : W3.heap.size ≤ W4.heap.size := hb4.size
  have HNX0_W4 := Lib.hid (HNX0_W3.out.below hb4)
  have HNX1_W4 := Lib.hid (HNX1_W3.out.below hb4)
  have HRw_W4 := Lib.hid (HRw.out.below hb4)
  have HQw_W4 := Lib.hid (HQw.out.below hb4)
  clear hb4
  have HT4_lo : Hid (∀ j, (Value.slice (some ⟨g4, 0, none⟩) len0 len0).ownBlock = some j → g4 ≤ j) := Lib.hid fun j e => by simp [Value.ownBlock] at e; omega
  have HT4_hi : Hid (∀ j, (Value.slice (some ⟨g4, 0, none⟩) len0 len0).ownBlock = some j → j < g4 + 1) := Lib.hid fun j e => by simp [Value.ownBlock] at e; omega
  obtain ⟨B5, hB5⟩ : ∃ X, W4.alloc (.cells #[.int .i64 low0, (.slice (some ⟨g4, 0, none⟩) len0 len0)] 25) = X := ⟨_, rfl⟩
  have zB5 : B5.heap.size = W4.heap.size + 1 := by rw [← hB5]; simp
  have hbB5 : Below W4.heap.size W4 B5 := by rw [← hB5]; exact (Below.refl _ _).alloc (Nat.le_refl _) _
  have HNB5 := Lib.hid (boxNew hB5)
  have HBB5 := Lib.hid (HBW4.out.trans (hbB5.mono HBW4.out.size))
  have hsB5 : W4.heap.size ≤ B5.heap.size := hbB5.size
  have HNX0_B5 := Lib.hid (HNX0_W4.out.below hbB5)
  have HNX1_B5 := Lib.hid (HNX1_W4.out.below hbB5)
  have HRw_B5 := Lib.hid (HRw_W4.out.below hbB5)
  have HQw_B5 := Lib.hid (HQw_W4.out.below hbB5)
  have HT4_B5 := Lib.hid (HT4.out.below hbB5)
  have HI4_B5 := Lib.hid (HI4.out.below hbB5)
  clear hbB5
  have HB5 := Lib.hid hB5
  clear hB5
  have hp0 := HNX1_B5.out
  rw [← HB5.out] at hp0
  obtain ⟨_, c0_0, c0_1⟩ := hp0
  go_wp2_with fail
  rw [HB5.out]
  refine (toPoly_t low1 a1 cap1 len1 z1 _ hn1 (HS1.out.below HBB5.out)).mono ?_
  rintro e W6 ⟨⟨g6, rfl, lo6, hr6, hi6⟩, hb6⟩
  clear c0_0 c0_1
  have HI6 := Lib.hid hi6
  have HT6 := Lib.hid hr6
  have lt6 : g6 < W6.heap.size := own_lt hr6 g6 rfl
  clear hi6 hr6
  have HBW6 := Lib.hid (HBB5.out.trans (hb6.mono HBB5.out.size))
  have hsW6 : B5.heap.size ≤ W6.heap.size := hb6.size
  have HNX0_W6 := Lib.hid (HNX0_B5.out.below hb6)
  have HNX1_W6 := Lib.hid (HNX1_B5.out.below hb6)
  have HRw_W6 := Lib.hid (HRw_B5.out.below hb6)
  have HQw_W6 := Lib.hid (HQw_B5.out.below hb6)
  have HT4_W6 := Lib.hid (HT4_B5.out.below hb6)
  have HI4_W6 := Lib.hid (HI4_B5.out.below hb6)
  have HNB5_W6 := Lib.hid (HNB5.out.below hb6)
  clear hb6
  have HT6_lo : Hid (∀ j, (Value.slice (some ⟨g6, 0, none⟩) len1 len1).ownBlock = some j → g6 ≤ j) := Lib.hid fun j e => by simp [Value.ownBlock] at e; omega
  have HT6_hi : Hid (∀ j, (Value.slice (some ⟨g6, 0, none⟩) len1 len1).ownBlock = some j → j < g6 + 1) := Lib.hid fun j e => by simp [Value.ownBlock] at e; omega
  obtain ⟨B7, hB7⟩ : ∃ X, W6.alloc (.cells #[.int .i64 low1, (.slice (some ⟨g6, 0, none⟩) len1 len1)] 25) = X := ⟨_, rfl⟩
  have zB7 : B7.heap.size = W6.heap.size + 1 := by rw [← hB7]; simp
  have hbB7 : Below W6.heap.size W6 B7 := by rw [← hB7]; exact (Below.refl _ _).alloc (Nat.le_refl _) _
  have HNB7 := Lib.hid (boxNew hB7)
  have HBB7 := Lib.hid (HBW6.out.trans (hbB7.mono HBW6.out.size))
  have hsB7 : W6.heap.size ≤ B7.heap.size := hbB7.size
  have HNX0_B7 := Lib.hid (HNX0_W6.out.below hbB7)
  have HNX1_B7 := Lib.hid (HNX1_W6.out.below hbB7)
  have HRw_B7 := Lib.hid (HRw_W6.out.below hbB7)
  have HQw_B7 := Lib.hid (HQw_W6.out.below hbB7)
  have HT4_B7 := Lib.hid (HT4_W6.out.below hbB7)
  have HI4_B7 := Lib.hid (HI4_W6.out.below hbB7)
  have HNB5_B7 := Lib.hid (HNB5_W6.out.below hbB7)
  have HT6_B7 := Lib.hid (HT6.out.below hbB7)
  have HI6_B7 := Lib.hid (HI6.out.below hbB7)
  clear hbB7
  have HB7 := Lib.hid hB7
  clear hB7
  have hp0 := HNB5_B7.out
  rw [← HB7.out] at hp0
  obtain ⟨_, c0_0, c0_1⟩ := hp0
  have hp1 := HNB7.out
  rw [← HB7.out] at hp1
  obtain ⟨_, c1_0, c1_1⟩ := hp1
  go_wp2_with fail
  rw [HB7.out]
  with_reducible refine (iPolyOver_law HI4_B7.out HI6_B7.out HB.out HP.out).mono ?_
  rintro e W8 ⟨⟨vg, rfl, hog⟩, hb8⟩
  clear c0_0 c0_1 c1_0 c1_1
  obtain ⟨ag, _, cg, rfl, _⟩ := hog.shape
  rw [show pc.length = L from HL.out] at hog ⊢
  have vg_lo := Lib.hid (own_ge hog)
  have vg_hi := Lib.hid (own_lt hog)
  have HRg := Lib.hid hog
  clear hog
  have HBW8 := Lib.hid (HBB7.out.trans (hb8.mono HBB7.out.size))
  have hsW8 : B7.heap.size ≤ W8.heap.size := hb8.size
  have HNX0_W8 := Lib.hid (HNX0_B7.out.below hb8)
  have HNX1_W8 := Lib.hid (HNX1_B7.out.below hb8)
  have HRw_W8 := Lib.hid (HRw_B7.out.below hb8)
  have HQw_W8 := Lib.hid (HQw_B7.out.below hb8)
  have HT4_W8 := Lib.hid (HT4_B7.out.below hb8)
  have HI4_W8 := Lib.hid (HI4_B7.out.below hb8)
  have HNB5_W8 := Lib.hid (HNB5_B7.out.below hb8)
  have HT6_W8 := Lib.hid (HT6_B7.out.below hb8)
  have HI6_W8 := Lib.hid (HI6_B7.out.below hb8)
  have HNB7_W8 := Lib.hid (HNB7.out.below hb8)
  clear hb8
  obtain ⟨B9, hB9⟩ : ∃ X, W8.alloc (.cells #[.int .i64 pl, (.slice ag L cg)] 25) = X := ⟨_, rfl⟩
  have zB9 : B9.heap.size = W8.heap.size + 1 := by rw [← hB9]; simp
  have hbB9 : Below W8.heap.size W8 B9 := by rw [← hB9]; exact (Below.refl _ _).alloc (Nat.le_refl _) _
  have HNB9 := Lib.hid (boxNew hB9)
  have HBB9 := Lib.hid (HBW8.out.trans (hbB9.mono HBW8.out.size))
  have hsB9 : W8.heap.size ≤ B9.heap.size := hbB9.size
  have HNX0_B9 := Lib.hid (HNX0_W8.out.below hbB9)
  have HNX1_B9 := Lib.hid (HNX1_W8.out.below hbB9)
  have HRw_B9 := Lib.hid (HRw_W8.out.below hbB9)
  have HQw_B9 := Lib.hid (HQw_W8.out.below hbB9)
  have HT4_B9 := Lib.hid (HT4_W8.out.below hbB9)
  have HI4_B9 := Lib.hid (HI4_W8.out.below hbB9)
  have HNB5_B9 := Lib.hid (HNB5_W8.out.below hbB9)
  have HT6_B9 := Lib.hid (HT6_W8.out.below hbB9)
  have HI6_B9 := Lib.hid (HI6_W8.out.below hbB9)
  have HNB7_B9 := Lib.hid (HNB7_W8.out.below hbB9)
  have HRg_B9 := Lib.hid (HRg.out.below hbB9)
  clear hbB9
  have HB9 := Lib.hid hB9
  clear hB9
  have hp0 := HNB9.out
  rw [← HB9.out] at hp0
  obtain ⟨_, c0_0, c0_1⟩ := hp0
  have hp1 := HQw_B9.out
  rw [← HB9.out] at hp1
  obtain ⟨_, c1_0, c1_1⟩ := hp1
  go_wp2_with fail
  rw [HB9.out]
  refine (eqPoly_yes _ _ pl _ _ pc _ HRg_B9.out HRw_B9.out).mono ?_
  rintro e W10 ⟨rfl, hb10⟩
  clear c0_0 c0_1 c1_0 c1_1
  have HBW10 := Lib.hid (HBB9.out.trans (hb10.mono HBB9.out.size))
  have hsW10 : B9.heap.size ≤ W10.heap.size := hb10.size
  have HNX0_W10 := Lib.hid (HNX0_B9.out.below hb10)
  have HNX1_W10 := Lib.hid (HNX1_B9.out.below hb10)
  have HRw_W10 := Lib.hid (HRw_B9.out.below hb10)
  have HQw_W10 := Lib.hid (HQw_B9.out.below hb10)
  have HT4_W10 := Lib.hid (HT4_B9.out.below hb10)
  have HI4_W10 := Lib.hid (HI4_B9.out.below hb10)
  have HNB5_W10 := Lib.hid (HNB5_B9.out.below hb10)
  have HT6_W10 := Lib.hid (HT6_B9.out.below hb10)
  have HI6_W10 := Lib.hid (HI6_B9.out.below hb10)
  have HNB7_W10 := Lib.hid (HNB7_B9.out.below hb10)
  have HRg_W10 := Lib.hid (HRg_B9.out.below hb10)
  have HNB9_W10 := Lib.hid (HNB9.out.below hb10)
  clear hb10
  have hp0 := HNB5_W10.out
  obtain ⟨_, c0_0, c0_1⟩ := hp0
  have hp1 := HNX0_W10.out
  obtain ⟨_, c1_0, c1_1⟩ := hp1
  go_wp2
  go_region_held3 (fun w' : World => w'.cell? ⟨W4.heap.size, 0, none⟩ = some (.int .i64 low0) ∧ w'.cell? ⟨W4.heap.size, 1, none⟩ = some (.slice (some ⟨g4, 0, none⟩) len0 len0) ∧ w'.cell? ⟨w.heap.size, 0, none⟩ = some (.int .i64 low0) ∧ w'.cell? ⟨w.heap.size, 1, none⟩ = some (.slice a0 len0 cap0)) (first | go_keep | exact ⟨k0, k1, k2, k3⟩)
    (first
      | (go_at_call 52
         refine (toPoly_t low0 a0 cap0 len0 z0 _ hn0 (HS0.out.below HBW10.out.drew)).mono ?_
         rintro e W11 ⟨⟨g11, rfl, _, hr11, _⟩, hb11⟩
         have hbq11 := Below.trans (Below.refl W10.heap.size W10).drew hb11
         clear hb11
         have hb11 := hbq11
         clear hbq11
         have HT11 := Lib.hid hr11
         clear hr11
         have HBW11 := Lib.hid (HBW10.out.trans (hb11.mono HBW10.out.size))
         have hsW11 : W10.heap.size ≤ W11.heap.size := hb11.size
         have HNX0_W11 := Lib.hid (HNX0_W10.out.below hb11)
         have HNX1_W11 := Lib.hid (HNX1_W10.out.below hb11)
         have HRw_W11 := Lib.hid (HRw_W10.out.below hb11)
         have HQw_W11 := Lib.hid (HQw_W10.out.below hb11)
         have HT4_W11 := Lib.hid (HT4_W10.out.below hb11)
         have HI4_W11 := Lib.hid (HI4_W10.out.below hb11)
         have HNB5_W11 := Lib.hid (HNB5_W10.out.below hb11)
         have HT6_W11 := Lib.hid (HT6_W10.out.below hb11)
         have HI6_W11 := Lib.hid (HI6_W10.out.below hb11)
         have HNB7_W11 := Lib.hid (HNB7_W10.out.below hb11)
         have HRg_W11 := Lib.hid (HRg_W10.out.below hb11)
         have HNB9_W11 := Lib.hid (HNB9_W10.out.below hb11)
         clear hb11
         obtain ⟨_, k0, k1⟩ := HNB5_W11.out
         obtain ⟨_, k2, k3⟩ := HNX0_W11.out)
      | (go_at_call 53
         refine (eqPoly_yes _ _ low0 _ _ z0 _ HT4_W11.out HT11.out).mono ?_
         rintro e W12 ⟨rfl, hb12⟩
         have HBW12 := Lib.hid (HBW11.out.trans (hb12.mono HBW11.out.size))
         have hsW12 : W11.heap.size ≤ W12.heap.size := hb12.size
         have HNX0_W12 := Lib.hid (HNX0_W11.out.below hb12)
         have HNX1_W12 := Lib.hid (HNX1_W11.out.below hb12)
         have HRw_W12 := Lib.hid (HRw_W11.out.below hb12)
         have HQw_W12 := Lib.hid (HQw_W11.out.below hb12)
         have HT4_W12 := Lib.hid (HT4_W11.out.below hb12)
         have HI4_W12 := Lib.hid (HI4_W11.out.below hb12)
         have HNB5_W12 := Lib.hid (HNB5_W11.out.below hb12)
         have HT6_W12 := Lib.hid (HT6_W11.out.below hb12)
         have HI6_W12 := Lib.hid (HI6_W11.out.below hb12)
         have HNB7_W12 := Lib.hid (HNB7_W11.out.below hb12)
         have HRg_W12 := Lib.hid (HRg_W11.out.below hb12)
         have HNB9_W12 := Lib.hid (HNB9_W11.out.below hb12)
         have HT11_W12 := Lib.hid (HT11.out.below hb12)
         clear hb12
         obtain ⟨_, k0, k1⟩ := HNB5_W12.out
         obtain ⟨_, k2, k3⟩ := HNX0_W12.out))
  have hp0 := HNB7_W12.out
  obtain ⟨_, c0_0, c0_1⟩ := hp0
  have hp1 := HNX1_W12.out
  obtain ⟨_, c1_0, c1_1⟩ := hp1
  go_wp2
  go_region_held3 (fun w' : World => w'.cell? ⟨W6.heap.size, 0, none⟩ = some (.int .i64 low1) ∧ w'.cell? ⟨W6.heap.size, 1, none⟩ = some (.slice (some ⟨g6, 0, none⟩) len1 len1) ∧ w'.cell? ⟨w.heap.size + 1, 0, none⟩ = some (.int .i64 low1) ∧ w'.cell? ⟨w.heap.size + 1, 1, none⟩ = some (.slice a1 len1 cap1)) (first | go_keep | exact ⟨k0, k1, k2, k3⟩)
    (first
      | (go_at_call 52
         refine (toPoly_t low1 a1 cap1 len1 z1 _ hn1 (HS1.out.below HBW12.out.drew)).mono ?_
         rintro e W13 ⟨⟨g13, rfl, _, hr13, _⟩, hb13⟩
         have hbq13 := Below.trans (Below.refl W12.heap.size W12).drew hb13
         clear hb13
         have hb13 := hbq13
         clear hbq13
         have HT13 := Lib.hid hr13
         clear hr13
         have HBW13 := Lib.hid (HBW12.out.trans (hb13.mono HBW12.out.size))
         have hsW13 : W12.heap.size ≤ W13.heap.size := hb13.size
         have HNX0_W13 := Lib.hid (HNX0_W12.out.below hb13)
         have HNX1_W13 := Lib.hid (HNX1_W12.out.below hb13)
         have HRw_W13 := Lib.hid (HRw_W12.out.below hb13)
         have HQw_W13 := Lib.hid (HQw_W12.out.below hb13)
         have HT4_W13 := Lib.hid (HT4_W12.out.below hb13)
         have HI4_W13 := Lib.hid (HI4_W12.out.below hb13)
         have HNB5_W13 := Lib.hid (HNB5_W12.out.below hb13)
         have HT6_W13 := Lib.hid (HT6_W12.out.below hb13)
         have HI6_W13 := Lib.hid (HI6_W12.out.below hb13)
         have HNB7_W13 := Lib.hid (HNB7_W12.out.below hb13)
         have HRg_W13 := Lib.hid (HRg_W12.out.below hb13)
         have HNB9_W13 := Lib.hid (HNB9_W12.out.below hb13)
         clear hb13
         obtain ⟨_, k0, k1⟩ := HNB7_W13.out
         obtain ⟨_, k2, k3⟩ := HNX1_W13.out)
      | (go_at_call 53
         refine (eqPoly_yes _ _ low1 _ _ z1 _ HT6_W13.out HT13.out).mono ?_
         rintro e W14 ⟨rfl, hb14⟩
         have HBW14 := Lib.hid (HBW13.out.trans (hb14.mono HBW13.out.size))
         have hsW14 : W13.heap.size ≤ W14.heap.size := hb14.size
         have HNX0_W14 := Lib.hid (HNX0_W13.out.below hb14)
         have HNX1_W14 := Lib.hid (HNX1_W13.out.below hb14)
         have HRw_W14 := Lib.hid (HRw_W13.out.below hb14)
         have HQw_W14 := Lib.hid (HQw_W13.out.below hb14)
         have HT4_W14 := Lib.hid (HT4_W13.out.below hb14)
         have HI4_W14 := Lib.hid (HI4_W13.out.below hb14)
         have HNB5_W14 := Lib.hid (HNB5_W13.out.below hb14)
         have HT6_W14 := Lib.hid (HT6_W13.out.below hb14)
         have HI6_W14 := Lib.hid (HI6_W13.out.below hb14)
         have HNB7_W14 := Lib.hid (HNB7_W13.out.below hb14)
         have HRg_W14 := Lib.hid (HRg_W13.out.below hb14)
         have HNB9_W14 := Lib.hid (HNB9_W13.out.below hb14)
         have HT13_W14 := Lib.hid (HT13.out.below hb14)
         clear hb14
         obtain ⟨_, k0, k1⟩ := HNB7_W14.out
         obtain ⟨_, k2, k3⟩ := HNX1_W14.out))
  obtain ⟨K0, hK0⟩ : ∃ K, 1 = K := ⟨_, rfl⟩
  clear hK0 K0
  obtain ⟨K0, hK0⟩ : ∃ K, 1 + z0.length = K := ⟨_, rfl⟩
  have hKb0 : K0 ≤ 2000000 := by have := HL0.out; omega
  have HM := Lib.hid (markPoly_g _ low0 _ z0 (1) _ HT4_W14.out (by omega) (by have := HL0.out; omega))
  rw [hK0] at HM
  have hp0 := HNB5_W14.out
  obtain ⟨_, c0_0, c0_1⟩ := hp0
  go_wp2_with fail
  refine (HM.out).mono ?_
  rintro e W15 ⟨rfl, _, hg15⟩
  clear c0_0 c0_1
  have HBW15 := Lib.hid (HBW14.out.grown hg15 (HBW14.out.size) (fun j e => by have := HT4_lo.out j e; omega))
  have hsW15 : W14.heap.size ≤ W15.heap.size := hg15.size
  have HNX0_W15 := Lib.hid (HNX0_W14.out.grown hg15 (fun e => by have h1 := HT4_lo.out _ e; have h2 := HT4_hi.out _ e; omega))
  have HNX1_W15 := Lib.hid (HNX1_W14.out.grown hg15 (fun e => by have h1 := HT4_lo.out _ e; have h2 := HT4_hi.out _ e; omega))
  have HRw_W15 := Lib.hid (HRw_W14.out.grown hg15 (fun j e e2 => by have h1 := vw_lo.out j e; have h2 := vw_hi.out j e; have h3 := HT4_lo.out j e2; have h4 := HT4_hi.out j e2; omega))
  have HQw_W15 := Lib.hid (HQw_W14.out.grown hg15 (fun e => by have h1 := HT4_lo.out _ e; have h2 := HT4_hi.out _ e; omega))
  have HNB5_W15 := Lib.hid (HNB5_W14.out.grown hg15 (fun e => by have h1 := HT4_lo.out _ e; have h2 := HT4_hi.out _ e; omega))
  have HT6_W15 := Lib.hid (HT6_W14.out.grown hg15 (fun j e e2 => by have h1 := HT6_lo.out j e; have h2 := HT6_hi.out j e; have h3 := HT4_lo.out j e2; have h4 := HT4_hi.out j e2; omega))
  have HNB7_W15 := Lib.hid (HNB7_W14.out.grown hg15 (fun e => by have h1 := HT4_lo.out _ e; have h2 := HT4_hi.out _ e; omega))
  have HRg_W15 := Lib.hid (HRg_W14.out.grown hg15 (fun j e e2 => by have h1 := vg_lo.out j e; have h2 := vg_hi.out j e; have h3 := HT4_lo.out j e2; have h4 := HT4_hi.out j e2; omega))
  have HNB9_W15 := Lib.hid (HNB9_W14.out.grown hg15 (fun e => by have h1 := HT4_lo.out _ e; have h2 := HT4_hi.out _ e; omega))
  clear hg15
  clear HM
  obtain ⟨K1, hK1⟩ : ∃ K, K0 + z1.length = K := ⟨_, rfl⟩
  have hKb1 : K1 ≤ 4000000 := by have := HL1.out; omega
  have HM := Lib.hid (markPoly_g _ low1 _ z1 (K0) _ HT6_W15.out (by omega) (by have := HL1.out; omega))
  rw [hK1] at HM
  have hp0 := HNB7_W15.out
  obtain ⟨_, c0_0, c0_1⟩ := hp0
  go_wp2_with fail
  refine (HM.out).mono ?_
  rintro e W16 ⟨rfl, _, hg16⟩
  clear c0_0 c0_1
  have HBW16 := Lib.hid (HBW15.out.grown hg16 (HBW15.out.size) (fun j e => by have := HT6_lo.out j e; omega))
  have hsW16 : W15.heap.size ≤ W16.heap.size := hg16.size
  have HNX0_W16 := Lib.hid (HNX0_W15.out.grown hg16 (fun e => by have h1 := HT6_lo.out _ e; have h2 := HT6_hi.out _ e; omega))
  have HNX1_W16 := Lib.hid (HNX1_W15.out.grown hg16 (fun e => by have h1 := HT6_lo.out _ e; have h2 := HT6_hi.out _ e; omega))
  have HRw_W16 := Lib.hid (HRw_W15.out.grown hg16 (fun j e e2 => by have h1 := vw_lo.out j e; have h2 := vw_hi.out j e; have h3 := HT6_lo.out j e2; have h4 := HT6_hi.out j e2; omega))
  have HQw_W16 := Lib.hid (HQw_W15.out.grown hg16 (fun e => by have h1 := HT6_lo.out _ e; have h2 := HT6_hi.out _ e; omega))
  have HNB5_W16 := Lib.hid (HNB5_W15.out.grown hg16 (fun e => by have h1 := HT6_lo.out _ e; have h2 := HT6_hi.out _ e; omega))
  have HNB7_W16 := Lib.hid (HNB7_W15.out.grown hg16 (fun e => by have h1 := HT6_lo.out _ e; have h2 := HT6_hi.out _ e; omega))
  have HRg_W16 := Lib.hid (HRg_W15.out.grown hg16 (fun j e e2 => by have h1 := vg_lo.out j e; have h2 := vg_hi.out j e; have h3 := HT6_lo.out j e2; have h4 := HT6_hi.out j e2; omega))
  have HNB9_W16 := Lib.hid (HNB9_W15.out.grown hg16 (fun e => by have h1 := HT6_lo.out _ e; have h2 := HT6_hi.out _ e; omega))
  clear hg16
  clear HM
  have hkn : decide ((K1 : Int) < 0) = false := decide_eq_false (by omega)
  have hkl : ¬ (K1 : Int) < 0 := by omega
  have hp0 := HNB9_W16.out
  obtain ⟨_, c0_0, c0_1⟩ := hp0
  have hp1 := HQw_W16.out
  obtain ⟨_, c1_0, c1_1⟩ := hp1
  go_wp2_with fail
  refine (eqPoly_yes _ _ pl _ _ pc _ HRg_W16.out HRw_W16.out).mono ?_
  rintro e W17 ⟨rfl, hb17⟩
  clear c0_0 c0_1 c1_0 c1_1
  have HBW17 := Lib.hid (HBW16.out.trans (hb17.mono HBW16.out.size))
  have hsW17 : W16.heap.size ≤ W17.heap.size := hb17.size
  have HNX0_W17 := Lib.hid (HNX0_W16.out.below hb17)
  have HNX1_W17 := Lib.hid (HNX1_W16.out.below hb17)
  have HRw_W17 := Lib.hid (HRw_W16.out.below hb17)
  have HQw_W17 := Lib.hid (HQw_W16.out.below hb17)
  have HNB5_W17 := Lib.hid (HNB5_W16.out.below hb17)
  have HNB7_W17 := Lib.hid (HNB7_W16.out.below hb17)
  have HRg_W17 := Lib.hid (HRg_W16.out.below hb17)
  have HNB9_W17 := Lib.hid (HNB9_W16.out.below hb17)
  clear hb17
  obtain ⟨M, hM⟩ : ∃ M, 1 + L = M := ⟨_, rfl⟩
  have hMn : decide ((M : Int) < 0) = false := decide_eq_false (by omega)
  have hMl : ¬ (M : Int) < 0 := by omega
  have hMe : ((M : Int) != (M : Int)) = false := by simp
  have HM := Lib.hid (markPoly_g _ pl _ pc 1 _ HRg_W17.out (by omega) (by rw [HL.out]; omega))
  rw [HL.out, hM] at HM
  have hp0 := HNB9_W17.out
  obtain ⟨_, c0_0, c0_1⟩ := hp0
  go_wp2_with fail
  refine (HM.out).mono ?_
  rintro e W18 ⟨rfl, hm, hg18⟩
  clear c0_0 c0_1
  have HMG := Lib.hid hm
  clear hm
  have HBW18 := Lib.hid (HBW17.out.grown hg18 (HBW17.out.size) (fun j e => by have := vg_lo.out j e; omega))
  have hsW18 : W17.heap.size ≤ W18.heap.size := hg18.size
  have HNX0_W18 := Lib.hid (HNX0_W17.out.grown hg18 (fun e => by have h1 := vg_lo.out _ e; have h2 := vg_hi.out _ e; omega))
  have HNX1_W18 := Lib.hid (HNX1_W17.out.grown hg18 (fun e => by have h1 := vg_lo.out _ e; have h2 := vg_hi.out _ e; omega))
  have HRw_W18 := Lib.hid (HRw_W17.out.grown hg18 (fun j e e2 => by have h1 := vw_lo.out j e; have h2 := vw_hi.out j e; have h3 := vg_lo.out j e2; have h4 := vg_hi.out j e2; omega))
  have HQw_W18 := Lib.hid (HQw_W17.out.grown hg18 (fun e => by have h1 := vg_lo.out _ e; have h2 := vg_hi.out _ e; omega))
  have HNB5_W18 := Lib.hid (HNB5_W17.out.grown hg18 (fun e => by have h1 := vg_lo.out _ e; have h2 := vg_hi.out _ e; omega))
  have HNB7_W18 := Lib.hid (HNB7_W17.out.grown hg18 (fun e => by have h1 := vg_lo.out _ e; have h2 := vg_hi.out _ e; omega))
  have HNB9_W18 := Lib.hid (HNB9_W17.out.grown hg18 (fun e => by have h1 := vg_lo.out _ e; have h2 := vg_hi.out _ e; omega))
  clear hg18
  have HH := Lib.hid (heldPoly_any _ pl _ L 1 _ HMG.out (by omega) (by omega))
  rw [hM] at HH
  have hp0 := HNB9_W18.out
  obtain ⟨_, c0_0, c0_1⟩ := hp0
  go_wp2_with fail
  refine (HH.out).mono ?_
  rintro e W19 ⟨rfl, hb19⟩
  clear c0_0 c0_1
  have HBW19 := Lib.hid (HBW18.out.trans (hb19.mono HBW18.out.size))
  have hsW19 : W18.heap.size ≤ W19.heap.size := hb19.size
  have HNX0_W19 := Lib.hid (HNX0_W18.out.below hb19)
  have HNX1_W19 := Lib.hid (HNX1_W18.out.below hb19)
  have HRw_W19 := Lib.hid (HRw_W18.out.below hb19)
  have HQw_W19 := Lib.hid (HQw_W18.out.below hb19)
  have HNB5_W19 := Lib.hid (HNB5_W18.out.below hb19)
  have HNB7_W19 := Lib.hid (HNB7_W18.out.below hb19)
  have HNB9_W19 := Lib.hid (HNB9_W18.out.below hb19)
  have HMG_W19 := Lib.hid (HMG.out.below hb19)
  clear hb19
  clear HH
  have HBk : Hid (Below W19.heap.size W19 W19) := Lib.hid (Below.refl _ _)
  obtain ⟨_, k0, k1⟩ := HNX0_W19.out
  obtain ⟨_, k2, k3⟩ := HNX1_W19.out
  obtain ⟨m1, m2, m3, m4, m5, m6⟩ := two_ahead (show w.heap.size + 1 < W19.heap.size by have := HNX1_W19.out.1; omega)
  go_upto_region 31 with fail
  go_cut [15, 16] (fun s1 s2 wx => AnsMk W19 wx s1 s2 pl pc L b)
  case first =>
    go_region_held3 (fun w' : World => w'.cell? ⟨w.heap.size, 0, none⟩ = some (.int .i64 low0) ∧ w'.cell? ⟨w.heap.size, 1, none⟩ = some (.slice a0 len0 cap0) ∧ w'.cell? ⟨w.heap.size + 1, 0, none⟩ = some (.int .i64 low1) ∧ w'.cell? ⟨w.heap.size + 1, 1, none⟩ = some (.slice a1 len1 cap1)) (first | go_keep | exact ⟨k0, k1, k2, k3⟩)
      (first
        | (go_at_call 52
           with_reducible refine (toPoly_t low0 a0 cap0 len0 z0 _ hn0 (ints_on HS0.out HBW19.out (by first | exact HBk.out.drew | exact (HBk.out.alloc HBk.out.size _).drew | exact HBk.out | exact HBk.out.alloc HBk.out.size _))).mono ?_
           rintro e V ⟨⟨gq0, rfl, _, _, hiq⟩, hbv⟩
           skip
           have HI0 := Lib.hid hiq
           clear hiq
           have hbn : Below W19.heap.size W19 V := by
             first
             | exact HBk.out.trans (hbv.mono HBk.out.size)
             | exact HBk.out.drew.trans (hbv.mono HBk.out.size)
             | exact below_alloc HBk.out HBk.out.size hbv
             | exact below_drewAlloc HBk.out HBk.out.size hbv
           first
           | (have HZ : Hid (BoxZ V W19.heap.size) := Lib.hid (BoxZ.of (w := W19.drew) hbv); have HZL := Lib.hid (Nat.le_refl W19.heap.size); obtain ⟨_, y0, y1, y2, y3⟩ := HZ.out)
           | (have HZ : Hid (BoxZ V W19.heap.size) := Lib.hid (BoxZ.ofd (w := W19) hbv); have HZL := Lib.hid (Nat.le_refl W19.heap.size); obtain ⟨_, y0, y1, y2, y3⟩ := HZ.out)
           | (have HZ := Lib.hid (BoxZ.of hbv); have HZL := Lib.hid HBk.out.size; obtain ⟨_, y0, y1, y2, y3⟩ := HZ.out)
           | (have HZ' := Lib.hid (HZ.out.below hbv); clear HZ y0 y1 y2 y3; have HZ := HZ'; clear HZ'; obtain ⟨_, y0, y1, y2, y3⟩ := HZ.out)
           | skip
           obtain ⟨o1, o2, o3, o4, o5, o6⟩ := two_ahead (Nat.lt_of_lt_of_le (show w.heap.size + 1 < W19.heap.size by have := HNX1_W19.out.1; omega) hbn.size)
           clear HBk
           have HBk := Lib.hid hbn
           obtain ⟨_, k0, k1⟩ := (HNX0_W19.out.below hbn)
           obtain ⟨_, k2, k3⟩ := (HNX1_W19.out.below hbn)
           clear hbv hbn)
        | (go_at_call 52
           with_reducible refine (toPoly_t low1 a1 cap1 len1 z1 _ hn1 (ints_on HS1.out HBW19.out (by first | exact HBk.out.drew | exact (HBk.out.alloc HBk.out.size _).drew | exact HBk.out | exact HBk.out.alloc HBk.out.size _))).mono ?_
           rintro e V ⟨⟨gq1, rfl, _, _, hiq⟩, hbv⟩
           have HI0' := Lib.hid (HI0.out.below (by first | exact hbv | exact below_alloc (Below.refl _ _) (Nat.le_refl _) hbv)); clear HI0; have HI0 := HI0'; clear HI0'
           have HI1 := Lib.hid hiq
           clear hiq
           have hbn : Below W19.heap.size W19 V := by
             first
             | exact HBk.out.trans (hbv.mono HBk.out.size)
             | exact HBk.out.drew.trans (hbv.mono HBk.out.size)
             | exact below_alloc HBk.out HBk.out.size hbv
             | exact below_drewAlloc HBk.out HBk.out.size hbv
           first
           | (have HZ : Hid (BoxZ V W19.heap.size) := Lib.hid (BoxZ.of (w := W19.drew) hbv); have HZL := Lib.hid (Nat.le_refl W19.heap.size); obtain ⟨_, y0, y1, y2, y3⟩ := HZ.out)
           | (have HZ : Hid (BoxZ V W19.heap.size) := Lib.hid (BoxZ.ofd (w := W19) hbv); have HZL := Lib.hid (Nat.le_refl W19.heap.size); obtain ⟨_, y0, y1, y2, y3⟩ := HZ.out)
           | (have HZ := Lib.hid (BoxZ.of hbv); have HZL := Lib.hid HBk.out.size; obtain ⟨_, y0, y1, y2, y3⟩ := HZ.out)
           | (have HZ' := Lib.hid (HZ.out.below hbv); clear HZ y0 y1 y2 y3; have HZ := HZ'; clear HZ'; obtain ⟨_, y0, y1, y2, y3⟩ := HZ.out)
           | skip
           obtain ⟨o1, o2, o3, o4, o5, o6⟩ := two_ahead (Nat.lt_of_lt_of_le (show w.heap.size + 1 < W19.heap.size by have := HNX1_W19.out.1; omega) hbn.size)
           clear HBk
           have HBk := Lib.hid hbn
           obtain ⟨_, k0, k1⟩ := (HNX0_W19.out.below hbn)
           obtain ⟨_, k2, k3⟩ := (HNX1_W19.out.below hbn)
           clear hbv hbn)
        | (go_at_call 37
           with_reducible refine (iPolyOver_law (HI0.out.below (by first | exact Below.refl _ _ | exact (Below.refl _ _).alloc (Nat.le_refl _) _)) (HI1.out.below (by first | exact Below.refl _ _ | exact (Below.refl _ _).alloc (Nat.le_refl _) _)) HB.out HP.out).mono ?_
           rintro e V ⟨⟨vq, rfl, hoq⟩, hbv⟩
           obtain ⟨aq, _, cq, rfl, _⟩ := hoq.shape
           rw [show pc.length = L from HL.out] at hoq ⊢
           have HOG := Lib.hid (own_ge hoq)
           have HRQ := Lib.hid hoq
           have HBS := Lib.hid HBk.out.size
           clear hoq
           have hbn : Below W19.heap.size W19 V := by
             first
             | exact HBk.out.trans (hbv.mono HBk.out.size)
             | exact HBk.out.drew.trans (hbv.mono HBk.out.size)
             | exact below_alloc HBk.out HBk.out.size hbv
             | exact below_drewAlloc HBk.out HBk.out.size hbv
           first
           | (have HZ : Hid (BoxZ V W19.heap.size) := Lib.hid (BoxZ.of (w := W19.drew) hbv); have HZL := Lib.hid (Nat.le_refl W19.heap.size); obtain ⟨_, y0, y1, y2, y3⟩ := HZ.out)
           | (have HZ : Hid (BoxZ V W19.heap.size) := Lib.hid (BoxZ.ofd (w := W19) hbv); have HZL := Lib.hid (Nat.le_refl W19.heap.size); obtain ⟨_, y0, y1, y2, y3⟩ := HZ.out)
           | (have HZ := Lib.hid (BoxZ.of hbv); have HZL := Lib.hid HBk.out.size; have HZO := Lib.hid (BoxZ.lt hbv); obtain ⟨_, y0, y1, y2, y3⟩ := HZ.out)
           | (have HZO := Lib.hid HZ.out.1; have HZ' := Lib.hid (HZ.out.below hbv); clear HZ y0 y1 y2 y3; have HZ := HZ'; clear HZ'; obtain ⟨_, y0, y1, y2, y3⟩ := HZ.out)
           | skip
           obtain ⟨o1, o2, o3, o4, o5, o6⟩ := two_ahead (Nat.lt_of_lt_of_le (show w.heap.size + 1 < W19.heap.size by have := HNX1_W19.out.1; omega) hbn.size)
           clear HBk
           have HBk := Lib.hid hbn
           obtain ⟨_, k0, k1⟩ := (HNX0_W19.out.below hbn)
           obtain ⟨_, k2, k3⟩ := (HNX1_W19.out.below hbn)
           clear hbv hbn))
    all_goals (go_wp2_with fail; go_meet)
    all_goals first
      | exact ansA HBk.out HRQ.out (by have := HBS.out; first | exact this | (simp; omega))
      | exact ansC HBk.out HRQ.out (by have := HBS.out; first | exact this | (simp; omega)) HZ.out HZL.out (fun k e => by have h1 := HOG.out k e; have h2 := HZO.out; first | omega | (simp at h1; omega))
  case rest =>
  obtain ⟨jh, ah, ch, hs1, hs2, hbox, hjlh, hoh, hneh, hb20⟩ := hcut
  subst hs1
  subst hs2
  clear HBk k0 k1 k2 k3 m1 m2 m3 m4 m5 m6
  obtain ⟨W20, hwq⟩ : ∃ X, wc = X := ⟨_, rfl⟩
  rw [hwq] at hbox hoh hb20 ⊢
  clear hwq
  have vh_lo := Lib.hid (own_ge hoh)
  have vh_hi := Lib.hid (own_lt hoh)
  have hjhh : jh < W20.heap.size := hbox.1
  have HNEh := Lib.hid hneh
  have HRh := Lib.hid hoh
  have HQh := Lib.hid hbox
  clear hoh hbox hneh
  have HBW20 := Lib.hid (HBW19.out.trans (hb20.mono HBW19.out.size))
  have hsW20 : W19.heap.size ≤ W20.heap.size := hb20.size
  have HNX0_W20 := Lib.hid (HNX0_W19.out.below hb20)
  have HNX1_W20 := Lib.hid (HNX1_W19.out.below hb20)
  have HRw_W20 := Lib.hid (HRw_W19.out.below hb20)
  have HQw_W20 := Lib.hid (HQw_W19.out.below hb20)
  have HNB5_W20 := Lib.hid (HNB5_W19.out.below hb20)
  have HNB7_W20 := Lib.hid (HNB7_W19.out.below hb20)
  have HNB9_W20 := Lib.hid (HNB9_W19.out.below hb20)
  have HMG_W20 := Lib.hid (HMG_W19.out.below hb20)
  clear hb20
  have hp0 := HQh.out
  obtain ⟨_, c0_0, c0_1⟩ := hp0
  have hp1 := HQw_W20.out
  obtain ⟨_, c1_0, c1_1⟩ := hp1
  go_wp2_with fail
  refine (eqPoly_yes _ _ pl _ _ pc _ HRh.out HRw_W20.out).mono ?_
  rintro e W21 ⟨rfl, hb21⟩
  clear c0_0 c0_1 c1_0 c1_1
  have HBW21 := Lib.hid (HBW20.out.trans (hb21.mono HBW20.out.size))
  have hsW21 : W20.heap.size ≤ W21.heap.size := hb21.size
  have HNX0_W21 := Lib.hid (HNX0_W20.out.below hb21)
  have HNX1_W21 := Lib.hid (HNX1_W20.out.below hb21)
  have HRw_W21 := Lib.hid (HRw_W20.out.below hb21)
  have HQw_W21 := Lib.hid (HQw_W20.out.below hb21)
  have HNB5_W21 := Lib.hid (HNB5_W20.out.below hb21)
  have HNB7_W21 := Lib.hid (HNB7_W20.out.below hb21)
  have HNB9_W21 := Lib.hid (HNB9_W20.out.below hb21)
  have HMG_W21 := Lib.hid (HMG_W20.out.below hb21)
  have HRh_W21 := Lib.hid (HRh.out.below hb21)
  have HQh_W21 := Lib.hid (HQh.out.below hb21)
  clear hb21
  have HH := Lib.hid (heldPoly_any _ pl _ L 1 _ HMG_W21.out (by omega) (by omega))
  rw [hM] at HH
  have hp0 := HNB9_W21.out
  obtain ⟨_, c0_0, c0_1⟩ := hp0
  go_wp2_with fail
  refine (HH.out).mono ?_
  rintro e W22 ⟨rfl, hb22⟩
  clear c0_0 c0_1
  have HBW22 := Lib.hid (HBW21.out.trans (hb22.mono HBW21.out.size))
  have hsW22 : W21.heap.size ≤ W22.heap.size := hb22.size
  have HNX0_W22 := Lib.hid (HNX0_W21.out.below hb22)
  have HNX1_W22 := Lib.hid (HNX1_W21.out.below hb22)
  have HRw_W22 := Lib.hid (HRw_W21.out.below hb22)
  have HQw_W22 := Lib.hid (HQw_W21.out.below hb22)
  have HNB5_W22 := Lib.hid (HNB5_W21.out.below hb22)
  have HNB7_W22 := Lib.hid (HNB7_W21.out.below hb22)
  have HNB9_W22 := Lib.hid (HNB9_W21.out.below hb22)
  have HMG_W22 := Lib.hid (HMG_W21.out.below hb22)
  have HRh_W22 := Lib.hid (HRh_W21.out.below hb22)
  have HQh_W22 := Lib.hid (HQh_W21.out.below hb22)
  clear hb22
  clear HH
  go_wp2
  go_ret
  exact ⟨rfl, HBW22.out⟩

set_option maxRecDepth 100000 in
theorem lifted (os : Os) (started : os.Started) (H : Type) (enc : TypeId × Value → H) :
    ReturnsInHanded {} Try.checked os 20 .any (Rows.fnExactPolyOverSpec.pre6 enc Try.prog Try.f20 Rows.fnExactPolyOverRow.domain false) (Rows.fnExactPolyOverSpec.post enc Try.prog Try.f20 false true false false) := by
  refine returnsInHanded_of_change (C := Try.checked) own started (by kernel_rfl) Try.func20
    (ChangeSpec.witness6 (enc := enc) (C := Try.checked) false ⟨#[], #[.agg #[.int .i64 0, .slice none 0 0], .agg #[.int .i64 0, .slice none 0 0]], []⟩ 8 (by kernel_rfl) (by kernel_rfl) (by kernel_rfl) (by kernel_rfl)) ?_
  intro W base args ds gs before hval0 hW hcnd _
  have hval : ∀ (j : Nat) t v, Try.f20.params[j]? = some t → args[j]? = some v → Value.okWide Try.prog W .any base t v := hval0
  have hW' := hW
  obtain ⟨p, q, hA0, hV, rfl, hfz, hnd⟩ := hW
  have hA : DataW.TrodAll enc Try.prog W 0 (fun _ => true) true Try.f20.params.toList args.toList ds p := hA0
  rw [Try.params20] at hA hval
  obtain ⟨v0, vs0, d0, ds0, p0, q0, hargs, rfl, rfl, h0, r0⟩ := trodAll_cons hA
  obtain ⟨v1, vs1, d1, ds1, p1, q1, rfl, rfl, rfl, h1, r1⟩ := trodAll_cons r0
  obtain ⟨rfl, rfl, rfl⟩ := trodAll_nil r1
  obtain rfl : args = #[v0, v1] := by cases args; simp_all
  obtain ⟨rfl, rfl⟩ := trodVars_none hV
  obtain ⟨cs0, rfl, _⟩ := okWide_struct Try.underlying40 (hval 0 40 v0 rfl rfl)
  have k0 := h0
  have lt0 : ∀ x ∈ p0, x.block < W.heap.size := by obtain ⟨m, hm⟩ := k0; exact DataW.trod_lt m _ _ _ hm
  obtain ⟨low0, a0, len0, cap0, z0, rfl, b0, w0⟩ : ∃ (low : Int) (a : Option Addr) (len cap : Nat) (zs : List Int), cs0 = #[.int .i64 low, .slice a len cap] ∧ (-9223372036854775808 ≤ low ∧ low ≤ 9223372036854775807) ∧ Ints W a len zs := by
    obtain ⟨fuel, hf⟩ := h0
    exact poly_of hf
  obtain ⟨cs1, rfl, _⟩ := okWide_struct Try.underlying40 (hval 1 40 v1 rfl rfl)
  have k1 := h1
  have lt1 : ∀ x ∈ p1, x.block < W.heap.size := by obtain ⟨m, hm⟩ := k1; exact DataW.trod_lt m _ _ _ hm
  obtain ⟨low1, a1, len1, cap1, z1, rfl, b1, w1⟩ : ∃ (low : Int) (a : Option Addr) (len cap : Nat) (zs : List Int), cs1 = #[.int .i64 low, .slice a len cap] ∧ (-9223372036854775808 ≤ low ∧ low ≤ 9223372036854775807) ∧ Ints W a len zs := by
    obtain ⟨fuel, hf⟩ := h1
    exact poly_of hf
  clear hA0 hval0
  refine (walk low0 a0 len0 cap0 z0 low1 a1 len1 cap1 z1 W b0 w0 b1 w1).mono fun e W' ⟨he, bel⟩ => ?_
  subst he
  exact ⟨_, rfl, _, _, _, [], _, [], hW', trodAll_mk1 (shut_bool Try.underlying4 _), (trodAll_cons_mk (Below.trod laidOut (by kernel_rfl) (of_decide_eq_true (by kernel_rfl)) k0 bel lt0) (trodAll_cons_mk (Below.trod laidOut (by kernel_rfl) (of_decide_eq_true (by kernel_rfl)) k1 bel lt1) trodAll_mk0)), rfl, bel.frame _, fun h => by cases h⟩

theorem closed : joinedFacts Try.prog 20 Try.f20 Rows.fnExactPolyOverSpec Rows.fnExactPolyOverRow = true :=
  ((restOf Try.prog 20 Try.f20 Rows.fnExactPolyOverSpec Rows.fnExactPolyOverRow).2 enter_is lifts_is make_is).trans (by kernel_rfl)
theorem over : Rows.fnExactPolyOverRow.holds Try.pinned (OpenSpec.ofChange Rows.fnExactPolyOverSpec) :=
  OpenClaim.holds_of_wide 20 Try.f20 rfl rfl rfl rfl rfl rfl rfl ⟨rfl, rfl, rfl, rfl, rfl⟩ rfl rfl rfl rfl rfl (by kernel_rfl) Try.func20 closed
    (of_decide_eq_true (by kernel_rfl)) (by unfold Func.isWrapper; first | (rw [if_pos (by decide +kernel)]; kernel_rfl) | (rw [if_neg (by decide +kernel)]; exact ⟨rfl, rfl⟩))
    (fun os started H enc _ => lifted os started H enc)

theorem proved : Rows.FnExactPolyOverSaid := over
#print axioms proved
end Go.Proofs.Ytocklmiappppgaa.LPolyOver

/-
  Proves 'Rows.FnPolySharesSaid': for every list of bytes, the product of the first of the two polynomials that the model draws from it and the second one with 1 added is their product with the first one added.
  Conditions: none beyond the row's own.
-/
import Derived.Test.YtocklmiappppgaaRows
import Derived.WalkKit
import Derived.ProofKit
import Derived.OpenShut
import Derived.ShutString
import Derived.ChangeOld
import Derived.Below
import Derived.Test.YtocklmiappppgaaBa
import Derived.Test.YtocklmiappppgaaBb
import Derived.Test.YtocklmiappppgaaBc
import Derived.Test.YtocklmiappppgaaBd
import Derived.Test.YtocklmiappppgaaBe

namespace Go.Proofs.Ytocklmiappppgaa.LPolySharesP
open Go.ChangeShapes Go.WideShapes Go.ChangeAt Go.RowKit
open Go.ChangeMaps (open_string shut_string)
set_option linter.unusedVariables false

theorem own : ownKnob Try.prog.godebug = none := by kernel_rfl
theorem laidOut : laidOutB Try.prog = true := by kernel_rfl

set_option maxRecDepth 100000 in
set_option maxHeartbeats 4000000 in
theorem walk (a0 : Option Addr) (len0 cap0 : Nat) (z0 : List Int) (w : World) (w0 : BsAt w.heap.size w a0 len0 cap0 z0) :
    Calls Try.prog 7 #[.slice a0 len0 cap0] w fun e w' => e = .returned (.bool true) ∧ Below w.heap.size w w' := by
  have HDr := Lib.hid (drawPolyTimes_any a0 len0 cap0 z0 w w0)
  have hfit := w0.fit
  unfold maxLen at hfit
  clear w0
  by_cases hlong : ¬ len0 ≤ 1048576
  · have hd : decide ((1048576 : Int) < (len0 : Int)) = true := decide_eq_true (by omega)
    go_enter Try.func7, Try.ntmps7
    go_wp2_with fail
    go_ret
    exact ⟨rfl, Below.refl _ _⟩
  have hd : decide ((1048576 : Int) < (len0 : Int)) = false := decide_eq_false (by omega)
  go_enter Try.func7, Try.ntmps7
  go_wp2_with fail
  refine HDr.out.mono ?_
  rintro e w1 ⟨⟨l1, v1, x, l2, v2, y, rfl, hS1, hS2⟩, hb1⟩
  obtain ⟨a1, c1, rfl, hp1⟩ := hS1.pin
  obtain ⟨a2, c2, rfl, hp2⟩ := hS2.pin
  obtain ⟨m1, hm1⟩ : ∃ m, x.length = m := ⟨_, rfl⟩
  obtain ⟨m2, hm2⟩ : ∃ m, y.length = m := ⟨_, rfl⟩
  rw [hm1] at hp1 ⊢
  rw [hm2] at hp2 ⊢
  have HX := Lib.hid hp1
  have HY := Lib.hid hp2
  have HM1 := Lib.hid hm1
  have HM2 := Lib.hid hm2
  clear hp1 hp2 hm1 hm2 hS1 hS2
  obtain ⟨b, hb⟩ : ∃ b, timesPB ⟨l1, x⟩ ⟨l2, y⟩ = b := ⟨_, rfl⟩
  obtain ⟨P, hP⟩ : ∃ P, timesP ⟨l1, x⟩ ⟨l2, y⟩ = P := ⟨_, rfl⟩
  obtain ⟨pl, pc⟩ := P
  obtain ⟨k, hk⟩ : ∃ k, pc.length = k := ⟨_, rfl⟩
  have HS := Lib.hid hb
  have HP := Lib.hid hP
  have HK := Lib.hid hk
  have hbb : (b != b) = false := by cases b <;> rfl
  clear hb hP hk
  have HB1 := Lib.hid hb1
  clear hb1
  obtain ⟨V_a, hV_a⟩ : ∃ V, w1.alloc (.cells #[.int .i64 l1, .slice a1 m1 c1] 25) = V := ⟨_, rfl⟩
  have hbV_a : Below w1.heap.size w1 V_a := by rw [← hV_a]; exact (Below.refl _ _).alloc (Nat.le_refl _) _
  have HXV_a := Lib.hid (BoxF.new hV_a)
  have HX := Lib.hid (HX.out.below hbV_a)
  have HY := Lib.hid (HY.out.below hbV_a)
  have HBV_a := Lib.hid (HB1.out.trans (hbV_a.mono HB1.out.size))
  have EV_a := Lib.hid hV_a
  have hsV_a : V_a.heap.size = w1.heap.size + 1 := by rw [← hV_a]; simp
  have HSV_a := Lib.hid hsV_a
  clear hV_a hbV_a hsV_a
  obtain ⟨V_b, hV_b⟩ : ∃ V, V_a.alloc (.cells #[.int .i64 l2, .slice a2 m2 c2] 25) = V := ⟨_, rfl⟩
  have hbV_b : Below V_a.heap.size V_a V_b := by rw [← hV_b]; exact (Below.refl _ _).alloc (Nat.le_refl _) _
  have HXV_b := Lib.hid (BoxF.new hV_b)
  have HX := Lib.hid (HX.out.below hbV_b)
  have HY := Lib.hid (HY.out.below hbV_b)
  have HXV_a := Lib.hid (HXV_a.out.below hbV_b)
  have HBV_b := Lib.hid (HBV_a.out.trans (hbV_b.mono HBV_a.out.size))
  have EV_b := Lib.hid hV_b
  have hsV_b : V_b.heap.size = V_a.heap.size + 1 := by rw [← hV_b]; simp
  have HSV_b := Lib.hid hsV_b
  clear hV_b hbV_b hsV_b
  have HXV_b' := HXV_b.out
  rw [HSV_a.out] at HXV_b'
  have HXV_b := Lib.hid HXV_b'
  clear HXV_b'
  have hp0 := HXV_a.out
  obtain ⟨_, c0_0, c0_1, _, _⟩ := hp0
  rw [← EV_b.out, ← EV_a.out] at c0_0 c0_1
  have hp1 := HXV_b.out
  obtain ⟨_, c1_0, c1_1, _, _⟩ := hp1
  rw [← EV_b.out, ← EV_a.out] at c1_0 c1_1
  go_wp2_with fail
  rw [EV_a.out, EV_b.out]
  clear c0_0 c0_1 c1_0 c1_1
  refine (iPolyTimes_t HX.out HY.out HS.out HP.out HK.out).mono ?_
  rintro e w2 ⟨⟨a2, c2, rfl, h2⟩, hb2⟩
  have HX := Lib.hid (HX.out.below hb2)
  have HY := Lib.hid (HY.out.below hb2)
  have HXV_a := Lib.hid (HXV_a.out.below hb2)
  have HXV_b := Lib.hid (HXV_b.out.below hb2)
  have HB2 := Lib.hid (HBV_b.out.trans (hb2.mono HBV_b.out.size))
  have HO := Lib.hid h2
  clear h2 hb2
  obtain ⟨V_o, hV_o⟩ : ∃ V, w2.alloc (.cells #[.int .i64 pl, .slice a2 k c2] 25) = V := ⟨_, rfl⟩
  have hbV_o : Below w2.heap.size w2 V_o := by rw [← hV_o]; exact (Below.refl _ _).alloc (Nat.le_refl _) _
  have HXV_o := Lib.hid (BoxF.new hV_o)
  have HX := Lib.hid (HX.out.below hbV_o)
  have HY := Lib.hid (HY.out.below hbV_o)
  have HO := Lib.hid (HO.out.below hbV_o)
  have HXV_a := Lib.hid (HXV_a.out.below hbV_o)
  have HXV_b := Lib.hid (HXV_b.out.below hbV_o)
  have HBV_o := Lib.hid (HB2.out.trans (hbV_o.mono HB2.out.size))
  have EV_o := Lib.hid hV_o
  have hsV_o : V_o.heap.size = w2.heap.size + 1 := by rw [← hV_o]; simp
  have HSV_o := Lib.hid hsV_o
  clear hV_o hbV_o hsV_o
  have hp0 := HXV_a.out
  obtain ⟨_, c0_0, c0_1, _, _⟩ := hp0
  rw [← EV_o.out] at c0_0 c0_1
  have hp1 := HXV_b.out
  obtain ⟨_, c1_0, c1_1, _, _⟩ := hp1
  rw [← EV_o.out] at c1_0 c1_1
  go_wp2_with fail
  rw [EV_o.out]
  clear c0_0 c0_1 c1_0 c1_1
  refine (sPolyTimes_t HX.out HY.out HS.out HP.out HK.out).mono ?_
  rintro e w3 ⟨⟨a3, c3, rfl, h3⟩, hb3⟩
  have HX := Lib.hid (HX.out.below hb3)
  have HY := Lib.hid (HY.out.below hb3)
  have HO := Lib.hid (HO.out.below hb3)
  have HXV_a := Lib.hid (HXV_a.out.below hb3)
  have HXV_b := Lib.hid (HXV_b.out.below hb3)
  have HXV_o := Lib.hid (HXV_o.out.below hb3)
  have HB3 := Lib.hid (HBV_o.out.trans (hb3.mono HBV_o.out.size))
  have HW := Lib.hid h3
  clear h3 hb3
  obtain ⟨V_w, hV_w⟩ : ∃ V, w3.alloc (.cells #[.int .i64 pl, .slice a3 k c3] 25) = V := ⟨_, rfl⟩
  have hbV_w : Below w3.heap.size w3 V_w := by rw [← hV_w]; exact (Below.refl _ _).alloc (Nat.le_refl _) _
  have HXV_w := Lib.hid (BoxF.new hV_w)
  have HX := Lib.hid (HX.out.below hbV_w)
  have HY := Lib.hid (HY.out.below hbV_w)
  have HO := Lib.hid (HO.out.below hbV_w)
  have HW := Lib.hid (HW.out.below hbV_w)
  have HXV_a := Lib.hid (HXV_a.out.below hbV_w)
  have HXV_b := Lib.hid (HXV_b.out.below hbV_w)
  have HXV_o := Lib.hid (HXV_o.out.below hbV_w)
  have HBV_w := Lib.hid (HB3.out.trans (hbV_w.mono HB3.out.size))
  have EV_w := Lib.hid hV_w
  have hsV_w : V_w.heap.size = w3.heap.size + 1 := by rw [← hV_w]; simp
  have HSV_w := Lib.hid hsV_w
  clear hV_w hbV_w hsV_w
  have hp0 := HXV_o.out
  obtain ⟨_, c0_0, c0_1, _, _⟩ := hp0
  rw [← EV_w.out] at c0_0 c0_1
  have hp1 := HXV_w.out
  obtain ⟨_, c1_0, c1_1, _, _⟩ := hp1
  rw [← EV_w.out] at c1_0 c1_1
  go_wp2_with fail
  rw [EV_w.out]
  clear c0_0 c0_1 c1_0 c1_1
  refine (samePoly_t HO.out HW.out).mono ?_
  rintro e w4 ⟨rfl, hb4⟩
  have HX := Lib.hid (HX.out.below hb4)
  have HY := Lib.hid (HY.out.below hb4)
  have HO := Lib.hid (HO.out.below hb4)
  have HW := Lib.hid (HW.out.below hb4)
  have HXV_a := Lib.hid (HXV_a.out.below hb4)
  have HXV_b := Lib.hid (HXV_b.out.below hb4)
  have HXV_o := Lib.hid (HXV_o.out.below hb4)
  have HXV_w := Lib.hid (HXV_w.out.below hb4)
  have HB4 := Lib.hid (HBV_w.out.trans (hb4.mono HBV_w.out.size))
  clear hb4
  cases b with
  | false =>
    have hp0 := HXV_o.out
    obtain ⟨_, c0_0, c0_1, _, _⟩ := hp0
    have hp1 := HXV_w.out
    obtain ⟨_, c1_0, c1_1, _, _⟩ := hp1
    go_wp2_with fail
    clear c0_0 c0_1 c1_0 c1_1
    refine (samePoly_t HO.out HW.out).mono ?_
    rintro e w5 ⟨rfl, hb5⟩
    have HX := Lib.hid (HX.out.below hb5)
    have HY := Lib.hid (HY.out.below hb5)
    have HO := Lib.hid (HO.out.below hb5)
    have HW := Lib.hid (HW.out.below hb5)
    have HXV_a := Lib.hid (HXV_a.out.below hb5)
    have HXV_b := Lib.hid (HXV_b.out.below hb5)
    have HXV_o := Lib.hid (HXV_o.out.below hb5)
    have HXV_w := Lib.hid (HXV_w.out.below hb5)
    have HB5 := Lib.hid (HB4.out.trans (hb5.mono HB4.out.size))
    clear hb5
    go_wp2
    go_ret
    exact ⟨rfl, HB5.out⟩
  | true =>
    obtain ⟨bp, h1⟩ : ∃ b, addPB ⟨l2, y⟩ ⟨0, [1]⟩ = b := ⟨_, rfl⟩
    obtain ⟨Q, h2⟩ : ∃ P, addP ⟨l2, y⟩ ⟨0, [1]⟩ = P := ⟨_, rfl⟩
    obtain ⟨ml, mc⟩ := Q
    obtain ⟨km, h3⟩ : ∃ k, mc.length = k := ⟨_, rfl⟩
    have Fbp := Lib.hid h1
    have Gbp := Lib.hid h2
    have Kbp := Lib.hid h3
    clear h1 h2 h3
    have hp0 := HXV_b.out
    obtain ⟨_, c0_0, c0_1, _, _⟩ := hp0
    obtain ⟨V_lit, hV_lit⟩ : ∃ V, w4.alloc (.cells #[.int .i64 1] 3) = V := ⟨_, rfl⟩
    have hbV_lit : Below w4.heap.size w4 V_lit := by rw [← hV_lit]; exact (Below.refl _ _).alloc (Nat.le_refl _) _
    have HLI : Hid (PIn V_lit (some ⟨w4.heap.size, 0, none⟩) 1 1 [1]) := Lib.hid ⟨by rw [← hV_lit]; exact (OneI.new w4 1).ints (by omega), Nat.le_refl _⟩
    have HX := Lib.hid (HX.out.below hbV_lit)
    have HY := Lib.hid (HY.out.below hbV_lit)
    have HO := Lib.hid (HO.out.below hbV_lit)
    have HW := Lib.hid (HW.out.below hbV_lit)
    have HXV_a := Lib.hid (HXV_a.out.below hbV_lit)
    have HXV_b := Lib.hid (HXV_b.out.below hbV_lit)
    have HXV_o := Lib.hid (HXV_o.out.below hbV_lit)
    have HXV_w := Lib.hid (HXV_w.out.below hbV_lit)
    have HBV_lit := Lib.hid (HB4.out.trans (hbV_lit.mono HB4.out.size))
    have EV_lit := Lib.hid hV_lit
    clear hV_lit hbV_lit
    go_wp2_with fail
    rw [EV_lit.out]
    clear c0_0 c0_1
    refine (iPolyAdd_t HY.out HLI.out Fbp.out Gbp.out Kbp.out).mono ?_
    rintro e w5 ⟨⟨a5, c5, rfl, h5⟩, hb5⟩
    have HX := Lib.hid (HX.out.below hb5)
    have HY := Lib.hid (HY.out.below hb5)
    have HO := Lib.hid (HO.out.below hb5)
    have HW := Lib.hid (HW.out.below hb5)
    have HXV_a := Lib.hid (HXV_a.out.below hb5)
    have HXV_b := Lib.hid (HXV_b.out.below hb5)
    have HXV_o := Lib.hid (HXV_o.out.below hb5)
    have HXV_w := Lib.hid (HXV_w.out.below hb5)
    have HB5 := Lib.hid (HBV_lit.out.trans (hb5.mono HBV_lit.out.size))
    have HMM := Lib.hid h5
    clear h5 hb5 HLI
    obtain ⟨V_m, hV_m⟩ : ∃ V, w5.alloc (.cells #[.int .i64 ml, .slice a5 km c5] 25) = V := ⟨_, rfl⟩
    have hbV_m : Below w5.heap.size w5 V_m := by rw [← hV_m]; exact (Below.refl _ _).alloc (Nat.le_refl _) _
    have HXV_m := Lib.hid (BoxF.new hV_m)
    have HX := Lib.hid (HX.out.below hbV_m)
    have HY := Lib.hid (HY.out.below hbV_m)
    have HO := Lib.hid (HO.out.below hbV_m)
    have HW := Lib.hid (HW.out.below hbV_m)
    have HMM := Lib.hid (HMM.out.below hbV_m)
    have HXV_a := Lib.hid (HXV_a.out.below hbV_m)
    have HXV_b := Lib.hid (HXV_b.out.below hbV_m)
    have HXV_o := Lib.hid (HXV_o.out.below hbV_m)
    have HXV_w := Lib.hid (HXV_w.out.below hbV_m)
    have HBV_m := Lib.hid (HB5.out.trans (hbV_m.mono HB5.out.size))
    have EV_m := Lib.hid hV_m
    have hsV_m : V_m.heap.size = w5.heap.size + 1 := by rw [← hV_m]; simp
    have HSV_m := Lib.hid hsV_m
    clear hV_m hbV_m hsV_m
    obtain ⟨bq, h1⟩ : ∃ b, timesPB ⟨l1, x⟩ ⟨ml, mc⟩ = b := ⟨_, rfl⟩
    obtain ⟨Q, h2⟩ : ∃ P, timesP ⟨l1, x⟩ ⟨ml, mc⟩ = P := ⟨_, rfl⟩
    obtain ⟨xl, xc⟩ := Q
    obtain ⟨kx, h3⟩ : ∃ k, xc.length = k := ⟨_, rfl⟩
    have Fbq := Lib.hid h1
    have Gbq := Lib.hid h2
    have Kbq := Lib.hid h3
    clear h1 h2 h3
    have hp0 := HXV_a.out
    obtain ⟨_, c0_0, c0_1, _, _⟩ := hp0
    rw [← EV_m.out] at c0_0 c0_1
    have hp1 := HXV_m.out
    obtain ⟨_, c1_0, c1_1, _, _⟩ := hp1
    rw [← EV_m.out] at c1_0 c1_1
    go_wp2_with fail
    rw [EV_m.out]
    clear c0_0 c0_1 c1_0 c1_1
    refine (iPolyTimes_t HX.out HMM.out Fbq.out Gbq.out Kbq.out).mono ?_
    rintro e w6 ⟨⟨a6, c6, rfl, h6⟩, hb6⟩
    have HX := Lib.hid (HX.out.below hb6)
    have HY := Lib.hid (HY.out.below hb6)
    have HO := Lib.hid (HO.out.below hb6)
    have HW := Lib.hid (HW.out.below hb6)
    have HMM := Lib.hid (HMM.out.below hb6)
    have HXV_a := Lib.hid (HXV_a.out.below hb6)
    have HXV_b := Lib.hid (HXV_b.out.below hb6)
    have HXV_o := Lib.hid (HXV_o.out.below hb6)
    have HXV_w := Lib.hid (HXV_w.out.below hb6)
    have HXV_m := Lib.hid (HXV_m.out.below hb6)
    have HB6 := Lib.hid (HBV_m.out.trans (hb6.mono HBV_m.out.size))
    have HT := Lib.hid h6
    clear h6 hb6
    obtain ⟨V_x, hV_x⟩ : ∃ V, w6.alloc (.cells #[.int .i64 xl, .slice a6 kx c6] 25) = V := ⟨_, rfl⟩
    have hbV_x : Below w6.heap.size w6 V_x := by rw [← hV_x]; exact (Below.refl _ _).alloc (Nat.le_refl _) _
    have HXV_x := Lib.hid (BoxF.new hV_x)
    have HX := Lib.hid (HX.out.below hbV_x)
    have HY := Lib.hid (HY.out.below hbV_x)
    have HO := Lib.hid (HO.out.below hbV_x)
    have HW := Lib.hid (HW.out.below hbV_x)
    have HMM := Lib.hid (HMM.out.below hbV_x)
    have HT := Lib.hid (HT.out.below hbV_x)
    have HXV_a := Lib.hid (HXV_a.out.below hbV_x)
    have HXV_b := Lib.hid (HXV_b.out.below hbV_x)
    have HXV_o := Lib.hid (HXV_o.out.below hbV_x)
    have HXV_w := Lib.hid (HXV_w.out.below hbV_x)
    have HXV_m := Lib.hid (HXV_m.out.below hbV_x)
    have HBV_x := Lib.hid (HB6.out.trans (hbV_x.mono HB6.out.size))
    have EV_x := Lib.hid hV_x
    have hsV_x : V_x.heap.size = w6.heap.size + 1 := by rw [← hV_x]; simp
    have HSV_x := Lib.hid hsV_x
    clear hV_x hbV_x hsV_x
    obtain ⟨br, h1⟩ : ∃ b, addPB ⟨pl, pc⟩ ⟨l1, x⟩ = b := ⟨_, rfl⟩
    obtain ⟨Q, h2⟩ : ∃ P, addP ⟨pl, pc⟩ ⟨l1, x⟩ = P := ⟨_, rfl⟩
    obtain ⟨yl, yc⟩ := Q
    obtain ⟨ky, h3⟩ : ∃ k, yc.length = k := ⟨_, rfl⟩
    have Fbr := Lib.hid h1
    have Gbr := Lib.hid h2
    have Kbr := Lib.hid h3
    clear h1 h2 h3
    have hp0 := HXV_o.out
    obtain ⟨_, c0_0, c0_1, _, _⟩ := hp0
    rw [← EV_x.out] at c0_0 c0_1
    have hp1 := HXV_a.out
    obtain ⟨_, c1_0, c1_1, _, _⟩ := hp1
    rw [← EV_x.out] at c1_0 c1_1
    go_wp2_with fail
    rw [EV_x.out]
    clear c0_0 c0_1 c1_0 c1_1
    refine (iPolyAdd_t HO.out HX.out Fbr.out Gbr.out Kbr.out).mono ?_
    rintro e w7 ⟨⟨a7, c7, rfl, h7⟩, hb7⟩
    have HX := Lib.hid (HX.out.below hb7)
    have HY := Lib.hid (HY.out.below hb7)
    have HO := Lib.hid (HO.out.below hb7)
    have HW := Lib.hid (HW.out.below hb7)
    have HMM := Lib.hid (HMM.out.below hb7)
    have HT := Lib.hid (HT.out.below hb7)
    have HXV_a := Lib.hid (HXV_a.out.below hb7)
    have HXV_b := Lib.hid (HXV_b.out.below hb7)
    have HXV_o := Lib.hid (HXV_o.out.below hb7)
    have HXV_w := Lib.hid (HXV_w.out.below hb7)
    have HXV_m := Lib.hid (HXV_m.out.below hb7)
    have HXV_x := Lib.hid (HXV_x.out.below hb7)
    have HB7 := Lib.hid (HBV_x.out.trans (hb7.mono HBV_x.out.size))
    have HU := Lib.hid h7
    clear h7 hb7
    obtain ⟨V_y, hV_y⟩ : ∃ V, w7.alloc (.cells #[.int .i64 yl, .slice a7 ky c7] 25) = V := ⟨_, rfl⟩
    have hbV_y : Below w7.heap.size w7 V_y := by rw [← hV_y]; exact (Below.refl _ _).alloc (Nat.le_refl _) _
    have HXV_y := Lib.hid (BoxF.new hV_y)
    have HX := Lib.hid (HX.out.below hbV_y)
    have HY := Lib.hid (HY.out.below hbV_y)
    have HO := Lib.hid (HO.out.below hbV_y)
    have HW := Lib.hid (HW.out.below hbV_y)
    have HMM := Lib.hid (HMM.out.below hbV_y)
    have HT := Lib.hid (HT.out.below hbV_y)
    have HU := Lib.hid (HU.out.below hbV_y)
    have HXV_a := Lib.hid (HXV_a.out.below hbV_y)
    have HXV_b := Lib.hid (HXV_b.out.below hbV_y)
    have HXV_o := Lib.hid (HXV_o.out.below hbV_y)
    have HXV_w := Lib.hid (HXV_w.out.below hbV_y)
    have HXV_m := Lib.hid (HXV_m.out.below hbV_y)
    have HXV_x := Lib.hid (HXV_x.out.below hbV_y)
    have HBV_y := Lib.hid (HB7.out.trans (hbV_y.mono HB7.out.size))
    have EV_y := Lib.hid hV_y
    have hsV_y : V_y.heap.size = w7.heap.size + 1 := by rw [← hV_y]; simp
    have HSV_y := Lib.hid hsV_y
    clear hV_y hbV_y hsV_y
    cases bp with
    | false =>
      go_wp2
      go_ret
      rw [EV_y.out]
      exact ⟨rfl, HBV_y.out⟩
    | true =>
      cases bq with
      | false =>
        go_wp2
        go_ret
        rw [EV_y.out]
        exact ⟨rfl, HBV_y.out⟩
      | true =>
        cases br with
        | false =>
          go_wp2
          go_ret
          rw [EV_y.out]
          exact ⟨rfl, HBV_y.out⟩
        | true =>
          have hsame := shares_all (y := ⟨yl, yc⟩) HS.out Fbp.out Gbp.out Fbq.out Gbq.out (by rw [HP.out]; exact Fbr.out) (by rw [HP.out]; exact Gbr.out)
          obtain ⟨rfl, rfl⟩ : xl = yl ∧ xc = yc := by simpa using hsame
          obtain rfl : kx = ky := Kbq.out.symm.trans Kbr.out
          clear hsame
          have hp0 := HXV_x.out
          obtain ⟨_, c0_0, c0_1, _, _⟩ := hp0
          rw [← EV_y.out] at c0_0 c0_1
          have hp1 := HXV_y.out
          obtain ⟨_, c1_0, c1_1, _, _⟩ := hp1
          rw [← EV_y.out] at c1_0 c1_1
          go_wp2_with fail
          rw [EV_y.out]
          clear c0_0 c0_1 c1_0 c1_1
          refine (samePoly_t HT.out HU.out).mono ?_
          rintro e w8 ⟨rfl, hb8⟩
          have HX := Lib.hid (HX.out.below hb8)
          have HY := Lib.hid (HY.out.below hb8)
          have HO := Lib.hid (HO.out.below hb8)
          have HW := Lib.hid (HW.out.below hb8)
          have HMM := Lib.hid (HMM.out.below hb8)
          have HT := Lib.hid (HT.out.below hb8)
          have HU := Lib.hid (HU.out.below hb8)
          have HXV_a := Lib.hid (HXV_a.out.below hb8)
          have HXV_b := Lib.hid (HXV_b.out.below hb8)
          have HXV_o := Lib.hid (HXV_o.out.below hb8)
          have HXV_w := Lib.hid (HXV_w.out.below hb8)
          have HXV_m := Lib.hid (HXV_m.out.below hb8)
          have HXV_x := Lib.hid (HXV_x.out.below hb8)
          have HXV_y := Lib.hid (HXV_y.out.below hb8)
          have HB8 := Lib.hid (HBV_y.out.trans (hb8.mono HBV_y.out.size))
          clear hb8
          go_wp2
          go_ret
          exact ⟨rfl, HB8.out⟩

set_option maxRecDepth 100000 in
theorem lifted (os : Os) (started : os.Started) (H : Type) (enc : TypeId × Value → H) :
    ReturnsInHanded {} Try.checked os 7 .any (Rows.fnPolySharesSpec.pre6 enc Try.prog Try.f7 Rows.fnPolySharesRow.domain false) (Rows.fnPolySharesSpec.post enc Try.prog Try.f7 false true false false) := by
  refine returnsInHanded_of_change (C := Try.checked) own started (by kernel_rfl) Try.func7
    (ChangeSpec.witness6 (enc := enc) (C := Try.checked) false ⟨#[], #[.slice none 0 0], []⟩ 8 (by kernel_rfl) (by kernel_rfl) (by kernel_rfl) (by kernel_rfl)) ?_
  intro W base args ds gs before hval0 hW hcnd _
  have hval : ∀ (j : Nat) t v, Try.f7.params[j]? = some t → args[j]? = some v → Value.okWide Try.prog W .any base t v := hval0
  have hW' := hW
  obtain ⟨p, q, hA0, hV, rfl, hfz, hnd⟩ := hW
  have hA : DataW.TrodAll enc Try.prog W 0 (fun _ => true) true Try.f7.params.toList args.toList ds p := hA0
  rw [Try.params7] at hA hval
  obtain ⟨v0, vs0, d0, ds0, p0, q0, hargs, rfl, rfl, h0, r0⟩ := trodAll_cons hA
  obtain ⟨rfl, rfl, rfl⟩ := trodAll_nil r0
  obtain rfl : args = #[v0] := by cases args; simp_all
  obtain ⟨rfl, rfl⟩ := trodVars_none hV
  obtain ⟨a0, len0, cap0, rfl⟩ := okWide_slice Try.underlying22 (hval 0 22 v0 rfl rfl)
  have k0 := h0
  have lt0 : ∀ x ∈ p0, x.block < W.heap.size := by obtain ⟨m, hm⟩ := k0; exact DataW.trod_lt m _ _ _ hm
  obtain ⟨z0, w0⟩ : ∃ zs, BsAt W.heap.size W a0 len0 cap0 zs := by
    obtain ⟨fuel, hf⟩ := h0
    exact bs_of hf
  clear hA0 hval0
  refine (walk a0 len0 cap0 z0 W w0).mono fun e W' ⟨he, bel⟩ => ?_
  subst he
  exact ⟨_, rfl, _, _, _, [], _, [], hW', trodAll_mk1 (shut_bool Try.underlying4 _), (trodAll_cons_mk (Below.trod laidOut (by kernel_rfl) (of_decide_eq_true (by kernel_rfl)) k0 bel lt0) trodAll_mk0), rfl, bel.frame _, fun h => by cases h⟩

theorem closed : joinedFacts Try.prog 7 Try.f7 Rows.fnPolySharesSpec Rows.fnPolySharesRow = true :=
  ((restOf Try.prog 7 Try.f7 Rows.fnPolySharesSpec Rows.fnPolySharesRow).2 enter_is lifts_is make_is).trans (by kernel_rfl)
theorem over : Rows.fnPolySharesRow.holds Try.pinned (OpenSpec.ofChange Rows.fnPolySharesSpec) :=
  OpenClaim.holds_of_wide 7 Try.f7 rfl rfl rfl rfl rfl rfl rfl ⟨rfl, rfl, rfl, rfl, rfl⟩ rfl rfl rfl rfl rfl (by kernel_rfl) Try.func7 closed
    (of_decide_eq_true (by kernel_rfl)) (by unfold Func.isWrapper; first | (rw [if_pos (by decide +kernel)]; kernel_rfl) | (rw [if_neg (by decide +kernel)]; exact ⟨rfl, rfl⟩))
    (fun os started H enc _ => lifted os started H enc)

theorem proved : Rows.FnPolySharesSaid := over
#print axioms proved
end Go.Proofs.Ytocklmiappppgaa.LPolySharesP

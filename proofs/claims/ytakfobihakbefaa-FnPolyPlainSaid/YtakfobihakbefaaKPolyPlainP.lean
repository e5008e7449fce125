/-
  Proves 'Rows.FnPolyPlainSaid': for every list of bytes, the plain polynomial of the one that the model draws from it is plain, its own plain one, and alike to it.
  Conditions: none beyond the row's own.
-/
import Derived.Test.YtakfobihakbefaaRows
import Derived.WalkKit
import Derived.ProofKit
import Derived.OpenShut
import Derived.ShutString
import Derived.ChangeOld
import Derived.Below
import Derived.Test.YtakfobihakbefaaBa
import Derived.Test.YtakfobihakbefaaBb
import Derived.Test.YtakfobihakbefaaBc
import Derived.Test.YtakfobihakbefaaBd

namespace Go.Proofs.Ytakfobihakbefaa.LPolyPlainP
open Go.ChangeShapes Go.WideShapes Go.ChangeAt Go.RowKit
open Go.ChangeMaps (open_string shut_string)
set_option linter.unusedVariables false

theorem own : ownKnob Try.prog.godebug = none := by kernel_rfl
theorem laidOut : laidOutB Try.prog = true := by kernel_rfl

set_option maxRecDepth 100000 in
set_option maxHeartbeats 4000000 in
theorem walk (a0 : Option Addr) (len0 cap0 : Nat) (z0 : List Int) (w : World) (w0 : BsAt w.heap.size w a0 len0 cap0 z0) :
    Calls Try.prog 3 #[.slice a0 len0 cap0] w fun e w' => e = .returned (.bool true) ∧ Below w.heap.size w w' := by
  have HDr := Lib.hid (drawPolyPlain_any a0 len0 cap0 z0 w w0)
  have hfit := w0.fit
  unfold maxLen at hfit
  clear w0
  by_cases hlong : ¬ len0 ≤ 1048576
  · have hd : decide ((1048576 : Int) < (len0 : Int)) = true := decide_eq_true (by omega)
    go_enter Try.func3, Try.ntmps3
    go_wp2_with fail
    go_ret
    exact ⟨rfl, Below.refl _ _⟩
  have hd : decide ((1048576 : Int) < (len0 : Int)) = false := decide_eq_false (by omega)
  go_enter Try.func3, Try.ntmps3
  go_wp2_with fail
  refine HDr.out.mono ?_
  rintro e w1 ⟨⟨l1, v1, x, rfl, hS1⟩, hb1⟩
  obtain ⟨a1, c1, rfl, hp1⟩ := hS1.pin
  obtain ⟨m1, hm1⟩ : ∃ m, x.length = m := ⟨_, rfl⟩
  rw [hm1] at hp1 ⊢
  have HX := Lib.hid hp1
  have HM1 := Lib.hid hm1
  clear hp1 hm1 hS1
  obtain ⟨b, hb⟩ : ∃ b, polyB ⟨l1, x⟩ = b := ⟨_, rfl⟩
  obtain ⟨P, hP⟩ : ∃ P, plainedP ⟨l1, x⟩ = P := ⟨_, rfl⟩
  obtain ⟨pl, pc⟩ := P
  obtain ⟨k, hk⟩ : ∃ k, pc.length = k := ⟨_, rfl⟩
  have HS := Lib.hid hb
  have HP := Lib.hid hP
  have HK := Lib.hid hk
  have hbb : (b != b) = false := by cases b <;> rfl
  clear hb hP hk
  have HB1 := Lib.hid hb1
  clear hb1
  obtain ⟨V_a, hV_a⟩ : ∃ V, w1.alloc (.cells #[.int .i64 l1, .slice a1 m1 c1] 25) = V := ⟨_, rfl⟩
  have hbV_a : Below w1.heap.size w1 V_a := by rw [← hV_a]; exact (Below.refl _ _).alloc (Nat.le_refl _) _
  have HXV_a := Lib.hid (BoxF.new hV_a)
  have HX := Lib.hid (HX.out.below hbV_a)
  have HBV_a := Lib.hid (HB1.out.trans (hbV_a.mono HB1.out.size))
  have EV_a := Lib.hid hV_a
  have hsV_a : V_a.heap.size = w1.heap.size + 1 := by rw [← hV_a]; simp
  have HSV_a := Lib.hid hsV_a
  clear hV_a hbV_a hsV_a
  have hp0 := HXV_a.out
  obtain ⟨_, c0_0, c0_1, _, _⟩ := hp0
  rw [← EV_a.out] at c0_0 c0_1
  go_wp2_with fail
  rw [EV_a.out]
  clear c0_0 c0_1
  refine (iPolyPlain_t HX.out HS.out HP.out HK.out).mono ?_
  rintro e w2 ⟨⟨a2, c2, rfl, h2⟩, hb2⟩
  have HX := Lib.hid (HX.out.below hb2)
  have HXV_a := Lib.hid (HXV_a.out.below hb2)
  have HB2 := Lib.hid (HBV_a.out.trans (hb2.mono HBV_a.out.size))
  have HO := Lib.hid h2
  clear h2 hb2
  obtain ⟨V_o, hV_o⟩ : ∃ V, w2.alloc (.cells #[.int .i64 pl, .slice a2 k c2] 25) = V := ⟨_, rfl⟩
  have hbV_o : Below w2.heap.size w2 V_o := by rw [← hV_o]; exact (Below.refl _ _).alloc (Nat.le_refl _) _
  have HXV_o := Lib.hid (BoxF.new hV_o)
  have HX := Lib.hid (HX.out.below hbV_o)
  have HO := Lib.hid (HO.out.below hbV_o)
  have HXV_a := Lib.hid (HXV_a.out.below hbV_o)
  have HBV_o := Lib.hid (HB2.out.trans (hbV_o.mono HB2.out.size))
  have EV_o := Lib.hid hV_o
  have hsV_o : V_o.heap.size = w2.heap.size + 1 := by rw [← hV_o]; simp
  have HSV_o := Lib.hid hsV_o
  clear hV_o hbV_o hsV_o
  have hp0 := HXV_a.out
  obtain ⟨_, c0_0, c0_1, _, _⟩ := hp0
  rw [← EV_o.out] at c0_0 c0_1
  go_wp2_with fail
  rw [EV_o.out]
  clear c0_0 c0_1
  refine (sPolyPlain_t HX.out HS.out HP.out HK.out).mono ?_
  rintro e w3 ⟨⟨a3, c3, rfl, h3⟩, hb3⟩
  have HX := Lib.hid (HX.out.below hb3)
  have HO := Lib.hid (HO.out.below hb3)
  have HXV_a := Lib.hid (HXV_a.out.below hb3)
  have HXV_o := Lib.hid (HXV_o.out.below hb3)
  have HB3 := Lib.hid (HBV_o.out.trans (hb3.mono HBV_o.out.size))
  have HW := Lib.hid h3
  clear h3 hb3
  obtain ⟨V_w, hV_w⟩ : ∃ V, w3.alloc (.cells #[.int .i64 pl, .slice a3 k c3] 25) = V := ⟨_, rfl⟩
  have hbV_w : Below w3.heap.size w3 V_w := by rw [← hV_w]; exact (Below.refl _ _).alloc (Nat.le_refl _) _
  have HXV_w := Lib.hid (BoxF.new hV_w)
  have HX := Lib.hid (HX.out.below hbV_w)
  have HO := Lib.hid (HO.out.below hbV_w)
  have HW := Lib.hid (HW.out.below hbV_w)
  have HXV_a := Lib.hid (HXV_a.out.below hbV_w)
  have HXV_o := Lib.hid (HXV_o.out.below hbV_w)
  have HBV_w := Lib.hid (HB3.out.trans (hbV_w.mono HB3.out.size))
  have EV_w := Lib.hid hV_w
  have hsV_w : V_w.heap.size = w3.heap.size + 1 := by rw [← hV_w]; simp
  have HSV_w := Lib.hid hsV_w
  clear hV_w hbV_w hsV_w
  have hp0 := HXV_o.out
  obtain ⟨_, c0_0, c0_1, _, _⟩ := hp0
  rw [← EV_w.out] at c0_0 c0_1
  have hp1 := HXV_w.out
  obtain ⟨_, c1_0, c1_1, _, _⟩ := hp1
  rw [← EV_w.out] at c1_0 c1_1
  go_wp2_with fail
  rw [EV_w.out]
  clear c0_0 c0_1 c1_0 c1_1
  refine (samePoly_t HO.out HW.out).mono ?_
  rintro e w4 ⟨rfl, hb4⟩
  have HX := Lib.hid (HX.out.below hb4)
  have HO := Lib.hid (HO.out.below hb4)
  have HW := Lib.hid (HW.out.below hb4)
  have HXV_a := Lib.hid (HXV_a.out.below hb4)
  have HXV_o := Lib.hid (HXV_o.out.below hb4)
  have HXV_w := Lib.hid (HXV_w.out.below hb4)
  have HB4 := Lib.hid (HBV_w.out.trans (hb4.mono HBV_w.out.size))
  clear hb4
  cases b with
  | false =>
    have hp0 := HXV_o.out
    obtain ⟨_, c0_0, c0_1, _, _⟩ := hp0
    have hp1 := HXV_w.out
    obtain ⟨_, c1_0, c1_1, _, _⟩ := hp1
    go_wp2_with fail
    clear c0_0 c0_1 c1_0 c1_1
    refine (samePoly_t HO.out HW.out).mono ?_
    rintro e w5 ⟨rfl, hb5⟩
    have HX := Lib.hid (HX.out.below hb5)
    have HO := Lib.hid (HO.out.below hb5)
    have HW := Lib.hid (HW.out.below hb5)
    have HXV_a := Lib.hid (HXV_a.out.below hb5)
    have HXV_o := Lib.hid (HXV_o.out.below hb5)
    have HXV_w := Lib.hid (HXV_w.out.below hb5)
    have HB5 := Lib.hid (HB4.out.trans (hb5.mono HB4.out.size))
    clear hb5
    go_wp2
    go_ret
    exact ⟨rfl, HB5.out⟩
  | true =>
    obtain ⟨t1, t2, t3, t4⟩ := plained_true HS.out
    have te := t1.symm.trans HP.out
    have tf := plain_first HS.out
    rw [te] at t2 t3 t4 tf
    have T2 := Lib.hid t2
    have T3 := Lib.hid t3
    have T4 := Lib.hid t4
    have TF := Lib.hid tf
    clear t1 t2 t3 t4 te tf
    have hp0 := HXV_o.out
    obtain ⟨_, c0_0, c0_1, _, _⟩ := hp0
    go_wp2_with fail
    clear c0_0 c0_1
    refine (iPolyPlain_t HO.out T2.out T3.out HK.out).mono ?_
    rintro e w5 ⟨⟨a5, c5, rfl, h5⟩, hb5⟩
    have HX := Lib.hid (HX.out.below hb5)
    have HO := Lib.hid (HO.out.below hb5)
    have HW := Lib.hid (HW.out.below hb5)
    have HXV_a := Lib.hid (HXV_a.out.below hb5)
    have HXV_o := Lib.hid (HXV_o.out.below hb5)
    have HXV_w := Lib.hid (HXV_w.out.below hb5)
    have HB5 := Lib.hid (HB4.out.trans (hb5.mono HB4.out.size))
    have HT := Lib.hid h5
    clear h5 hb5
    obtain ⟨V_x, hV_x⟩ : ∃ V, w5.alloc (.cells #[.int .i64 pl, .slice a5 k c5] 25) = V := ⟨_, rfl⟩
    have hbV_x : Below w5.heap.size w5 V_x := by rw [← hV_x]; exact (Below.refl _ _).alloc (Nat.le_refl _) _
    have HXV_x := Lib.hid (BoxF.new hV_x)
    have HX := Lib.hid (HX.out.below hbV_x)
    have HO := Lib.hid (HO.out.below hbV_x)
    have HW := Lib.hid (HW.out.below hbV_x)
    have HT := Lib.hid (HT.out.below hbV_x)
    have HXV_a := Lib.hid (HXV_a.out.below hbV_x)
    have HXV_o := Lib.hid (HXV_o.out.below hbV_x)
    have HXV_w := Lib.hid (HXV_w.out.below hbV_x)
    have HBV_x := Lib.hid (HB5.out.trans (hbV_x.mono HB5.out.size))
    have EV_x := Lib.hid hV_x
    have hsV_x : V_x.heap.size = w5.heap.size + 1 := by rw [← hV_x]; simp
    have HSV_x := Lib.hid hsV_x
    clear hV_x hbV_x hsV_x
    have hp0 := HXV_x.out
    obtain ⟨_, c0_0, c0_1, _, _⟩ := hp0
    rw [← EV_x.out] at c0_0 c0_1
    have hp1 := HXV_o.out
    obtain ⟨_, c1_0, c1_1, _, _⟩ := hp1
    rw [← EV_x.out] at c1_0 c1_1
    go_wp2_with fail
    rw [EV_x.out]
    clear c0_0 c0_1 c1_0 c1_1
    refine (samePoly_t HT.out HO.out).mono ?_
    rintro e w6 ⟨rfl, hb6⟩
    have HX := Lib.hid (HX.out.below hb6)
    have HO := Lib.hid (HO.out.below hb6)
    have HW := Lib.hid (HW.out.below hb6)
    have HT := Lib.hid (HT.out.below hb6)
    have HXV_a := Lib.hid (HXV_a.out.below hb6)
    have HXV_o := Lib.hid (HXV_o.out.below hb6)
    have HXV_w := Lib.hid (HXV_w.out.below hb6)
    have HXV_x := Lib.hid (HXV_x.out.below hb6)
    have HB6 := Lib.hid (HBV_x.out.trans (hb6.mono HBV_x.out.size))
    clear hb6
    have hp0 := HXV_a.out
    obtain ⟨_, c0_0, c0_1, _, _⟩ := hp0
    have hp1 := HXV_o.out
    obtain ⟨_, c1_0, c1_1, _, _⟩ := hp1
    go_wp2_with fail
    clear c0_0 c0_1 c1_0 c1_1
    refine (iPolyAlike_t HX.out HO.out T4.out).mono ?_
    rintro e w7 ⟨rfl, hb7⟩
    have HX := Lib.hid (HX.out.below hb7)
    have HO := Lib.hid (HO.out.below hb7)
    have HW := Lib.hid (HW.out.below hb7)
    have HT := Lib.hid (HT.out.below hb7)
    have HXV_a := Lib.hid (HXV_a.out.below hb7)
    have HXV_o := Lib.hid (HXV_o.out.below hb7)
    have HXV_w := Lib.hid (HXV_w.out.below hb7)
    have HXV_x := Lib.hid (HXV_x.out.below hb7)
    have HB7 := Lib.hid (HB6.out.trans (hb7.mono HB6.out.size))
    clear hb7
    by_cases hk0 : k = 0
    · subst hk0
      have hki : (((0 : Nat) : Int) == 0) = true := rfl
      have hp0 := HXV_o.out
      obtain ⟨_, c0_0, c0_1, _, _⟩ := hp0
      go_wp2
      go_ret
      exact ⟨rfl, HB7.out⟩
    have hki : ((k : Int) == 0) = false := by simp; omega
    have hkn : ¬ (k : Int) = 0 := by omega
    have hkp : (0 : Int) < (k : Int) := by omega
    obtain ⟨f1, f2⟩ := TF.out (by show 0 < pc.length; rw [HK.out]; omega)
    have f1 : pl = 0 := f1
    have f2 : 0 < pc.getD 0 0 := f2
    subst f1
    obtain ⟨z, hz, _, hzc⟩ := HO.out.is.at_ (by omega)
    have hz0 := hzc 0 (by rw [HK.out]; omega)
    rw [show z.add 0 = z by unfold Addr.add; simp] at hz0
    obtain ⟨v, hv⟩ : ∃ v, pc.getD 0 0 = v := ⟨_, rfl⟩
    rw [hv] at f2
    rw [show pc[0]'(by rw [HK.out]; omega) = v by rw [← hv, List.getD_eq_getElem?_getD, List.getElem?_eq_getElem (by rw [HK.out]; omega)]; rfl] at hz0
    have hvd : decide (0 < v) = true := decide_eq_true f2
    subst hz
    clear hzc hv
    have hp0 := HXV_o.out
    obtain ⟨_, c0_0, c0_1, _, _⟩ := hp0
    go_wp2
    go_ret
    exact ⟨rfl, HB7.out⟩

set_option maxRecDepth 100000 in
theorem lifted (os : Os) (started : os.Started) (H : Type) (enc : TypeId × Value → H) :
    ReturnsInHanded {} Try.checked os 3 .any (Rows.fnPolyPlainSpec.pre6 enc Try.prog Try.f3 Rows.fnPolyPlainRow.domain false) (Rows.fnPolyPlainSpec.post enc Try.prog Try.f3 false true false false) := by
  refine returnsInHanded_of_change (C := Try.checked) own started (by kernel_rfl) Try.func3
    (ChangeSpec.witness6 (enc := enc) (C := Try.checked) false ⟨#[], #[.slice none 0 0], []⟩ 8 (by kernel_rfl) (by kernel_rfl) (by kernel_rfl) (by kernel_rfl)) ?_
  intro W base args ds gs before hval0 hW hcnd _
  have hval : ∀ (j : Nat) t v, Try.f3.params[j]? = some t → args[j]? = some v → Value.okWide Try.prog W .any base t v := hval0
  have hW' := hW
  obtain ⟨p, q, hA0, hV, rfl, hfz, hnd⟩ := hW
  have hA : DataW.TrodAll enc Try.prog W 0 (fun _ => true) true Try.f3.params.toList args.toList ds p := hA0
  rw [Try.params3] at hA hval
  obtain ⟨v0, vs0, d0, ds0, p0, q0, hargs, rfl, rfl, h0, r0⟩ := trodAll_cons hA
  obtain ⟨rfl, rfl, rfl⟩ := trodAll_nil r0
  obtain rfl : args = #[v0] := by cases args; simp_all
  obtain ⟨rfl, rfl⟩ := trodVars_none hV
  obtain ⟨a0, len0, cap0, rfl⟩ := okWide_slice Try.underlying22 (hval 0 22 v0 rfl rfl)
  have k0 := h0
  have lt0 : ∀ x ∈ p0, x.block < W.heap.size := by obtain ⟨m, hm⟩ := k0; exact DataW.trod_lt m _ _ _ hm
  obtain ⟨z0, w0⟩ : ∃ zs, BsAt W.heap.size W a0 len0 cap0 zs := by
    obtain ⟨fuel, hf⟩ := h0
    exact bs_of hf
  clear hA0 hval0
  refine (walk a0 len0 cap0 z0 W w0).mono fun e W' ⟨he, bel⟩ => ?_
  subst he
  exact ⟨_, rfl, _, _, _, [], _, [], hW', trodAll_mk1 (shut_bool Try.underlying4 _), (trodAll_cons_mk (Below.trod laidOut (by kernel_rfl) (of_decide_eq_true (by kernel_rfl)) k0 bel lt0) trodAll_mk0), rfl, bel.frame _, fun h => by cases h⟩

theorem closed : joinedFacts Try.prog 3 Try.f3 Rows.fnPolyPlainSpec Rows.fnPolyPlainRow = true :=
  ((restOf Try.prog 3 Try.f3 Rows.fnPolyPlainSpec Rows.fnPolyPlainRow).2 enter_is lifts_is make_is).trans (by kernel_rfl)
theorem over : Rows.fnPolyPlainRow.holds Try.pinned (OpenSpec.ofChange Rows.fnPolyPlainSpec) :=
  OpenClaim.holds_of_wide 3 Try.f3 rfl rfl rfl rfl rfl rfl rfl ⟨rfl, rfl, rfl, rfl, rfl⟩ rfl rfl rfl rfl rfl (by kernel_rfl) Try.func3 closed
    (of_decide_eq_true (by kernel_rfl)) (by unfold Func.isWrapper; first | (rw [if_pos (by decide +kernel)]; kernel_rfl) | (rw [if_neg (by decide +kernel)]; exact ⟨rfl, rfl⟩))
    (fun os started H enc _ => lifted os started H enc)

theorem proved : Rows.FnPolyPlainSaid := over
#print axioms proved
end Go.Proofs.Ytakfobihakbefaa.LPolyPlainP

/-
  Proves 'Rows.FnPolySaid': for every list of bytes, the polynomial that the model draws from it is the one that its coefficients make, and itself times 1.
  Conditions: none beyond the row's own.
-/
import Derived.Test.YtocklmiappppgaaRows
import Derived.WalkKit
import Derived.ProofKit
import Derived.OpenShut
import Derived.ShutString
import Derived.ChangeOld
import Derived.Below
import Derived.Test.YtocklmiappppgaaBa
import Derived.Test.YtocklmiappppgaaBb
import Derived.Test.YtocklmiappppgaaBc
import Derived.Test.YtocklmiappppgaaBd
import Derived.Test.YtocklmiappppgaaBe

namespace Go.Proofs.Ytocklmiappppgaa.LPolyP
open Go.ChangeShapes Go.WideShapes Go.ChangeAt Go.RowKit
open Go.ChangeMaps (open_string shut_string)
set_option linter.unusedVariables false

theorem own : ownKnob Try.prog.godebug = none := by kernel_rfl
theorem laidOut : laidOutB Try.prog = true := by kernel_rfl

set_option maxRecDepth 100000 in
set_option maxHeartbeats 4000000 in
theorem walk (a0 : Option Addr) (len0 cap0 : Nat) (z0 : List Int) (w : World) (w0 : BsAt w.heap.size w a0 len0 cap0 z0) :
    Calls Try.prog 3 #[.slice a0 len0 cap0] w fun e w' => e = .returned (.bool true) ∧ Below w.heap.size w w' := by
  have HDr := Lib.hid (drawPolyIn_any a0 len0 cap0 z0 w w0)
  have hfit := w0.fit
  unfold maxLen at hfit
  clear w0
  by_cases hlong : ¬ len0 ≤ 1048576
  · have hd : decide ((1048576 : Int) < (len0 : Int)) = true := decide_eq_true (by omega)
    go_enter Try.func3, Try.ntmps3
    go_wp2_with fail
    go_ret
    exact ⟨rfl, Below.refl _ _⟩
  have hd : decide ((1048576 : Int) < (len0 : Int)) = false := decide_eq_false (by omega)
  go_enter Try.func3, Try.ntmps3
  go_wp2_with fail
  refine HDr.out.mono ?_
  rintro e w1 ⟨⟨l1, v1, x, rfl, hS1⟩, hb1⟩
  obtain ⟨a1, c1, rfl, hp1⟩ := hS1.pin
  obtain ⟨m1, hm1⟩ : ∃ m, x.length = m := ⟨_, rfl⟩
  rw [hm1] at hp1 ⊢
  have HX := Lib.hid hp1
  have HM1 := Lib.hid hm1
  clear hp1 hm1 hS1
  obtain ⟨b, hb⟩ : ∃ b, polyB ⟨l1, x⟩ = b := ⟨_, rfl⟩
  have HS := Lib.hid hb
  have hbb : (b != b) = false := by cases b <;> rfl
  clear hb
  have HB1 := Lib.hid hb1
  clear hb1
  obtain ⟨V_a, hV_a⟩ : ∃ V, w1.alloc (.cells #[.int .i64 l1, .slice a1 m1 c1] 25) = V := ⟨_, rfl⟩
  have hbV_a : Below w1.heap.size w1 V_a := by rw [← hV_a]; exact (Below.refl _ _).alloc (Nat.le_refl _) _
  have HXV_a := Lib.hid (BoxF.new hV_a)
  have HX := Lib.hid (HX.out.below hbV_a)
  have HBV_a := Lib.hid (HB1.out.trans (hbV_a.mono HB1.out.size))
  have EV_a := Lib.hid hV_a
  have hsV_a : V_a.heap.size = w1.heap.size + 1 := by rw [← hV_a]; simp
  have HSV_a := Lib.hid hsV_a
  clear hV_a hbV_a hsV_a
  have hp0 := HXV_a.out
  obtain ⟨_, c0_0, c0_1, _, _⟩ := hp0
  rw [← EV_a.out] at c0_0 c0_1
  go_wp2_with fail
  rw [EV_a.out]
  clear c0_0 c0_1
  refine (iPolyIn_t HX.out HS.out).mono ?_
  rintro e w2 ⟨rfl, hb2⟩
  have HX := Lib.hid (HX.out.below hb2)
  have HXV_a := Lib.hid (HXV_a.out.below hb2)
  have HB2 := Lib.hid (HBV_a.out.trans (hb2.mono HBV_a.out.size))
  clear hb2
  have hp0 := HXV_a.out
  obtain ⟨_, c0_0, c0_1, _, _⟩ := hp0
  go_wp2_with fail
  clear c0_0 c0_1
  refine (sPolyIn_t HX.out HS.out).mono ?_
  rintro e w3 ⟨rfl, hb3⟩
  have HX := Lib.hid (HX.out.below hb3)
  have HXV_a := Lib.hid (HXV_a.out.below hb3)
  have HB3 := Lib.hid (HB2.out.trans (hb3.mono HB2.out.size))
  clear hb3
  cases b with
  | false =>
    go_wp2
    go_ret
    exact ⟨rfl, HB3.out⟩
  | true =>
    obtain ⟨t1, t2⟩ := of_itself HS.out
    obtain ⟨t3, t4⟩ := times_one HS.out
    have T1 := Lib.hid t1
    have T2 := Lib.hid t2
    have T3 := Lib.hid t3
    have T4 := Lib.hid t4
    clear t1 t2 t3 t4
    have hp0 := HXV_a.out
    obtain ⟨_, c0_0, c0_1, _, _⟩ := hp0
    go_wp2_with fail
    clear c0_0 c0_1
    refine (iPolyOf_t HX.out T1.out T2.out HM1.out).mono ?_
    rintro e w4 ⟨⟨a4, c4, rfl, h4⟩, hb4⟩
    have HX := Lib.hid (HX.out.below hb4)
    have HXV_a := Lib.hid (HXV_a.out.below hb4)
    have HB4 := Lib.hid (HB3.out.trans (hb4.mono HB3.out.size))
    have HT := Lib.hid h4
    clear h4 hb4
    obtain ⟨V_x, hV_x⟩ : ∃ V, w4.alloc (.cells #[.int .i64 l1, .slice a4 m1 c4] 25) = V := ⟨_, rfl⟩
    have hbV_x : Below w4.heap.size w4 V_x := by rw [← hV_x]; exact (Below.refl _ _).alloc (Nat.le_refl _) _
    have HXV_x := Lib.hid (BoxF.new hV_x)
    have HX := Lib.hid (HX.out.below hbV_x)
    have HT := Lib.hid (HT.out.below hbV_x)
    have HXV_a := Lib.hid (HXV_a.out.below hbV_x)
    have HBV_x := Lib.hid (HB4.out.trans (hbV_x.mono HB4.out.size))
    have EV_x := Lib.hid hV_x
    have hsV_x : V_x.heap.size = w4.heap.size + 1 := by rw [← hV_x]; simp
    have HSV_x := Lib.hid hsV_x
    clear hV_x hbV_x hsV_x
    have hp0 := HXV_a.out
    obtain ⟨_, c0_0, c0_1, _, _⟩ := hp0
    rw [← EV_x.out] at c0_0 c0_1
    obtain ⟨V_lit, hV_lit⟩ : ∃ V, V_x.alloc (.cells #[.int .i64 1] 3) = V := ⟨_, rfl⟩
    have hbV_lit : Below V_x.heap.size V_x V_lit := by rw [← hV_lit]; exact (Below.refl _ _).alloc (Nat.le_refl _) _
    have HLI : Hid (PIn V_lit (some ⟨V_x.heap.size, 0, none⟩) 1 1 [1]) := Lib.hid ⟨by rw [← hV_lit]; exact (OneI.new V_x 1).ints (by omega), Nat.le_refl _⟩
    have hli := HLI.out
    rw [HSV_x.out] at hli
    clear HLI
    have HLI := Lib.hid hli
    clear hli
    have HX := Lib.hid (HX.out.below hbV_lit)
    have HT := Lib.hid (HT.out.below hbV_lit)
    have HXV_a := Lib.hid (HXV_a.out.below hbV_lit)
    have HXV_x := Lib.hid (HXV_x.out.below hbV_lit)
    have HBV_lit := Lib.hid (HBV_x.out.trans (hbV_lit.mono HBV_x.out.size))
    have EV_lit := Lib.hid hV_lit
    clear hV_lit hbV_lit
    go_wp2_with fail
    rw [EV_x.out, EV_lit.out]
    clear c0_0 c0_1
    refine (iPolyTimes_t HX.out HLI.out T3.out T4.out HM1.out).mono ?_
    rintro e w5 ⟨⟨a5, c5, rfl, h5⟩, hb5⟩
    have HX := Lib.hid (HX.out.below hb5)
    have HT := Lib.hid (HT.out.below hb5)
    have HXV_a := Lib.hid (HXV_a.out.below hb5)
    have HXV_x := Lib.hid (HXV_x.out.below hb5)
    have HB5 := Lib.hid (HBV_lit.out.trans (hb5.mono HBV_lit.out.size))
    have HU := Lib.hid h5
    clear h5 hb5 HLI
    obtain ⟨V_y, hV_y⟩ : ∃ V, w5.alloc (.cells #[.int .i64 l1, .slice a5 m1 c5] 25) = V := ⟨_, rfl⟩
    have hbV_y : Below w5.heap.size w5 V_y := by rw [← hV_y]; exact (Below.refl _ _).alloc (Nat.le_refl _) _
    have HXV_y := Lib.hid (BoxF.new hV_y)
    have HX := Lib.hid (HX.out.below hbV_y)
    have HT := Lib.hid (HT.out.below hbV_y)
    have HU := Lib.hid (HU.out.below hbV_y)
    have HXV_a := Lib.hid (HXV_a.out.below hbV_y)
    have HXV_x := Lib.hid (HXV_x.out.below hbV_y)
    have HBV_y := Lib.hid (HB5.out.trans (hbV_y.mono HB5.out.size))
    have EV_y := Lib.hid hV_y
    have hsV_y : V_y.heap.size = w5.heap.size + 1 := by rw [← hV_y]; simp
    have HSV_y := Lib.hid hsV_y
    clear hV_y hbV_y hsV_y
    have hp0 := HXV_x.out
    obtain ⟨_, c0_0, c0_1, _, _⟩ := hp0
    rw [← EV_y.out] at c0_0 c0_1
    have hp1 := HXV_a.out
    obtain ⟨_, c1_0, c1_1, _, _⟩ := hp1
    rw [← EV_y.out] at c1_0 c1_1
    go_wp2_with fail
    rw [EV_y.out]
    clear c0_0 c0_1 c1_0 c1_1
    refine (samePoly_t HT.out HX.out).mono ?_
    rintro e w6 ⟨rfl, hb6⟩
    have HX := Lib.hid (HX.out.below hb6)
    have HT := Lib.hid (HT.out.below hb6)
    have HU := Lib.hid (HU.out.below hb6)
    have HXV_a := Lib.hid (HXV_a.out.below hb6)
    have HXV_x := Lib.hid (HXV_x.out.below hb6)
    have HXV_y := Lib.hid (HXV_y.out.below hb6)
    have HB6 := Lib.hid (HBV_y.out.trans (hb6.mono HBV_y.out.size))
    clear hb6
    have hp0 := HXV_y.out
    obtain ⟨_, c0_0, c0_1, _, _⟩ := hp0
    have hp1 := HXV_a.out
    obtain ⟨_, c1_0, c1_1, _, _⟩ := hp1
    go_wp2_with fail
    clear c0_0 c0_1 c1_0 c1_1
    refine (samePoly_t HU.out HX.out).mono ?_
    rintro e w7 ⟨rfl, hb7⟩
    have HX := Lib.hid (HX.out.below hb7)
    have HT := Lib.hid (HT.out.below hb7)
    have HU := Lib.hid (HU.out.below hb7)
    have HXV_a := Lib.hid (HXV_a.out.below hb7)
    have HXV_x := Lib.hid (HXV_x.out.below hb7)
    have HXV_y := Lib.hid (HXV_y.out.below hb7)
    have HB7 := Lib.hid (HB6.out.trans (hb7.mono HB6.out.size))
    clear hb7
    go_wp2
    go_ret
    exact ⟨rfl, HB7.out⟩

set_option maxRecDepth 100000 in
theorem lifted (os : Os) (started : os.Started) (H : Type) (enc : TypeId × Value → H) :
    ReturnsInHanded {} Try.checked os 3 .any (Rows.fnPolySpec.pre6 enc Try.prog Try.f3 Rows.fnPolyRow.domain false) (Rows.fnPolySpec.post enc Try.prog Try.f3 false true false false) := by
  refine returnsInHanded_of_change (C := Try.checked) own started (by kernel_rfl) Try.func3
    (ChangeSpec.witness6 (enc := enc) (C := Try.checked) false ⟨#[], #[.slice none 0 0], []⟩ 8 (by kernel_rfl) (by kernel_rfl) (by kernel_rfl) (by kernel_rfl)) ?_
  intro W base args ds gs before hval0 hW hcnd _
  have hval : ∀ (j : Nat) t v, Try.f3.params[j]? = some t → args[j]? = some v → Value.okWide Try.prog W .any base t v := hval0
  have hW' := hW
  obtain ⟨p, q, hA0, hV, rfl, hfz, hnd⟩ := hW
  have hA : DataW.TrodAll enc Try.prog W 0 (fun _ => true) true Try.f3.params.toList args.toList ds p := hA0
  rw [Try.params3] at hA hval
  obtain ⟨v0, vs0, d0, ds0, p0, q0, hargs, rfl, rfl, h0, r0⟩ := trodAll_cons hA
  obtain ⟨rfl, rfl, rfl⟩ := trodAll_nil r0
  obtain rfl : args = #[v0] := by cases args; simp_all
  obtain ⟨rfl, rfl⟩ := trodVars_none hV
  obtain ⟨a0, len0, cap0, rfl⟩ := okWide_slice Try.underlying22 (hval 0 22 v0 rfl rfl)
  have k0 := h0
  have lt0 : ∀ x ∈ p0, x.block < W.heap.size := by obtain ⟨m, hm⟩ := k0; exact DataW.trod_lt m _ _ _ hm
  obtain ⟨z0, w0⟩ : ∃ zs, BsAt W.heap.size W a0 len0 cap0 zs := by
    obtain ⟨fuel, hf⟩ := h0
    exact bs_of hf
  clear hA0 hval0
  refine (walk a0 len0 cap0 z0 W w0).mono fun e W' ⟨he, bel⟩ => ?_
  subst he
  exact ⟨_, rfl, _, _, _, [], _, [], hW', trodAll_mk1 (shut_bool Try.underlying4 _), (trodAll_cons_mk (Below.trod laidOut (by kernel_rfl) (of_decide_eq_true (by kernel_rfl)) k0 bel lt0) trodAll_mk0), rfl, bel.frame _, fun h => by cases h⟩

theorem closed : joinedFacts Try.prog 3 Try.f3 Rows.fnPolySpec Rows.fnPolyRow = true :=
  ((restOf Try.prog 3 Try.f3 Rows.fnPolySpec Rows.fnPolyRow).2 enter_is lifts_is make_is).trans (by kernel_rfl)
theorem over : Rows.fnPolyRow.holds Try.pinned (OpenSpec.ofChange Rows.fnPolySpec) :=
  OpenClaim.holds_of_wide 3 Try.f3 rfl rfl rfl rfl rfl rfl rfl ⟨rfl, rfl, rfl, rfl, rfl⟩ rfl rfl rfl rfl rfl (by kernel_rfl) Try.func3 closed
    (of_decide_eq_true (by kernel_rfl)) (by unfold Func.isWrapper; first | (rw [if_pos (by decide +kernel)]; kernel_rfl) | (rw [if_neg (by decide +kernel)]; exact ⟨rfl, rfl⟩))
    (fun os started H enc _ => lifted os started H enc)

theorem proved : Rows.FnPolySaid := over
#print axioms proved
end Go.Proofs.Ytocklmiappppgaa.LPolyP

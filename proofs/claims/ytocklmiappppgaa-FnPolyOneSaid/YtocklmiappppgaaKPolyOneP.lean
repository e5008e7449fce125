/-
  Proves 'Rows.FnPolyOneSaid': for every list of bytes, the value at 1 of the product of the polynomial that the model draws from it with itself is the product of its value with itself.
  Conditions: none beyond the row's own.
-/
import Derived.Test.YtocklmiappppgaaRows
import Derived.WalkKit
import Derived.ProofKit
import Derived.OpenShut
import Derived.ShutString
import Derived.ChangeOld
import Derived.Below
import Derived.Test.YtocklmiappppgaaBa
import Derived.Test.YtocklmiappppgaaBb
import Derived.Test.YtocklmiappppgaaBc
import Derived.Test.YtocklmiappppgaaBd
import Derived.Test.YtocklmiappppgaaBe

namespace Go.Proofs.Ytocklmiappppgaa.LPolyOneP
open Go.ChangeShapes Go.WideShapes Go.ChangeAt Go.RowKit
open Go.ChangeMaps (open_string shut_string)
set_option linter.unusedVariables false

theorem own : ownKnob Try.prog.godebug = none := by kernel_rfl
theorem laidOut : laidOutB Try.prog = true := by kernel_rfl

set_option maxRecDepth 100000 in
set_option maxHeartbeats 4000000 in
theorem walk (a0 : Option Addr) (len0 cap0 : Nat) (z0 : List Int) (w : World) (w0 : BsAt w.heap.size w a0 len0 cap0 z0) :
    Calls Try.prog 10 #[.slice a0 len0 cap0] w fun e w' => e = .returned (.bool true) ∧ Below w.heap.size w w' := by
  have HDr := Lib.hid (drawPolyOne_any a0 len0 cap0 z0 w w0)
  have hfit := w0.fit
  unfold maxLen at hfit
  clear w0
  by_cases hlong : ¬ len0 ≤ 1048576
  · have hd : decide ((1048576 : Int) < (len0 : Int)) = true := decide_eq_true (by omega)
    go_enter Try.func10, Try.ntmps10
    go_wp2_with fail
    go_ret
    exact ⟨rfl, Below.refl _ _⟩
  have hd : decide ((1048576 : Int) < (len0 : Int)) = false := decide_eq_false (by omega)
  go_enter Try.func10, Try.ntmps10
  go_wp2_with fail
  refine HDr.out.mono ?_
  rintro e w1 ⟨⟨l1, v1, x, rfl, hS1⟩, hb1⟩
  obtain ⟨a1, c1, rfl, hp1⟩ := hS1.pin
  obtain ⟨m1, hm1⟩ : ∃ m, x.length = m := ⟨_, rfl⟩
  rw [hm1] at hp1 ⊢
  have HX := Lib.hid hp1
  have HM1 := Lib.hid hm1
  clear hp1 hm1 hS1
  obtain ⟨b, hb⟩ : ∃ b, polyB ⟨l1, x⟩ = b := ⟨_, rfl⟩
  obtain ⟨v, hv⟩ : ∃ v, (if b then oneP x m1 else 0) = v := ⟨_, rfl⟩
  have HS := Lib.hid hb
  have HV := Lib.hid hv
  have hbb : (b != b) = false := by cases b <;> rfl
  have hvv : (v != v) = false := by simp
  clear hb hv
  have HB1 := Lib.hid hb1
  clear hb1
  obtain ⟨V_a, hV_a⟩ : ∃ V, w1.alloc (.cells #[.int .i64 l1, .slice a1 m1 c1] 25) = V := ⟨_, rfl⟩
  have hbV_a : Below w1.heap.size w1 V_a := by rw [← hV_a]; exact (Below.refl _ _).alloc (Nat.le_refl _) _
  have HXV_a := Lib.hid (BoxF.new hV_a)
  have HX := Lib.hid (HX.out.below hbV_a)
  have HBV_a := Lib.hid (HB1.out.trans (hbV_a.mono HB1.out.size))
  have EV_a := Lib.hid hV_a
  have hsV_a : V_a.heap.size = w1.heap.size + 1 := by rw [← hV_a]; simp
  have HSV_a := Lib.hid hsV_a
  clear hV_a hbV_a hsV_a
  have hp0 := HXV_a.out
  obtain ⟨_, c0_0, c0_1, _, _⟩ := hp0
  rw [← EV_a.out] at c0_0 c0_1
  go_wp2_with fail
  rw [EV_a.out]
  clear c0_0 c0_1
  refine (iPolyOne_t HX.out HS.out HV.out).mono ?_
  rintro e w2 ⟨rfl, hb2⟩
  have HX := Lib.hid (HX.out.below hb2)
  have HXV_a := Lib.hid (HXV_a.out.below hb2)
  have HB2 := Lib.hid (HBV_a.out.trans (hb2.mono HBV_a.out.size))
  clear hb2
  have hp0 := HXV_a.out
  obtain ⟨_, c0_0, c0_1, _, _⟩ := hp0
  go_wp2_with fail
  clear c0_0 c0_1
  refine (sPolyOne_t HX.out HS.out HV.out).mono ?_
  rintro e w3 ⟨rfl, hb3⟩
  have HX := Lib.hid (HX.out.below hb3)
  have HXV_a := Lib.hid (HXV_a.out.below hb3)
  have HB3 := Lib.hid (HB2.out.trans (hb3.mono HB2.out.size))
  clear hb3
  cases b with
  | false =>
    go_wp2
    go_ret
    exact ⟨rfl, HB3.out⟩
  | true =>
    have hv1 : v = valP ⟨l1, x⟩ := by rw [← HV.out, if_pos rfl]; unfold valP; rw [show (⟨l1, x⟩ : Pl).cs.length = m1 from HM1.out]
    obtain ⟨q, hq⟩ : ∃ q, timesPB ⟨l1, x⟩ ⟨l1, x⟩ = q := ⟨_, rfl⟩
    obtain ⟨Q, hQ⟩ : ∃ Q, timesP ⟨l1, x⟩ ⟨l1, x⟩ = Q := ⟨_, rfl⟩
    obtain ⟨ql, qc⟩ := Q
    obtain ⟨k, hk⟩ : ∃ k, qc.length = k := ⟨_, rfl⟩
    have HQ := Lib.hid hq
    have HP := Lib.hid hQ
    have HK := Lib.hid hk
    have HV1 := Lib.hid hv1
    clear hq hQ hk hv1
    have hp0 := HXV_a.out
    obtain ⟨_, c0_0, c0_1, _, _⟩ := hp0
    have hp1 := HXV_a.out
    obtain ⟨_, c1_0, c1_1, _, _⟩ := hp1
    go_wp2_with fail
    clear c0_0 c0_1 c1_0 c1_1
    refine (iPolyTimes_t HX.out HX.out HQ.out HP.out HK.out).mono ?_
    rintro e w4 ⟨⟨a4, c4, rfl, h4⟩, hb4⟩
    have HX := Lib.hid (HX.out.below hb4)
    have HXV_a := Lib.hid (HXV_a.out.below hb4)
    have HB4 := Lib.hid (HB3.out.trans (hb4.mono HB3.out.size))
    have HO := Lib.hid h4
    clear h4 hb4
    obtain ⟨V_o, hV_o⟩ : ∃ V, w4.alloc (.cells #[.int .i64 ql, .slice a4 k c4] 25) = V := ⟨_, rfl⟩
    have hbV_o : Below w4.heap.size w4 V_o := by rw [← hV_o]; exact (Below.refl _ _).alloc (Nat.le_refl _) _
    have HXV_o := Lib.hid (BoxF.new hV_o)
    have HX := Lib.hid (HX.out.below hbV_o)
    have HO := Lib.hid (HO.out.below hbV_o)
    have HXV_a := Lib.hid (HXV_a.out.below hbV_o)
    have HBV_o := Lib.hid (HB4.out.trans (hbV_o.mono HB4.out.size))
    have EV_o := Lib.hid hV_o
    have hsV_o : V_o.heap.size = w4.heap.size + 1 := by rw [← hV_o]; simp
    have HSV_o := Lib.hid hsV_o
    clear hV_o hbV_o hsV_o
    obtain ⟨q2, hq2⟩ : ∃ q, polyB ⟨ql, qc⟩ = q := ⟨_, rfl⟩
    obtain ⟨u, hu⟩ : ∃ v, (if q2 then oneP qc k else 0) = v := ⟨_, rfl⟩
    have HQ2 := Lib.hid hq2
    have HU := Lib.hid hu
    clear hq2 hu
    have hp0 := HXV_o.out
    obtain ⟨_, c0_0, c0_1, _, _⟩ := hp0
    rw [← EV_o.out] at c0_0 c0_1
    go_wp2_with fail
    rw [EV_o.out]
    clear c0_0 c0_1
    refine (iPolyOne_t HO.out HQ2.out HU.out).mono ?_
    rintro e w5 ⟨rfl, hb5⟩
    have HX := Lib.hid (HX.out.below hb5)
    have HO := Lib.hid (HO.out.below hb5)
    have HXV_a := Lib.hid (HXV_a.out.below hb5)
    have HXV_o := Lib.hid (HXV_o.out.below hb5)
    have HB5 := Lib.hid (HBV_o.out.trans (hb5.mono HBV_o.out.size))
    clear hb5
    cases q with
    | false =>
      go_wp2
      go_ret
      exact ⟨rfl, HB5.out⟩
    | true =>
      obtain ⟨t1, _, t3, t4⟩ := times_true HQ.out
      have te := t4.symm.trans HP.out
      have tv := val_prod ⟨l1, x⟩ ⟨l1, x⟩
      rw [te] at t3 tv
      obtain rfl : q2 = true := HQ2.out.symm.trans t3
      have hu1 : u = valP ⟨ql, qc⟩ := by rw [← HU.out, if_pos rfl]; unfold valP; rw [show (⟨ql, qc⟩ : Pl).cs.length = k from HK.out]
      have hb1 := val_bound t3
      rw [← hu1] at hb1 tv
      rw [← HV1.out] at tv
      have hwr : IntKind.i64.wrap (v * v) = u := by rw [← tv]; exact IntWalk.i64_in _ (by omega)
      clear t1 t3 t4 te tv hu1 hb1
      go_wp2
      go_ret
      exact ⟨rfl, HB5.out⟩

set_option maxRecDepth 100000 in
theorem lifted (os : Os) (started : os.Started) (H : Type) (enc : TypeId × Value → H) :
    ReturnsInHanded {} Try.checked os 10 .any (Rows.fnPolyOneSpec.pre6 enc Try.prog Try.f10 Rows.fnPolyOneRow.domain false) (Rows.fnPolyOneSpec.post enc Try.prog Try.f10 false true false false) := by
  refine returnsInHanded_of_change (C := Try.checked) own started (by kernel_rfl) Try.func10
    (ChangeSpec.witness6 (enc := enc) (C := Try.checked) false ⟨#[], #[.slice none 0 0], []⟩ 8 (by kernel_rfl) (by kernel_rfl) (by kernel_rfl) (by kernel_rfl)) ?_
  intro W base args ds gs before hval0 hW hcnd _
  have hval : ∀ (j : Nat) t v, Try.f10.params[j]? = some t → args[j]? = some v → Value.okWide Try.prog W .any base t v := hval0
  have hW' := hW
  obtain ⟨p, q, hA0, hV, rfl, hfz, hnd⟩ := hW
  have hA : DataW.TrodAll enc Try.prog W 0 (fun _ => true) true Try.f10.params.toList args.toList ds p := hA0
  rw [Try.params10] at hA hval
  obtain ⟨v0, vs0, d0, ds0, p0, q0, hargs, rfl, rfl, h0, r0⟩ := trodAll_cons hA
  obtain ⟨rfl, rfl, rfl⟩ := trodAll_nil r0
  obtain rfl : args = #[v0] := by cases args; simp_all
  obtain ⟨rfl, rfl⟩ := trodVars_none hV
  obtain ⟨a0, len0, cap0, rfl⟩ := okWide_slice Try.underlying22 (hval 0 22 v0 rfl rfl)
  have k0 := h0
  have lt0 : ∀ x ∈ p0, x.block < W.heap.size := by obtain ⟨m, hm⟩ := k0; exact DataW.trod_lt m _ _ _ hm
  obtain ⟨z0, w0⟩ : ∃ zs, BsAt W.heap.size W a0 len0 cap0 zs := by
    obtain ⟨fuel, hf⟩ := h0
    exact bs_of hf
  clear hA0 hval0
  refine (walk a0 len0 cap0 z0 W w0).mono fun e W' ⟨he, bel⟩ => ?_
  subst he
  exact ⟨_, rfl, _, _, _, [], _, [], hW', trodAll_mk1 (shut_bool Try.underlying4 _), (trodAll_cons_mk (Below.trod laidOut (by kernel_rfl) (of_decide_eq_true (by kernel_rfl)) k0 bel lt0) trodAll_mk0), rfl, bel.frame _, fun h => by cases h⟩

theorem closed : joinedFacts Try.prog 10 Try.f10 Rows.fnPolyOneSpec Rows.fnPolyOneRow = true :=
  ((restOf Try.prog 10 Try.f10 Rows.fnPolyOneSpec Rows.fnPolyOneRow).2 enter_is lifts_is make_is).trans (by kernel_rfl)
theorem over : Rows.fnPolyOneRow.holds Try.pinned (OpenSpec.ofChange Rows.fnPolyOneSpec) :=
  OpenClaim.holds_of_wide 10 Try.f10 rfl rfl rfl rfl rfl rfl rfl ⟨rfl, rfl, rfl, rfl, rfl⟩ rfl rfl rfl rfl rfl (by kernel_rfl) Try.func10 closed
    (of_decide_eq_true (by kernel_rfl)) (by unfold Func.isWrapper; first | (rw [if_pos (by decide +kernel)]; kernel_rfl) | (rw [if_neg (by decide +kernel)]; exact ⟨rfl, rfl⟩))
    (fun os started H enc _ => lifted os started H enc)

theorem proved : Rows.FnPolyOneSaid := over
#print axioms proved
end Go.Proofs.Ytocklmiappppgaa.LPolyOneP

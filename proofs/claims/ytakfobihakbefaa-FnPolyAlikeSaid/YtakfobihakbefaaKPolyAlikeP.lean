/-
  Proves 'Rows.FnPolyAlikeSaid': for every list of bytes, being alike goes both ways for the two polynomials that the model draws from it, and such are of one length.
  Conditions: none beyond the row's own.
-/
import Derived.Test.YtakfobihakbefaaRows
import Derived.WalkKit
import Derived.ProofKit
import Derived.OpenShut
import Derived.ShutString
import Derived.ChangeOld
import Derived.Below
import Derived.Test.YtakfobihakbefaaBxa
import Derived.Test.YtakfobihakbefaaBxb
import Derived.Test.YtakfobihakbefaaBxc

namespace Go.Proofs.Ytakfobihakbefaa.LPolyAlikeP
open Go.ChangeShapes Go.WideShapes Go.ChangeAt Go.RowKit
open Go.ChangeMaps (open_string shut_string)
set_option linter.unusedVariables false

theorem own : ownKnob Try.prog.godebug = none := by kernel_rfl
theorem laidOut : laidOutB Try.prog = true := by kernel_rfl

set_option maxRecDepth 100000 in
set_option maxHeartbeats 4000000 in
theorem walk (a0 : Option Addr) (len0 cap0 : Nat) (z0 : List Int) (w : World) (w0 : BsAt w.heap.size w a0 len0 cap0 z0) :
    Calls Try.prog 4 #[.slice a0 len0 cap0] w fun e w' => e = .returned (.bool true) ∧ Below w.heap.size w w' := by
  have HDr := Lib.hid (drawPolyAlike_any a0 len0 cap0 z0 w w0)
  have hfit := w0.fit
  unfold maxLen at hfit
  clear w0
  by_cases hlong : ¬ len0 ≤ 1048576
  · have hd : decide ((1048576 : Int) < (len0 : Int)) = true := decide_eq_true (by omega)
    go_enter Try.func4, Try.ntmps4
    go_wp2_with fail
    go_ret
    exact ⟨rfl, Below.refl _ _⟩
  have hd : decide ((1048576 : Int) < (len0 : Int)) = false := decide_eq_false (by omega)
  go_enter Try.func4, Try.ntmps4
  go_wp2_with fail
  refine HDr.out.mono ?_
  rintro e w1 ⟨⟨l1, a1, m1, c1, x, l2, a2, m2, c2, y, rfl, hp1, hp2⟩, hb1⟩
  have HX := Lib.hid hp1
  have HY := Lib.hid hp2
  have HM1 := Lib.hid hp1.len
  have HM2 := Lib.hid hp2.len
  clear hp1 hp2
  obtain ⟨b, hb⟩ : ∃ b, alikeB ⟨l1, x⟩ ⟨l2, y⟩ = b := ⟨_, rfl⟩
  have HS := Lib.hid hb
  have hbb : (b != b) = false := by cases b <;> rfl
  clear hb
  have HB1 := Lib.hid hb1
  clear hb1
  obtain ⟨V_a, hV_a⟩ : ∃ V, w1.alloc (.cells #[.int .i64 l1, .slice a1 m1 c1] 25) = V := ⟨_, rfl⟩
  have hbV_a : Below w1.heap.size w1 V_a := by rw [← hV_a]; exact (Below.refl _ _).alloc (Nat.le_refl _) _
  have HXV_a := Lib.hid (BoxF.new hV_a)
  have HX := Lib.hid (HX.out.below hbV_a)
  have HY := Lib.hid (HY.out.below hbV_a)
  have HBV_a := Lib.hid (HB1.out.trans (hbV_a.mono HB1.out.size))
  have EV_a := Lib.hid hV_a
  have hsV_a : V_a.heap.size = w1.heap.size + 1 := by rw [← hV_a]; simp
  have HSV_a := Lib.hid hsV_a
  clear hV_a hbV_a hsV_a
  obtain ⟨V_b, hV_b⟩ : ∃ V, V_a.alloc (.cells #[.int .i64 l2, .slice a2 m2 c2] 25) = V := ⟨_, rfl⟩
  have hbV_b : Below V_a.heap.size V_a V_b := by rw [← hV_b]; exact (Below.refl _ _).alloc (Nat.le_refl _) _
  have HXV_b := Lib.hid (BoxF.new hV_b)
  have HX := Lib.hid (HX.out.below hbV_b)
  have HY := Lib.hid (HY.out.below hbV_b)
  have HXV_a := Lib.hid (HXV_a.out.below hbV_b)
  have HBV_b := Lib.hid (HBV_a.out.trans (hbV_b.mono HBV_a.out.size))
  have EV_b := Lib.hid hV_b
  have hsV_b : V_b.heap.size = V_a.heap.size + 1 := by rw [← hV_b]; simp
  have HSV_b := Lib.hid hsV_b
  clear hV_b hbV_b hsV_b
  have HXV_b' := HXV_b.out
  rw [HSV_a.out] at HXV_b'
  have HXV_b := Lib.hid HXV_b'
  clear HXV_b'
  have hp0 := HXV_a.out
  obtain ⟨_, c0_0, c0_1, _, _⟩ := hp0
  rw [← EV_b.out, ← EV_a.out] at c0_0 c0_1
  have hp1 := HXV_b.out
  obtain ⟨_, c1_0, c1_1, _, _⟩ := hp1
  rw [← EV_b.out, ← EV_a.out] at c1_0 c1_1
  go_wp2_with fail
  rw [EV_a.out, EV_b.out]
  clear c0_0 c0_1 c1_0 c1_1
  refine (iPolyAlike_t HX.out HY.out HS.out).mono ?_
  rintro e w2 ⟨rfl, hb2⟩
  have HX := Lib.hid (HX.out.below hb2)
  have HY := Lib.hid (HY.out.below hb2)
  have HXV_a := Lib.hid (HXV_a.out.below hb2)
  have HXV_b := Lib.hid (HXV_b.out.below hb2)
  have HB2 := Lib.hid (HBV_b.out.trans (hb2.mono HBV_b.out.size))
  clear hb2
  have hp0 := HXV_a.out
  obtain ⟨_, c0_0, c0_1, _, _⟩ := hp0
  have hp1 := HXV_b.out
  obtain ⟨_, c1_0, c1_1, _, _⟩ := hp1
  go_wp2_with fail
  clear c0_0 c0_1 c1_0 c1_1
  refine (sPolyAlike_t HX.out HY.out HS.out).mono ?_
  rintro e w3 ⟨rfl, hb3⟩
  have HX := Lib.hid (HX.out.below hb3)
  have HY := Lib.hid (HY.out.below hb3)
  have HXV_a := Lib.hid (HXV_a.out.below hb3)
  have HXV_b := Lib.hid (HXV_b.out.below hb3)
  have HB3 := Lib.hid (HB2.out.trans (hb3.mono HB2.out.size))
  clear hb3
  cases b with
  | false =>
    go_wp2
    go_ret
    exact ⟨rfl, HB3.out⟩
  | true =>
    have HS2 := Lib.hid ((alike_comm ⟨l1, x⟩ ⟨l2, y⟩).trans HS.out)
    have hlen := alike_len HS.out
    obtain rfl : m1 = m2 := by rw [← HM1.out, ← HM2.out]; exact hlen
    clear hlen
    have hp0 := HXV_b.out
    obtain ⟨_, c0_0, c0_1, _, _⟩ := hp0
    have hp1 := HXV_a.out
    obtain ⟨_, c1_0, c1_1, _, _⟩ := hp1
    go_wp2_with fail
    clear c0_0 c0_1 c1_0 c1_1
    refine (iPolyAlike_t HY.out HX.out HS2.out).mono ?_
    rintro e w4 ⟨rfl, hb4⟩
    have HX := Lib.hid (HX.out.below hb4)
    have HY := Lib.hid (HY.out.below hb4)
    have HXV_a := Lib.hid (HXV_a.out.below hb4)
    have HXV_b := Lib.hid (HXV_b.out.below hb4)
    have HB4 := Lib.hid (HB3.out.trans (hb4.mono HB3.out.size))
    clear hb4
    have hp0 := HXV_a.out
    obtain ⟨_, c0_0, c0_1, _, _⟩ := hp0
    have hp1 := HXV_b.out
    obtain ⟨_, c1_0, c1_1, _, _⟩ := hp1
    go_wp2
    go_ret
    exact ⟨rfl, HB4.out⟩

set_option maxRecDepth 100000 in
theorem lifted (os : Os) (started : os.Started) (H : Type) (enc : TypeId × Value → H) :
    ReturnsInHanded {} Try.checked os 4 .any (Rows.fnPolyAlikeSpec.pre6 enc Try.prog Try.f4 Rows.fnPolyAlikeRow.domain false) (Rows.fnPolyAlikeSpec.post enc Try.prog Try.f4 false true false false) := by
  refine returnsInHanded_of_change (C := Try.checked) own started (by kernel_rfl) Try.func4
    (ChangeSpec.witness6 (enc := enc) (C := Try.checked) false ⟨#[], #[.slice none 0 0], []⟩ 8 (by kernel_rfl) (by kernel_rfl) (by kernel_rfl) (by kernel_rfl)) ?_
  intro W base args ds gs before hval0 hW hcnd _
  have hval : ∀ (j : Nat) t v, Try.f4.params[j]? = some t → args[j]? = some v → Value.okWide Try.prog W .any base t v := hval0
  have hW' := hW
  obtain ⟨p, q, hA0, hV, rfl, hfz, hnd⟩ := hW
  have hA : DataW.TrodAll enc Try.prog W 0 (fun _ => true) true Try.f4.params.toList args.toList ds p := hA0
  rw [Try.params4] at hA hval
  obtain ⟨v0, vs0, d0, ds0, p0, q0, hargs, rfl, rfl, h0, r0⟩ := trodAll_cons hA
  obtain ⟨rfl, rfl, rfl⟩ := trodAll_nil r0
  obtain rfl : args = #[v0] := by cases args; simp_all
  obtain ⟨rfl, rfl⟩ := trodVars_none hV
  obtain ⟨a0, len0, cap0, rfl⟩ := okWide_slice Try.underlying22 (hval 0 22 v0 rfl rfl)
  have k0 := h0
  have lt0 : ∀ x ∈ p0, x.block < W.heap.size := by obtain ⟨m, hm⟩ := k0; exact DataW.trod_lt m _ _ _ hm
  obtain ⟨z0, w0⟩ : ∃ zs, BsAt W.heap.size W a0 len0 cap0 zs := by
    obtain ⟨fuel, hf⟩ := h0
    exact bs_of hf
  clear hA0 hval0
  refine (walk a0 len0 cap0 z0 W w0).mono fun e W' ⟨he, bel⟩ => ?_
  subst he
  exact ⟨_, rfl, _, _, _, [], _, [], hW', trodAll_mk1 (shut_bool Try.underlying4 _), (trodAll_cons_mk (Below.trod laidOut (by kernel_rfl) (of_decide_eq_true (by kernel_rfl)) k0 bel lt0) trodAll_mk0), rfl, bel.frame _, fun h => by cases h⟩

theorem closed : joinedFacts Try.prog 4 Try.f4 Rows.fnPolyAlikeSpec Rows.fnPolyAlikeRow = true :=
  ((restOf Try.prog 4 Try.f4 Rows.fnPolyAlikeSpec Rows.fnPolyAlikeRow).2 enter_is lifts_is make_is).trans (by kernel_rfl)
theorem over : Rows.fnPolyAlikeRow.holds Try.pinned (OpenSpec.ofChange Rows.fnPolyAlikeSpec) :=
  OpenClaim.holds_of_wide 4 Try.f4 rfl rfl rfl rfl rfl rfl rfl ⟨rfl, rfl, rfl, rfl, rfl⟩ rfl rfl rfl rfl rfl (by kernel_rfl) Try.func4 closed
    (of_decide_eq_true (by kernel_rfl)) (by unfold Func.isWrapper; first | (rw [if_pos (by decide +kernel)]; kernel_rfl) | (rw [if_neg (by decide +kernel)]; exact ⟨rfl, rfl⟩))
    (fun os started H enc _ => lifted os started H enc)

theorem proved : Rows.FnPolyAlikeSaid := over
#print axioms proved
end Go.Proofs.Ytakfobihakbefaa.LPolyAlikeP

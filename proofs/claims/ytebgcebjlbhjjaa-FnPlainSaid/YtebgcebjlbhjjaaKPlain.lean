/-
  Proves 'Rows.FnPlainSaid': for every list of bytes, the coefficients of the sum that the model draws from it add up to what those of the turned sum add up to.
  Conditions: none beyond the row's own.
-/
import Derived.Test.YtebgcebjlbhjjaaRows
import Derived.WalkKit
import Derived.ProofKit
import Derived.OpenShut
import Derived.ShutString
import Derived.ChangeOld
import Derived.Below
import Derived.Test.YtebgcebjlbhjjaaBa
import Derived.Test.YtebgcebjlbhjjaaBb
import Derived.Test.YtebgcebjlbhjjaaBc
import Derived.Test.YtebgcebjlbhjjaaBd

namespace Go.Proofs.Ytebgcebjlbhjjaa.LPlain
open Go.ChangeShapes Go.WideShapes Go.ChangeAt Go.RowKit
open Go.ChangeMaps (open_string shut_string)
set_option linter.unusedVariables false

theorem own : ownKnob Try.prog.godebug = none := by kernel_rfl
theorem laidOut : laidOutB Try.prog = true := by kernel_rfl

set_option maxRecDepth 100000 in
set_option maxHeartbeats 4000000 in
theorem walk (a0 : Option Addr) (len0 cap0 : Nat) (z0 : List Int) (w : World) (w0 : BsAt w.heap.size w a0 len0 cap0 z0) :
    Calls Try.prog 8 #[.slice a0 len0 cap0] w fun e w' => e = .returned (.bool true) ∧ Below w.heap.size w w' := by
  have HDr := Lib.hid (drawSumPlain_any a0 len0 cap0 z0 w w0)
  have hfit := w0.fit
  unfold maxLen at hfit
  clear w0
  by_cases hlong : ¬ len0 ≤ 1048576
  · have hd : decide ((1048576 : Int) < (len0 : Int)) = true := decide_eq_true (by omega)
    go_enter Try.func8, Try.ntmps8
    go_wp2_with fail
    go_ret
    exact ⟨rfl, Below.refl _ _⟩
  have hd : decide ((1048576 : Int) < (len0 : Int)) = false := decide_eq_false (by omega)
  go_enter Try.func8, Try.ntmps8
  go_wp2_with fail
  refine HDr.out.mono ?_
  rintro e w1 ⟨⟨v, rfl, g, c, n, x, rfl, hg, hx, hn, hxs⟩, hb1⟩
  have HX := Lib.hid hx
  have HXS := Lib.hid hxs
  have HB1 := Lib.hid hb1
  clear hx hb1 hxs
  cases hb : sumB x with
  | false =>
    have HS := Lib.hid hb
    have HZ : Hid (cond false (plainZ x) 0 = 0) := Lib.hid rfl
    clear hb
    go_wp2_with fail
    refine (iSumPlain_t HX.out HS.out HZ.out).mono ?_
    rintro e w2 ⟨rfl, hb2⟩
    have HB2 := Lib.hid (HB1.out.trans (hb2.mono HB1.out.size))
    have HX := Lib.hid (HX.out.below hb2)
    clear hb2
    go_wp2_with fail
    refine (sSumPlain_t HX.out HS.out HZ.out).mono ?_
    rintro e w3 ⟨rfl, hb3⟩
    have HB3 := Lib.hid (HB2.out.trans (hb3.mono HB2.out.size))
    clear hb3
    go_wp2
    go_ret
    exact ⟨rfl, HB3.out⟩
  | true =>
    obtain ⟨us, hus⟩ : ∃ us, canonT (x.map (mapT backL)) = us := ⟨_, rfl⟩
    obtain ⟨k, hk⟩ : ∃ k, us.length = k := ⟨_, rfl⟩
    have htu : turnedB x = true := turned_sum hb
    have hus1 : sumB us = true := by rw [← hus]; exact sum_of_tw (turnedB_iff.1 htu).2
    obtain ⟨z, hz⟩ : ∃ z, plainZ x = z := ⟨_, rfl⟩
    have hzu : plainZ us = z := by rw [← hus, plain_canon, plain_map, hz]
    have HS := Lib.hid hb
    have HZ : Hid (cond true (plainZ x) 0 = z) := Lib.hid hz
    have HZU : Hid (cond true (plainZ us) 0 = z) := Lib.hid hzu
    have HT := Lib.hid htu
    have HU : Hid (cond true (canonT (x.map (mapT backL))) [] = us) := Lib.hid hus
    have HN := Lib.hid hk
    have HUS := Lib.hid hus1
    clear hb hus hk htu hus1 hz hzu
    go_wp2_with fail
    refine (iSumPlain_t HX.out HS.out HZ.out).mono ?_
    rintro e w2 ⟨rfl, hb2⟩
    have HB2 := Lib.hid (HB1.out.trans (hb2.mono HB1.out.size))
    have HX := Lib.hid (HX.out.below hb2)
    clear hb2
    go_wp2_with fail
    refine (sSumPlain_t HX.out HS.out HZ.out).mono ?_
    rintro e w3 ⟨rfl, hb3⟩
    have HB3 := Lib.hid (HB2.out.trans (hb3.mono HB2.out.size))
    have HX := Lib.hid (HX.out.below hb3)
    clear hb3
    go_wp2_with fail
    refine (iSumTurned_t HX.out HT.out HU.out HN.out).mono ?_
    rintro e w4 ⟨⟨a4, c4, rfl, h4⟩, hb4⟩
    have H4 := Lib.hid h4
    have HB4 := Lib.hid (HB3.out.trans (hb4.mono HB3.out.size))
    clear h4 hb4
    go_wp2_with fail
    refine (iSumPlain_t H4.out HUS.out HZU.out).mono ?_
    rintro e w5 ⟨rfl, hb5⟩
    have HB5 := Lib.hid (HB4.out.trans (hb5.mono HB4.out.size))
    clear hb5
    go_wp2
    go_ret
    exact ⟨rfl, HB5.out⟩

set_option maxRecDepth 100000 in
theorem lifted (os : Os) (started : os.Started) (H : Type) (enc : TypeId × Value → H) :
    ReturnsInHanded {} Try.checked os 8 .any (Rows.fnPlainSpec.pre6 enc Try.prog Try.f8 Rows.fnPlainRow.domain false) (Rows.fnPlainSpec.post enc Try.prog Try.f8 false true false false) := by
  refine returnsInHanded_of_change (C := Try.checked) own started (by kernel_rfl) Try.func8
    (ChangeSpec.witness6 (enc := enc) (C := Try.checked) false ⟨#[], #[.slice none 0 0], []⟩ 8 (by kernel_rfl) (by kernel_rfl) (by kernel_rfl) (by kernel_rfl)) ?_
  intro W base args ds gs before hval0 hW hcnd _
  have hval : ∀ (j : Nat) t v, Try.f8.params[j]? = some t → args[j]? = some v → Value.okWide Try.prog W .any base t v := hval0
  have hW' := hW
  obtain ⟨p, q, hA0, hV, rfl, hfz, hnd⟩ := hW
  have hA : DataW.TrodAll enc Try.prog W 0 (fun _ => true) true Try.f8.params.toList args.toList ds p := hA0
  rw [Try.params8] at hA hval
  obtain ⟨v0, vs0, d0, ds0, p0, q0, hargs, rfl, rfl, h0, r0⟩ := trodAll_cons hA
  obtain ⟨rfl, rfl, rfl⟩ := trodAll_nil r0
  obtain rfl : args = #[v0] := by cases args; simp_all
  obtain ⟨rfl, rfl⟩ := trodVars_none hV
  obtain ⟨a0, len0, cap0, rfl⟩ := okWide_slice Try.underlying22 (hval 0 22 v0 rfl rfl)
  have k0 := h0
  have lt0 : ∀ x ∈ p0, x.block < W.heap.size := by obtain ⟨m, hm⟩ := k0; exact DataW.trod_lt m _ _ _ hm
  obtain ⟨z0, w0⟩ : ∃ zs, BsAt W.heap.size W a0 len0 cap0 zs := by
    obtain ⟨fuel, hf⟩ := h0
    exact bs_of hf
  clear hA0 hval0
  refine (walk a0 len0 cap0 z0 W w0).mono fun e W' ⟨he, bel⟩ => ?_
  subst he
  exact ⟨_, rfl, _, _, _, [], _, [], hW', trodAll_mk1 (shut_bool Try.underlying4 _), (trodAll_cons_mk (Below.trod laidOut (by kernel_rfl) (of_decide_eq_true (by kernel_rfl)) k0 bel lt0) trodAll_mk0), rfl, bel.frame _, fun h => by cases h⟩

theorem over : Rows.fnPlainRow.holds Try.pinned (OpenSpec.ofChange Rows.fnPlainSpec) :=
  OpenClaim.holds_of_wide 8 Try.f8 rfl rfl rfl rfl rfl rfl rfl ⟨rfl, rfl, rfl, rfl, rfl⟩ rfl rfl rfl rfl rfl (by kernel_rfl) Try.func8 (by kernel_rfl)
    (of_decide_eq_true (by kernel_rfl)) (by unfold Func.isWrapper; first | (rw [if_pos (by decide +kernel)]; kernel_rfl) | (rw [if_neg (by decide +kernel)]; exact ⟨rfl, rfl⟩))
    (fun os started H enc _ => lifted os started H enc)

theorem proved : Rows.FnPlainSaid := over
#print axioms proved
end Go.Proofs.Ytebgcebjlbhjjaa.LPlain

/-
  Proves 'Rows.FnSumAddSaid': for every list of bytes, the sum of the two sums that the model draws from it is the sum the other way, and its coefficients add up to those of both.
  Conditions: none beyond the row's own.
-/
import Derived.Test.YtebgcebjlbhjjaaRows
import Derived.WalkKit
import Derived.ProofKit
import Derived.OpenShut
import Derived.ShutString
import Derived.ChangeOld
import Derived.Below
import Derived.Test.YtebgcebjlbhjjaaBa
import Derived.Test.YtebgcebjlbhjjaaBb
import Derived.Test.YtebgcebjlbhjjaaBc
import Derived.Test.YtebgcebjlbhjjaaBd

namespace Go.Proofs.Ytebgcebjlbhjjaa.LSumAddP
open Go.ChangeShapes Go.WideShapes Go.ChangeAt Go.RowKit
open Go.ChangeMaps (open_string shut_string)
set_option linter.unusedVariables false

theorem own : ownKnob Try.prog.godebug = none := by kernel_rfl
theorem laidOut : laidOutB Try.prog = true := by kernel_rfl

set_option maxRecDepth 100000 in
set_option maxHeartbeats 4000000 in
theorem walk (a0 : Option Addr) (len0 cap0 : Nat) (z0 : List Int) (w : World) (w0 : BsAt w.heap.size w a0 len0 cap0 z0) :
    Calls Try.prog 5 #[.slice a0 len0 cap0] w fun e w' => e = .returned (.bool true) ∧ Below w.heap.size w w' := by
  have HDr := Lib.hid (drawSumAdd_any a0 len0 cap0 z0 w w0)
  have hfit := w0.fit
  unfold maxLen at hfit
  clear w0
  by_cases hlong : ¬ len0 ≤ 1048576
  · have hd : decide ((1048576 : Int) < (len0 : Int)) = true := decide_eq_true (by omega)
    go_enter Try.func5, Try.ntmps5
    go_wp2_with fail
    go_ret
    exact ⟨rfl, Below.refl _ _⟩
  have hd : decide ((1048576 : Int) < (len0 : Int)) = false := decide_eq_false (by omega)
  go_enter Try.func5, Try.ntmps5
  go_wp2_with fail
  refine HDr.out.mono ?_
  rintro e w1 ⟨⟨v, u, rfl, ⟨g, c, n, x, rfl, hg, hx, hn, hxs⟩, ⟨g2, d, m, y, rfl, hg2, hy, hm, hys⟩⟩, hb1⟩
  have HX := Lib.hid hx
  have HY := Lib.hid hy
  have HB1 := Lib.hid hb1
  clear hx hb1 hxs hy hys
  cases hb : addB x y with
  | false =>
    have HS := Lib.hid hb
    have HU : Hid (cond false (canonT (x ++ y)) [] = []) := Lib.hid rfl
    have HN : Hid (([] : List Tm).length = 0) := Lib.hid rfl
    clear hb
    go_wp2_with fail
    refine (iSumAdd_t HX.out HY.out HS.out HU.out HN.out).mono ?_
    rintro e w2 ⟨⟨a2, c2, rfl, h2⟩, hb2⟩
    have HX := Lib.hid (HX.out.below hb2)
    have HY := Lib.hid (HY.out.below hb2)
    have H2 := Lib.hid h2
    have HB2 := Lib.hid (HB1.out.trans (hb2.mono HB1.out.size))
    clear h2 hb2
    go_wp2_with fail
    refine (sSumAdd_t HX.out HY.out HS.out HU.out HN.out).mono ?_
    rintro e w3 ⟨⟨a3, c3, rfl, h3⟩, hb3⟩
    have H2 := Lib.hid (H2.out.below hb3)
    have H3 := Lib.hid h3
    have HB3 := Lib.hid (HB2.out.trans (hb3.mono HB2.out.size))
    clear h3 hb3
    go_wp2_with fail
    refine (sameSum_t H2.out H3.out).mono ?_
    rintro e w4 ⟨rfl, hb4⟩
    have HB4 := Lib.hid (HB3.out.trans (hb4.mono HB3.out.size))
    have H2 := Lib.hid (H2.out.below hb4)
    have H3 := Lib.hid (H3.out.below hb4)
    clear hb4
    go_wp2_with fail
    refine (sameSum_t H2.out H3.out).mono ?_
    rintro e w5 ⟨rfl, hb5⟩
    have HB5 := Lib.hid (HB4.out.trans (hb5.mono HB4.out.size))
    clear hb5
    go_wp2
    go_ret
    exact ⟨rfl, HB5.out⟩
  | true =>
    obtain ⟨hsx, hsy, htw⟩ := addB_iff.1 hb
    obtain ⟨us, hus⟩ : ∃ us, canonT (x ++ y) = us := ⟨_, rfl⟩
    obtain ⟨k, hk⟩ : ∃ k, us.length = k := ⟨_, rfl⟩
    have hyx : canonT (y ++ x) = us := by rw [← hus]; exact (same_comm y x).eq
    have hus1 : sumB us = true := by rw [← hus]; exact sum_of_tw htw
    have hpl : plainZ us = plainZ x + plainZ y := by rw [← hus, plain_canon, plain_append]
    have hbx := plain_bnd hsx
    have hby := plain_bnd hsy
    obtain ⟨p, hp⟩ : ∃ p, plainZ x = p := ⟨_, rfl⟩
    obtain ⟨q, hq⟩ : ∃ q, plainZ y = q := ⟨_, rfl⟩
    rw [hp] at hbx hpl
    rw [hq] at hby hpl
    have e1 : IntKind.i64.wrap (p + q) = p + q := IntWalk.i64_in _ (by omega)
    have HS := Lib.hid hb
    have HS2 : Hid (addB y x = true) := Lib.hid (addB_iff.2 ⟨hsy, hsx, by rw [hyx, ← hus]; exact htw⟩)
    have HU : Hid (cond true (canonT (x ++ y)) [] = us) := Lib.hid hus
    have HU2 : Hid (cond true (canonT (y ++ x)) [] = us) := Lib.hid hyx
    have HN := Lib.hid hk
    have HUS := Lib.hid hus1
    have HSX := Lib.hid hsx
    have HSY := Lib.hid hsy
    have HPX : Hid (cond true (plainZ x) 0 = p) := Lib.hid hp
    have HPY : Hid (cond true (plainZ y) 0 = q) := Lib.hid hq
    have HPU : Hid (cond true (plainZ us) 0 = p + q) := Lib.hid hpl
    clear hb hsx hsy htw hus hk hyx hus1 hpl hp hq
    go_wp2_with fail
    refine (iSumAdd_t HX.out HY.out HS.out HU.out HN.out).mono ?_
    rintro e w2 ⟨⟨a2, c2, rfl, h2⟩, hb2⟩
    have HX := Lib.hid (HX.out.below hb2)
    have HY := Lib.hid (HY.out.below hb2)
    have H2 := Lib.hid h2
    have HB2 := Lib.hid (HB1.out.trans (hb2.mono HB1.out.size))
    clear h2 hb2
    go_wp2_with fail
    refine (sSumAdd_t HX.out HY.out HS.out HU.out HN.out).mono ?_
    rintro e w3 ⟨⟨a3, c3, rfl, h3⟩, hb3⟩
    have H2 := Lib.hid (H2.out.below hb3)
    have HX := Lib.hid (HX.out.below hb3)
    have HY := Lib.hid (HY.out.below hb3)
    have H3 := Lib.hid h3
    have HB3 := Lib.hid (HB2.out.trans (hb3.mono HB2.out.size))
    clear h3 hb3
    go_wp2_with fail
    refine (sameSum_t H2.out H3.out).mono ?_
    rintro e w4 ⟨rfl, hb4⟩
    have HB4 := Lib.hid (HB3.out.trans (hb4.mono HB3.out.size))
    have H2 := Lib.hid (H2.out.below hb4)
    have H3 := Lib.hid (H3.out.below hb4)
    have HX := Lib.hid (HX.out.below hb4)
    have HY := Lib.hid (HY.out.below hb4)
    clear hb4
    go_wp2_with fail
    refine (iSumAdd_t HY.out HX.out HS2.out HU2.out HN.out).mono ?_
    rintro e w5 ⟨⟨a5, c5, rfl, h5⟩, hb5⟩
    have H2 := Lib.hid (H2.out.below hb5)
    have HX := Lib.hid (HX.out.below hb5)
    have HY := Lib.hid (HY.out.below hb5)
    have H5 := Lib.hid h5
    have HB5 := Lib.hid (HB4.out.trans (hb5.mono HB4.out.size))
    clear h5 hb5
    go_wp2_with fail
    refine (iSumPlain_t H2.out HUS.out HPU.out).mono ?_
    rintro e w6 ⟨rfl, hb6⟩
    have HB6 := Lib.hid (HB5.out.trans (hb6.mono HB5.out.size))
    have H2 := Lib.hid (H2.out.below hb6)
    have H5 := Lib.hid (H5.out.below hb6)
    have HX := Lib.hid (HX.out.below hb6)
    have HY := Lib.hid (HY.out.below hb6)
    clear hb6
    go_wp2_with fail
    refine (iSumPlain_t HX.out HSX.out HPX.out).mono ?_
    rintro e w7 ⟨rfl, hb7⟩
    have HB7 := Lib.hid (HB6.out.trans (hb7.mono HB6.out.size))
    have H2 := Lib.hid (H2.out.below hb7)
    have H5 := Lib.hid (H5.out.below hb7)
    have HX := Lib.hid (HX.out.below hb7)
    have HY := Lib.hid (HY.out.below hb7)
    clear hb7
    go_wp2_with fail
    refine (iSumPlain_t HY.out HSY.out HPY.out).mono ?_
    rintro e w8 ⟨rfl, hb8⟩
    have HB8 := Lib.hid (HB7.out.trans (hb8.mono HB7.out.size))
    have H2 := Lib.hid (H2.out.below hb8)
    have H5 := Lib.hid (H5.out.below hb8)
    clear hb8
    go_wp2_with fail
    refine (sameSum_t H5.out H2.out).mono ?_
    rintro e w9 ⟨rfl, hb9⟩
    have HB9 := Lib.hid (HB8.out.trans (hb9.mono HB8.out.size))
    clear hb9
    go_wp2
    go_ret
    exact ⟨rfl, HB9.out⟩

set_option maxRecDepth 100000 in
theorem lifted (os : Os) (started : os.Started) (H : Type) (enc : TypeId × Value → H) :
    ReturnsInHanded {} Try.checked os 5 .any (Rows.fnSumAddSpec.pre6 enc Try.prog Try.f5 Rows.fnSumAddRow.domain false) (Rows.fnSumAddSpec.post enc Try.prog Try.f5 false true false false) := by
  refine returnsInHanded_of_change (C := Try.checked) own started (by kernel_rfl) Try.func5
    (ChangeSpec.witness6 (enc := enc) (C := Try.checked) false ⟨#[], #[.slice none 0 0], []⟩ 8 (by kernel_rfl) (by kernel_rfl) (by kernel_rfl) (by kernel_rfl)) ?_
  intro W base args ds gs before hval0 hW hcnd _
  have hval : ∀ (j : Nat) t v, Try.f5.params[j]? = some t → args[j]? = some v → Value.okWide Try.prog W .any base t v := hval0
  have hW' := hW
  obtain ⟨p, q, hA0, hV, rfl, hfz, hnd⟩ := hW
  have hA : DataW.TrodAll enc Try.prog W 0 (fun _ => true) true Try.f5.params.toList args.toList ds p := hA0
  rw [Try.params5] at hA hval
  obtain ⟨v0, vs0, d0, ds0, p0, q0, hargs, rfl, rfl, h0, r0⟩ := trodAll_cons hA
  obtain ⟨rfl, rfl, rfl⟩ := trodAll_nil r0
  obtain rfl : args = #[v0] := by cases args; simp_all
  obtain ⟨rfl, rfl⟩ := trodVars_none hV
  obtain ⟨a0, len0, cap0, rfl⟩ := okWide_slice Try.underlying22 (hval 0 22 v0 rfl rfl)
  have k0 := h0
  have lt0 : ∀ x ∈ p0, x.block < W.heap.size := by obtain ⟨m, hm⟩ := k0; exact DataW.trod_lt m _ _ _ hm
  obtain ⟨z0, w0⟩ : ∃ zs, BsAt W.heap.size W a0 len0 cap0 zs := by
    obtain ⟨fuel, hf⟩ := h0
    exact bs_of hf
  clear hA0 hval0
  refine (walk a0 len0 cap0 z0 W w0).mono fun e W' ⟨he, bel⟩ => ?_
  subst he
  exact ⟨_, rfl, _, _, _, [], _, [], hW', trodAll_mk1 (shut_bool Try.underlying4 _), (trodAll_cons_mk (Below.trod laidOut (by kernel_rfl) (of_decide_eq_true (by kernel_rfl)) k0 bel lt0) trodAll_mk0), rfl, bel.frame _, fun h => by cases h⟩

theorem over : Rows.fnSumAddRow.holds Try.pinned (OpenSpec.ofChange Rows.fnSumAddSpec) :=
  OpenClaim.holds_of_wide 5 Try.f5 rfl rfl rfl rfl rfl rfl rfl ⟨rfl, rfl, rfl, rfl, rfl⟩ rfl rfl rfl rfl rfl (by kernel_rfl) Try.func5 (by kernel_rfl)
    (of_decide_eq_true (by kernel_rfl)) (by unfold Func.isWrapper; first | (rw [if_pos (by decide +kernel)]; kernel_rfl) | (rw [if_neg (by decide +kernel)]; exact ⟨rfl, rfl⟩))
    (fun os started H enc _ => lifted os started H enc)

theorem proved : Rows.FnSumAddSaid := over
#print axioms proved
end Go.Proofs.Ytebgcebjlbhjjaa.LSumAddP

/-
  Proves 'Rows.FnExactMatrixInSaid': for every list of lists of polynomials, the program's MatrixIn answers as the model's MatrixIn and leaves the lists alone.
  Conditions: none beyond the row's own.
-/
import Derived.Test.YtakfobihakbefaaRows
import Derived.WalkKit
import Derived.ProofKit
import Derived.OpenShut
import Derived.ShutString
import Derived.ChangeOld
import Derived.Below
import Derived.Test.YtakfobihakbefaaBa
import Derived.Test.YtakfobihakbefaaBb
import Derived.Test.YtakfobihakbefaaBc
import Derived.Test.YtakfobihakbefaaBd

namespace Go.Proofs.Ytakfobihakbefaa.LMatrixIn
open Go.ChangeShapes Go.WideShapes Go.ChangeAt Go.RowKit
open Go.ChangeMaps (open_string shut_string)
set_option linter.unusedVariables false

theorem own : ownKnob Try.prog.godebug = none := by kernel_rfl
theorem laidOut : laidOutB Try.prog = true := by kernel_rfl

set_option maxRecDepth 100000 in
set_option maxHeartbeats 4000000 in
theorem walk (a0 : Option Addr) (len0 cap0 : Nat) (z0 : Mx) (w : World) (w0 : IsPSS w a0 len0 z0) :
    Calls Try.prog 16 #[.slice a0 len0 cap0] w fun e w' => e = .returned (.bool true) ∧ Below w.heap.size w w' := by
  have HS0 := Lib.hid w0
  have HN0 := Lib.hid w0.len
  have HBd0 := Lib.hid w0.bound
  obtain ⟨b, hb0⟩ : ∃ b, matB z0 = b := ⟨_, rfl⟩
  have HMB := Lib.hid hb0
  have hbb : (b != b) = false := by cases b <;> rfl
  have HB := Lib.hid (Below.refl w.heap.size w)
  clear w0 hb0
  go_enter Try.func16, Try.ntmps16
  go_wp2_with fail
  refine (szPolySS_any a0 cap0 len0 1048576 z0 _ (HS0.out.below HB.out) (by omega)).mono ?_
  rintro e W1 ⟨⟨k0, rfl, hk0⟩, hb⟩
  have HB := Lib.hid (HB.out.trans (hb.mono HB.out.size))
  clear hb
  by_cases hs0 : k0 < 0
  · clear hk0
    go_wp2
    go_ret
    exact ⟨rfl, HB.out⟩
  obtain ⟨hsz0, q0, rfl, hq0⟩ : len0 + totM z0 ≤ 1048576 ∧ ∃ q : Nat, k0 = (q : Int) ∧ q ≤ 1048576 := by
    rcases hk0 with h | ⟨h1, h2⟩
    · omega
    · exact ⟨by omega, k0.toNat, by omega, by omega⟩
  clear hk0 hs0
  go_wp2_with fail
  refine (toPolySS_any a0 cap0 len0 z0 _ (HS0.out.below HB.out) hsz0).mono ?_
  rintro e W2 ⟨vm0, rsm0, rfl, hrm0, hom0, hb⟩
  have HB := Lib.hid (HB.out.trans (hb.mono HB.out.size))
  obtain ⟨am0, cm0, rfl, hIm0⟩ := own_isPSS hom0 hrm0 HBd0.out HN0.out (Nat.le_trans (by omega : len0 ≤ 1048576) (by unfold maxLen; omega))
  have HIm0 := Lib.hid hIm0
  clear hIm0 hom0 hrm0 hb
  go_wp2_with fail
  refine (sMatrixIn_any _ _ _ z0 b _ HIm0.out HMB.out).mono ?_
  rintro e W3 ⟨rfl, hb⟩
  have HB := Lib.hid (HB.out.trans (hb.mono HB.out.size))
  clear hb
  go_wp2_with fail
  refine (toPolySS_any a0 cap0 len0 z0 _ (HS0.out.below HB.out) hsz0).mono ?_
  rintro e W4 ⟨vx0, rsx0, rfl, hrx0, hox0, hb⟩
  have HB := Lib.hid (HB.out.trans (hb.mono HB.out.size))
  obtain ⟨ax0, cx0, rfl, hIx0⟩ := own_isPSS hox0 hrx0 HBd0.out HN0.out (Nat.le_trans (by omega : len0 ≤ 1048576) (by unfold maxLen; omega))
  have HIx0 := Lib.hid hIx0
  clear hIx0 hox0 hrx0 hb
  go_wp2_with fail
  refine (iMatrixIn_any _ _ _ z0 b _ HIx0.out HMB.out).mono ?_
  rintro e W5 ⟨rfl, hb⟩
  have HIx0 := Lib.hid (HIx0.out.below hb)
  have HB := Lib.hid (HB.out.trans (hb.mono HB.out.size))
  clear hb
  go_wp2_with fail
  refine (toPolySS_any a0 cap0 len0 z0 _ (HS0.out.below HB.out) hsz0).mono ?_
  rintro e W6 ⟨vy0, rsy0, rfl, hry0, hoy0, hb⟩
  have HIx0 := Lib.hid (HIx0.out.below hb)
  have HB := Lib.hid (HB.out.trans (hb.mono HB.out.size))
  obtain ⟨ay0, cy0, rfl, hIy0⟩ := own_isPSS hoy0 hry0 HBd0.out HN0.out (Nat.le_trans (by omega : len0 ≤ 1048576) (by unfold maxLen; omega))
  have HIy0 := Lib.hid hIy0
  clear hIy0 hoy0 hry0 hb
  go_wp2_with fail
  refine (eqPolySS_yes _ _ _ _ len0 z0 _ HIx0.out HIy0.out).mono ?_
  rintro e W7 ⟨rfl, hb⟩
  have HB := Lib.hid (HB.out.trans (hb.mono HB.out.size))
  clear hb
  go_wp2
  go_ret
  exact ⟨rfl, HB.out⟩

set_option maxRecDepth 100000 in
theorem lifted (os : Os) (started : os.Started) (H : Type) (enc : TypeId × Value → H) :
    ReturnsInHanded {} Try.checked os 16 .any (Rows.fnExactMatrixInSpec.pre6 enc Try.prog Try.f16 Rows.fnExactMatrixInRow.domain false) (Rows.fnExactMatrixInSpec.post enc Try.prog Try.f16 false true false false) := by
  refine returnsInHanded_of_change (C := Try.checked) own started (by kernel_rfl) Try.func16
    (ChangeSpec.witness6 (enc := enc) (C := Try.checked) false ⟨#[], #[.slice none 0 0], []⟩ 8 (by kernel_rfl) (by kernel_rfl) (by kernel_rfl) (by kernel_rfl)) ?_
  intro W base args ds gs before hval0 hW hcnd _
  have hval : ∀ (j : Nat) t v, Try.f16.params[j]? = some t → args[j]? = some v → Value.okWide Try.prog W .any base t v := hval0
  have hW' := hW
  obtain ⟨p, q, hA0, hV, rfl, hfz, hnd⟩ := hW
  have hA : DataW.TrodAll enc Try.prog W 0 (fun _ => true) true Try.f16.params.toList args.toList ds p := hA0
  rw [Try.params16] at hA hval
  obtain ⟨v0, vs0, d0, ds0, p0, q0, hargs, rfl, rfl, h0, r0⟩ := trodAll_cons hA
  obtain ⟨rfl, rfl, rfl⟩ := trodAll_nil r0
  obtain rfl : args = #[v0] := by cases args; simp_all
  obtain ⟨rfl, rfl⟩ := trodVars_none hV
  obtain ⟨a0, len0, cap0, rfl⟩ := okWide_slice Try.underlying56 (hval 0 56 v0 rfl rfl)
  have k0 := h0
  have lt0 : ∀ x ∈ p0, x.block < W.heap.size := by obtain ⟨m, hm⟩ := k0; exact DataW.trod_lt m _ _ _ hm
  obtain ⟨z0, w0⟩ : ∃ zs, IsPSS W a0 len0 zs := by
    obtain ⟨fuel, hf⟩ := h0
    exact isPSS_of hf
  clear hA0 hval0
  refine (walk a0 len0 cap0 z0 W w0).mono fun e W' ⟨he, bel⟩ => ?_
  subst he
  exact ⟨_, rfl, _, _, _, [], _, [], hW', trodAll_mk1 (shut_bool Try.underlying4 _), (trodAll_cons_mk (Below.trod laidOut (by kernel_rfl) (of_decide_eq_true (by kernel_rfl)) k0 bel lt0) trodAll_mk0), rfl, bel.frame _, fun h => by cases h⟩

theorem closed : joinedFacts Try.prog 16 Try.f16 Rows.fnExactMatrixInSpec Rows.fnExactMatrixInRow = true :=
  ((restOf Try.prog 16 Try.f16 Rows.fnExactMatrixInSpec Rows.fnExactMatrixInRow).2 enter_is lifts_is make_is).trans (by kernel_rfl)
theorem over : Rows.fnExactMatrixInRow.holds Try.pinned (OpenSpec.ofChange Rows.fnExactMatrixInSpec) :=
  OpenClaim.holds_of_wide 16 Try.f16 rfl rfl rfl rfl rfl rfl rfl ⟨rfl, rfl, rfl, rfl, rfl⟩ rfl rfl rfl rfl rfl (by kernel_rfl) Try.func16 closed
    (of_decide_eq_true (by kernel_rfl)) (by unfold Func.isWrapper; first | (rw [if_pos (by decide +kernel)]; kernel_rfl) | (rw [if_neg (by decide +kernel)]; exact ⟨rfl, rfl⟩))
    (fun os started H enc _ => lifted os started H enc)

theorem proved : Rows.FnExactMatrixInSaid := over
#print axioms proved
end Go.Proofs.Ytakfobihakbefaa.LMatrixIn

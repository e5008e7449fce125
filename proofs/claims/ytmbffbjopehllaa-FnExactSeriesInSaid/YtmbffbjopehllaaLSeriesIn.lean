/-
  Proves 'Rows.FnExactSeriesInSaid': for every list of terms, the program's SeriesIn answers as the model's SeriesIn and leaves the list alone.
  Conditions: none beyond the row's own.
-/
import Derived.Test.YtmbffbjopehllaaRows
import Derived.Test.YtmbffbjopehllaaZc
import Derived.Test.YtmbffbjopehllaaJd
import Derived.WalkKit
import Derived.ProofKit
import Derived.OpenShut
import Derived.ShutString
import Derived.ChangeOld
import Derived.Below
namespace Go.Proofs.Ytmbffbjopehllaa.LSeriesIn
open Go.ChangeShapes Go.WideShapes Go.ChangeAt Go.RowKit
open Go.ChangeMaps (open_string shut_string)
set_option linter.unusedVariables false

theorem own : ownKnob Try.prog.godebug = none := by kernel_rfl
theorem laidOut : laidOutB Try.prog = true := by kernel_rfl

theorem isTerms_owns {w : World} {base g cap n : Nat} {a : Option Addr} {w0 : World} {ts : List Tm} (h0 : IsTerms w0 a n ts) (h : w.ownsRow base TI 2 (.slice (some ⟨g, 0, none⟩) n cap) n (termsV ts)) : IsTerms w (some ⟨g, 0, none⟩) n ts :=
  ⟨h0.len, h0.max, fun _ => ⟨_, rfl, termsAt_of_owns h0.len h⟩, h0.small⟩

set_option maxHeartbeats 2000000 in
theorem walk (a0 : Option Addr) (len0 cap0 : Nat) (z0 : List Tm) (w : World) (w0 : IsTerms w a0 len0 z0) :
    Calls Try.prog 3 #[.slice a0 len0 cap0] w fun e w' => e = .returned (.bool true) ∧ Below w.heap.size w w' := by
  have HS := Lib.hid w0
  obtain ⟨b, hb⟩ : ∃ b, serB z0 = b := ⟨_, rfl⟩
  have HB := Lib.hid hb
  clear w0 hb
  go_enter Try.func3, Try.ntmps3
  go_wp2_with fail
  refine (szTermS_any a0 cap0 len0 1048576 z0 w HS.out (by omega)).mono ?_
  rintro e W0 ⟨⟨k, rfl, hk⟩, hb0⟩
  by_cases hk0 : k < 0
  · clear hk
    go_wp2
    go_ret
    exact ⟨rfl, hb0⟩
  · have hnl : len0 ≤ 1048576 := by rcases hk with h | ⟨_, _, h, _⟩ <;> omega
    clear hk
    go_wp2_with fail
    refine (toTermS_any a0 cap0 len0 z0 W0 (HS.out.below hb0) hnl).mono ?_
    rintro e W1 ⟨g1, rfl, hr1, hb1⟩
    have HR1 := Lib.hid (isTerms_owns HS.out hr1)
    have hB1 : Below w.heap.size w W1 := hb0.trans (hb1.mono hb0.size)
    clear hr1
    go_wp2_with fail
    refine (sSeriesIn_any _ _ len0 z0 W1 HR1.out).mono ?_
    rintro e W2 ⟨rfl, hb2⟩
    have hB2 : Below w.heap.size w W2 := hB1.trans (hb2.mono hB1.size)
    have hbb := HB.out
    rw [hbb]
    clear hbb
    go_wp2_with fail
    refine (toTermS_any a0 cap0 len0 z0 W2 (HS.out.below hB2) hnl).mono ?_
    rintro e W3 ⟨g3, rfl, hr3, hb3⟩
    have HR3 := Lib.hid (isTerms_owns HS.out hr3)
    have hB3 : Below w.heap.size w W3 := hB2.trans (hb3.mono hB2.size)
    clear hr3
    go_wp2_with fail
    refine (iSeriesIn_any _ _ len0 z0 W3 HR3.out).mono ?_
    rintro e W4 ⟨rfl, hb4⟩
    have hB4 : Below w.heap.size w W4 := hB3.trans (hb4.mono hB3.size)
    have HX := Lib.hid (HR3.out.below hb4)
    have hbb := HB.out
    rw [hbb]
    clear hbb
    have hne : (b != b) = false := by cases b <;> rfl
    go_wp2_with fail
    refine (toTermS_any a0 cap0 len0 z0 W4 (HS.out.below hB4) hnl).mono ?_
    rintro e W5 ⟨g5, rfl, hr5, hb5⟩
    have HR5 := Lib.hid (isTerms_owns HS.out hr5)
    have hB5 : Below w.heap.size w W5 := hB4.trans (hb5.mono hB4.size)
    clear hr5
    go_wp2_with fail
    refine (eqTermS_yes _ _ _ _ len0 z0 W5 (HX.out.below hb5) HR5.out).mono ?_
    rintro e W6 ⟨rfl, hb6⟩
    go_wp2_with fail
    go_ret
    exact ⟨rfl, hB5.trans (hb6.mono hB5.size)⟩

set_option maxRecDepth 100000 in
theorem lifted (os : Os) (started : os.Started) (H : Type) (enc : TypeId × Value → H) :
    ReturnsInHanded {} Try.checked os 3 .any (Rows.fnExactSeriesInSpec.pre6 enc Try.prog Try.f3 Rows.fnExactSeriesInRow.domain false) (Rows.fnExactSeriesInSpec.post enc Try.prog Try.f3 false true false false) := by
  refine returnsInHanded_of_change (C := Try.checked) own started (by kernel_rfl) Try.func3
    (ChangeSpec.witness6 (enc := enc) (C := Try.checked) false ⟨#[], #[.slice none 0 0], []⟩ 8 (by kernel_rfl) (by kernel_rfl) (by kernel_rfl) (by kernel_rfl)) ?_
  intro W base args ds gs before hval0 hW hcnd _
  have hval : ∀ (j : Nat) t v, Try.f3.params[j]? = some t → args[j]? = some v → Value.okWide Try.prog W .any base t v := hval0
  have hW' := hW
  obtain ⟨p, q, hA0, hV, rfl, hfz, hnd⟩ := hW
  have hA : DataW.TrodAll enc Try.prog W 0 (fun _ => true) true Try.f3.params.toList args.toList ds p := hA0
  rw [Try.params3] at hA hval
  obtain ⟨v0, vs0, d0, ds0, p0, q0, hargs, rfl, rfl, h0, r0⟩ := trodAll_cons hA
  obtain ⟨rfl, rfl, rfl⟩ := trodAll_nil r0
  obtain rfl : args = #[v0] := by cases args; simp_all
  obtain ⟨rfl, rfl⟩ := trodVars_none hV
  obtain ⟨a0, len0, cap0, rfl⟩ := okWide_slice Try.underlying22 (hval 0 22 v0 rfl rfl)
  have k0 := h0
  have lt0 : ∀ x ∈ p0, x.block < W.heap.size := by obtain ⟨m, hm⟩ := k0; exact DataW.trod_lt m _ _ _ hm
  obtain ⟨z0, w0⟩ : ∃ zs, IsTerms W a0 len0 zs := by
    obtain ⟨fuel, hf⟩ := h0
    exact isTerms_of hf
  clear hA0 hval0
  refine (walk a0 len0 cap0 z0 W w0).mono fun e W' ⟨he, bel⟩ => ?_
  subst he
  exact ⟨_, rfl, _, _, _, [], _, [], hW', trodAll_mk1 (shut_bool Try.underlying4 _), (trodAll_cons_mk (Below.trod laidOut (by kernel_rfl) (of_decide_eq_true (by kernel_rfl)) k0 bel lt0) trodAll_mk0), rfl, bel.frame _, fun h => by cases h⟩

theorem over : Rows.fnExactSeriesInRow.holds Try.pinned (OpenSpec.ofChange Rows.fnExactSeriesInSpec) :=
  OpenClaim.holds_of_wide 3 Try.f3 rfl rfl rfl rfl rfl rfl rfl ⟨rfl, rfl, rfl, rfl, rfl⟩ rfl rfl rfl rfl rfl (by kernel_rfl) Try.func3 (by kernel_rfl)
    (of_decide_eq_true (by kernel_rfl)) (by unfold Func.isWrapper; first | (rw [if_pos (by decide +kernel)]; kernel_rfl) | (rw [if_neg (by decide +kernel)]; exact ⟨rfl, rfl⟩))
    (fun os started H enc _ => lifted os started H enc)

theorem proved : Rows.FnExactSeriesInSaid := over
#print axioms proved
end Go.Proofs.Ytmbffbjopehllaa.LSeriesIn

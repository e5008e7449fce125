/-
  Proves 'Rows.FnSeriesSaid': for every list of bytes, the series that the model draws from it, times 1 on either side, is itself.
  Conditions: none beyond the row's own.
-/
import Derived.Test.YtebgcebjlbhjjabRows
import Derived.WalkKit
import Derived.ProofKit
import Derived.OpenShut
import Derived.ShutString
import Derived.ChangeOld
import Derived.Below
import Derived.Test.YtebgcebjlbhjjabBa
import Derived.Test.YtebgcebjlbhjjabBb
import Derived.Test.YtebgcebjlbhjjabBc
import Derived.Test.YtebgcebjlbhjjabBd
import Derived.Test.YtebgcebjlbhjjabBe

namespace Go.Proofs.Ytebgcebjlbhjjab.LSeries
open Go.ChangeShapes Go.WideShapes Go.ChangeAt Go.RowKit
open Go.ChangeMaps (open_string shut_string)
set_option linter.unusedVariables false

theorem own : ownKnob Try.prog.godebug = none := by kernel_rfl
theorem laidOut : laidOutB Try.prog = true := by kernel_rfl

set_option maxRecDepth 100000 in
set_option maxHeartbeats 4000000 in
theorem walk (a0 : Option Addr) (len0 cap0 : Nat) (z0 : List Int) (w : World) (w0 : BsAt w.heap.size w a0 len0 cap0 z0) :
    Calls Try.prog 6 #[.slice a0 len0 cap0] w fun e w' => e = .returned (.bool true) ∧ Below w.heap.size w w' := by
  have HDr := Lib.hid (drawSeriesIn_any a0 len0 cap0 z0 w w0)
  have hfit := w0.fit
  unfold maxLen at hfit
  clear w0
  by_cases hlong : ¬ len0 ≤ 1048576
  · have hd : decide ((1048576 : Int) < (len0 : Int)) = true := decide_eq_true (by omega)
    go_enter Try.func6, Try.ntmps6
    go_wp2_with fail
    go_ret
    exact ⟨rfl, Below.refl _ _⟩
  have hd : decide ((1048576 : Int) < (len0 : Int)) = false := decide_eq_false (by omega)
  go_enter Try.func6, Try.ntmps6
  go_wp2_with fail
  refine HDr.out.mono ?_
  rintro e w1 ⟨⟨v, rfl, g, c, n, x, rfl, hg, hx⟩, hb1⟩
  have HX := Lib.hid hx
  have HB1 := Lib.hid hb1
  clear hx hb1
  cases hb : serB x with
  | false =>
    have HS := Lib.hid hb
    clear hb
    go_wp2_with fail
    refine (iSeriesIn_t HX.out HS.out).mono ?_
    rintro e w2 ⟨rfl, hb2⟩
    have HB2 := Lib.hid (HB1.out.trans (hb2.mono HB1.out.size))
    have HX := Lib.hid (HX.out.below hb2)
    clear hb2
    go_wp2_with fail
    refine (sSeriesIn_t HX.out HS.out).mono ?_
    rintro e w3 ⟨rfl, hb3⟩
    have HB3 := Lib.hid (HB2.out.trans (hb3.mono HB2.out.size))
    clear hb3
    go_wp2
    go_ret
    exact ⟨rfl, HB3.out⟩
  | true =>
    have HS := Lib.hid hb
    have HN := Lib.hid HX.out.len
    have HP : Hid (serProdB x (oneS noS) = true) := Lib.hid (serProdB_iff.2 ⟨hb, ser_one, by show twS (canonT (pairsS x oneT)) = true; rw [ser_times_one hb]; exact tw_ser hb⟩)
    have HQ : Hid (serProdB (oneS noS) x = true) := Lib.hid (serProdB_iff.2 ⟨ser_one, hb, by show twS (canonT (pairsS oneT x)) = true; rw [ser_one_times hb]; exact tw_ser hb⟩)
    have HU : Hid (cond true (canonT (pairsS x (oneS noS))) [] = x) := Lib.hid (ser_times_one hb)
    have HV : Hid (cond true (canonT (pairsS (oneS noS) x)) [] = x) := Lib.hid (ser_one_times hb)
    clear hb
    go_wp2_with fail
    refine (iSeriesIn_t HX.out HS.out).mono ?_
    rintro e w2 ⟨rfl, hb2⟩
    have HB2 := Lib.hid (HB1.out.trans (hb2.mono HB1.out.size))
    have HX := Lib.hid (HX.out.below hb2)
    clear hb2
    go_wp2_with fail
    refine (sSeriesIn_t HX.out HS.out).mono ?_
    rintro e w3 ⟨rfl, hb3⟩
    have HB3 := Lib.hid (HB2.out.trans (hb3.mono HB2.out.size))
    have HX := Lib.hid (HX.out.below hb3)
    clear hb3
    go_wp2_with fail
    refine (one_any noS _).mono ?_
    rintro e w4 ⟨rfl, hb4, h4⟩
    have HX := Lib.hid (HX.out.below hb4)
    have H4 := Lib.hid (h4 (by decide))
    have HB4 := Lib.hid (HB3.out.trans (hb4.mono HB3.out.size))
    clear hb4 h4
    go_wp2_with fail
    refine (iSeriesTimes_t HX.out H4.out HP.out HU.out HN.out).mono ?_
    rintro e w5 ⟨⟨a5, c5, rfl, h5⟩, hb5⟩
    have HX := Lib.hid (HX.out.below hb5)
    have H5 := Lib.hid h5
    have HB5 := Lib.hid (HB4.out.trans (hb5.mono HB4.out.size))
    clear h5 hb5
    go_wp2_with fail
    refine (one_any noS _).mono ?_
    rintro e w6 ⟨rfl, hb6, h6⟩
    have HX := Lib.hid (HX.out.below hb6)
    have H5 := Lib.hid (H5.out.below hb6)
    have H6 := Lib.hid (h6 (by decide))
    have HB6 := Lib.hid (HB5.out.trans (hb6.mono HB5.out.size))
    clear hb6 h6
    go_wp2_with fail
    refine (iSeriesTimes_t H6.out HX.out HQ.out HV.out HN.out).mono ?_
    rintro e w7 ⟨⟨a7, c7, rfl, h7⟩, hb7⟩
    have HX := Lib.hid (HX.out.below hb7)
    have H5 := Lib.hid (H5.out.below hb7)
    have H7 := Lib.hid h7
    have HB7 := Lib.hid (HB6.out.trans (hb7.mono HB6.out.size))
    clear h7 hb7
    go_wp2_with fail
    refine (sameSum_t H5.out HX.out).mono ?_
    rintro e w8 ⟨rfl, hb8⟩
    have HB8 := Lib.hid (HB7.out.trans (hb8.mono HB7.out.size))
    have HX := Lib.hid (HX.out.below hb8)
    have H7 := Lib.hid (H7.out.below hb8)
    clear hb8
    go_wp2_with fail
    refine (sameSum_t H7.out HX.out).mono ?_
    rintro e w9 ⟨rfl, hb9⟩
    have HB9 := Lib.hid (HB8.out.trans (hb9.mono HB8.out.size))
    clear hb9
    go_wp2
    go_ret
    exact ⟨rfl, HB9.out⟩

set_option maxRecDepth 100000 in
theorem lifted (os : Os) (started : os.Started) (H : Type) (enc : TypeId × Value → H) :
    ReturnsInHanded {} Try.checked os 6 .any (Rows.fnSeriesSpec.pre6 enc Try.prog Try.f6 Rows.fnSeriesRow.domain false) (Rows.fnSeriesSpec.post enc Try.prog Try.f6 false true false false) := by
  refine returnsInHanded_of_change (C := Try.checked) own started (by kernel_rfl) Try.func6
    (ChangeSpec.witness6 (enc := enc) (C := Try.checked) false ⟨#[], #[.slice none 0 0], []⟩ 8 (by kernel_rfl) (by kernel_rfl) (by kernel_rfl) (by kernel_rfl)) ?_
  intro W base args ds gs before hval0 hW hcnd _
  have hval : ∀ (j : Nat) t v, Try.f6.params[j]? = some t → args[j]? = some v → Value.okWide Try.prog W .any base t v := hval0
  have hW' := hW
  obtain ⟨p, q, hA0, hV, rfl, hfz, hnd⟩ := hW
  have hA : DataW.TrodAll enc Try.prog W 0 (fun _ => true) true Try.f6.params.toList args.toList ds p := hA0
  rw [Try.params6] at hA hval
  obtain ⟨v0, vs0, d0, ds0, p0, q0, hargs, rfl, rfl, h0, r0⟩ := trodAll_cons hA
  obtain ⟨rfl, rfl, rfl⟩ := trodAll_nil r0
  obtain rfl : args = #[v0] := by cases args; simp_all
  obtain ⟨rfl, rfl⟩ := trodVars_none hV
  obtain ⟨a0, len0, cap0, rfl⟩ := okWide_slice Try.underlying22 (hval 0 22 v0 rfl rfl)
  have k0 := h0
  have lt0 : ∀ x ∈ p0, x.block < W.heap.size := by obtain ⟨m, hm⟩ := k0; exact DataW.trod_lt m _ _ _ hm
  obtain ⟨z0, w0⟩ : ∃ zs, BsAt W.heap.size W a0 len0 cap0 zs := by
    obtain ⟨fuel, hf⟩ := h0
    exact bs_of hf
  clear hA0 hval0
  refine (walk a0 len0 cap0 z0 W w0).mono fun e W' ⟨he, bel⟩ => ?_
  subst he
  exact ⟨_, rfl, _, _, _, [], _, [], hW', trodAll_mk1 (shut_bool Try.underlying4 _), (trodAll_cons_mk (Below.trod laidOut (by kernel_rfl) (of_decide_eq_true (by kernel_rfl)) k0 bel lt0) trodAll_mk0), rfl, bel.frame _, fun h => by cases h⟩

theorem over : Rows.fnSeriesRow.holds Try.pinned (OpenSpec.ofChange Rows.fnSeriesSpec) :=
  OpenClaim.holds_of_wide 6 Try.f6 rfl rfl rfl rfl rfl rfl rfl ⟨rfl, rfl, rfl, rfl, rfl⟩ rfl rfl rfl rfl rfl (by kernel_rfl) Try.func6 (by kernel_rfl)
    (of_decide_eq_true (by kernel_rfl)) (by unfold Func.isWrapper; first | (rw [if_pos (by decide +kernel)]; kernel_rfl) | (rw [if_neg (by decide +kernel)]; exact ⟨rfl, rfl⟩))
    (fun os started H enc _ => lifted os started H enc)

theorem proved : Rows.FnSeriesSaid := over
#print axioms proved
end Go.Proofs.Ytebgcebjlbhjjab.LSeries

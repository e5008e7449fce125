/-
  Proves 'Rows.FnSumTurnedSaid': for every list of bytes, the sum that the model draws from it is turned twice into itself, and turned products are products the other way.
  Conditions: none beyond the row's own.
-/
import Derived.Test.YtebgcebjlbhjjaaRows
import Derived.WalkKit
import Derived.ProofKit
import Derived.OpenShut
import Derived.ShutString
import Derived.ChangeOld
import Derived.Below
import Derived.Test.YtebgcebjlbhjjaaBa
import Derived.Test.YtebgcebjlbhjjaaBb
import Derived.Test.YtebgcebjlbhjjaaBc
import Derived.Test.YtebgcebjlbhjjaaBd

namespace Go.Proofs.Ytebgcebjlbhjjaa.LSumTurnedP
open Go.ChangeShapes Go.WideShapes Go.ChangeAt Go.RowKit
open Go.ChangeMaps (open_string shut_string)
set_option linter.unusedVariables false

theorem own : ownKnob Try.prog.godebug = none := by kernel_rfl
theorem laidOut : laidOutB Try.prog = true := by kernel_rfl

set_option maxRecDepth 100000 in
set_option maxHeartbeats 6000000 in
theorem walk (a0 : Option Addr) (len0 cap0 : Nat) (z0 : List Int) (w : World) (w0 : BsAt w.heap.size w a0 len0 cap0 z0) :
    Calls Try.prog 7 #[.slice a0 len0 cap0] w fun e w' => e = .returned (.bool true) ∧ Below w.heap.size w w' := by
  have HDr := Lib.hid (drawSumTurned_any a0 len0 cap0 z0 w w0)
  have hfit := w0.fit
  unfold maxLen at hfit
  clear w0
  by_cases hlong : ¬ len0 ≤ 1048576
  · have hd : decide ((1048576 : Int) < (len0 : Int)) = true := decide_eq_true (by omega)
    go_enter Try.func7, Try.ntmps7
    go_wp2_with fail
    go_ret
    exact ⟨rfl, Below.refl _ _⟩
  have hd : decide ((1048576 : Int) < (len0 : Int)) = false := decide_eq_false (by omega)
  go_enter Try.func7, Try.ntmps7
  go_wp2_with fail
  refine HDr.out.mono ?_
  rintro e w1 ⟨⟨v, rfl, g, c, n, x, rfl, hg, hx, hn, hxs⟩, hb1⟩
  have HX := Lib.hid hx
  have HB1 := Lib.hid hb1
  clear hx hb1 hxs
  cases hb : turnedB x with
  | false =>
    have HS := Lib.hid hb
    have HU : Hid (cond false (canonT (x.map (mapT backL))) [] = []) := Lib.hid rfl
    have HN : Hid (([] : List Tm).length = 0) := Lib.hid rfl
    clear hb
    go_wp2_with fail
    refine (iSumTurned_t HX.out HS.out HU.out HN.out).mono ?_
    rintro e w2 ⟨⟨a2, c2, rfl, h2⟩, hb2⟩
    have HX := Lib.hid (HX.out.below hb2)
    have H2 := Lib.hid h2
    have HB2 := Lib.hid (HB1.out.trans (hb2.mono HB1.out.size))
    clear h2 hb2
    go_wp2_with fail
    refine (sSumTurned_t HX.out HS.out HU.out HN.out).mono ?_
    rintro e w3 ⟨⟨a3, c3, rfl, h3⟩, hb3⟩
    have H2 := Lib.hid (H2.out.below hb3)
    have H3 := Lib.hid h3
    have HB3 := Lib.hid (HB2.out.trans (hb3.mono HB2.out.size))
    clear h3 hb3
    go_wp2_with fail
    refine (sameSum_t H2.out H3.out).mono ?_
    rintro e w4 ⟨rfl, hb4⟩
    have HB4 := Lib.hid (HB3.out.trans (hb4.mono HB3.out.size))
    have H2 := Lib.hid (H2.out.below hb4)
    have H3 := Lib.hid (H3.out.below hb4)
    clear hb4
    go_wp2_with fail
    refine (sameSum_t H2.out H3.out).mono ?_
    rintro e w5 ⟨rfl, hb5⟩
    have HB5 := Lib.hid (HB4.out.trans (hb5.mono HB4.out.size))
    clear hb5
    go_wp2
    go_ret
    exact ⟨rfl, HB5.out⟩
  | true =>
    obtain ⟨hsx, htw⟩ := turnedB_iff.1 hb
    have hw := words_of_sum hsx
    obtain ⟨us, hus⟩ : ∃ us, canonT (x.map (mapT backL)) = us := ⟨_, rfl⟩
    obtain ⟨k, hk⟩ : ∃ k, us.length = k := ⟨_, rfl⟩
    have hus1 : sumB us = true := by rw [← hus]; exact sum_of_tw htw
    have hxx : canonT (us.map (mapT backL)) = x := by
      rw [← hus, ((Same.canon _).map backL).eq, map_map_same fun t ht => back_back _ ((wordB_iff _).1 (hw t ht)).2.1, sum_id hsx]
    obtain ⟨b1, hb1⟩ : ∃ b, prodB x x = b := ⟨_, rfl⟩
    obtain ⟨vs, hvs⟩ : ∃ vs, cond b1 (canonT (pairsT x x)) [] = vs := ⟨_, rfl⟩
    obtain ⟨kv, hkv⟩ : ∃ k, vs.length = k := ⟨_, rfl⟩
    obtain ⟨b2, hb2⟩ : ∃ b, turnedB vs = b := ⟨_, rfl⟩
    obtain ⟨xs, hxs⟩ : ∃ vs', cond b2 (canonT (vs.map (mapT backL))) [] = vs' := ⟨_, rfl⟩
    obtain ⟨kx, hkx⟩ : ∃ k, xs.length = k := ⟨_, rfl⟩
    obtain ⟨b3, hb3⟩ : ∃ b, prodB us us = b := ⟨_, rfl⟩
    obtain ⟨ys, hys⟩ : ∃ vs, cond b3 (canonT (pairsT us us)) [] = vs := ⟨_, rfl⟩
    obtain ⟨ky, hky⟩ : ∃ k, ys.length = k := ⟨_, rfl⟩
    have hsame : b1 = true → b2 = true → b3 = true → xs = ys := fun e1 e2 e3 => by
      subst e1 e2 e3
      rw [← hxs, ← hys]
      show canonT (vs.map (mapT backL)) = canonT (pairsT us us)
      have hvs' : canonT (pairsT x x) = vs := hvs
      refine Same.eq ?_
      rw [← hvs', ← hus]
      refine ((Same.canon _).map backL).trans ?_
      refine (turned_pairs hw hw).trans ?_
      exact ((Same.canon _).pairs (Same.canon _)).symm
    have HS := Lib.hid hb
    have HU : Hid (cond true (canonT (x.map (mapT backL))) [] = us) := Lib.hid hus
    have HN := Lib.hid hk
    have HTU : Hid (turnedB us = true) := Lib.hid (turnedB_iff.2 ⟨hus1, by rw [hxx]; exact (sumB_parts hsx).1⟩)
    have HXX : Hid (cond true (canonT (us.map (mapT backL))) [] = x) := Lib.hid hxx
    have HNX := Lib.hid HX.out.len
    have HC1 := Lib.hid hb1
    have HC2 := Lib.hid hb2
    have HC3 := Lib.hid hb3
    have HV := Lib.hid hvs
    have HXS := Lib.hid hxs
    have HYS := Lib.hid hys
    have HKV := Lib.hid hkv
    have HKX := Lib.hid hkx
    have HKY := Lib.hid hky
    have HSA := Lib.hid hsame
    clear hb hsx htw hw hus hk hus1 hxx hb1 hvs hkv hb2 hxs hkx hb3 hys hky hsame
    go_wp2_with fail
    refine (iSumTurned_t HX.out HS.out HU.out HN.out).mono ?_
    rintro e w2 ⟨⟨a2, c2, rfl, h2⟩, hb2⟩
    have HX := Lib.hid (HX.out.below hb2)
    have H2 := Lib.hid h2
    have HB2 := Lib.hid (HB1.out.trans (hb2.mono HB1.out.size))
    clear h2 hb2
    go_wp2_with fail
    refine (sSumTurned_t HX.out HS.out HU.out HN.out).mono ?_
    rintro e w3 ⟨⟨a3, c3, rfl, h3⟩, hb3⟩
    have H2 := Lib.hid (H2.out.below hb3)
    have HX := Lib.hid (HX.out.below hb3)
    have H3 := Lib.hid h3
    have HB3 := Lib.hid (HB2.out.trans (hb3.mono HB2.out.size))
    clear h3 hb3
    go_wp2_with fail
    refine (sameSum_t H2.out H3.out).mono ?_
    rintro e w4 ⟨rfl, hb4⟩
    have HB4 := Lib.hid (HB3.out.trans (hb4.mono HB3.out.size))
    have H2 := Lib.hid (H2.out.below hb4)
    have HX := Lib.hid (HX.out.below hb4)
    clear hb4
    go_wp2_with fail
    refine (iSumTurned_t H2.out HTU.out HXX.out HNX.out).mono ?_
    rintro e w5 ⟨⟨a5, c5, rfl, h5⟩, hb5⟩
    have H2 := Lib.hid (H2.out.below hb5)
    have HX := Lib.hid (HX.out.below hb5)
    have H5 := Lib.hid h5
    have HB5 := Lib.hid (HB4.out.trans (hb5.mono HB4.out.size))
    clear h5 hb5
    go_wp2_with fail
    refine (iSumTimes_t HX.out HX.out HC1.out HV.out HKV.out).mono ?_
    rintro e w6 ⟨⟨a6, c6, rfl, h6⟩, hb6⟩
    have H2 := Lib.hid (H2.out.below hb6)
    have HX := Lib.hid (HX.out.below hb6)
    have H5 := Lib.hid (H5.out.below hb6)
    have H6 := Lib.hid h6
    have HB6 := Lib.hid (HB5.out.trans (hb6.mono HB5.out.size))
    clear h6 hb6
    go_wp2_with fail
    refine (iSumTurned_t H6.out HC2.out HXS.out HKX.out).mono ?_
    rintro e w7 ⟨⟨a7, c7, rfl, h7⟩, hb7⟩
    have H2 := Lib.hid (H2.out.below hb7)
    have HX := Lib.hid (HX.out.below hb7)
    have H5 := Lib.hid (H5.out.below hb7)
    have H7 := Lib.hid h7
    have HB7 := Lib.hid (HB6.out.trans (hb7.mono HB6.out.size))
    clear h7 hb7
    go_wp2_with fail
    refine (iSumTimes_t H2.out H2.out HC3.out HYS.out HKY.out).mono ?_
    rintro e w8 ⟨⟨a8, c8, rfl, h8⟩, hb8⟩
    have HX := Lib.hid (HX.out.below hb8)
    have H5 := Lib.hid (H5.out.below hb8)
    have H7 := Lib.hid (H7.out.below hb8)
    have H8 := Lib.hid h8
    have HB8 := Lib.hid (HB7.out.trans (hb8.mono HB7.out.size))
    clear h8 hb8
    go_wp2_with fail
    refine (sameSum_t H5.out HX.out).mono ?_
    rintro e w9 ⟨rfl, hb9⟩
    have HB9 := Lib.hid (HB8.out.trans (hb9.mono HB8.out.size))
    have H7 := Lib.hid (H7.out.below hb9)
    have H8 := Lib.hid (H8.out.below hb9)
    clear hb9
    cases b1 with
    | false =>
      go_wp2
      go_ret
      exact ⟨rfl, HB9.out⟩
    | true =>
      cases b2 with
      | false =>
        go_wp2
        go_ret
        exact ⟨rfl, HB9.out⟩
      | true =>
        cases b3 with
        | false =>
          go_wp2
          go_ret
          exact ⟨rfl, HB9.out⟩
        | true =>
          obtain rfl : xs = ys := HSA.out rfl rfl rfl
          obtain rfl : kx = ky := HKX.out.symm.trans HKY.out
          go_wp2_with fail
          refine (sameSum_t H7.out H8.out).mono ?_
          rintro e w10 ⟨rfl, hb10⟩
          have HB10 := Lib.hid (HB9.out.trans (hb10.mono HB9.out.size))
          clear hb10
          go_wp2
          go_ret
          exact ⟨rfl, HB10.out⟩

set_option maxRecDepth 100000 in
theorem lifted (os : Os) (started : os.Started) (H : Type) (enc : TypeId × Value → H) :
    ReturnsInHanded {} Try.checked os 7 .any (Rows.fnSumTurnedSpec.pre6 enc Try.prog Try.f7 Rows.fnSumTurnedRow.domain false) (Rows.fnSumTurnedSpec.post enc Try.prog Try.f7 false true false false) := by
  refine returnsInHanded_of_change (C := Try.checked) own started (by kernel_rfl) Try.func7
    (ChangeSpec.witness6 (enc := enc) (C := Try.checked) false ⟨#[], #[.slice none 0 0], []⟩ 8 (by kernel_rfl) (by kernel_rfl) (by kernel_rfl) (by kernel_rfl)) ?_
  intro W base args ds gs before hval0 hW hcnd _
  have hval : ∀ (j : Nat) t v, Try.f7.params[j]? = some t → args[j]? = some v → Value.okWide Try.prog W .any base t v := hval0
  have hW' := hW
  obtain ⟨p, q, hA0, hV, rfl, hfz, hnd⟩ := hW
  have hA : DataW.TrodAll enc Try.prog W 0 (fun _ => true) true Try.f7.params.toList args.toList ds p := hA0
  rw [Try.params7] at hA hval
  obtain ⟨v0, vs0, d0, ds0, p0, q0, hargs, rfl, rfl, h0, r0⟩ := trodAll_cons hA
  obtain ⟨rfl, rfl, rfl⟩ := trodAll_nil r0
  obtain rfl : args = #[v0] := by cases args; simp_all
  obtain ⟨rfl, rfl⟩ := trodVars_none hV
  obtain ⟨a0, len0, cap0, rfl⟩ := okWide_slice Try.underlying22 (hval 0 22 v0 rfl rfl)
  have k0 := h0
  have lt0 : ∀ x ∈ p0, x.block < W.heap.size := by obtain ⟨m, hm⟩ := k0; exact DataW.trod_lt m _ _ _ hm
  obtain ⟨z0, w0⟩ : ∃ zs, BsAt W.heap.size W a0 len0 cap0 zs := by
    obtain ⟨fuel, hf⟩ := h0
    exact bs_of hf
  clear hA0 hval0
  refine (walk a0 len0 cap0 z0 W w0).mono fun e W' ⟨he, bel⟩ => ?_
  subst he
  exact ⟨_, rfl, _, _, _, [], _, [], hW', trodAll_mk1 (shut_bool Try.underlying4 _), (trodAll_cons_mk (Below.trod laidOut (by kernel_rfl) (of_decide_eq_true (by kernel_rfl)) k0 bel lt0) trodAll_mk0), rfl, bel.frame _, fun h => by cases h⟩

theorem over : Rows.fnSumTurnedRow.holds Try.pinned (OpenSpec.ofChange Rows.fnSumTurnedSpec) :=
  OpenClaim.holds_of_wide 7 Try.f7 rfl rfl rfl rfl rfl rfl rfl ⟨rfl, rfl, rfl, rfl, rfl⟩ rfl rfl rfl rfl rfl (by kernel_rfl) Try.func7 (by kernel_rfl)
    (of_decide_eq_true (by kernel_rfl)) (by unfold Func.isWrapper; first | (rw [if_pos (by decide +kernel)]; kernel_rfl) | (rw [if_neg (by decide +kernel)]; exact ⟨rfl, rfl⟩))
    (fun os started H enc _ => lifted os started H enc)

theorem proved : Rows.FnSumTurnedSaid := over
#print axioms proved
end Go.Proofs.Ytebgcebjlbhjjaa.LSumTurnedP

/-
  Proves 'Rows.FnTimesBracketsSaid': for every list of bytes, products of the two series that the model draws from it are the same in whatever brackets.
  Conditions: none beyond the row's own.
-/
import Derived.Test.YtebgcebjlbhjjabRows
import Derived.WalkKit
import Derived.ProofKit
import Derived.OpenShut
import Derived.ShutString
import Derived.ChangeOld
import Derived.Below
import Derived.Test.YtebgcebjlbhjjabBa
import Derived.Test.YtebgcebjlbhjjabBb
import Derived.Test.YtebgcebjlbhjjabBc
import Derived.Test.YtebgcebjlbhjjabBd
import Derived.Test.YtebgcebjlbhjjabBe

namespace Go.Proofs.Ytebgcebjlbhjjab.LTimesBrackets
open Go.ChangeShapes Go.WideShapes Go.ChangeAt Go.RowKit
open Go.ChangeMaps (open_string shut_string)
set_option linter.unusedVariables false

theorem own : ownKnob Try.prog.godebug = none := by kernel_rfl
theorem laidOut : laidOutB Try.prog = true := by kernel_rfl

set_option maxRecDepth 100000 in
set_option maxHeartbeats 6000000 in
theorem walk (a0 : Option Addr) (len0 cap0 : Nat) (z0 : List Int) (w : World) (w0 : BsAt w.heap.size w a0 len0 cap0 z0) :
    Calls Try.prog 9 #[.slice a0 len0 cap0] w fun e w' => e = .returned (.bool true) ∧ Below w.heap.size w w' := by
  have HDr := Lib.hid (drawSeriesTimes_any a0 len0 cap0 z0 w w0)
  have hfit := w0.fit
  unfold maxLen at hfit
  clear w0
  by_cases hlong : ¬ len0 ≤ 1048576
  · have hd : decide ((1048576 : Int) < (len0 : Int)) = true := decide_eq_true (by omega)
    go_enter Try.func9, Try.ntmps9
    go_wp2_with fail
    go_ret
    exact ⟨rfl, Below.refl _ _⟩
  have hd : decide ((1048576 : Int) < (len0 : Int)) = false := decide_eq_false (by omega)
  go_enter Try.func9, Try.ntmps9
  go_wp2_with fail
  refine HDr.out.mono ?_
  rintro e w1 ⟨⟨v, u, rfl, ⟨g, c, n, x, rfl, hg, hx⟩, ⟨g2, d, m, y, rfl, hg2, hy⟩⟩, hb1⟩
  have HX := Lib.hid hx
  have HY := Lib.hid hy
  have HB1 := Lib.hid hb1
  clear hx hb1 hy
  cases hb : serProdB x y with
  | false =>
    have HS := Lib.hid hb
    have HU : Hid (cond false (canonT (pairsS x y)) [] = []) := Lib.hid rfl
    have HN : Hid (([] : List Tm).length = 0) := Lib.hid rfl
    clear hb
    go_wp2_with fail
    refine (iSeriesTimes_t HX.out HY.out HS.out HU.out HN.out).mono ?_
    rintro e w2 ⟨⟨a2, c2, rfl, h2⟩, hb2⟩
    have HX := Lib.hid (HX.out.below hb2)
    have HY := Lib.hid (HY.out.below hb2)
    have H2 := Lib.hid h2
    have HB2 := Lib.hid (HB1.out.trans (hb2.mono HB1.out.size))
    clear h2 hb2
    go_wp2_with fail
    refine (sSeriesTimes_t HX.out HY.out HS.out HU.out HN.out).mono ?_
    rintro e w3 ⟨⟨a3, c3, rfl, h3⟩, hb3⟩
    have H2 := Lib.hid (H2.out.below hb3)
    have H3 := Lib.hid h3
    have HB3 := Lib.hid (HB2.out.trans (hb3.mono HB2.out.size))
    clear h3 hb3
    go_wp2_with fail
    refine (sameSum_t H2.out H3.out).mono ?_
    rintro e w4 ⟨rfl, hb4⟩
    have HB4 := Lib.hid (HB3.out.trans (hb4.mono HB3.out.size))
    have H2 := Lib.hid (H2.out.below hb4)
    have H3 := Lib.hid (H3.out.below hb4)
    clear hb4
    go_wp2_with fail
    refine (sameSum_t H2.out H3.out).mono ?_
    rintro e w5 ⟨rfl, hb5⟩
    have HB5 := Lib.hid (HB4.out.trans (hb5.mono HB4.out.size))
    clear hb5
    go_wp2
    go_ret
    exact ⟨rfl, HB5.out⟩
  | true =>
    obtain ⟨hsx, hsy, htw⟩ := serProdB_iff.1 hb
    obtain ⟨us, hus⟩ : ∃ us, canonT (pairsS x y) = us := ⟨_, rfl⟩
    obtain ⟨k, hk⟩ : ∃ k, us.length = k := ⟨_, rfl⟩
    obtain ⟨b1, hb1⟩ : ∃ b, serProdB us x = b := ⟨_, rfl⟩
    obtain ⟨xs, hxs⟩ : ∃ vs, cond b1 (canonT (pairsS us x)) [] = vs := ⟨_, rfl⟩
    obtain ⟨kx, hkx⟩ : ∃ k, xs.length = k := ⟨_, rfl⟩
    obtain ⟨b2, hb2⟩ : ∃ b, serProdB y x = b := ⟨_, rfl⟩
    obtain ⟨ys, hys⟩ : ∃ vs, cond b2 (canonT (pairsS y x)) [] = vs := ⟨_, rfl⟩
    obtain ⟨ky, hky⟩ : ∃ k, ys.length = k := ⟨_, rfl⟩
    obtain ⟨b3, hb3⟩ : ∃ b, serProdB x ys = b := ⟨_, rfl⟩
    obtain ⟨zs, hzs⟩ : ∃ vs, cond b3 (canonT (pairsS x ys)) [] = vs := ⟨_, rfl⟩
    obtain ⟨kz, hkz⟩ : ∃ k, zs.length = k := ⟨_, rfl⟩
    have hsame : b1 = true → b2 = true → b3 = true → xs = zs := fun e1 e2 e3 => by
      subst e1 e2 e3
      have hxs' : canonT (pairsS us x) = xs := hxs
      have hys' : canonT (pairsS y x) = ys := hys
      have hzs' : canonT (pairsS x ys) = zs := hzs
      have mx := mono_ser hsx
      have my := mono_ser hsy
      have mu : MonoT us := by rw [← hus]; exact mono_pairs mx my
      have mys : MonoT ys := by rw [← hys']; exact mono_pairs my mx
      rw [← hxs', ← hzs']
      refine ser_eq (canonT_spec _).1 (canonT_spec _).1 (mono_pairs mu mx) (mono_pairs mx mys) ?_
      refine (cf_pairs us x).trans ?_
      refine Eq4.trans ?_ (cf_pairs x ys).symm
      rw [← hus, ← hys']
      refine ((cf_pairs x y).mul (Eq4.refl _)).trans ?_
      refine (eq4_assoc _ _ _).trans ?_
      exact (Eq4.refl _).mul (cf_pairs y x).symm
    have HS := Lib.hid hb
    have HU : Hid (cond true (canonT (pairsS x y)) [] = us) := Lib.hid hus
    have HN := Lib.hid hk
    have HC1 := Lib.hid hb1
    have HC2 := Lib.hid hb2
    have HC3 := Lib.hid hb3
    have HXS := Lib.hid hxs
    have HYS := Lib.hid hys
    have HZS := Lib.hid hzs
    have HKX := Lib.hid hkx
    have HKY := Lib.hid hky
    have HKZ := Lib.hid hkz
    have HSA := Lib.hid hsame
    clear hb hsx hsy htw hus hk hb1 hxs hkx hb2 hys hky hb3 hzs hkz hsame
    go_wp2_with fail
    refine (iSeriesTimes_t HX.out HY.out HS.out HU.out HN.out).mono ?_
    rintro e w2 ⟨⟨a2, c2, rfl, h2⟩, hb2⟩
    have HX := Lib.hid (HX.out.below hb2)
    have HY := Lib.hid (HY.out.below hb2)
    have H2 := Lib.hid h2
    have HB2 := Lib.hid (HB1.out.trans (hb2.mono HB1.out.size))
    clear h2 hb2
    go_wp2_with fail
    refine (sSeriesTimes_t HX.out HY.out HS.out HU.out HN.out).mono ?_
    rintro e w3 ⟨⟨a3, c3, rfl, h3⟩, hb3⟩
    have H2 := Lib.hid (H2.out.below hb3)
    have HX := Lib.hid (HX.out.below hb3)
    have HY := Lib.hid (HY.out.below hb3)
    have H3 := Lib.hid h3
    have HB3 := Lib.hid (HB2.out.trans (hb3.mono HB2.out.size))
    clear h3 hb3
    go_wp2_with fail
    refine (sameSum_t H2.out H3.out).mono ?_
    rintro e w4 ⟨rfl, hb4⟩
    have HB4 := Lib.hid (HB3.out.trans (hb4.mono HB3.out.size))
    have H2 := Lib.hid (H2.out.below hb4)
    have HX := Lib.hid (HX.out.below hb4)
    have HY := Lib.hid (HY.out.below hb4)
    clear hb4
    go_wp2_with fail
    refine (iSeriesTimes_t H2.out HX.out HC1.out HXS.out HKX.out).mono ?_
    rintro e w5 ⟨⟨a5, c5, rfl, h5⟩, hb5⟩
    have HX := Lib.hid (HX.out.below hb5)
    have HY := Lib.hid (HY.out.below hb5)
    have H5 := Lib.hid h5
    have HB5 := Lib.hid (HB4.out.trans (hb5.mono HB4.out.size))
    clear h5 hb5
    go_wp2_with fail
    refine (iSeriesTimes_t HY.out HX.out HC2.out HYS.out HKY.out).mono ?_
    rintro e w6 ⟨⟨a6, c6, rfl, h6⟩, hb6⟩
    have HX := Lib.hid (HX.out.below hb6)
    have H5 := Lib.hid (H5.out.below hb6)
    have H6 := Lib.hid h6
    have HB6 := Lib.hid (HB5.out.trans (hb6.mono HB5.out.size))
    clear h6 hb6
    go_wp2_with fail
    refine (iSeriesTimes_t HX.out H6.out HC3.out HZS.out HKZ.out).mono ?_
    rintro e w7 ⟨⟨a7, c7, rfl, h7⟩, hb7⟩
    have H5 := Lib.hid (H5.out.below hb7)
    have H7 := Lib.hid h7
    have HB7 := Lib.hid (HB6.out.trans (hb7.mono HB6.out.size))
    clear h7 hb7
    cases b1 with
    | false =>
      go_wp2
      go_ret
      exact ⟨rfl, HB7.out⟩
    | true =>
      cases b2 with
      | false =>
        go_wp2
        go_ret
        exact ⟨rfl, HB7.out⟩
      | true =>
        cases b3 with
        | false =>
          go_wp2
          go_ret
          exact ⟨rfl, HB7.out⟩
        | true =>
          obtain rfl : xs = zs := HSA.out rfl rfl rfl
          obtain rfl : kx = kz := HKX.out.symm.trans HKZ.out
          go_wp2_with fail
          refine (sameSum_t H5.out H7.out).mono ?_
          rintro e w8 ⟨rfl, hb8⟩
          have HB8 := Lib.hid (HB7.out.trans (hb8.mono HB7.out.size))
          clear hb8
          go_wp2
          go_ret
          exact ⟨rfl, HB8.out⟩

set_option maxRecDepth 100000 in
theorem lifted (os : Os) (started : os.Started) (H : Type) (enc : TypeId × Value → H) :
    ReturnsInHanded {} Try.checked os 9 .any (Rows.fnTimesBracketsSpec.pre6 enc Try.prog Try.f9 Rows.fnTimesBracketsRow.domain false) (Rows.fnTimesBracketsSpec.post enc Try.prog Try.f9 false true false false) := by
  refine returnsInHanded_of_change (C := Try.checked) own started (by kernel_rfl) Try.func9
    (ChangeSpec.witness6 (enc := enc) (C := Try.checked) false ⟨#[], #[.slice none 0 0], []⟩ 8 (by kernel_rfl) (by kernel_rfl) (by kernel_rfl) (by kernel_rfl)) ?_
  intro W base args ds gs before hval0 hW hcnd _
  have hval : ∀ (j : Nat) t v, Try.f9.params[j]? = some t → args[j]? = some v → Value.okWide Try.prog W .any base t v := hval0
  have hW' := hW
  obtain ⟨p, q, hA0, hV, rfl, hfz, hnd⟩ := hW
  have hA : DataW.TrodAll enc Try.prog W 0 (fun _ => true) true Try.f9.params.toList args.toList ds p := hA0
  rw [Try.params9] at hA hval
  obtain ⟨v0, vs0, d0, ds0, p0, q0, hargs, rfl, rfl, h0, r0⟩ := trodAll_cons hA
  obtain ⟨rfl, rfl, rfl⟩ := trodAll_nil r0
  obtain rfl : args = #[v0] := by cases args; simp_all
  obtain ⟨rfl, rfl⟩ := trodVars_none hV
  obtain ⟨a0, len0, cap0, rfl⟩ := okWide_slice Try.underlying22 (hval 0 22 v0 rfl rfl)
  have k0 := h0
  have lt0 : ∀ x ∈ p0, x.block < W.heap.size := by obtain ⟨m, hm⟩ := k0; exact DataW.trod_lt m _ _ _ hm
  obtain ⟨z0, w0⟩ : ∃ zs, BsAt W.heap.size W a0 len0 cap0 zs := by
    obtain ⟨fuel, hf⟩ := h0
    exact bs_of hf
  clear hA0 hval0
  refine (walk a0 len0 cap0 z0 W w0).mono fun e W' ⟨he, bel⟩ => ?_
  subst he
  exact ⟨_, rfl, _, _, _, [], _, [], hW', trodAll_mk1 (shut_bool Try.underlying4 _), (trodAll_cons_mk (Below.trod laidOut (by kernel_rfl) (of_decide_eq_true (by kernel_rfl)) k0 bel lt0) trodAll_mk0), rfl, bel.frame _, fun h => by cases h⟩

theorem over : Rows.fnTimesBracketsRow.holds Try.pinned (OpenSpec.ofChange Rows.fnTimesBracketsSpec) :=
  OpenClaim.holds_of_wide 9 Try.f9 rfl rfl rfl rfl rfl rfl rfl ⟨rfl, rfl, rfl, rfl, rfl⟩ rfl rfl rfl rfl rfl (by kernel_rfl) Try.func9 (by kernel_rfl)
    (of_decide_eq_true (by kernel_rfl)) (by unfold Func.isWrapper; first | (rw [if_pos (by decide +kernel)]; kernel_rfl) | (rw [if_neg (by decide +kernel)]; exact ⟨rfl, rfl⟩))
    (fun os started H enc _ => lifted os started H enc)

theorem proved : Rows.FnTimesBracketsSaid := over
#print axioms proved
end Go.Proofs.Ytebgcebjlbhjjab.LTimesBrackets

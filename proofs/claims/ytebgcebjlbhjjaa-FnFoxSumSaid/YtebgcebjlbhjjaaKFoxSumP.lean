/-
  Proves 'Rows.FnFoxSumSaid': for every list of bytes, derivatives of the sum that the model draws from it, with 1 and with itself, are sums of derivatives.
  Conditions: none beyond the row's own.
-/
import Derived.Test.YtebgcebjlbhjjaaRows
import Derived.WalkKit
import Derived.ProofKit
import Derived.OpenShut
import Derived.ShutString
import Derived.ChangeOld
import Derived.Below
import Derived.Test.YtebgcebjlbhjjaaBa
import Derived.Test.YtebgcebjlbhjjaaBb
import Derived.Test.YtebgcebjlbhjjaaBc
import Derived.Test.YtebgcebjlbhjjaaBd

namespace Go.Proofs.Ytebgcebjlbhjjaa.LFoxSumP
open Go.ChangeShapes Go.WideShapes Go.ChangeAt Go.RowKit
open Go.ChangeMaps (open_string shut_string)
set_option linter.unusedVariables false

theorem own : ownKnob Try.prog.godebug = none := by kernel_rfl
theorem laidOut : laidOutB Try.prog = true := by kernel_rfl

set_option maxRecDepth 100000 in
set_option maxHeartbeats 8000000 in
theorem walk (a0 : Option Addr) (len0 cap0 : Nat) (z0 : List Int) (w : World) (w0 : BsAt w.heap.size w a0 len0 cap0 z0) :
    Calls Try.prog 13 #[.slice a0 len0 cap0] w fun e w' => e = .returned (.bool true) ∧ Below w.heap.size w w' := by
  have HDr := Lib.hid (drawFoxSum_any a0 len0 cap0 z0 w w0)
  have hfit := w0.fit
  unfold maxLen at hfit
  clear w0
  by_cases hlong : ¬ len0 ≤ 1048576
  · have hd : decide ((1048576 : Int) < (len0 : Int)) = true := decide_eq_true (by omega)
    go_enter Try.func13, Try.ntmps13
    go_wp2_with fail
    go_ret
    exact ⟨rfl, Below.refl _ _⟩
  have hd : decide ((1048576 : Int) < (len0 : Int)) = false := decide_eq_false (by omega)
  go_enter Try.func13, Try.ntmps13
  go_wp2_with fail
  refine HDr.out.mono ?_
  rintro e w1 ⟨⟨v, g, rfl, ⟨ga, c, n, x, rfl, hg, hx, hn, hxs⟩, hg1, hg2⟩, hb1⟩
  have HX := Lib.hid hx
  have HB1 := Lib.hid hb1
  clear hx hb1 hxs
  cases hb : foxSumB x g with
  | false =>
    have HS := Lib.hid hb
    have HU : Hid (cond false (canonT (foxI g x)) [] = []) := Lib.hid rfl
    have HN : Hid (([] : List Tm).length = 0) := Lib.hid rfl
    clear hb
    go_wp2_with fail
    refine (iFoxSum_t HX.out HS.out HU.out HN.out).mono ?_
    rintro e w2 ⟨⟨a2, c2, rfl, h2⟩, hb2⟩
    have HX := Lib.hid (HX.out.below hb2)
    have H2 := Lib.hid h2
    have HB2 := Lib.hid (HB1.out.trans (hb2.mono HB1.out.size))
    clear h2 hb2
    go_wp2_with fail
    refine (sFoxSum_t HX.out HS.out HU.out HN.out).mono ?_
    rintro e w3 ⟨⟨a3, c3, rfl, h3⟩, hb3⟩
    have H2 := Lib.hid (H2.out.below hb3)
    have H3 := Lib.hid h3
    have HB3 := Lib.hid (HB2.out.trans (hb3.mono HB2.out.size))
    clear h3 hb3
    go_wp2_with fail
    refine (sameSum_t H2.out H3.out).mono ?_
    rintro e w4 ⟨rfl, hb4⟩
    have HB4 := Lib.hid (HB3.out.trans (hb4.mono HB3.out.size))
    have H2 := Lib.hid (H2.out.below hb4)
    have H3 := Lib.hid (H3.out.below hb4)
    clear hb4
    go_wp2_with fail
    refine (sameSum_t H2.out H3.out).mono ?_
    rintro e w5 ⟨rfl, hb5⟩
    have HB5 := Lib.hid (HB4.out.trans (hb5.mono HB4.out.size))
    clear hb5
    go_wp2
    go_ret
    exact ⟨rfl, HB5.out⟩
  | true =>
    obtain ⟨us, hus⟩ : ∃ us, canonT (foxI g x) = us := ⟨_, rfl⟩
    obtain ⟨k, hk⟩ : ∃ k, us.length = k := ⟨_, rfl⟩
    obtain ⟨b1, hb1⟩ : ∃ b, addB x (oneS noS) = b := ⟨_, rfl⟩
    obtain ⟨ms, hms⟩ : ∃ vs, cond b1 (canonT (x ++ oneS noS)) [] = vs := ⟨_, rfl⟩
    obtain ⟨km, hkm⟩ : ∃ k, ms.length = k := ⟨_, rfl⟩
    obtain ⟨b2, hb2⟩ : ∃ b, foxSumB ms g = b := ⟨_, rfl⟩
    obtain ⟨xs, hxs⟩ : ∃ vs, cond b2 (canonT (foxI g ms)) [] = vs := ⟨_, rfl⟩
    obtain ⟨kx, hkx⟩ : ∃ k, xs.length = k := ⟨_, rfl⟩
    obtain ⟨b3, hb3⟩ : ∃ b, addB x x = b := ⟨_, rfl⟩
    obtain ⟨ts, hts⟩ : ∃ vs, cond b3 (canonT (x ++ x)) [] = vs := ⟨_, rfl⟩
    obtain ⟨kt, hkt⟩ : ∃ k, ts.length = k := ⟨_, rfl⟩
    obtain ⟨b4, hb4⟩ : ∃ b, foxSumB ts g = b := ⟨_, rfl⟩
    obtain ⟨ys, hys⟩ : ∃ vs, cond b4 (canonT (foxI g ts)) [] = vs := ⟨_, rfl⟩
    obtain ⟨ky, hky⟩ : ∃ k, ys.length = k := ⟨_, rfl⟩
    obtain ⟨b5, hb5⟩ : ∃ b, addB us us = b := ⟨_, rfl⟩
    obtain ⟨zs, hzs⟩ : ∃ vs, cond b5 (canonT (us ++ us)) [] = vs := ⟨_, rfl⟩
    obtain ⟨kz, hkz⟩ : ∃ k, zs.length = k := ⟨_, rfl⟩
    have hsame1 : b1 = true → b2 = true → xs = us := fun e1 e2 => by
      subst e1 e2
      rw [← hxs, ← hus]
      show canonT (foxI g ms) = _
      have hms' : canonT (x ++ oneS noS) = ms := hms
      refine Same.eq ?_
      rw [← hms']
      refine ((Same.canon _).fox g).trans ?_
      rw [fox_add, fox_noS, List.append_nil]
      exact Same.refl _
    have hsame2 : b3 = true → b4 = true → b5 = true → ys = zs := fun e1 e2 e3 => by
      subst e1 e2 e3
      rw [← hys, ← hzs]
      show canonT (foxI g ts) = canonT (us ++ us)
      have hts' : canonT (x ++ x) = ts := hts
      refine Same.eq ?_
      rw [← hts', ← hus]
      refine ((Same.canon _).fox g).trans ?_
      rw [fox_add]
      exact ((Same.canon _).append (Same.canon _)).symm
    have HS := Lib.hid hb
    have HU : Hid (cond true (canonT (foxI g x)) [] = us) := Lib.hid hus
    have HN := Lib.hid hk
    have HC1 := Lib.hid hb1
    have HC2 := Lib.hid hb2
    have HC3 := Lib.hid hb3
    have HC4 := Lib.hid hb4
    have HC5 := Lib.hid hb5
    have HM := Lib.hid hms
    have HXS := Lib.hid hxs
    have HT := Lib.hid hts
    have HYS := Lib.hid hys
    have HZS := Lib.hid hzs
    have HKM := Lib.hid hkm
    have HKX := Lib.hid hkx
    have HKT := Lib.hid hkt
    have HKY := Lib.hid hky
    have HKZ := Lib.hid hkz
    have HSA1 := Lib.hid hsame1
    have HSA2 := Lib.hid hsame2
    clear hb hus hk hb1 hms hkm hb2 hxs hkx hb3 hts hkt hb4 hys hky hb5 hzs hkz hsame1 hsame2
    go_wp2_with fail
    refine (iFoxSum_t HX.out HS.out HU.out HN.out).mono ?_
    rintro e w2 ⟨⟨a2, c2, rfl, h2⟩, hb2⟩
    have HX := Lib.hid (HX.out.below hb2)
    have H2 := Lib.hid h2
    have HB2 := Lib.hid (HB1.out.trans (hb2.mono HB1.out.size))
    clear h2 hb2
    go_wp2_with fail
    refine (sFoxSum_t HX.out HS.out HU.out HN.out).mono ?_
    rintro e w3 ⟨⟨a3, c3, rfl, h3⟩, hb3⟩
    have H2 := Lib.hid (H2.out.below hb3)
    have HX := Lib.hid (HX.out.below hb3)
    have H3 := Lib.hid h3
    have HB3 := Lib.hid (HB2.out.trans (hb3.mono HB2.out.size))
    clear h3 hb3
    go_wp2_with fail
    refine (sameSum_t H2.out H3.out).mono ?_
    rintro e w4 ⟨rfl, hb4⟩
    have HB4 := Lib.hid (HB3.out.trans (hb4.mono HB3.out.size))
    have H2 := Lib.hid (H2.out.below hb4)
    have HX := Lib.hid (HX.out.below hb4)
    clear hb4
    go_wp2_with fail
    refine (one_any noS _).mono ?_
    rintro e w5 ⟨rfl, hb5, h5⟩
    have H2 := Lib.hid (H2.out.below hb5)
    have HX := Lib.hid (HX.out.below hb5)
    have H5 := Lib.hid (h5 (by decide))
    have HB5 := Lib.hid (HB4.out.trans (hb5.mono HB4.out.size))
    clear hb5 h5
    go_wp2_with fail
    refine (iSumAdd_t HX.out H5.out HC1.out HM.out HKM.out).mono ?_
    rintro e w6 ⟨⟨a6, c6, rfl, h6⟩, hb6⟩
    have H2 := Lib.hid (H2.out.below hb6)
    have HX := Lib.hid (HX.out.below hb6)
    have H6 := Lib.hid h6
    have HB6 := Lib.hid (HB5.out.trans (hb6.mono HB5.out.size))
    clear h6 hb6
    go_wp2_with fail
    refine (iFoxSum_t H6.out HC2.out HXS.out HKX.out).mono ?_
    rintro e w7 ⟨⟨a7, c7, rfl, h7⟩, hb7⟩
    have H2 := Lib.hid (H2.out.below hb7)
    have HX := Lib.hid (HX.out.below hb7)
    have H7 := Lib.hid h7
    have HB7 := Lib.hid (HB6.out.trans (hb7.mono HB6.out.size))
    clear h7 hb7
    go_wp2_with fail
    refine (iSumAdd_t HX.out HX.out HC3.out HT.out HKT.out).mono ?_
    rintro e w8 ⟨⟨a8, c8, rfl, h8⟩, hb8⟩
    have H2 := Lib.hid (H2.out.below hb8)
    have H7 := Lib.hid (H7.out.below hb8)
    have H8 := Lib.hid h8
    have HB8 := Lib.hid (HB7.out.trans (hb8.mono HB7.out.size))
    clear h8 hb8
    go_wp2_with fail
    refine (iFoxSum_t H8.out HC4.out HYS.out HKY.out).mono ?_
    rintro e w9 ⟨⟨a9, c9, rfl, h9⟩, hb9⟩
    have H2 := Lib.hid (H2.out.below hb9)
    have H7 := Lib.hid (H7.out.below hb9)
    have H9 := Lib.hid h9
    have HB9 := Lib.hid (HB8.out.trans (hb9.mono HB8.out.size))
    clear h9 hb9
    go_wp2_with fail
    refine (iSumAdd_t H2.out H2.out HC5.out HZS.out HKZ.out).mono ?_
    rintro e w10 ⟨⟨a10, c10, rfl, h10⟩, hb10⟩
    have H2 := Lib.hid (H2.out.below hb10)
    have H7 := Lib.hid (H7.out.below hb10)
    have H9 := Lib.hid (H9.out.below hb10)
    have H10 := Lib.hid h10
    have HB10 := Lib.hid (HB9.out.trans (hb10.mono HB9.out.size))
    clear h10 hb10
    by_cases hp1 : b1 = true ∧ b2 = true
    · obtain ⟨rfl, rfl⟩ := hp1
      obtain rfl : xs = us := HSA1.out rfl rfl
      obtain rfl : kx = k := HKX.out.symm.trans HN.out
      by_cases hp2 : b3 = true ∧ b4 = true ∧ b5 = true
      · obtain ⟨rfl, rfl, rfl⟩ := hp2
        obtain rfl : ys = zs := HSA2.out rfl rfl rfl
        obtain rfl : ky = kz := HKY.out.symm.trans HKZ.out
        go_wp2_with fail
        refine (sameSum_t H7.out H2.out).mono ?_
        rintro e w11 ⟨rfl, hb11⟩
        have HB11 := Lib.hid (HB10.out.trans (hb11.mono HB10.out.size))
        have H9 := Lib.hid (H9.out.below hb11)
        have H10 := Lib.hid (H10.out.below hb11)
        clear hb11
        go_wp2_with fail
        refine (sameSum_t H9.out H10.out).mono ?_
        rintro e w12 ⟨rfl, hb12⟩
        have HB12 := Lib.hid (HB11.out.trans (hb12.mono HB11.out.size))
        clear hb12
        go_wp2
        go_ret
        exact ⟨rfl, HB12.out⟩
      · cases b3 with
        | false =>
          go_wp2_with fail
          refine (sameSum_t H7.out H2.out).mono ?_
          rintro e w11 ⟨rfl, hb11⟩
          have HB11 := Lib.hid (HB10.out.trans (hb11.mono HB10.out.size))
          clear hb11
          go_wp2
          go_ret
          exact ⟨rfl, HB11.out⟩
        | true =>
          cases b4 with
          | false =>
            go_wp2_with fail
            refine (sameSum_t H7.out H2.out).mono ?_
            rintro e w11 ⟨rfl, hb11⟩
            have HB11 := Lib.hid (HB10.out.trans (hb11.mono HB10.out.size))
            clear hb11
            go_wp2
            go_ret
            exact ⟨rfl, HB11.out⟩
          | true =>
            cases b5 with
            | false =>
              go_wp2_with fail
              refine (sameSum_t H7.out H2.out).mono ?_
              rintro e w11 ⟨rfl, hb11⟩
              have HB11 := Lib.hid (HB10.out.trans (hb11.mono HB10.out.size))
              clear hb11
              go_wp2
              go_ret
              exact ⟨rfl, HB11.out⟩
            | true => exact absurd ⟨rfl, rfl, rfl⟩ hp2
    · have hp1' : b1 = false ∨ b2 = false := by cases b1 <;> cases b2 <;> simp_all
      by_cases hp2 : b3 = true ∧ b4 = true ∧ b5 = true
      · obtain ⟨rfl, rfl, rfl⟩ := hp2
        obtain rfl : ys = zs := HSA2.out rfl rfl rfl
        obtain rfl : ky = kz := HKY.out.symm.trans HKZ.out
        rcases hp1' with rfl | rfl
        · clear hp1
          go_wp2_with fail
          refine (sameSum_t H9.out H10.out).mono ?_
          rintro e w11 ⟨rfl, hb11⟩
          have HB11 := Lib.hid (HB10.out.trans (hb11.mono HB10.out.size))
          clear hb11
          go_wp2
          go_ret
          exact ⟨rfl, HB11.out⟩
        · clear hp1
          cases b1 with
          | false =>
            go_wp2_with fail
            refine (sameSum_t H9.out H10.out).mono ?_
            rintro e w11 ⟨rfl, hb11⟩
            have HB11 := Lib.hid (HB10.out.trans (hb11.mono HB10.out.size))
            clear hb11
            go_wp2
            go_ret
            exact ⟨rfl, HB11.out⟩
          | true =>
            go_wp2_with fail
            refine (sameSum_t H9.out H10.out).mono ?_
            rintro e w11 ⟨rfl, hb11⟩
            have HB11 := Lib.hid (HB10.out.trans (hb11.mono HB10.out.size))
            clear hb11
            go_wp2
            go_ret
            exact ⟨rfl, HB11.out⟩
      · have hp2' : b3 = false ∨ b3 = true ∧ b4 = false ∨ b3 = true ∧ b4 = true ∧ b5 = false := by cases b3 <;> cases b4 <;> cases b5 <;> simp_all
        have hp1'' : b1 = false ∨ b1 = true ∧ b2 = false := by cases b1 <;> cases b2 <;> simp_all
        clear hp1 hp2 hp1'
        rcases hp1'' with rfl | ⟨rfl, rfl⟩ <;> rcases hp2' with rfl | ⟨rfl, rfl⟩ | ⟨rfl, rfl, rfl⟩
        all_goals
          go_wp2
          go_ret
          exact ⟨rfl, HB10.out⟩

set_option maxRecDepth 100000 in
theorem lifted (os : Os) (started : os.Started) (H : Type) (enc : TypeId × Value → H) :
    ReturnsInHanded {} Try.checked os 13 .any (Rows.fnFoxSumSpec.pre6 enc Try.prog Try.f13 Rows.fnFoxSumRow.domain false) (Rows.fnFoxSumSpec.post enc Try.prog Try.f13 false true false false) := by
  refine returnsInHanded_of_change (C := Try.checked) own started (by kernel_rfl) Try.func13
    (ChangeSpec.witness6 (enc := enc) (C := Try.checked) false ⟨#[], #[.slice none 0 0], []⟩ 8 (by kernel_rfl) (by kernel_rfl) (by kernel_rfl) (by kernel_rfl)) ?_
  intro W base args ds gs before hval0 hW hcnd _
  have hval : ∀ (j : Nat) t v, Try.f13.params[j]? = some t → args[j]? = some v → Value.okWide Try.prog W .any base t v := hval0
  have hW' := hW
  obtain ⟨p, q, hA0, hV, rfl, hfz, hnd⟩ := hW
  have hA : DataW.TrodAll enc Try.prog W 0 (fun _ => true) true Try.f13.params.toList args.toList ds p := hA0
  rw [Try.params13] at hA hval
  obtain ⟨v0, vs0, d0, ds0, p0, q0, hargs, rfl, rfl, h0, r0⟩ := trodAll_cons hA
  obtain ⟨rfl, rfl, rfl⟩ := trodAll_nil r0
  obtain rfl : args = #[v0] := by cases args; simp_all
  obtain ⟨rfl, rfl⟩ := trodVars_none hV
  obtain ⟨a0, len0, cap0, rfl⟩ := okWide_slice Try.underlying22 (hval 0 22 v0 rfl rfl)
  have k0 := h0
  have lt0 : ∀ x ∈ p0, x.block < W.heap.size := by obtain ⟨m, hm⟩ := k0; exact DataW.trod_lt m _ _ _ hm
  obtain ⟨z0, w0⟩ : ∃ zs, BsAt W.heap.size W a0 len0 cap0 zs := by
    obtain ⟨fuel, hf⟩ := h0
    exact bs_of hf
  clear hA0 hval0
  refine (walk a0 len0 cap0 z0 W w0).mono fun e W' ⟨he, bel⟩ => ?_
  subst he
  exact ⟨_, rfl, _, _, _, [], _, [], hW', trodAll_mk1 (shut_bool Try.underlying4 _), (trodAll_cons_mk (Below.trod laidOut (by kernel_rfl) (of_decide_eq_true (by kernel_rfl)) k0 bel lt0) trodAll_mk0), rfl, bel.frame _, fun h => by cases h⟩

theorem over : Rows.fnFoxSumRow.holds Try.pinned (OpenSpec.ofChange Rows.fnFoxSumSpec) :=
  OpenClaim.holds_of_wide 13 Try.f13 rfl rfl rfl rfl rfl rfl rfl ⟨rfl, rfl, rfl, rfl, rfl⟩ rfl rfl rfl rfl rfl (by kernel_rfl) Try.func13 (by kernel_rfl)
    (of_decide_eq_true (by kernel_rfl)) (by unfold Func.isWrapper; first | (rw [if_pos (by decide +kernel)]; kernel_rfl) | (rw [if_neg (by decide +kernel)]; exact ⟨rfl, rfl⟩))
    (fun os started H enc _ => lifted os started H enc)

theorem proved : Rows.FnFoxSumSaid := over
#print axioms proved
end Go.Proofs.Ytebgcebjlbhjjaa.LFoxSumP

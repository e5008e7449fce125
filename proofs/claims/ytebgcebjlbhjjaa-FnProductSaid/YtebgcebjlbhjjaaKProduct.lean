/-
  Proves 'Rows.FnProductSaid': for every list of bytes, the derivative of the product of the word that the model draws from it and ab goes by the product rule.
  Conditions: none beyond the row's own.
-/
import Derived.Test.YtebgcebjlbhjjaaRows
import Derived.WalkKit
import Derived.ProofKit
import Derived.OpenShut
import Derived.ShutString
import Derived.ChangeOld
import Derived.Below
import Derived.Test.YtebgcebjlbhjjaaBa
import Derived.Test.YtebgcebjlbhjjaaBb
import Derived.Test.YtebgcebjlbhjjaaBc
import Derived.Test.YtebgcebjlbhjjaaBd

namespace Go.Proofs.Ytebgcebjlbhjjaa.LProduct
open Go.ChangeShapes Go.WideShapes Go.ChangeAt Go.RowKit
open Go.ChangeMaps (open_string shut_string)
set_option linter.unusedVariables false

theorem own : ownKnob Try.prog.godebug = none := by kernel_rfl
theorem laidOut : laidOutB Try.prog = true := by kernel_rfl

set_option maxRecDepth 100000 in
set_option maxHeartbeats 6000000 in
theorem walk (a0 : Option Addr) (len0 cap0 : Nat) (z0 : List Int) (w : World) (w0 : BsAt w.heap.size w a0 len0 cap0 z0) :
    Calls Try.prog 11 #[.slice a0 len0 cap0] w fun e w' => e = .returned (.bool true) ∧ Below w.heap.size w w' := by
  have HDr := Lib.hid (drawFoxOf_any a0 len0 cap0 z0 w w0)
  have hfit := w0.fit
  unfold maxLen at hfit
  clear w0
  by_cases hlong : ¬ len0 ≤ 1048576
  · have hd : decide ((1048576 : Int) < (len0 : Int)) = true := decide_eq_true (by omega)
    go_enter Try.func11, Try.ntmps11
    go_wp2_with fail
    go_ret
    exact ⟨rfl, Below.refl _ _⟩
  have hd : decide ((1048576 : Int) < (len0 : Int)) = false := decide_eq_false (by omega)
  go_enter Try.func11, Try.ntmps11
  go_wp2_with fail
  refine HDr.out.mono ?_
  rintro e w1 ⟨⟨s, g, rfl, hs, hg1, hg2⟩, hb1⟩
  have HB1 := Lib.hid hb1
  have hsm : s.size ≤ maxLen := by unfold maxLen; omega
  clear hb1
  cases hb : foxOfB s g with
  | false =>
    have HS := Lib.hid hb
    have HU : Hid (cond false (canonT (foxL g 1 s.data.toList)) [] = []) := Lib.hid rfl
    have HN : Hid (([] : List Tm).length = 0) := Lib.hid rfl
    clear hb
    go_wp2_with fail
    refine (iFoxOf_t hsm HS.out HU.out HN.out).mono ?_
    rintro e w2 ⟨⟨a2, c2, rfl, h2⟩, hb2⟩
    have H2 := Lib.hid h2
    have HB2 := Lib.hid (HB1.out.trans (hb2.mono HB1.out.size))
    clear h2 hb2
    go_wp2_with fail
    refine (sFoxOf_t hsm HS.out HU.out HN.out).mono ?_
    rintro e w3 ⟨⟨a3, c3, rfl, h3⟩, hb3⟩
    have H2 := Lib.hid (H2.out.below hb3)
    have H3 := Lib.hid h3
    have HB3 := Lib.hid (HB2.out.trans (hb3.mono HB2.out.size))
    clear h3 hb3
    go_wp2_with fail
    refine (sameSum_t H2.out H3.out).mono ?_
    rintro e w4 ⟨rfl, hb4⟩
    have HB4 := Lib.hid (HB3.out.trans (hb4.mono HB3.out.size))
    have H2 := Lib.hid (H2.out.below hb4)
    have H3 := Lib.hid (H3.out.below hb4)
    clear hb4
    go_wp2_with fail
    refine (sameSum_t H2.out H3.out).mono ?_
    rintro e w5 ⟨rfl, hb5⟩
    have HB5 := Lib.hid (HB4.out.trans (hb5.mono HB4.out.size))
    clear hb5
    go_wp2
    go_ret
    exact ⟨rfl, HB5.out⟩
  | true =>
    obtain ⟨hw, h0, h3⟩ := foxOfB_iff.1 hb
    have hl := ((wordB_iff _).1 hw).2.1
    have hns := toList_size s
    obtain ⟨v, hv⟩ := is_of (redL [] (s.data.toList ++ abS.data.toList))
    have hvs := is_red_size hv
    rw [List.length_append, toList_size] at hvs
    have hab : abS.data.toList.length = 2 := rfl
    have hv60 : v.size ≤ 60 := by omega
    have hvm : v.size ≤ maxLen := by unfold maxLen; omega
    have hvw : wordB v.data.toList = true := word_of_is (by rw [letL_append, hl]; rfl) hv hv60
    obtain ⟨us, hus⟩ : ∃ us, canonT (foxL g 1 s.data.toList) = us := ⟨_, rfl⟩
    obtain ⟨k, hk⟩ : ∃ k, us.length = k := ⟨_, rfl⟩
    obtain ⟨ds, hds⟩ : ∃ us, canonT (foxL g 1 v.data.toList) = us := ⟨_, rfl⟩
    obtain ⟨kd, hkd⟩ : ∃ k, ds.length = k := ⟨_, rfl⟩
    obtain ⟨es, hes⟩ : ∃ us, canonT (foxL g 1 abS.data.toList) = us := ⟨_, rfl⟩
    obtain ⟨ke, hke⟩ : ∃ k, es.length = k := ⟨_, rfl⟩
    obtain ⟨b1, hb1⟩ : ∃ b, prodB (oneS s) es = b := ⟨_, rfl⟩
    obtain ⟨ts, hts⟩ : ∃ vs, cond b1 (canonT (pairsT (oneS s) es)) [] = vs := ⟨_, rfl⟩
    obtain ⟨kt, hkt⟩ : ∃ k, ts.length = k := ⟨_, rfl⟩
    obtain ⟨b2, hb2⟩ : ∃ b, addB us ts = b := ⟨_, rfl⟩
    obtain ⟨xs, hxs⟩ : ∃ vs, cond b2 (canonT (us ++ ts)) [] = vs := ⟨_, rfl⟩
    obtain ⟨kx, hkx⟩ : ∃ k, xs.length = k := ⟨_, rfl⟩
    have hsame : b1 = true → b2 = true → ds = xs := fun e1 e2 => by
      subst e1 e2
      rw [← hds, ← hxs]
      show canonT _ = canonT (us ++ ts)
      have hts' : canonT (pairsT (oneS s) es) = ts := hts
      refine Same.eq ?_
      have hv' : v.data.toList = redL [] (s.data.toList ++ abS.data.toList) := hv
      rw [← hts', ← hus, hv']
      rw [hv'] at hvw
      refine (fox_times hw abS_word hvw).trans ?_
      refine Same.append (Same.canon _).symm ?_
      refine Same.trans ?_ (Same.canon _).symm
      refine Same.trans ?_ (one_pairs s es).symm
      rw [← hes]
      exact (front_same (Same.canon _) _).symm
    have HS := Lib.hid hb
    have HU : Hid (cond true (canonT (foxL g 1 s.data.toList)) [] = us) := Lib.hid hus
    have HN := Lib.hid hk
    have HFV : Hid (foxOfB v g = true) := Lib.hid (foxOfB_iff.2 ⟨hvw, h0, h3⟩)
    have HFA : Hid (foxOfB abS g = true) := Lib.hid (foxOfB_iff.2 ⟨abS_word, h0, h3⟩)
    have HD : Hid (cond true (canonT (foxL g 1 v.data.toList)) [] = ds) := Lib.hid hds
    have HE : Hid (cond true (canonT (foxL g 1 abS.data.toList)) [] = es) := Lib.hid hes
    have HKD := Lib.hid hkd
    have HKE := Lib.hid hke
    have HW := Lib.hid hw
    have HVI := Lib.hid hv
    have HP1 := Lib.hid hb1
    have HP2 := Lib.hid hb2
    have HT := Lib.hid hts
    have HX := Lib.hid hxs
    have HKT := Lib.hid hkt
    have HKX := Lib.hid hkx
    have HSA := Lib.hid hsame
    have HAB := Lib.hid abS_word
    clear hb hl hns hvs hab hv hvw hus hk hds hkd hes hke hb1 hts hkt hb2 hxs hkx hsame hw
    go_wp2_with fail
    refine (iFoxOf_t hsm HS.out HU.out HN.out).mono ?_
    rintro e w2 ⟨⟨a2, c2, rfl, h2⟩, hb2⟩
    have H2 := Lib.hid h2
    have HB2 := Lib.hid (HB1.out.trans (hb2.mono HB1.out.size))
    clear h2 hb2
    go_wp2_with fail
    refine (sFoxOf_t hsm HS.out HU.out HN.out).mono ?_
    rintro e w3 ⟨⟨a3, c3, rfl, h3⟩, hb3⟩
    have H2 := Lib.hid (H2.out.below hb3)
    have H3 := Lib.hid h3
    have HB3 := Lib.hid (HB2.out.trans (hb3.mono HB2.out.size))
    clear h3 hb3
    go_wp2_with fail
    refine (sameSum_t H2.out H3.out).mono ?_
    rintro e w4 ⟨rfl, hb4⟩
    have HB4 := Lib.hid (HB3.out.trans (hb4.mono HB3.out.size))
    have H2 := Lib.hid (H2.out.below hb4)
    clear hb4
    go_wp2_with fail
    refine (iTimes_t HW.out HAB.out HVI.out hv60 _).mono ?_
    rintro e w5 ⟨rfl, hb5⟩
    have HB5 := Lib.hid (HB4.out.trans (hb5.mono HB4.out.size))
    have H2 := Lib.hid (H2.out.below hb5)
    clear hb5
    go_wp2_with fail
    refine (iFoxOf_t hvm HFV.out HD.out HKD.out).mono ?_
    rintro e w6 ⟨⟨a6, c6, rfl, h6⟩, hb6⟩
    have H2 := Lib.hid (H2.out.below hb6)
    have H6 := Lib.hid h6
    have HB6 := Lib.hid (HB5.out.trans (hb6.mono HB5.out.size))
    clear h6 hb6
    go_wp2_with fail
    refine (iFoxOf_t (s := abS) (by decide) HFA.out HE.out HKE.out).mono ?_
    rintro e w7 ⟨⟨a7, c7, rfl, h7⟩, hb7⟩
    have H2 := Lib.hid (H2.out.below hb7)
    have H6 := Lib.hid (H6.out.below hb7)
    have H7 := Lib.hid h7
    have HB7 := Lib.hid (HB6.out.trans (hb7.mono HB6.out.size))
    clear h7 hb7
    go_wp2_with fail
    refine (one_any s _).mono ?_
    rintro e w8 ⟨rfl, hb8, h8⟩
    have H2 := Lib.hid (H2.out.below hb8)
    have H6 := Lib.hid (H6.out.below hb8)
    have H7 := Lib.hid (H7.out.below hb8)
    have H8 := Lib.hid (h8 hsm)
    have HB8 := Lib.hid (HB7.out.trans (hb8.mono HB7.out.size))
    clear hb8 h8
    go_wp2_with fail
    refine (iSumTimes_t H8.out H7.out HP1.out HT.out HKT.out).mono ?_
    rintro e w9 ⟨⟨a9, c9, rfl, h9⟩, hb9⟩
    have H2 := Lib.hid (H2.out.below hb9)
    have H6 := Lib.hid (H6.out.below hb9)
    have H9 := Lib.hid h9
    have HB9 := Lib.hid (HB8.out.trans (hb9.mono HB8.out.size))
    clear h9 hb9
    go_wp2_with fail
    refine (iSumAdd_t H2.out H9.out HP2.out HX.out HKX.out).mono ?_
    rintro e w10 ⟨⟨a10, c10, rfl, h10⟩, hb10⟩
    have H6 := Lib.hid (H6.out.below hb10)
    have H10 := Lib.hid h10
    have HB10 := Lib.hid (HB9.out.trans (hb10.mono HB9.out.size))
    clear h10 hb10
    cases b1 with
    | false =>
      go_wp2
      go_ret
      exact ⟨rfl, HB10.out⟩
    | true =>
      cases b2 with
      | false =>
        go_wp2
        go_ret
        exact ⟨rfl, HB10.out⟩
      | true =>
        obtain rfl : ds = xs := HSA.out rfl rfl
        obtain rfl : kd = kx := HKD.out.symm.trans HKX.out
        go_wp2_with fail
        refine (sameSum_t H6.out H10.out).mono ?_
        rintro e w11 ⟨rfl, hb11⟩
        have HB11 := Lib.hid (HB10.out.trans (hb11.mono HB10.out.size))
        clear hb11
        go_wp2
        go_ret
        exact ⟨rfl, HB11.out⟩

set_option maxRecDepth 100000 in
theorem lifted (os : Os) (started : os.Started) (H : Type) (enc : TypeId × Value → H) :
    ReturnsInHanded {} Try.checked os 11 .any (Rows.fnProductSpec.pre6 enc Try.prog Try.f11 Rows.fnProductRow.domain false) (Rows.fnProductSpec.post enc Try.prog Try.f11 false true false false) := by
  refine returnsInHanded_of_change (C := Try.checked) own started (by kernel_rfl) Try.func11
    (ChangeSpec.witness6 (enc := enc) (C := Try.checked) false ⟨#[], #[.slice none 0 0], []⟩ 8 (by kernel_rfl) (by kernel_rfl) (by kernel_rfl) (by kernel_rfl)) ?_
  intro W base args ds gs before hval0 hW hcnd _
  have hval : ∀ (j : Nat) t v, Try.f11.params[j]? = some t → args[j]? = some v → Value.okWide Try.prog W .any base t v := hval0
  have hW' := hW
  obtain ⟨p, q, hA0, hV, rfl, hfz, hnd⟩ := hW
  have hA : DataW.TrodAll enc Try.prog W 0 (fun _ => true) true Try.f11.params.toList args.toList ds p := hA0
  rw [Try.params11] at hA hval
  obtain ⟨v0, vs0, d0, ds0, p0, q0, hargs, rfl, rfl, h0, r0⟩ := trodAll_cons hA
  obtain ⟨rfl, rfl, rfl⟩ := trodAll_nil r0
  obtain rfl : args = #[v0] := by cases args; simp_all
  obtain ⟨rfl, rfl⟩ := trodVars_none hV
  obtain ⟨a0, len0, cap0, rfl⟩ := okWide_slice Try.underlying22 (hval 0 22 v0 rfl rfl)
  have k0 := h0
  have lt0 : ∀ x ∈ p0, x.block < W.heap.size := by obtain ⟨m, hm⟩ := k0; exact DataW.trod_lt m _ _ _ hm
  obtain ⟨z0, w0⟩ : ∃ zs, BsAt W.heap.size W a0 len0 cap0 zs := by
    obtain ⟨fuel, hf⟩ := h0
    exact bs_of hf
  clear hA0 hval0
  refine (walk a0 len0 cap0 z0 W w0).mono fun e W' ⟨he, bel⟩ => ?_
  subst he
  exact ⟨_, rfl, _, _, _, [], _, [], hW', trodAll_mk1 (shut_bool Try.underlying4 _), (trodAll_cons_mk (Below.trod laidOut (by kernel_rfl) (of_decide_eq_true (by kernel_rfl)) k0 bel lt0) trodAll_mk0), rfl, bel.frame _, fun h => by cases h⟩

theorem over : Rows.fnProductRow.holds Try.pinned (OpenSpec.ofChange Rows.fnProductSpec) :=
  OpenClaim.holds_of_wide 11 Try.f11 rfl rfl rfl rfl rfl rfl rfl ⟨rfl, rfl, rfl, rfl, rfl⟩ rfl rfl rfl rfl rfl (by kernel_rfl) Try.func11 (by kernel_rfl)
    (of_decide_eq_true (by kernel_rfl)) (by unfold Func.isWrapper; first | (rw [if_pos (by decide +kernel)]; kernel_rfl) | (rw [if_neg (by decide +kernel)]; exact ⟨rfl, rfl⟩))
    (fun os started H enc _ => lifted os started H enc)

theorem proved : Rows.FnProductSaid := over
#print axioms proved
end Go.Proofs.Ytebgcebjlbhjjaa.LProduct

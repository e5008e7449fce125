/-
  Proves 'Rows.FnSeriesTimesSaid': for every list of bytes, the series of the product of the two words that the model draws from it is the product of their series.
  Conditions: none beyond the row's own.
-/
import Derived.Test.YtebgcebjlbhjjabRows
import Derived.WalkKit
import Derived.ProofKit
import Derived.OpenShut
import Derived.ShutString
import Derived.ChangeOld
import Derived.Below
import Derived.Test.YtebgcebjlbhjjabBa
import Derived.Test.YtebgcebjlbhjjabBb
import Derived.Test.YtebgcebjlbhjjabBc
import Derived.Test.YtebgcebjlbhjjabBd
import Derived.Test.YtebgcebjlbhjjabBe

namespace Go.Proofs.Ytebgcebjlbhjjab.LSeriesTimesP
open Go.ChangeShapes Go.WideShapes Go.ChangeAt Go.RowKit
open Go.ChangeMaps (open_string shut_string)
set_option linter.unusedVariables false

theorem own : ownKnob Try.prog.godebug = none := by kernel_rfl
theorem laidOut : laidOutB Try.prog = true := by kernel_rfl

set_option maxRecDepth 100000 in
set_option maxHeartbeats 4000000 in
theorem walk (a0 : Option Addr) (len0 cap0 : Nat) (z0 : List Int) (w : World) (w0 : BsAt w.heap.size w a0 len0 cap0 z0) :
    Calls Try.prog 8 #[.slice a0 len0 cap0] w fun e w' => e = .returned (.bool true) ∧ Below w.heap.size w w' := by
  have HDr := Lib.hid (drawWordTimes_any a0 len0 cap0 z0 w w0)
  have hfit := w0.fit
  unfold maxLen at hfit
  clear w0
  by_cases hlong : ¬ len0 ≤ 1048576
  · have hd : decide ((1048576 : Int) < (len0 : Int)) = true := decide_eq_true (by omega)
    go_enter Try.func8, Try.ntmps8
    go_wp2_with fail
    go_ret
    exact ⟨rfl, Below.refl _ _⟩
  have hd : decide ((1048576 : Int) < (len0 : Int)) = false := decide_eq_false (by omega)
  go_enter Try.func8, Try.ntmps8
  go_wp2_with fail
  refine HDr.out.mono ?_
  rintro e w1 ⟨⟨a, b, rfl, ha, hb⟩, hb1⟩
  have HB1 := Lib.hid hb1
  have ham : a.size ≤ maxLen := by unfold maxLen; omega
  have hbm : b.size ≤ maxLen := by unfold maxLen; omega
  clear hb1
  by_cases hw : ¬ (wordB a.data.toList = true ∧ wordB b.data.toList = true)
  · have HW := Lib.hid hw
    clear hw
    go_wp2_with fail
    refine (iTimes_no a b _ ham hbm HW.out).mono ?_
    rintro e w2 ⟨rfl, hb2⟩
    have HB2 := Lib.hid (HB1.out.trans (hb2.mono HB1.out.size))
    clear hb2
    go_wp2_with fail
    refine (sTimes_no a b _ ham hbm HW.out).mono ?_
    rintro e w3 ⟨rfl, hb3⟩
    have HB3 := Lib.hid (HB2.out.trans (hb3.mono HB2.out.size))
    clear hb3
    go_wp2
    go_ret
    exact ⟨rfl, HB3.out⟩
  obtain ⟨hwa, hwb⟩ := Decidable.not_not.1 hw
  have hla := ((wordB_iff _).1 hwa).2.1
  have hlb := ((wordB_iff _).1 hwb).2.1
  have hab : letL (a.data.toList ++ b.data.toList) = true := by rw [letL_append, hla, hlb]; rfl
  have hna := toList_size a
  have hnb := toList_size b
  obtain ⟨o, ho⟩ := is_of (redL [] (a.data.toList ++ b.data.toList))
  have hos := is_red_size ho
  rw [List.length_append] at hos
  have how := word_of_is hab ho (by omega)
  have hlo := ((wordB_iff _).1 how).2.1
  have hom : o.size ≤ maxLen := by unfold maxLen; omega
  obtain ⟨xs, hxs⟩ : ∃ us, serW o.data.toList = us := ⟨_, rfl⟩
  obtain ⟨kx, hkx⟩ : ∃ k, xs.length = k := ⟨_, rfl⟩
  obtain ⟨us, hus⟩ : ∃ us, serW a.data.toList = us := ⟨_, rfl⟩
  obtain ⟨ku, hku⟩ : ∃ k, us.length = k := ⟨_, rfl⟩
  obtain ⟨vs, hvs⟩ : ∃ us, serW b.data.toList = us := ⟨_, rfl⟩
  obtain ⟨kv, hkv⟩ : ∃ k, vs.length = k := ⟨_, rfl⟩
  obtain ⟨b1, hb1⟩ : ∃ b, serProdB us vs = b := ⟨_, rfl⟩
  obtain ⟨ys, hys⟩ : ∃ v, cond b1 (canonT (pairsS us vs)) [] = v := ⟨_, rfl⟩
  obtain ⟨ky, hky⟩ : ∃ k, ys.length = k := ⟨_, rfl⟩
  have hsame : b1 = true → xs = ys := fun e1 => by
    subst e1
    have hys' : canonT (pairsS us vs) = ys := hys
    rw [← hys', ← hxs]
    refine ser_eq (canon_serW hlo) (canonT_spec _).1 (mono_serW hlo) (mono_pairs (by rw [← hus]; exact mono_serW hla) (by rw [← hvs]; exact mono_serW hlb)) ?_
    refine Eq4.trans ?_ (cf_pairs us vs).symm
    rw [← hus, ← hvs]
    unfold Is at ho
    have h1 := cs_red (a.data.toList ++ b.data.toList) [] hab
    rw [List.nil_append] at h1
    rw [ho]
    exact h1.trans (cs_append _ _)
  have HA := Lib.hid hwa
  have HB := Lib.hid hwb
  have HO := Lib.hid ho
  have HOW := Lib.hid how
  have ho60 : o.size ≤ 60 := by omega
  have HX : Hid (cond true (serW o.data.toList) [] = xs) := Lib.hid hxs
  have HU : Hid (cond true (serW a.data.toList) [] = us) := Lib.hid hus
  have HV : Hid (cond true (serW b.data.toList) [] = vs) := Lib.hid hvs
  have HY := Lib.hid hys
  have HKX := Lib.hid hkx
  have HKU := Lib.hid hku
  have HKV := Lib.hid hkv
  have HKY := Lib.hid hky
  have HP := Lib.hid hb1
  have HSA := Lib.hid hsame
  clear hw hwa hwb hla hlb hab hna hnb ho hos how hlo hxs hkx hus hku hvs hkv hb1 hys hky hsame
  go_wp2_with fail
  refine (iTimes_t HA.out HB.out HO.out ho60 _).mono ?_
  rintro e w2 ⟨rfl, hb2⟩
  have HB2 := Lib.hid (HB1.out.trans (hb2.mono HB1.out.size))
  clear hb2
  go_wp2_with fail
  refine (sTimes_t HA.out HB.out HO.out ho60 _).mono ?_
  rintro e w3 ⟨rfl, hb3⟩
  have HB3 := Lib.hid (HB2.out.trans (hb3.mono HB2.out.size))
  clear hb3
  go_wp2_with fail
  refine (iSeriesOf_t hom HOW.out HX.out HKX.out).mono ?_
  rintro e w4 ⟨⟨a4, c4, rfl, h4⟩, hb4⟩
  have H4 := Lib.hid h4
  have HB4 := Lib.hid (HB3.out.trans (hb4.mono HB3.out.size))
  clear h4 hb4
  go_wp2_with fail
  refine (iSeriesOf_t ham HA.out HU.out HKU.out).mono ?_
  rintro e w5 ⟨⟨a5, c5, rfl, h5⟩, hb5⟩
  have H4 := Lib.hid (H4.out.below hb5)
  have H5 := Lib.hid h5
  have HB5 := Lib.hid (HB4.out.trans (hb5.mono HB4.out.size))
  clear h5 hb5
  go_wp2_with fail
  refine (iSeriesOf_t hbm HB.out HV.out HKV.out).mono ?_
  rintro e w6 ⟨⟨a6, c6, rfl, h6⟩, hb6⟩
  have H4 := Lib.hid (H4.out.below hb6)
  have H5 := Lib.hid (H5.out.below hb6)
  have H6 := Lib.hid h6
  have HB6 := Lib.hid (HB5.out.trans (hb6.mono HB5.out.size))
  clear h6 hb6
  go_wp2_with fail
  refine (iSeriesTimes_t H5.out H6.out HP.out HY.out HKY.out).mono ?_
  rintro e w7 ⟨⟨a7, c7, rfl, h7⟩, hb7⟩
  have H4 := Lib.hid (H4.out.below hb7)
  have H7 := Lib.hid h7
  have HB7 := Lib.hid (HB6.out.trans (hb7.mono HB6.out.size))
  clear h7 hb7
  cases b1 with
  | false =>
    go_wp2
    go_ret
    exact ⟨rfl, HB7.out⟩
  | true =>
    obtain rfl : xs = ys := HSA.out rfl
    obtain rfl : kx = ky := HKX.out.symm.trans HKY.out
    go_wp2_with fail
    refine (sameSum_t H4.out H7.out).mono ?_
    rintro e w8 ⟨rfl, hb8⟩
    have HB8 := Lib.hid (HB7.out.trans (hb8.mono HB7.out.size))
    clear hb8
    go_wp2
    go_ret
    exact ⟨rfl, HB8.out⟩

set_option maxRecDepth 100000 in
theorem lifted (os : Os) (started : os.Started) (H : Type) (enc : TypeId × Value → H) :
    ReturnsInHanded {} Try.checked os 8 .any (Rows.fnSeriesTimesSpec.pre6 enc Try.prog Try.f8 Rows.fnSeriesTimesRow.domain false) (Rows.fnSeriesTimesSpec.post enc Try.prog Try.f8 false true false false) := by
  refine returnsInHanded_of_change (C := Try.checked) own started (by kernel_rfl) Try.func8
    (ChangeSpec.witness6 (enc := enc) (C := Try.checked) false ⟨#[], #[.slice none 0 0], []⟩ 8 (by kernel_rfl) (by kernel_rfl) (by kernel_rfl) (by kernel_rfl)) ?_
  intro W base args ds gs before hval0 hW hcnd _
  have hval : ∀ (j : Nat) t v, Try.f8.params[j]? = some t → args[j]? = some v → Value.okWide Try.prog W .any base t v := hval0
  have hW' := hW
  obtain ⟨p, q, hA0, hV, rfl, hfz, hnd⟩ := hW
  have hA : DataW.TrodAll enc Try.prog W 0 (fun _ => true) true Try.f8.params.toList args.toList ds p := hA0
  rw [Try.params8] at hA hval
  obtain ⟨v0, vs0, d0, ds0, p0, q0, hargs, rfl, rfl, h0, r0⟩ := trodAll_cons hA
  obtain ⟨rfl, rfl, rfl⟩ := trodAll_nil r0
  obtain rfl : args = #[v0] := by cases args; simp_all
  obtain ⟨rfl, rfl⟩ := trodVars_none hV
  obtain ⟨a0, len0, cap0, rfl⟩ := okWide_slice Try.underlying22 (hval 0 22 v0 rfl rfl)
  have k0 := h0
  have lt0 : ∀ x ∈ p0, x.block < W.heap.size := by obtain ⟨m, hm⟩ := k0; exact DataW.trod_lt m _ _ _ hm
  obtain ⟨z0, w0⟩ : ∃ zs, BsAt W.heap.size W a0 len0 cap0 zs := by
    obtain ⟨fuel, hf⟩ := h0
    exact bs_of hf
  clear hA0 hval0
  refine (walk a0 len0 cap0 z0 W w0).mono fun e W' ⟨he, bel⟩ => ?_
  subst he
  exact ⟨_, rfl, _, _, _, [], _, [], hW', trodAll_mk1 (shut_bool Try.underlying4 _), (trodAll_cons_mk (Below.trod laidOut (by kernel_rfl) (of_decide_eq_true (by kernel_rfl)) k0 bel lt0) trodAll_mk0), rfl, bel.frame _, fun h => by cases h⟩

theorem over : Rows.fnSeriesTimesRow.holds Try.pinned (OpenSpec.ofChange Rows.fnSeriesTimesSpec) :=
  OpenClaim.holds_of_wide 8 Try.f8 rfl rfl rfl rfl rfl rfl rfl ⟨rfl, rfl, rfl, rfl, rfl⟩ rfl rfl rfl rfl rfl (by kernel_rfl) Try.func8 (by kernel_rfl)
    (of_decide_eq_true (by kernel_rfl)) (by unfold Func.isWrapper; first | (rw [if_pos (by decide +kernel)]; kernel_rfl) | (rw [if_neg (by decide +kernel)]; exact ⟨rfl, rfl⟩))
    (fun os started H enc _ => lifted os started H enc)

theorem proved : Rows.FnSeriesTimesSaid := over
#print axioms proved
end Go.Proofs.Ytebgcebjlbhjjab.LSeriesTimesP

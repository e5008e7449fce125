/-
  Proves 'Rows.FnSeriesOfSaid': for every list of bytes, the series of the word that the model draws from it begins with 1, and its product with the series of the inverse is 1.
  Conditions: none beyond the row's own.
-/
import Derived.Test.YtebgcebjlbhjjabRows
import Derived.WalkKit
import Derived.ProofKit
import Derived.OpenShut
import Derived.ShutString
import Derived.ChangeOld
import Derived.Below
import Derived.Test.YtebgcebjlbhjjabBa
import Derived.Test.YtebgcebjlbhjjabBb
import Derived.Test.YtebgcebjlbhjjabBc
import Derived.Test.YtebgcebjlbhjjabBd
import Derived.Test.YtebgcebjlbhjjabBe

namespace Go.Proofs.Ytebgcebjlbhjjab.LSeriesOfP
open Go.ChangeShapes Go.WideShapes Go.ChangeAt Go.RowKit
open Go.ChangeMaps (open_string shut_string)
set_option linter.unusedVariables false

theorem own : ownKnob Try.prog.godebug = none := by kernel_rfl
theorem laidOut : laidOutB Try.prog = true := by kernel_rfl

set_option maxRecDepth 100000 in
set_option maxHeartbeats 6000000 in
theorem walk (a0 : Option Addr) (len0 cap0 : Nat) (z0 : List Int) (w : World) (w0 : BsAt w.heap.size w a0 len0 cap0 z0) :
    Calls Try.prog 7 #[.slice a0 len0 cap0] w fun e w' => e = .returned (.bool true) ∧ Below w.heap.size w w' := by
  have HDr := Lib.hid (drawSeriesOf_any a0 len0 cap0 z0 w w0)
  have hfit := w0.fit
  unfold maxLen at hfit
  clear w0
  by_cases hlong : ¬ len0 ≤ 1048576
  · have hd : decide ((1048576 : Int) < (len0 : Int)) = true := decide_eq_true (by omega)
    go_enter Try.func7, Try.ntmps7
    go_wp2_with fail
    go_ret
    exact ⟨rfl, Below.refl _ _⟩
  have hd : decide ((1048576 : Int) < (len0 : Int)) = false := decide_eq_false (by omega)
  go_enter Try.func7, Try.ntmps7
  go_wp2_with fail
  refine HDr.out.mono ?_
  rintro e w1 ⟨⟨s, rfl, hs⟩, hb1⟩
  have HB1 := Lib.hid hb1
  have hsm : s.size ≤ maxLen := by unfold maxLen; omega
  clear hb1
  cases hb : wordB s.data.toList with
  | false =>
    have HS := Lib.hid hb
    have HU : Hid (cond false (serW s.data.toList) [] = []) := Lib.hid rfl
    have HN : Hid (([] : List Tm).length = 0) := Lib.hid rfl
    clear hb
    go_wp2_with fail
    refine (iSeriesOf_t hsm HS.out HU.out HN.out).mono ?_
    rintro e w2 ⟨⟨a2, c2, rfl, h2⟩, hb2⟩
    have H2 := Lib.hid h2
    have HB2 := Lib.hid (HB1.out.trans (hb2.mono HB1.out.size))
    clear h2 hb2
    go_wp2_with fail
    refine (sSeriesOf_t hsm HS.out HU.out HN.out).mono ?_
    rintro e w3 ⟨⟨a3, c3, rfl, h3⟩, hb3⟩
    have H2 := Lib.hid (H2.out.below hb3)
    have H3 := Lib.hid h3
    have HB3 := Lib.hid (HB2.out.trans (hb3.mono HB2.out.size))
    clear h3 hb3
    go_wp2_with fail
    refine (sameSum_t H2.out H3.out).mono ?_
    rintro e w4 ⟨rfl, hb4⟩
    have HB4 := Lib.hid (HB3.out.trans (hb4.mono HB3.out.size))
    have H2 := Lib.hid (H2.out.below hb4)
    have H3 := Lib.hid (H3.out.below hb4)
    clear hb4
    go_wp2_with fail
    refine (sameSum_t H2.out H3.out).mono ?_
    rintro e w5 ⟨rfl, hb5⟩
    have HB5 := Lib.hid (HB4.out.trans (hb5.mono HB4.out.size))
    clear hb5
    go_wp2
    go_ret
    exact ⟨rfl, HB5.out⟩
  | true =>
    have hl := ((wordB_iff _).1 hb).2.1
    have hlb := letL_back _ hl
    obtain ⟨t, ht⟩ := is_of (backL s.data.toList)
    have hts := ht.size
    rw [backL_length, toList_size] at hts
    have htm : t.size ≤ maxLen := by unfold maxLen; omega
    have htw : wordB t.data.toList = true := by unfold Is at ht; rw [ht]; exact word_back hb
    obtain ⟨us, hus⟩ : ∃ us, serW s.data.toList = us := ⟨_, rfl⟩
    obtain ⟨k, hk⟩ : ∃ k, us.length = k := ⟨_, rfl⟩
    obtain ⟨xs, hxs⟩ : ∃ us, serW t.data.toList = us := ⟨_, rfl⟩
    obtain ⟨kx, hkx⟩ : ∃ k, xs.length = k := ⟨_, rfl⟩
    obtain ⟨b1, hb1⟩ : ∃ b, serProdB us xs = b := ⟨_, rfl⟩
    obtain ⟨ys, hys⟩ : ∃ v, cond b1 (canonT (pairsS us xs)) [] = v := ⟨_, rfl⟩
    obtain ⟨ky, hky⟩ : ∃ k, ys.length = k := ⟨_, rfl⟩
    have hpos : 0 < k := by rw [← hk, ← hus]; exact first_pos (canon_serW hl) (serW_no _ hl)
    have hfirst : ∀ h : 0 < us.length, us[0] = ⟨1, noS⟩ := by
      obtain ⟨u, r, e, hu, hc, _⟩ := canon_first (canon_serW hl) (serW_no _ hl)
      rw [hus] at e
      subst e
      intro h
      show u = _
      cases u
      simp only at hu hc
      rw [hu, hc]
    have hsame : b1 = true → ys = oneS noS := fun e1 => by
      subst e1
      have hys' : canonT (pairsS us xs) = ys := hys
      rw [← hys']
      refine ser_eq (canonT_spec _).1 canon_one (mono_pairs (by rw [← hus]; exact mono_serW hl) (by rw [← hxs]; unfold Is at ht; rw [ht]; exact mono_serW hlb)) mono_one ?_
      refine (cf_pairs us xs).trans ?_
      refine Eq4.trans ?_ cf_one.symm
      rw [← hus, ← hxs]
      unfold Is at ht
      rw [ht]
      exact cs_back _ hl
    have HS := Lib.hid hb
    have HT := Lib.hid ht
    have HTW := Lib.hid htw
    have HU : Hid (cond true (serW s.data.toList) [] = us) := Lib.hid hus
    have HX : Hid (cond true (serW t.data.toList) [] = xs) := Lib.hid hxs
    have HN := Lib.hid hk
    have HKX := Lib.hid hkx
    have HP := Lib.hid hb1
    have HY := Lib.hid hys
    have HKY := Lib.hid hky
    have HSA := Lib.hid hsame
    have HFi := Lib.hid hfirst
    have hpi : (0 : Int) < (k : Int) := by omega
    have hpd : decide ((0 : Int) < (k : Int)) = true := decide_eq_true hpi
    clear hb hl hlb ht hts htw hus hk hxs hkx hb1 hys hky hfirst hsame
    go_wp2_with fail
    refine (iSeriesOf_t hsm HS.out HU.out HN.out).mono ?_
    rintro e w2 ⟨⟨a2, c2, rfl, h2⟩, hb2⟩
    have H2 := Lib.hid h2
    have HB2 := Lib.hid (HB1.out.trans (hb2.mono HB1.out.size))
    clear h2 hb2
    go_wp2_with fail
    refine (sSeriesOf_t hsm HS.out HU.out HN.out).mono ?_
    rintro e w3 ⟨⟨a3, c3, rfl, h3⟩, hb3⟩
    have H2 := Lib.hid (H2.out.below hb3)
    have H3 := Lib.hid h3
    have HB3 := Lib.hid (HB2.out.trans (hb3.mono HB2.out.size))
    clear h3 hb3
    go_wp2_with fail
    refine (sameSum_t H2.out H3.out).mono ?_
    rintro e w4 ⟨rfl, hb4⟩
    have HB4 := Lib.hid (HB3.out.trans (hb4.mono HB3.out.size))
    have H2 := Lib.hid (H2.out.below hb4)
    clear hb4
    go_wp2_with fail
    refine (iTurned_t HS.out HT.out _).mono ?_
    rintro e w5 ⟨rfl, hb5⟩
    have HB5 := Lib.hid (HB4.out.trans (hb5.mono HB4.out.size))
    have H2 := Lib.hid (H2.out.below hb5)
    clear hb5
    go_wp2_with fail
    refine (iSeriesOf_t htm HTW.out HX.out HKX.out).mono ?_
    rintro e w6 ⟨⟨a6, c6, rfl, h6⟩, hb6⟩
    have H2 := Lib.hid (H2.out.below hb6)
    have H6 := Lib.hid h6
    have HB6 := Lib.hid (HB5.out.trans (hb6.mono HB5.out.size))
    clear h6 hb6
    go_wp2_with fail
    refine (iSeriesTimes_t H2.out H6.out HP.out HY.out HKY.out).mono ?_
    rintro e w7 ⟨⟨a7, c7, rfl, h7⟩, hb7⟩
    have H2 := Lib.hid (H2.out.below hb7)
    have H7 := Lib.hid h7
    have HB7 := Lib.hid (HB6.out.trans (hb7.mono HB6.out.size))
    clear h7 hb7
    obtain ⟨x, rfl, hx⟩ := H2.out.is.at_ hpos
    have hz := hx.2 0 (by rw [HN.out]; exact hpos)
    rw [HFi.out (by rw [HN.out]; exact hpos), addr_next] at hz
    have ea : x.add (0 * 2) = x := by
      show x.add 0 = x
      unfold Addr.add
      split <;> simp_all
    rw [ea] at hz
    obtain ⟨c0, d1⟩ := hz
    have c0 : w7.cell? x = some (.int .i64 1) := c0
    have d1 : w7.cell? ⟨x.block, x.off + 1, none⟩ = some (.string noS) := d1
    clear ea hx
    cases b1 with
    | false =>
      go_wp2
      go_ret
      exact ⟨rfl, HB7.out⟩
    | true =>
      obtain rfl : ys = oneS noS := HSA.out rfl
      obtain rfl : 1 = ky := HKY.out
      go_wp2_with fail
      refine (one_any noS _).mono ?_
      rintro e w8 ⟨rfl, hb8, h8⟩
      have H7 := Lib.hid (H7.out.below hb8)
      have H8 := Lib.hid (h8 (by decide))
      have HB8 := Lib.hid (HB7.out.trans (hb8.mono HB7.out.size))
      clear hb8 h8
      go_wp2_with fail
      refine (sameSum_t H7.out H8.out).mono ?_
      rintro e w9 ⟨rfl, hb9⟩
      have HB9 := Lib.hid (HB8.out.trans (hb9.mono HB8.out.size))
      clear hb9
      go_wp2
      go_ret
      exact ⟨rfl, HB9.out⟩

set_option maxRecDepth 100000 in
theorem lifted (os : Os) (started : os.Started) (H : Type) (enc : TypeId × Value → H) :
    ReturnsInHanded {} Try.checked os 7 .any (Rows.fnSeriesOfSpec.pre6 enc Try.prog Try.f7 Rows.fnSeriesOfRow.domain false) (Rows.fnSeriesOfSpec.post enc Try.prog Try.f7 false true false false) := by
  refine returnsInHanded_of_change (C := Try.checked) own started (by kernel_rfl) Try.func7
    (ChangeSpec.witness6 (enc := enc) (C := Try.checked) false ⟨#[], #[.slice none 0 0], []⟩ 8 (by kernel_rfl) (by kernel_rfl) (by kernel_rfl) (by kernel_rfl)) ?_
  intro W base args ds gs before hval0 hW hcnd _
  have hval : ∀ (j : Nat) t v, Try.f7.params[j]? = some t → args[j]? = some v → Value.okWide Try.prog W .any base t v := hval0
  have hW' := hW
  obtain ⟨p, q, hA0, hV, rfl, hfz, hnd⟩ := hW
  have hA : DataW.TrodAll enc Try.prog W 0 (fun _ => true) true Try.f7.params.toList args.toList ds p := hA0
  rw [Try.params7] at hA hval
  obtain ⟨v0, vs0, d0, ds0, p0, q0, hargs, rfl, rfl, h0, r0⟩ := trodAll_cons hA
  obtain ⟨rfl, rfl, rfl⟩ := trodAll_nil r0
  obtain rfl : args = #[v0] := by cases args; simp_all
  obtain ⟨rfl, rfl⟩ := trodVars_none hV
  obtain ⟨a0, len0, cap0, rfl⟩ := okWide_slice Try.underlying22 (hval 0 22 v0 rfl rfl)
  have k0 := h0
  have lt0 : ∀ x ∈ p0, x.block < W.heap.size := by obtain ⟨m, hm⟩ := k0; exact DataW.trod_lt m _ _ _ hm
  obtain ⟨z0, w0⟩ : ∃ zs, BsAt W.heap.size W a0 len0 cap0 zs := by
    obtain ⟨fuel, hf⟩ := h0
    exact bs_of hf
  clear hA0 hval0
  refine (walk a0 len0 cap0 z0 W w0).mono fun e W' ⟨he, bel⟩ => ?_
  subst he
  exact ⟨_, rfl, _, _, _, [], _, [], hW', trodAll_mk1 (shut_bool Try.underlying4 _), (trodAll_cons_mk (Below.trod laidOut (by kernel_rfl) (of_decide_eq_true (by kernel_rfl)) k0 bel lt0) trodAll_mk0), rfl, bel.frame _, fun h => by cases h⟩

theorem over : Rows.fnSeriesOfRow.holds Try.pinned (OpenSpec.ofChange Rows.fnSeriesOfSpec) :=
  OpenClaim.holds_of_wide 7 Try.f7 rfl rfl rfl rfl rfl rfl rfl ⟨rfl, rfl, rfl, rfl, rfl⟩ rfl rfl rfl rfl rfl (by kernel_rfl) Try.func7 (by kernel_rfl)
    (of_decide_eq_true (by kernel_rfl)) (by unfold Func.isWrapper; first | (rw [if_pos (by decide +kernel)]; kernel_rfl) | (rw [if_neg (by decide +kernel)]; exact ⟨rfl, rfl⟩))
    (fun os started H enc _ => lifted os started H enc)

theorem proved : Rows.FnSeriesOfSaid := over
#print axioms proved
end Go.Proofs.Ytebgcebjlbhjjab.LSeriesOfP

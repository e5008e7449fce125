/-
  Proves 'Rows.FnDepthSaid': for every list of bytes, the word that the model draws from it and its inverse have one depth, at most four, and it is one exactly where a sum of letters is not 0.
  Conditions: none beyond the row's own.
-/
import Derived.Test.YtebgcebjlbhjjabRows
import Derived.WalkKit
import Derived.ProofKit
import Derived.OpenShut
import Derived.ShutString
import Derived.ChangeOld
import Derived.Below
import Derived.Test.YtebgcebjlbhjjabBa
import Derived.Test.YtebgcebjlbhjjabBb
import Derived.Test.YtebgcebjlbhjjabBc
import Derived.Test.YtebgcebjlbhjjabBd
import Derived.Test.YtebgcebjlbhjjabBe

namespace Go.Proofs.Ytebgcebjlbhjjab.LDepth
open Go.ChangeShapes Go.WideShapes Go.ChangeAt Go.RowKit
open Go.ChangeMaps (open_string shut_string)
set_option linter.unusedVariables false

theorem own : ownKnob Try.prog.godebug = none := by kernel_rfl
theorem laidOut : laidOutB Try.prog = true := by kernel_rfl

set_option maxRecDepth 100000 in
set_option maxHeartbeats 6000000 in
theorem walk (a0 : Option Addr) (len0 cap0 : Nat) (z0 : List Int) (w : World) (w0 : BsAt w.heap.size w a0 len0 cap0 z0) :
    Calls Try.prog 12 #[.slice a0 len0 cap0] w fun e w' => e = .returned (.bool true) ∧ Below w.heap.size w w' := by
  have HDr := Lib.hid (drawSeriesDepth_any a0 len0 cap0 z0 w w0)
  have hfit := w0.fit
  unfold maxLen at hfit
  clear w0
  by_cases hlong : ¬ len0 ≤ 1048576
  · have hd : decide ((1048576 : Int) < (len0 : Int)) = true := decide_eq_true (by omega)
    go_enter Try.func12, Try.ntmps12
    go_wp2_with fail
    go_ret
    exact ⟨rfl, Below.refl _ _⟩
  have hd : decide ((1048576 : Int) < (len0 : Int)) = false := decide_eq_false (by omega)
  go_enter Try.func12, Try.ntmps12
  go_wp2_with fail
  refine HDr.out.mono ?_
  rintro e w1 ⟨⟨s, rfl, hs⟩, hb1⟩
  have HB1 := Lib.hid hb1
  have hsm : s.size ≤ maxLen := by unfold maxLen; omega
  clear hb1
  cases hw : wordB s.data.toList with
  | false =>
    have HW := Lib.hid hw
    have HZ : Hid (cond false (depthT (serW s.data.toList)) 0 = 0) := Lib.hid rfl
    clear hw
    go_wp2_with fail
    refine (iSeriesDepth_any s false 0 _ hsm HW.out HZ.out).mono ?_
    rintro e w2 ⟨rfl, hb2⟩
    have HB2 := Lib.hid (HB1.out.trans (hb2.mono HB1.out.size))
    clear hb2
    go_wp2_with fail
    refine (sSeriesDepth_any s false 0 _ hsm HW.out HZ.out).mono ?_
    rintro e w3 ⟨rfl, hb3⟩
    have HB3 := Lib.hid (HB2.out.trans (hb3.mono HB2.out.size))
    clear hb3
    go_wp2
    go_ret
    exact ⟨rfl, HB3.out⟩
  | true =>
    have hl := ((wordB_iff _).1 hw).2.1
    obtain ⟨n, hn⟩ : ∃ n, depthT (serW s.data.toList) = n := ⟨_, rfl⟩
    obtain ⟨t, ht⟩ := is_of (backL s.data.toList)
    have hts := ht.size
    rw [backL_length, toList_size] at hts
    have htm : t.size ≤ maxLen := by unfold maxLen; omega
    have htw : wordB t.data.toList = true := by unfold Is at ht; rw [ht]; exact word_back hw
    have hnt : depthT (serW t.data.toList) = n := by unfold Is at ht; rw [ht, depth_back hl, hn]
    have hn4 : n ≤ 4 := by rw [← hn]; exact depth_le4 hl
    have hempty : s.size = 0 → n = 0 := fun h => by
      have e : s.data.toList = [] := List.length_eq_zero_iff.1 (by rw [toList_size]; exact h)
      rw [← hn, e]; rfl
    have h1 : n = 1 ↔ sumsL s.data.toList ≠ [0, 0, 0, 0] := by
      rw [← hn, depth_one_iff hl]
      have h4 := (sumsL_inv _ hl).1
      constructor
      · rintro ⟨i, hi, h⟩ e
        apply h
        rw [← sg_sig, ← sums_getD hl i hi, e]
        rcases (show i = 0 ∨ i = 1 ∨ i = 2 ∨ i = 3 by omega) with rfl | rfl | rfl | rfl <;> rfl
      · intro h
        by_cases hx : ∃ i, i < 4 ∧ sigL i s.data.toList ≠ 0
        · exact hx
        · exfalso
          apply h
          refine List.ext_getElem (by rw [h4]; rfl) fun i hi hj => ?_
          rw [sums_get _ hl i hi, sg_sig]
          have hi4 : i < 4 := hj
          have : sigL i s.data.toList = 0 := by
            by_cases hz : sigL i s.data.toList = 0
            · exact hz
            · exact absurd ⟨i, hi4, hz⟩ hx
          rw [this]
          rcases (show i = 0 ∨ i = 1 ∨ i = 2 ∨ i = 3 by omega) with rfl | rfl | rfl | rfl <;> rfl
    have HW := Lib.hid hw
    have HT := Lib.hid ht
    have HTW := Lib.hid htw
    have HD := Lib.hid (fun W => iSeriesDepth_any s true n W hsm hw hn)
    have HE := Lib.hid (fun W => sSeriesDepth_any s true n W hsm hw hn)
    have HF := Lib.hid (fun W => iSeriesDepth_any t true n W htm htw hnt)
    have HEm := Lib.hid hempty
    have HOne := Lib.hid h1
    have hni : ((n : Int) == (n : Int)) = true := by simp
    have hn4i : (n : Int) ≤ 4 := by omega
    clear hw hl hn ht hts htw hnt hempty h1
    go_wp2_with fail
    refine (HD.out _).mono ?_
    rintro e w2 ⟨rfl, hb2⟩
    have HB2 := Lib.hid (HB1.out.trans (hb2.mono HB1.out.size))
    clear hb2
    go_wp2_with fail
    refine (HE.out _).mono ?_
    rintro e w3 ⟨rfl, hb3⟩
    have HB3 := Lib.hid (HB2.out.trans (hb3.mono HB2.out.size))
    clear hb3
    go_wp2_with fail
    refine (iTurned_t HW.out HT.out _).mono ?_
    rintro e w4 ⟨rfl, hb4⟩
    have HB4 := Lib.hid (HB3.out.trans (hb4.mono HB3.out.size))
    clear hb4
    go_wp2_with fail
    refine (HF.out _).mono ?_
    rintro e w5 ⟨rfl, hb5⟩
    have HB5 := Lib.hid (HB4.out.trans (hb5.mono HB4.out.size))
    clear hb5
    go_wp2_with fail
    refine (iSums_t HW.out _).mono ?_
    rintro e w6 ⟨⟨au, cu, rfl, hu⟩, hb6⟩
    have HU := Lib.hid hu
    have HB6 := Lib.hid (HB5.out.trans (hb6.mono HB5.out.size))
    clear hu hb6
    have hb7 : Below w6.heap.size w6 (w6.alloc (.cells #[.int .i64 0, .int .i64 0, .int .i64 0, .int .i64 0] 3)) := (Below.refl _ w6).alloc (Nat.le_refl _) _
    have HU := Lib.hid (HU.out.below hb7)
    have HB7 := Lib.hid (HB6.out.trans (hb7.mono HB6.out.size))
    clear hb7
    have HL := Lib.hid (intsAt_four w6)
    by_cases hzero : sumsL s.data.toList = [0, 0, 0, 0]
    · have hn1 : n ≠ 1 := fun e => HOne.out.1 e hzero
      have HU2 := Lib.hid (show IntsAt _ au 4 [0, 0, 0, 0] by rw [← hzero]; exact HU.out)
      have hn1i : ((n : Int) == 1) = false := by
        have : ¬ (n : Int) = 1 := by omega
        simpa using this
      have hn1j : ¬ (n : Int) = 1 := by omega
      clear hzero hn1
      go_wp2_with fail
      refine (sameInts_yes au _ cu 4 4 _ _ HU2.out HL.out).mono ?_
      rintro e w8 ⟨rfl, hb8⟩
      have HB8 := Lib.hid (HB7.out.trans (hb8.mono HB7.out.size))
      clear hb8
      by_cases hs0 : s.size = 0
      · obtain rfl : n = 0 := HEm.out hs0
        obtain rfl : s = noS := no_iff.2 hs0
        go_wp2
        go_ret
        exact ⟨rfl, HB8.out⟩
      · have hsn : s.toList.isEmpty = false := empty_no hs0
        go_wp2
        go_ret
        exact ⟨rfl, HB8.out⟩
    · have hn1 : n = 1 := HOne.out.2 hzero
      have HNZ := Lib.hid hzero
      clear hzero
      subst hn1
      go_wp2_with fail
      refine (sameInts_no au _ cu 4 4 _ _ _ HU.out HL.out HNZ.out).mono ?_
      rintro e w8 ⟨rfl, hb8⟩
      have HB8 := Lib.hid (HB7.out.trans (hb8.mono HB7.out.size))
      clear hb8
      by_cases hs0 : s.size = 0
      · exact absurd (HEm.out hs0) (by omega)
      · have hsn : s.toList.isEmpty = false := empty_no hs0
        go_wp2
        go_ret
        exact ⟨rfl, HB8.out⟩

set_option maxRecDepth 100000 in
theorem lifted (os : Os) (started : os.Started) (H : Type) (enc : TypeId × Value → H) :
    ReturnsInHanded {} Try.checked os 12 .any (Rows.fnDepthSpec.pre6 enc Try.prog Try.f12 Rows.fnDepthRow.domain false) (Rows.fnDepthSpec.post enc Try.prog Try.f12 false true false false) := by
  refine returnsInHanded_of_change (C := Try.checked) own started (by kernel_rfl) Try.func12
    (ChangeSpec.witness6 (enc := enc) (C := Try.checked) false ⟨#[], #[.slice none 0 0], []⟩ 8 (by kernel_rfl) (by kernel_rfl) (by kernel_rfl) (by kernel_rfl)) ?_
  intro W base args ds gs before hval0 hW hcnd _
  have hval : ∀ (j : Nat) t v, Try.f12.params[j]? = some t → args[j]? = some v → Value.okWide Try.prog W .any base t v := hval0
  have hW' := hW
  obtain ⟨p, q, hA0, hV, rfl, hfz, hnd⟩ := hW
  have hA : DataW.TrodAll enc Try.prog W 0 (fun _ => true) true Try.f12.params.toList args.toList ds p := hA0
  rw [Try.params12] at hA hval
  obtain ⟨v0, vs0, d0, ds0, p0, q0, hargs, rfl, rfl, h0, r0⟩ := trodAll_cons hA
  obtain ⟨rfl, rfl, rfl⟩ := trodAll_nil r0
  obtain rfl : args = #[v0] := by cases args; simp_all
  obtain ⟨rfl, rfl⟩ := trodVars_none hV
  obtain ⟨a0, len0, cap0, rfl⟩ := okWide_slice Try.underlying22 (hval 0 22 v0 rfl rfl)
  have k0 := h0
  have lt0 : ∀ x ∈ p0, x.block < W.heap.size := by obtain ⟨m, hm⟩ := k0; exact DataW.trod_lt m _ _ _ hm
  obtain ⟨z0, w0⟩ : ∃ zs, BsAt W.heap.size W a0 len0 cap0 zs := by
    obtain ⟨fuel, hf⟩ := h0
    exact bs_of hf
  clear hA0 hval0
  refine (walk a0 len0 cap0 z0 W w0).mono fun e W' ⟨he, bel⟩ => ?_
  subst he
  exact ⟨_, rfl, _, _, _, [], _, [], hW', trodAll_mk1 (shut_bool Try.underlying4 _), (trodAll_cons_mk (Below.trod laidOut (by kernel_rfl) (of_decide_eq_true (by kernel_rfl)) k0 bel lt0) trodAll_mk0), rfl, bel.frame _, fun h => by cases h⟩

theorem over : Rows.fnDepthRow.holds Try.pinned (OpenSpec.ofChange Rows.fnDepthSpec) :=
  OpenClaim.holds_of_wide 12 Try.f12 rfl rfl rfl rfl rfl rfl rfl ⟨rfl, rfl, rfl, rfl, rfl⟩ rfl rfl rfl rfl rfl (by kernel_rfl) Try.func12 (by kernel_rfl)
    (of_decide_eq_true (by kernel_rfl)) (by unfold Func.isWrapper; first | (rw [if_pos (by decide +kernel)]; kernel_rfl) | (rw [if_neg (by decide +kernel)]; exact ⟨rfl, rfl⟩))
    (fun os started H enc _ => lifted os started H enc)

theorem proved : Rows.FnDepthSaid := over
#print axioms proved
end Go.Proofs.Ytebgcebjlbhjjab.LDepth

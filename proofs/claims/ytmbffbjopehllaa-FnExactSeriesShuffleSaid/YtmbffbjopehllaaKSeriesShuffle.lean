/-
  Proves 'Rows.FnExactSeriesShuffleSaid': for every two texts, the program's SeriesShuffle answers as the model's SeriesShuffle, and its answer shares no memory with the answer of another call.
  Conditions: none beyond the row's own.
-/
import Derived.Test.YtmbffbjopehllaaRows
import Derived.WalkKit
import Derived.ProofKit
import Derived.OpenShut
import Derived.ShutString
import Derived.ChangeOld
import Derived.Below
import Derived.Test.YtmbffbjopehllaaBa
import Derived.Test.YtmbffbjopehllaaBb
import Derived.Test.YtmbffbjopehllaaBc

namespace Go.Proofs.Ytmbffbjopehllaa.LSeriesShuffle
open Go.ChangeShapes Go.WideShapes Go.ChangeAt Go.RowKit
open Go.ChangeMaps (open_string shut_string)
set_option linter.unusedVariables false

theorem own : ownKnob Try.prog.godebug = none := by kernel_rfl
theorem laidOut : laidOutB Try.prog = true := by kernel_rfl

set_option maxRecDepth 100000 in
set_option maxHeartbeats 8000000 in
theorem walk (a0 : ByteArray) (a1 : ByteArray) (w : World) (w0 : a0.size ≤ maxLen) (w1 : a1.size ≤ maxLen) :
    Calls Try.prog 8 #[.string a0, .string a1] w fun e w' => e = .returned (.bool true) ∧ Below w.heap.size w w' := by
  have HS0 := Lib.hid w0
  have hm0 := w0
  unfold maxLen at hm0
  have HS1 := Lib.hid w1
  have hm1 := w1
  unfold maxLen at hm1
  obtain ⟨b, hb⟩ : ∃ b, shufB a0 a1 = b := ⟨_, rfl⟩
  obtain ⟨L0, hL0⟩ : ∃ L0, canonT (shufT 4 { data := #[] } a0 a1) = L0 := ⟨_, rfl⟩
  obtain ⟨us, hus⟩ : ∃ us, cond b L0 [] = us := ⟨_, rfl⟩
  obtain ⟨hsu, hl⟩ := told_smallS (by rw [← hL0]; exact shufB_tw hb) hus
  obtain ⟨L, hL⟩ : ∃ L, us.length = L := ⟨_, rfl⟩
  rw [hL] at hl
  have HB := Lib.hid hb
  have HL0 := Lib.hid hL0
  have HUS := Lib.hid hus
  have HSU := Lib.hid hsu
  have HL := Lib.hid hL
  have hbb : (b != b) = false := by cases b <;> rfl
  clear w0 w1 hb hL0 hus hsu hL
  by_cases hlong0 : ¬ a0.size ≤ 1048576
  · go_enter Try.func8, Try.ntmps8
    go_wp2_with fail
    go_ret
    exact ⟨rfl, Below.refl _ _⟩
  have hlong0 : a0.size ≤ 1048576 := by omega
  have HT0 := Lib.hid hlong0
  by_cases hlong1 : ¬ a1.size ≤ 1048576
  · go_enter Try.func8, Try.ntmps8
    go_wp2_with fail
    go_ret
    exact ⟨rfl, Below.refl _ _⟩
  have hlong1 : a1.size ≤ 1048576 := by omega
  have HT1 := Lib.hid hlong1
  go_enter Try.func8, Try.ntmps8
  go_wp2_with fail
  with_reducible refine (sSeriesShuffle_law HT0.out HT1.out HB.out).mono ?_
  rw [HL0.out]
  rintro e W0 ⟨⟨vw, rfl, how⟩, hb1⟩
  rw [HUS.out] at how
  obtain ⟨aw, cw, rfl, hIw⟩ := how.own.isTerms HSU.out
  rw [HL.out] at hIw ⊢
  have HW := Lib.hid hIw
  have hB2 : Below w.heap.size w W0 := hb1
  clear how hIw hb1
  have HBz := Lib.hid (Below.refl W0.heap.size W0)
  go_wp2_with fail
  with_reducible refine (iSeriesShuffle_law HT0.out HT1.out HB.out).mono ?_
  rw [HL0.out]
  rintro e W2 ⟨⟨vg, rfl, hog⟩, hb2⟩
  rw [HUS.out] at hog
  obtain ⟨ag, cg, rfl, hIg⟩ := hog.isTerms HSU.out
  rw [HL.out] at hog ⊢
  have HG := Lib.hid hog
  have hlg : ∀ j, (Value.slice ag L cg).ownBlock = some j → W0.heap.size ≤ j := ownLow hog
  have HLG := Lib.hid hlg
  clear hlg hIg hog
  have HB2 := Lib.hid (HBz.out.trans (hb2.mono HBz.out.size))
  have hs2 := hb2.size
  clear hb2
  go_wp2_with fail
  refine (eqTermS_yes _ _ _ _ L us _ (ownIsTerms HG.out HSU.out) (HW.out.below HB2.out)).mono ?_
  rintro e W3 ⟨rfl, hb3⟩
  have HB3 := Lib.hid (HB2.out.trans (hb3.mono HB2.out.size))
  have hs3 := hb3.size
  have HG_3 := Lib.hid (HG.out.below hb3)
  clear hb3
  obtain ⟨M, hM⟩ : ∃ M, 1 + 2 * L = M := ⟨_, rfl⟩
  have hMn : decide ((M : Int) < 0) = false := decide_eq_false (by omega)
  have hMl : ¬ (M : Int) < 0 := by omega
  have hMe : ((M : Int) != (M : Int)) = false := by simp
  have HMG := Lib.hid (markTermS_any W0.heap.size 1 _ us _ HG_3.out (by rw [HL.out]; omega) (by omega) (by omega))
  rw [HL.out, hM] at HMG
  go_wp2_with fail
  refine HMG.out.mono ?_
  rintro e W5 ⟨rfl, hm, hgr⟩
  have hbk5 : Below W0.heap.size W3 W5 := (Below.refl _ _).grown hgr (HB3.out.size) (fun j ej => by
    have := HLG.out j ej
    omega)
  have HB5 := Lib.hid (HB3.out.trans hbk5)
  have HM := Lib.hid hm
  clear hgr hbk5 hm HMG
  have HH6 := Lib.hid (heldTermS_any 1 ag cg L _ (ownIsTerms HM.out (marksT_small 1 L (by omega) (by omega))) (by omega) (by omega) (by omega))
  rw [hM] at HH6
  go_wp2_with fail
  refine HH6.out.mono ?_
  rintro e W6 ⟨rfl, hb6⟩
  have HB6 := Lib.hid (HB5.out.trans (hb6.mono HB5.out.size))
  have hs6 := hb6.size
  have HM_6 := Lib.hid (HM.out.below hb6)
  clear hb6
  go_wp2_with fail
  with_reducible refine (iSeriesShuffle_law HT0.out HT1.out HB.out).mono ?_
  rw [HL0.out]
  rintro e W7 ⟨⟨vh, rfl, hoh⟩, hb7⟩
  rw [HUS.out] at hoh
  obtain ⟨ah, ch, rfl, hIh⟩ := hoh.isTerms HSU.out
  rw [HL.out] at hIh ⊢
  have HIH := Lib.hid hIh
  clear hoh hIh
  have HB7 := Lib.hid (HB6.out.trans (hb7.mono HB6.out.size))
  have hs7 := hb7.size
  have HM_7 := Lib.hid (HM_6.out.below hb7)
  clear hb7
  go_wp2_with fail
  refine (eqTermS_yes ah aw ch cw L us _ HIH.out (HW.out.below HB7.out)).mono ?_
  rintro e W8 ⟨rfl, hb8⟩
  have HB8 := Lib.hid (HB7.out.trans (hb8.mono HB7.out.size))
  have hs8 := hb8.size
  have HM_8 := Lib.hid (HM_7.out.below hb8)
  clear hb8
  have HH9 := Lib.hid (heldTermS_any 1 ag cg L _ (ownIsTerms HM_8.out (marksT_small 1 L (by omega) (by omega))) (by omega) (by omega) (by omega))
  rw [hM] at HH9
  go_wp2_with fail
  refine HH9.out.mono ?_
  rintro e W9 ⟨rfl, hb9⟩
  have HB9 := Lib.hid (HB8.out.trans (hb9.mono HB8.out.size))
  have hs9 := hb9.size
  have HM_9 := Lib.hid (HM_8.out.below hb9)
  clear hb9
  go_wp2
  go_ret
  exact ⟨rfl, hB2.trans (HB9.out.mono hB2.size)⟩

set_option maxRecDepth 100000 in
theorem lifted (os : Os) (started : os.Started) (H : Type) (enc : TypeId × Value → H) :
    ReturnsInHanded {} Try.checked os 8 .any (Rows.fnExactSeriesShuffleSpec.pre6 enc Try.prog Try.f8 Rows.fnExactSeriesShuffleRow.domain false) (Rows.fnExactSeriesShuffleSpec.post enc Try.prog Try.f8 false true false false) := by
  refine returnsInHanded_of_change (C := Try.checked) own started (by kernel_rfl) Try.func8
    (ChangeSpec.witness6 (enc := enc) (C := Try.checked) false ⟨#[], #[.string ByteArray.empty, .string ByteArray.empty], []⟩ 8 (by kernel_rfl) (by kernel_rfl) (by kernel_rfl) (by kernel_rfl)) ?_
  intro W base args ds gs before hval0 hW hcnd _
  have hval : ∀ (j : Nat) t v, Try.f8.params[j]? = some t → args[j]? = some v → Value.okWide Try.prog W .any base t v := hval0
  have hW' := hW
  obtain ⟨p, q, hA0, hV, rfl, hfz, hnd⟩ := hW
  have hA : DataW.TrodAll enc Try.prog W 0 (fun _ => true) true Try.f8.params.toList args.toList ds p := hA0
  rw [Try.params8] at hA hval
  obtain ⟨v0, vs0, d0, ds0, p0, q0, hargs, rfl, rfl, h0, r0⟩ := trodAll_cons hA
  obtain ⟨v1, vs1, d1, ds1, p1, q1, rfl, rfl, rfl, h1, r1⟩ := trodAll_cons r0
  obtain ⟨rfl, rfl, rfl⟩ := trodAll_nil r1
  obtain rfl : args = #[v0, v1] := by cases args; simp_all
  obtain ⟨rfl, rfl⟩ := trodVars_none hV
  obtain ⟨a0, rfl, rfl, rfl, w0⟩ := open_string Try.underlying9 (hval 0 9 v0 rfl rfl) h0
  obtain ⟨a1, rfl, rfl, rfl, w1⟩ := open_string Try.underlying9 (hval 1 9 v1 rfl rfl) h1
  clear hA0 hval0
  refine (walk a0 a1 W w0 w1).mono fun e W' ⟨he, bel⟩ => ?_
  subst he
  exact ⟨_, rfl, _, _, _, [], [], [], hW', trodAll_mk1 (shut_bool Try.underlying4 _), (trodAll_cons_mk (shut_string Try.underlying9 w0) (trodAll_cons_mk (shut_string Try.underlying9 w1) trodAll_mk0)), rfl, bel.frame _, fun h => by cases h⟩

theorem over : Rows.fnExactSeriesShuffleRow.holds Try.pinned (OpenSpec.ofChange Rows.fnExactSeriesShuffleSpec) :=
  OpenClaim.holds_of_wide 8 Try.f8 rfl rfl rfl rfl rfl rfl rfl ⟨rfl, rfl, rfl, rfl, rfl⟩ rfl rfl rfl rfl rfl (by kernel_rfl) Try.func8 (by kernel_rfl)
    (of_decide_eq_true (by kernel_rfl)) (by unfold Func.isWrapper; first | (rw [if_pos (by decide +kernel)]; kernel_rfl) | (rw [if_neg (by decide +kernel)]; exact ⟨rfl, rfl⟩))
    (fun os started H enc _ => lifted os started H enc)

theorem proved : Rows.FnExactSeriesShuffleSaid := over
#print axioms proved
end Go.Proofs.Ytmbffbjopehllaa.LSeriesShuffle

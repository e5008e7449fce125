/-
  Proves 'Rows.FnExactLyndonFactorsSaid': for every text, the program's LyndonFactors answers as the model's LyndonFactors, and its answer shares no memory with the answer of another call.
  Conditions: none beyond the row's own.
-/
import Derived.Test.YtdhmicpoigoleaaRows
import Derived.WalkKit
import Derived.ProofKit
import Derived.OpenShut
import Derived.ShutString
import Derived.ChangeOld
import Derived.Below
import Derived.Test.YtdhmicpoigoleaaBa
import Derived.Test.YtdhmicpoigoleaaBb
import Derived.Test.YtdhmicpoigoleaaBc

namespace Go.Proofs.Ytdhmicpoigoleaa.LLyndonFactors
open Go.ChangeShapes Go.WideShapes Go.ChangeAt Go.RowKit
open Go.ChangeMaps (open_string shut_string)
set_option linter.unusedVariables false

theorem own : ownKnob Try.prog.godebug = none := by kernel_rfl
theorem laidOut : laidOutB Try.prog = true := by kernel_rfl

set_option maxRecDepth 100000 in
set_option maxHeartbeats 4000000 in
theorem walk (a0 : ByteArray) (w : World) (w0 : a0.size ≤ maxLen) :
    Calls Try.prog 8 #[.string a0] w fun e w' => e = .returned (.bool true) ∧ Below w.heap.size w w' := by
  have HS0 := Lib.hid w0
  unfold maxLen at w0
  by_cases hlong : ¬ a0.size ≤ 1048576
  · go_enter Try.func8, Try.ntmps8
    go_wp2_with fail
    go_ret
    exact ⟨rfl, Below.refl _ _⟩
  have hlong : a0.size ≤ 1048576 := by omega
  obtain ⟨b, hb⟩ : ∃ b, text12 a0 = b := ⟨_, rfl⟩
  obtain ⟨L0, hL0⟩ : ∃ L0, factL a0 = L0 := ⟨_, rfl⟩
  obtain ⟨us, hus⟩ : ∃ us, cond b L0 [] = us := ⟨_, rfl⟩
  have hl := fact_len hL0 hus
  have hsm := fact_small HS0.out hL0 hus
  obtain ⟨L, hL⟩ : ∃ L, us.length = L := ⟨_, rfl⟩
  rw [hL] at hl
  have HB := Lib.hid hb
  have HL0 := Lib.hid hL0
  have HUS := Lib.hid hus
  have HSM := Lib.hid hsm
  have HL := Lib.hid hL
  have hbb : (b != b) = false := by cases b <;> rfl
  clear hb hL0 hus hsm hL
  go_enter Try.func8, Try.ntmps8
  -- the model's answer
  go_wp2_with fail
  with_reducible refine (sLyndonFactors_law HS0.out HL0.out HB.out).mono ?_
  rintro e W0 ⟨⟨vw, rfl, how⟩, hb0⟩
  rw [HUS.out] at how
  obtain ⟨aw, cw, rfl, hIw⟩ := how.strs HSM.out
  rw [HL.out]
  have HW := Lib.hid hIw
  have HB0 := Lib.hid hb0
  clear how hIw hb0
  -- the program's answer
  go_wp2_with fail
  with_reducible refine (iLyndonFactors_law HS0.out HL0.out HB.out).mono ?_
  rintro e W1 ⟨⟨vg, rfl, hog⟩, hb1⟩
  rw [HUS.out] at hog
  obtain ⟨ag, cg, rfl, _⟩ := hog.strs HSM.out
  rw [HL.out] at hog ⊢
  have hlg : ∀ j, (Value.slice ag L cg).ownBlock = some j → W0.heap.size ≤ j := ownsRow_low hog
  have HLG := Lib.hid hlg
  have HG := Lib.hid hog
  have HB1 := Lib.hid hb1
  clear hog hlg hb1
  go_wp2_with fail
  refine (eqStringS_yes _ _ _ _ L us _ HL.out (by unfold maxLen; omega) (HG.out.at_ HSM.out) (HW.out.below HB1.out)).mono ?_
  rintro e W2 ⟨rfl, hb2⟩
  have HB2 := Lib.hid (HB1.out.trans (hb2.mono HB1.out.size))
  have HG2 := Lib.hid (HG.out.below hb2)
  clear hb2
  -- the answer's memory is marked
  obtain ⟨M, hM⟩ : ∃ M, 1 + L = M := ⟨_, rfl⟩
  have hMn : decide ((M : Int) < 0) = false := decide_eq_false (by omega)
  have hMl : ¬ (M : Int) < 0 := by omega
  have hMe : ((M : Int) != (M : Int)) = false := by simp
  have HMG := Lib.hid (markStringS_any W0.heap.size 1 _ us _ HG2.out (by rw [HL.out]; omega) (by omega) (by omega))
  rw [HL.out, hM] at HMG
  go_wp2_with fail
  refine HMG.out.mono ?_
  rintro e W3 ⟨rfl, hm, hgr⟩
  have HB3 := Lib.hid (HB2.out.trans ((Below.refl W0.heap.size W2).grown hgr HB2.out.size HLG.out))
  have HM := Lib.hid hm
  clear hgr hm HMG
  have HH4 := Lib.hid (heldStringS_any 1 ag cg L _ (HM.out.at_ (marksS_small 1 L (by omega) (by omega))) (by omega) (by omega) (by omega))
  rw [hM] at HH4
  go_wp2_with fail
  refine HH4.out.mono ?_
  rintro e W4 ⟨rfl, hb4⟩
  have HB4 := Lib.hid (HB3.out.trans (hb4.mono HB3.out.size))
  have HM4 := Lib.hid (HM.out.below hb4)
  clear hb4
  -- another call
  go_wp2_with fail
  with_reducible refine (iLyndonFactors_law HS0.out HL0.out HB.out).mono ?_
  rintro e W5 ⟨⟨vh, rfl, hoh⟩, hb5⟩
  rw [HUS.out] at hoh
  obtain ⟨ah, ch, rfl, hIh⟩ := hoh.strs HSM.out
  rw [HL.out]
  have HIH := Lib.hid hIh
  have HB5 := Lib.hid (HB4.out.trans (hb5.mono HB4.out.size))
  have HM5 := Lib.hid (HM4.out.below hb5)
  clear hoh hIh hb5
  go_wp2_with fail
  refine (eqStringS_yes _ _ _ _ L us _ HL.out (by unfold maxLen; omega) HIH.out (HW.out.below HB5.out)).mono ?_
  rintro e W6 ⟨rfl, hb6⟩
  have HB6 := Lib.hid (HB5.out.trans (hb6.mono HB5.out.size))
  have HM6 := Lib.hid (HM5.out.below hb6)
  clear hb6
  have HH7 := Lib.hid (heldStringS_any 1 ag cg L _ (HM6.out.at_ (marksS_small 1 L (by omega) (by omega))) (by omega) (by omega) (by omega))
  rw [hM] at HH7
  go_wp2_with fail
  refine HH7.out.mono ?_
  rintro e W7 ⟨rfl, hb7⟩
  have HB7 := Lib.hid (HB6.out.trans (hb7.mono HB6.out.size))
  clear hb7
  go_wp2
  go_ret
  exact ⟨rfl, HB0.out.trans (HB7.out.mono HB0.out.size)⟩

set_option maxRecDepth 100000 in
theorem lifted (os : Os) (started : os.Started) (H : Type) (enc : TypeId × Value → H) :
    ReturnsInHanded {} Try.checked os 8 .any (Rows.fnExactLyndonFactorsSpec.pre6 enc Try.prog Try.f8 Rows.fnExactLyndonFactorsRow.domain false) (Rows.fnExactLyndonFactorsSpec.post enc Try.prog Try.f8 false true false false) := by
  refine returnsInHanded_of_change (C := Try.checked) own started (by kernel_rfl) Try.func8
    (ChangeSpec.witness6 (enc := enc) (C := Try.checked) false ⟨#[], #[.string ByteArray.empty], []⟩ 8 (by kernel_rfl) (by kernel_rfl) (by kernel_rfl) (by kernel_rfl)) ?_
  intro W base args ds gs before hval0 hW hcnd _
  have hval : ∀ (j : Nat) t v, Try.f8.params[j]? = some t → args[j]? = some v → Value.okWide Try.prog W .any base t v := hval0
  have hW' := hW
  obtain ⟨p, q, hA0, hV, rfl, hfz, hnd⟩ := hW
  have hA : DataW.TrodAll enc Try.prog W 0 (fun _ => true) true Try.f8.params.toList args.toList ds p := hA0
  rw [Try.params8] at hA hval
  obtain ⟨v0, vs0, d0, ds0, p0, q0, hargs, rfl, rfl, h0, r0⟩ := trodAll_cons hA
  obtain ⟨rfl, rfl, rfl⟩ := trodAll_nil r0
  obtain rfl : args = #[v0] := by cases args; simp_all
  obtain ⟨rfl, rfl⟩ := trodVars_none hV
  obtain ⟨a0, rfl, rfl, rfl, w0⟩ := open_string Try.underlying9 (hval 0 9 v0 rfl rfl) h0
  clear hA0 hval0
  refine (walk a0 W w0).mono fun e W' ⟨he, bel⟩ => ?_
  subst he
  exact ⟨_, rfl, _, _, _, [], [], [], hW', trodAll_mk1 (shut_bool Try.underlying4 _), (trodAll_cons_mk (shut_string Try.underlying9 w0) trodAll_mk0), rfl, bel.frame _, fun h => by cases h⟩

theorem over : Rows.fnExactLyndonFactorsRow.holds Try.pinned (OpenSpec.ofChange Rows.fnExactLyndonFactorsSpec) :=
  OpenClaim.holds_of_wide 8 Try.f8 rfl rfl rfl rfl rfl rfl rfl ⟨rfl, rfl, rfl, rfl, rfl⟩ rfl rfl rfl rfl rfl (by kernel_rfl) Try.func8 (by kernel_rfl)
    (of_decide_eq_true (by kernel_rfl)) (by unfold Func.isWrapper; first | (rw [if_pos (by decide +kernel)]; kernel_rfl) | (rw [if_neg (by decide +kernel)]; exact ⟨rfl, rfl⟩))
    (fun os started H enc _ => lifted os started H enc)

theorem proved : Rows.FnExactLyndonFactorsSaid := over
#print axioms proved
end Go.Proofs.Ytdhmicpoigoleaa.LLyndonFactors

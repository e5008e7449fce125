/-
  Proves 'Rows.FnExactMatrixOneSaid': for every argument, the program's MatrixOne answers as the model's MatrixOne, leaves its arguments alone, and its answer shares no memory with them nor with the answer of another call.
  Conditions: none beyond the row's own.
-/
import Derived.Test.YtakfobihakbefaaRows
import Derived.WalkKit
import Derived.ProofKit
import Derived.OpenShut
import Derived.ShutString
import Derived.ChangeOld
import Derived.Below
import Derived.Test.YtakfobihakbefaaBa
import Derived.Test.YtakfobihakbefaaBb
import Derived.Test.YtakfobihakbefaaBc
import Derived.Test.YtakfobihakbefaaBd

namespace Go.Proofs.Ytakfobihakbefaa.LMatrixOne
open Go.ChangeShapes Go.WideShapes Go.ChangeAt Go.RowKit
open Go.ChangeMaps (open_string shut_string)
set_option linter.unusedVariables false

theorem own : ownKnob Try.prog.godebug = none := by kernel_rfl
theorem laidOut : laidOutB Try.prog = true := by kernel_rfl

set_option maxRecDepth 100000 in
set_option maxHeartbeats 8000000 in
theorem walk (a0 : Int) (w : World) (w0 : (Lit.int IntKind.i64 a0).wf = true) :
    Calls Try.prog 17 #[.int .i64 a0] w fun e w' => e = .returned (.bool true) ∧ Below w.heap.size w w' := by
  obtain ⟨O, hO⟩ : ∃ O, oneZ a0 = O := ⟨_, rfl⟩
  have hgood : GoodM (O.getD []) := by rw [← hO]; exact good_one a0
  obtain ⟨R, hR⟩ : ∃ R, O.getD [] = R := ⟨_, rfl⟩
  obtain ⟨b, hbo⟩ : ∃ b, O.isSome = b := ⟨_, rfl⟩
  rw [hR] at hgood
  have htot := hgood.total
  have hlenR := hgood.len
  obtain ⟨N, hN⟩ : ∃ N, R.length = N := ⟨_, rfl⟩
  rw [hN] at hlenR
  have HO := Lib.hid hO
  have HRO := Lib.hid hR
  have HBO := Lib.hid hbo
  have HGd := Lib.hid hgood
  have HNR := Lib.hid hN
  have hbb : (b != b) = false := by cases b <;> rfl
  have HB := Lib.hid (Below.refl w.heap.size w)
  clear w0 hO hR hbo hgood hN
  go_enter Try.func17, Try.ntmps17
  go_wp2_with fail
  refine (sMatrixOne_any  a0 _ ).mono ?_
  rw [HO.out]
  rintro e W1 ⟨⟨vw, rsw, rfl, how, hrw⟩, hb⟩
  rw [HRO.out] at hrw
  rw [HBO.out]
  have HB := Lib.hid (HB.out.trans (hb.mono HB.out.size))
  obtain ⟨aw, cw, rfl, hIw⟩ := own_isPSS how hrw HGd.out.bound HNR.out (by unfold maxLen; omega)
  have HIw := Lib.hid hIw
  have HXw := Lib.hid how
  have HRw := Lib.hid hrw
  clear hIw how hrw hb
  have HZ := Lib.hid (Below.refl W1.heap.size W1)
  have HIw0 := Lib.hid HIw.out
  have hZw : w.heap.size ≤ W1.heap.size := HB.out.size
  go_wp2_with fail
  refine (iMatrixOne_any  a0 _ ).mono ?_
  rw [HO.out]
  rintro e W2 ⟨⟨vg, rsg, rfl, hog, hrg⟩, hb⟩
  rw [HRO.out] at hrg
  rw [HBO.out]
  have HIw := Lib.hid (HIw.out.below hb)
  have HB := Lib.hid (HB.out.trans (hb.mono HB.out.size))
  have HZ := Lib.hid (HZ.out.trans (hb.mono HZ.out.size))
  obtain ⟨ag, cg, rfl, hIg⟩ := own_isPSS hog hrg HGd.out.bound HNR.out (by unfold maxLen; omega)
  have HIg := Lib.hid hIg
  have HXg := Lib.hid hog
  have HRg := Lib.hid hrg
  clear hIg hog hrg hb
  have hZq : W1.heap.size ≤ W1.heap.size := Nat.le_refl _
  have HLg : Hid (∀ b, FootM rsg b ∨ (Value.slice ag N cg).ownBlock = some b → W1.heap.size ≤ b) := Lib.hid fun b hb => hb.elim (fun h => (HXg.out.low h).1) fun h => (ownsRow_lt HXg.out.row b h).1
  go_wp2_with fail
  refine (eqPolySS_yes _ _ _ _ N R _ HIg.out HIw.out).mono ?_
  rintro e W3 ⟨rfl, hb⟩
  have HIw := Lib.hid (HIw.out.below hb)
  have HIg := Lib.hid (HIg.out.below hb)
  have HXg := Lib.hid (HXg.out.below hb)
  have HB := Lib.hid (HB.out.trans (hb.mono HB.out.size))
  have HZ := Lib.hid (HZ.out.trans (hb.mono HZ.out.size))
  clear hb
  obtain ⟨M, hM⟩ : ∃ M, 1 + totM R = M := ⟨_, rfl⟩
  have hMn : decide ((M : Int) < 0) = false := decide_eq_false (by omega)
  have hMl : ¬ (M : Int) < 0 := by omega
  have hMe : ((M : Int) != (M : Int)) = false := by simp
  have HMG := Lib.hid (markPolySS_any _ 1 _ rsg _ HXg.out (by rw [rows_len HRg.out HNR.out, HRg.out]; omega) (by omega))
  rw [HRg.out, hM] at HMG
  have HMM := Lib.hid hM
  clear hM
  go_wp2_with fail
  refine HMG.out.mono ?_
  rintro e W4 ⟨rfl, hmk, htd⟩
  have hbz := htd.below (lo := W1.heap.size) HZ.out.size fun c hc => Nat.le_trans hZq (HLg.out c (.inl hc))
  have HZ := Lib.hid (HZ.out.trans hbz)
  have HB := Lib.hid (HB.out.trans (hbz.mono hZw))
  have HIw := Lib.hid (HIw0.out.below HZ.out)
  have HXg := Lib.hid hmk
  clear htd hbz hmk HMG
  have HHG := Lib.hid (heldPolySS_any _ 1 _ rsg _ HXg.out (by rw [rows_len HRg.out HNR.out, HRg.out]; omega) (by omega))
  rw [HRg.out, HMM.out] at HHG
  go_wp2_with fail
  refine HHG.out.mono ?_
  rintro e W5 ⟨rfl, hb⟩
  have HIw := Lib.hid (HIw.out.below hb)
  have HXg := Lib.hid (HXg.out.below hb)
  have HB := Lib.hid (HB.out.trans (hb.mono HB.out.size))
  have HZ := Lib.hid (HZ.out.trans (hb.mono HZ.out.size))
  clear hb HHG
  go_wp2_with fail
  refine (iMatrixOne_any  a0 _ ).mono ?_
  rw [HO.out]
  rintro e W6 ⟨⟨vh, rsh, rfl, hoh, hrh⟩, hb⟩
  rw [HRO.out] at hrh
  rw [HBO.out]
  have HIw := Lib.hid (HIw.out.below hb)
  have HXg := Lib.hid (HXg.out.below hb)
  have HB := Lib.hid (HB.out.trans (hb.mono HB.out.size))
  have HZ := Lib.hid (HZ.out.trans (hb.mono HZ.out.size))
  obtain ⟨ah, ch, rfl, hIh⟩ := own_isPSS hoh hrh HGd.out.bound HNR.out (by unfold maxLen; omega)
  have HIh := Lib.hid hIh
  have HXh := Lib.hid hoh
  have HRh := Lib.hid hrh
  clear hIh hoh hrh hb
  go_wp2_with fail
  refine (eqPolySS_yes _ _ _ _ N R _ HIh.out HIw.out).mono ?_
  rintro e W7 ⟨rfl, hb⟩
  have HIw := Lib.hid (HIw.out.below hb)
  have HXg := Lib.hid (HXg.out.below hb)
  have HIh := Lib.hid (HIh.out.below hb)
  have HXh := Lib.hid (HXh.out.below hb)
  have HB := Lib.hid (HB.out.trans (hb.mono HB.out.size))
  have HZ := Lib.hid (HZ.out.trans (hb.mono HZ.out.size))
  clear hb
  have HHG := Lib.hid (heldPolySS_any _ 1 _ rsg _ HXg.out (by rw [rows_len HRg.out HNR.out, HRg.out]; omega) (by omega))
  rw [HRg.out, HMM.out] at HHG
  go_wp2_with fail
  refine HHG.out.mono ?_
  rintro e W8 ⟨rfl, hb⟩
  have HIw := Lib.hid (HIw.out.below hb)
  have HXg := Lib.hid (HXg.out.below hb)
  have HB := Lib.hid (HB.out.trans (hb.mono HB.out.size))
  have HZ := Lib.hid (HZ.out.trans (hb.mono HZ.out.size))
  clear hb HHG
  go_wp2
  go_ret
  exact ⟨rfl, HB.out⟩

set_option maxRecDepth 100000 in
theorem lifted (os : Os) (started : os.Started) (H : Type) (enc : TypeId × Value → H) :
    ReturnsInHanded {} Try.checked os 17 .any (Rows.fnExactMatrixOneSpec.pre6 enc Try.prog Try.f17 Rows.fnExactMatrixOneRow.domain false) (Rows.fnExactMatrixOneSpec.post enc Try.prog Try.f17 false true false false) := by
  refine returnsInHanded_of_change (C := Try.checked) own started (by kernel_rfl) Try.func17
    (ChangeSpec.witness6 (enc := enc) (C := Try.checked) false ⟨#[], #[.int .i64 0], []⟩ 8 (by kernel_rfl) (by kernel_rfl) (by kernel_rfl) (by kernel_rfl)) ?_
  intro W base args ds gs before hval0 hW hcnd _
  have hval : ∀ (j : Nat) t v, Try.f17.params[j]? = some t → args[j]? = some v → Value.okWide Try.prog W .any base t v := hval0
  have hW' := hW
  obtain ⟨p, q, hA0, hV, rfl, hfz, hnd⟩ := hW
  have hA : DataW.TrodAll enc Try.prog W 0 (fun _ => true) true Try.f17.params.toList args.toList ds p := hA0
  rw [Try.params17] at hA hval
  obtain ⟨v0, vs0, d0, ds0, p0, q0, hargs, rfl, rfl, h0, r0⟩ := trodAll_cons hA
  obtain ⟨rfl, rfl, rfl⟩ := trodAll_nil r0
  obtain rfl : args = #[v0] := by cases args; simp_all
  obtain ⟨rfl, rfl⟩ := trodVars_none hV
  obtain ⟨a0, rfl, rfl, rfl, w0⟩ := open_int Try.underlying3 (hval 0 3 v0 rfl rfl) h0
  clear hA0 hval0
  refine (walk a0 W w0).mono fun e W' ⟨he, bel⟩ => ?_
  subst he
  exact ⟨_, rfl, _, _, _, [], [], [], hW', trodAll_mk1 (shut_bool Try.underlying4 _), (trodAll_cons_mk (shut_int Try.underlying3 w0) trodAll_mk0), rfl, bel.frame _, fun h => by cases h⟩

theorem closed : joinedFacts Try.prog 17 Try.f17 Rows.fnExactMatrixOneSpec Rows.fnExactMatrixOneRow = true :=
  ((restOf Try.prog 17 Try.f17 Rows.fnExactMatrixOneSpec Rows.fnExactMatrixOneRow).2 enter_is lifts_is make_is).trans (by kernel_rfl)
theorem over : Rows.fnExactMatrixOneRow.holds Try.pinned (OpenSpec.ofChange Rows.fnExactMatrixOneSpec) :=
  OpenClaim.holds_of_wide 17 Try.f17 rfl rfl rfl rfl rfl rfl rfl ⟨rfl, rfl, rfl, rfl, rfl⟩ rfl rfl rfl rfl rfl (by kernel_rfl) Try.func17 closed
    (of_decide_eq_true (by kernel_rfl)) (by unfold Func.isWrapper; first | (rw [if_pos (by decide +kernel)]; kernel_rfl) | (rw [if_neg (by decide +kernel)]; exact ⟨rfl, rfl⟩))
    (fun os started H enc _ => lifted os started H enc)

theorem proved : Rows.FnExactMatrixOneSaid := over
#print axioms proved
end Go.Proofs.Ytakfobihakbefaa.LMatrixOne

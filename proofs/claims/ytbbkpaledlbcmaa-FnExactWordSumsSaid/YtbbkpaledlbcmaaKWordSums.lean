/-
  Proves 'Rows.FnExactWordSumsSaid': for every text, the program's WordSums answers as the model's WordSums, and its answer owns its memory.
  Conditions: none beyond the row's own.
-/
import Derived.Test.YtbbkpaledlbcmaaRows
import Derived.WalkKit
import Derived.ProofKit
import Derived.OpenShut
import Derived.ShutString
import Derived.ChangeOld
import Derived.Below
import Derived.Test.YtbbkpaledlbcmaaBa
import Derived.Test.YtbbkpaledlbcmaaBb
import Derived.Test.YtbbkpaledlbcmaaBc
import Derived.Test.YtbbkpaledlbcmaaBd
import Derived.Test.YtbbkpaledlbcmaaBe

namespace Go.Proofs.Ytbbkpaledlbcmaa.LWordSums
open Go.ChangeShapes Go.WideShapes Go.ChangeAt Go.RowKit
open Go.ChangeMaps (open_string shut_string)
set_option linter.unusedVariables false

theorem own : ownKnob Try.prog.godebug = none := by kernel_rfl
theorem laidOut : laidOutB Try.prog = true := by kernel_rfl

theorem row_apart {b1 b2 N : Nat} {W V : World} {v u : Value} {zs ys : List Int} (h1 : IntRow b1 W v zs) (h1N : W.heap.size ≤ N) (h2 : IntRow b2 V u ys) (h2N : N ≤ b2) : v.ownBlock = none ∨ v.ownBlock ≠ u.ownBlock := by
  cases hv : v.ownBlock with
  | none => exact .inl rfl
  | some k =>
    refine .inr fun e => ?_
    have h3 := (World.ownsRow.lt h1) k hv
    have h4 := (World.ownsRow.lt h2) k e.symm
    omega

set_option maxRecDepth 100000 in
set_option maxHeartbeats 1000000 in
theorem walk_gen (a0 : ByteArray) (b : Bool) (zs : List Int) (hz : zs.length ≤ 1000) (hs : a0.size ≤ 1048576) (w : World)
    (hS : ∀ W, Calls Try.prog 52 #[.string a0] W fun e w' => ∃ v, e = .returned (.tuple #[v, .bool b]) ∧ IntRow W.heap.size w' v zs ∧ Below W.heap.size W w')
    (hI : ∀ W, Calls Try.prog 53 #[.string a0] W fun e w' => ∃ v, e = .returned (.tuple #[v, .bool b]) ∧ IntRow W.heap.size w' v zs ∧ Below W.heap.size W w') :
    Calls Try.prog 12 #[.string a0] w fun e w' => e = .returned (.bool true) ∧ Below w.heap.size w w' := by
  have HS := Lib.hid hS
  have HI := Lib.hid hI
  clear hS hI
  go_enter Try.func12, Try.ntmps12
  go_wp2_with fail
  refine (HS.out w).mono ?_
  rintro e W1 ⟨v, rfl, hr1, hb1⟩
  have R1 := Lib.hid hr1
  clear hr1
  go_wp2_with fail
  refine (HI.out W1).mono ?_
  rintro e W2 ⟨u, rfl, hr2, hb2⟩
  have R2 := Lib.hid hr2
  have R12 := Lib.hid (R1.out.below hb2)
  clear hr2
  go_wp2_with fail
  refine (eqIntS_yes _ _ u v zs _ R2.out R12.out).mono ?_
  rintro e W3 ⟨rfl, hb3⟩
  have R23 := Lib.hid (R2.out.below hb3)
  have R13 := Lib.hid (R12.out.below hb3)
  go_wp2_with fail
  refine (markIntS_any _ u zs 1 W3 R23.out (by omega) (by omega)).mono ?_
  rintro e W4 ⟨rfl, hm4, hg4⟩
  have hB4 : Below w.heap.size w W4 := (((hb1.trans (hb2.mono hb1.size)).trans (hb3.mono (Nat.le_trans hb1.size hb2.size)))).grown hg4 (Nat.le_trans hb1.size (Nat.le_trans hb2.size hb3.size)) (fun k e => Nat.le_trans hb1.size (World.ownsRow.lt R23.out k e).1)
  have R14 := Lib.hid (show IntRow w.heap.size W4 v zs from World.ownsRow.kept R13.out hg4 (row_apart R1.out (Nat.le_refl _) R2.out (Nat.le_refl _)))
  have R24 := Lib.hid hm4
  clear hm4 hg4
  go_wp2_with fail
  refine (heldIntS_any _ u zs.length 1 W4 R24.out (by omega) (by omega)).mono ?_
  rintro e W5 ⟨rfl, rfl⟩
  go_wp2_with fail
  refine (HI.out W4).mono ?_
  rintro e W5 ⟨t, rfl, hr5, hb5⟩
  have R5 := Lib.hid hr5
  have R15 := Lib.hid (R14.out.below hb5)
  have R25 := Lib.hid (R24.out.below hb5)
  clear hr5
  go_wp2_with fail
  refine (eqIntS_yes _ _ t v zs _ R5.out R15.out).mono ?_
  rintro e W6 ⟨rfl, hb6⟩
  have R26 := Lib.hid (R25.out.below hb6)
  go_wp2_with fail
  refine (heldIntS_any _ u zs.length 1 W6 R26.out (by omega) (by omega)).mono ?_
  rintro e W7 ⟨rfl, rfl⟩
  go_wp2_with fail
  go_ret
  exact ⟨rfl, (hB4.trans (hb5.mono hB4.size)).trans (hb6.mono (Nat.le_trans hB4.size hb5.size))⟩

theorem walk (a0 : ByteArray) (w : World) (w0 : a0.size ≤ maxLen) :
    Calls Try.prog 12 #[.string a0] w fun e w' => e = .returned (.bool true) ∧ Below w.heap.size w w' := by
  have hm := w0
  unfold maxLen at hm
  by_cases hs : a0.size ≤ 1048576
  · cases hb : wordB a0.data.toList with
    | true => exact walk_gen a0 true (sumsL a0.data.toList) (by rw [(sumsL_inv _ ((wordB_iff _).1 hb).2.1).1]; omega) hs w (fun W => sWordSums_yes a0 W hb) (fun W => iWordSums_yes a0 W hb)
    | false => exact walk_gen a0 false [] (by simp) hs w (fun W => sWordSums_no a0 W w0 hb) (fun W => iWordSums_no a0 W w0 hb)
  · go_enter Try.func12, Try.ntmps12
    go_wp2_with fail
    go_ret
    exact ⟨rfl, Below.refl _ _⟩

set_option maxRecDepth 100000 in
theorem lifted (os : Os) (started : os.Started) (H : Type) (enc : TypeId × Value → H) :
    ReturnsInHanded {} Try.checked os 12 .any (Rows.fnExactWordSumsSpec.pre6 enc Try.prog Try.f12 Rows.fnExactWordSumsRow.domain false) (Rows.fnExactWordSumsSpec.post enc Try.prog Try.f12 false true false false) := by
  refine returnsInHanded_of_change (C := Try.checked) own started (by kernel_rfl) Try.func12
    (ChangeSpec.witness6 (enc := enc) (C := Try.checked) false ⟨#[], #[.string ByteArray.empty], []⟩ 8 (by kernel_rfl) (by kernel_rfl) (by kernel_rfl) (by kernel_rfl)) ?_
  intro W base args ds gs before hval0 hW hcnd _
  have hval : ∀ (j : Nat) t v, Try.f12.params[j]? = some t → args[j]? = some v → Value.okWide Try.prog W .any base t v := hval0
  have hW' := hW
  obtain ⟨p, q, hA0, hV, rfl, hfz, hnd⟩ := hW
  have hA : DataW.TrodAll enc Try.prog W 0 (fun _ => true) true Try.f12.params.toList args.toList ds p := hA0
  rw [Try.params12] at hA hval
  obtain ⟨v0, vs0, d0, ds0, p0, q0, hargs, rfl, rfl, h0, r0⟩ := trodAll_cons hA
  obtain ⟨rfl, rfl, rfl⟩ := trodAll_nil r0
  obtain rfl : args = #[v0] := by cases args; simp_all
  obtain ⟨rfl, rfl⟩ := trodVars_none hV
  obtain ⟨a0, rfl, rfl, rfl, w0⟩ := open_string Try.underlying9 (hval 0 9 v0 rfl rfl) h0
  clear hA0 hval0
  refine (walk a0 W w0).mono fun e W' ⟨he, bel⟩ => ?_
  subst he
  exact ⟨_, rfl, _, _, _, [], [], [], hW', trodAll_mk1 (shut_bool Try.underlying4 _), (trodAll_cons_mk (shut_string Try.underlying9 w0) trodAll_mk0), rfl, bel.frame _, fun h => by cases h⟩

theorem closed : joinedFacts Try.prog 12 Try.f12 Rows.fnExactWordSumsSpec Rows.fnExactWordSumsRow = true :=
  ((restOf Try.prog 12 Try.f12 Rows.fnExactWordSumsSpec Rows.fnExactWordSumsRow).2 enter_is lifts_is make_is).trans (by kernel_rfl)
theorem over : Rows.fnExactWordSumsRow.holds Try.pinned (OpenSpec.ofChange Rows.fnExactWordSumsSpec) := by
  first
  | exact OpenClaim.holds_of_wide_leaving 12 Try.f12 rfl rfl rfl rfl rfl rfl rfl ⟨rfl, rfl, rfl, rfl, rfl⟩ rfl rfl rfl rfl rfl (by kernel_rfl) Try.func12 closed
      (of_decide_eq_true (by kernel_rfl)) (by unfold Func.isWrapper; first | (rw [if_pos (by decide +kernel)]; kernel_rfl) | (rw [if_neg (by decide +kernel)]; exact ⟨rfl, rfl⟩))
      (fun os started H enc _ => leaving_of_handed (lifted os started H enc))
  | exact OpenClaim.holds_of_wide 12 Try.f12 rfl rfl rfl rfl rfl rfl rfl ⟨rfl, rfl, rfl, rfl, rfl⟩ rfl rfl rfl rfl rfl (by kernel_rfl) Try.func12 closed
      (of_decide_eq_true (by kernel_rfl)) (by unfold Func.isWrapper; first | (rw [if_pos (by decide +kernel)]; kernel_rfl) | (rw [if_neg (by decide +kernel)]; exact ⟨rfl, rfl⟩))
      (fun os started H enc _ => lifted os started H enc)

theorem proved : Rows.FnExactWordSumsSaid := over
#print axioms proved
end Go.Proofs.Ytbbkpaledlbcmaa.LWordSums

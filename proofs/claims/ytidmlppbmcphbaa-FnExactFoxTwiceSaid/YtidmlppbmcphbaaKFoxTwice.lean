/-
  Proves 'Rows.FnExactFoxTwiceSaid': for every text and every two numbers, the program's FoxTwice answers as the model's FoxTwice.
  Conditions: none beyond the row's own.
-/
import Derived.Test.YtidmlppbmcphbaaRows
import Derived.WalkKit
import Derived.ProofKit
import Derived.OpenShut
import Derived.ShutString
import Derived.ChangeOld
import Derived.Below
import Derived.Test.YtidmlppbmcphbaaBa
import Derived.Test.YtidmlppbmcphbaaBb
import Derived.Test.YtidmlppbmcphbaaBc
import Derived.Test.YtidmlppbmcphbaaBd

namespace Go.Proofs.Ytidmlppbmcphbaa.LFoxTwice
open Go.ChangeShapes Go.WideShapes Go.ChangeAt Go.RowKit
open Go.ChangeMaps (open_string shut_string)
set_option linter.unusedVariables false

theorem own : ownKnob Try.prog.godebug = none := by kernel_rfl
theorem laidOut : laidOutB Try.prog = true := by kernel_rfl

set_option maxRecDepth 100000 in
set_option maxHeartbeats 4000000 in
theorem walk (a0 : ByteArray) (a1 a2 : Int) (w : World) (w0 : a0.size ≤ maxLen) (w1 : (Lit.int .i64 a1).wf = true) (w2 : (Lit.int .i64 a2).wf = true) :
    Calls Try.prog 14 #[.string a0, .int .i64 a1, .int .i64 a2] w fun e w' => e = .returned (.bool true) ∧ Below w.heap.size w w' := by
  have hm := w0
  unfold maxLen at hm
  clear w1 w2
  by_cases hs : a0.size ≤ 1048576
  · obtain ⟨b1, hb1⟩ : ∃ b, foxOfB a0 a1 = b := ⟨_, rfl⟩
    obtain ⟨us, hus⟩ : ∃ us, cond b1 (canonT (foxL a1 1 a0.data.toList)) [] = us := ⟨_, rfl⟩
    obtain ⟨b2, hb2⟩ : ∃ b, foxSumB us a2 = b := ⟨_, rfl⟩
    obtain ⟨us2, hus2⟩ : ∃ u, cond b2 (canonT (foxI a2 us)) [] = u := ⟨_, rfl⟩
    obtain ⟨z, hz⟩ : ∃ z, cond (b1 && b2) (plainZ us2) 0 = z := ⟨_, rfl⟩
    obtain ⟨b, hb⟩ : ∃ b, (b1 && b2) = b := ⟨_, rfl⟩
    have HT : Hid (Twice a0 a1 a2 b1 b2 us us2 z b) := Lib.hid ⟨hb1, hus, hb2, hus2, hz, hb⟩
    have HM := Lib.hid w0
    clear hb1 hus hb2 hus2 hz hb w0
    have hne : (b != b) = false := by cases b <;> rfl
    have hnz : (z != z) = false := by simp
    go_enter Try.func14, Try.ntmps14
    go_wp2_with fail
    refine (sFoxTwice_any a0 a1 a2 b1 b2 us us2 z b _ HM.out HT.out).mono ?_
    rintro e W1 ⟨rfl, hb1⟩
    go_wp2_with fail
    refine (iFoxTwice_any a0 a1 a2 b1 b2 us us2 z b _ HM.out HT.out).mono ?_
    rintro e W2 ⟨rfl, hb2⟩
    go_wp2_with fail
    go_ret
    exact ⟨rfl, hb1.trans (hb2.mono hb1.size)⟩
  · go_enter Try.func14, Try.ntmps14
    go_wp2_with fail
    go_ret
    exact ⟨rfl, Below.refl _ _⟩

set_option maxRecDepth 100000 in
theorem lifted (os : Os) (started : os.Started) (H : Type) (enc : TypeId × Value → H) :
    ReturnsInHanded {} Try.checked os 14 .any (Rows.fnExactFoxTwiceSpec.pre6 enc Try.prog Try.f14 Rows.fnExactFoxTwiceRow.domain false) (Rows.fnExactFoxTwiceSpec.post enc Try.prog Try.f14 false true false false) := by
  refine returnsInHanded_of_change (C := Try.checked) own started (by kernel_rfl) Try.func14
    (ChangeSpec.witness6 (enc := enc) (C := Try.checked) false ⟨#[], #[.string ByteArray.empty, .int .i64 0, .int .i64 0], []⟩ 8 (by kernel_rfl) (by kernel_rfl) (by kernel_rfl) (by kernel_rfl)) ?_
  intro W base args ds gs before hval0 hW hcnd _
  have hval : ∀ (j : Nat) t v, Try.f14.params[j]? = some t → args[j]? = some v → Value.okWide Try.prog W .any base t v := hval0
  have hW' := hW
  obtain ⟨p, q, hA0, hV, rfl, hfz, hnd⟩ := hW
  have hA : DataW.TrodAll enc Try.prog W 0 (fun _ => true) true Try.f14.params.toList args.toList ds p := hA0
  rw [Try.params14] at hA hval
  obtain ⟨v0, vs0, d0, ds0, p0, q0, hargs, rfl, rfl, h0, r0⟩ := trodAll_cons hA
  obtain ⟨v1, vs1, d1, ds1, p1, q1, rfl, rfl, rfl, h1, r1⟩ := trodAll_cons r0
  obtain ⟨v2, vs2, d2, ds2, p2, q2, rfl, rfl, rfl, h2, r2⟩ := trodAll_cons r1
  obtain ⟨rfl, rfl, rfl⟩ := trodAll_nil r2
  obtain rfl : args = #[v0, v1, v2] := by cases args; simp_all
  obtain ⟨rfl, rfl⟩ := trodVars_none hV
  obtain ⟨a0, rfl, rfl, rfl, w0⟩ := open_string Try.underlying9 (hval 0 9 v0 rfl rfl) h0
  obtain ⟨a1, rfl, rfl, rfl, w1⟩ := open_int Try.underlying3 (hval 1 3 v1 rfl rfl) h1
  obtain ⟨a2, rfl, rfl, rfl, w2⟩ := open_int Try.underlying3 (hval 2 3 v2 rfl rfl) h2
  clear hA0 hval0
  refine (walk a0 a1 a2 W w0 w1 w2).mono fun e W' ⟨he, bel⟩ => ?_
  subst he
  exact ⟨_, rfl, _, _, _, [], [], [], hW', trodAll_mk1 (shut_bool Try.underlying4 _), (trodAll_cons_mk (shut_string Try.underlying9 w0) (trodAll_cons_mk (shut_int Try.underlying3 w1) (trodAll_cons_mk (shut_int Try.underlying3 w2) trodAll_mk0))), rfl, bel.frame _, fun h => by cases h⟩

theorem over : Rows.fnExactFoxTwiceRow.holds Try.pinned (OpenSpec.ofChange Rows.fnExactFoxTwiceSpec) :=
  OpenClaim.holds_of_wide 14 Try.f14 rfl rfl rfl rfl rfl rfl rfl ⟨rfl, rfl, rfl, rfl, rfl⟩ rfl rfl rfl rfl rfl (by kernel_rfl) Try.func14 (by kernel_rfl)
    (of_decide_eq_true (by kernel_rfl)) (by unfold Func.isWrapper; first | (rw [if_pos (by decide +kernel)]; kernel_rfl) | (rw [if_neg (by decide +kernel)]; exact ⟨rfl, rfl⟩))
    (fun os started H enc _ => lifted os started H enc)

theorem proved : Rows.FnExactFoxTwiceSaid := over
#print axioms proved
end Go.Proofs.Ytidmlppbmcphbaa.LFoxTwice

/-
  Proves 'Rows.FnExactBraidActSaid': for every value of type Braid and every string, the program's BraidAct answers as the model's BraidAct.
  Conditions: none beyond the row's own.
-/
import Derived.Test.YtaaeiogdhmiaaaaRows
import Derived.Test.YtaaeiogdhmiaaaaKf
import Derived.Test.YtaaeiogdhmiaaaaKl
import Derived.Test.YtaaeiogdhmiaaaaCz
import Derived.Test.YtaaeiogdhmiaaaaBb
import Derived.WalkKit
import Derived.ProofKit
import Derived.OpenShut
import Derived.ShutString
import Derived.ChangeOld
import Derived.Below
namespace Go.Proofs.Ytaaeiogdhmiaaaa.LBraidAct
open Go.ChangeShapes Go.WideShapes Go.ChangeAt Go.RowKit
open Go.ChangeMaps (open_string shut_string)
set_option linter.unusedVariables false

theorem own : ownKnob Try.prog.godebug = none := by kernel_rfl
theorem laidOut : laidOutB Try.prog = true := by kernel_rfl

theorem actR_shape (b : Bool) (o : Option (List UInt8)) : ∃ t c, actR b o = .tuple #[.string t, .bool c] := by
  cases b with
  | false => exact ⟨_, _, rfl⟩
  | true =>
    cases o with
    | none => exact ⟨_, _, rfl⟩
    | some l => exact ⟨_, _, rfl⟩

set_option maxRecDepth 100000 in
set_option maxHeartbeats 2000000 in
theorem walk (n0 : Int) (s0 : ByteArray) (s1 : ByteArray) (w : World) (b0 : -9223372036854775808 ≤ n0 ∧ n0 ≤ 9223372036854775807) (w0 : s0.size ≤ maxLen) (w1 : s1.size ≤ maxLen) :
    Calls Try.prog 6 #[.agg #[.int .i64 n0, .string s0], .string s1] w fun e w' => e = .returned (.bool true) ∧ Below w.heap.size w w' := by
  have HS0 := Lib.hid w0
  have HS1 := Lib.hid w1
  have hm1 := w1
  unfold maxLen at hm1
  clear b0
  obtain ⟨W, hW⟩ : ∃ W, w.alloc (.cells #[.int .i64 n0, .string s0] 23) = W := ⟨_, rfl⟩
  have HX := Lib.hid (oneBox hW)
  have HW := Lib.hid hW
  clear hW w0 w1
  obtain ⟨⟨c0, c1⟩, _, _⟩ := boxOf2 HX.out.2.2 (Below.refl _ W)
  by_cases hl1 : s1.size ≤ 1048576
  · by_cases hlong : s0.size ≤ 1048576
    · obtain ⟨t, bq, hmt⟩ := actR_shape (wordB s1.data.toList && braidB n0 s0) (actL s0.data.toList s1.data.toList)
      have hsc := fun W : World => sBraidAct_any n0 s0 s1 W HS0.out HS1.out
      have hic := fun W : World => iBraidAct_any n0 s0 s1 W HS0.out HS1.out
      rw [hmt] at hsc hic
      have HSC := Lib.hid hsc
      have HIC := Lib.hid hic
      clear hsc hic hmt
      have hbb : (bq != bq) = false := by cases bq <;> rfl
      go_enter Try.func6, Try.ntmps6
      go_wp2_with fail
      rw [HW.out]
      refine (szBraid_yes n0 s0 1048576 W (by omega) hlong).mono ?_
      rintro e w1 ⟨rfl, hb1⟩
      have HK1 := Lib.hid hb1
      clear c0 c1 hb1
      obtain ⟨⟨c0, c1⟩, _, _⟩ := boxOf2 HX.out.2.2 (HK1.out)
      obtain ⟨k, hk⟩ : ∃ k : Nat, 1048576 - s0.size = k := ⟨_, rfl⟩
      have hneg : ¬ (k : Int) < 0 := by omega
      have hnd : decide ((k : Int) < 0) = false := decide_eq_false hneg
      rw [hk]
      clear hk
      go_wp2_with fail
      refine (toBraid_any n0 s0 w1).mono ?_
      rintro e w2 ⟨rfl, hb2⟩
      have HK2 := Lib.hid (HK1.out.trans (hb2.mono HK1.out.size))
      clear c0 c1 hb2
      obtain ⟨⟨c0, c1⟩, _, _⟩ := boxOf2 HX.out.2.2 (HK2.out)
      go_wp2_with fail
      refine (HSC.out w2).mono ?_
      rintro e w3 ⟨rfl, hb3⟩
      have HK3 := Lib.hid (HK2.out.trans (hb3.mono HK2.out.size))
      clear c0 c1 hb3
      obtain ⟨⟨c0, c1⟩, _, _⟩ := boxOf2 HX.out.2.2 (HK3.out)
      go_wp2_with fail
      refine (toBraid_any n0 s0 w3).mono ?_
      rintro e w5 ⟨rfl, hb5⟩
      have HK5 := Lib.hid (HK3.out.trans (hb5.mono HK3.out.size))
      clear c0 c1 hb5
      go_wp2_with fail
      refine (HIC.out w5).mono ?_
      rintro e w6 ⟨rfl, hb6⟩
      have HK6 := Lib.hid (HK5.out.trans (hb6.mono HK5.out.size))
      clear hb6
      go_wp2
      go_ret
      exact ⟨rfl, HX.out.1.trans (HK6.out.mono HX.out.1.size)⟩
    · have hs := HS0.out
      go_enter Try.func6, Try.ntmps6
      go_wp2_with fail
      rw [HW.out]
      refine (szBraid_no n0 s0 1048576 W (by omega) hs (by omega)).mono ?_
      rintro e w1 ⟨rfl, hb1⟩
      clear c0 c1
      have HK := Lib.hid hb1
      clear hb1
      go_wp2
      go_ret
      exact ⟨rfl, HX.out.1.trans (HK.out.mono HX.out.1.size)⟩
  · go_enter Try.func6, Try.ntmps6
    go_wp2_with fail
    rw [HW.out]
    go_ret
    exact ⟨rfl, HX.out.1⟩

set_option maxRecDepth 100000 in
theorem lifted (os : Os) (started : os.Started) (H : Type) (enc : TypeId × Value → H) :
    ReturnsInHanded {} Try.checked os 6 .any (Rows.fnExactBraidActSpec.pre6 enc Try.prog Try.f6 Rows.fnExactBraidActRow.domain false) (Rows.fnExactBraidActSpec.post enc Try.prog Try.f6 false true false false) := by
  refine returnsInHanded_of_change (C := Try.checked) own started (by kernel_rfl) Try.func6
    (ChangeSpec.witness6 (enc := enc) (C := Try.checked) false ⟨#[], #[.agg #[.int .i64 0, .string ByteArray.empty], .string ByteArray.empty], []⟩ 8 (by kernel_rfl) (by kernel_rfl) (by kernel_rfl) (by kernel_rfl)) ?_
  intro W base args ds gs before hval0 hW hcnd _
  have hval : ∀ (j : Nat) t v, Try.f6.params[j]? = some t → args[j]? = some v → Value.okWide Try.prog W .any base t v := hval0
  have hW' := hW
  obtain ⟨p, q, hA0, hV, rfl, hfz, hnd⟩ := hW
  have hA : DataW.TrodAll enc Try.prog W 0 (fun _ => true) true Try.f6.params.toList args.toList ds p := hA0
  rw [Try.params6] at hA hval
  obtain ⟨v0, vs0, d0, ds0, p0, q0, hargs, rfl, rfl, h0, r0⟩ := trodAll_cons hA
  obtain ⟨v1, vs1, d1, ds1, p1, q1, rfl, rfl, rfl, h1, r1⟩ := trodAll_cons r0
  obtain ⟨rfl, rfl, rfl⟩ := trodAll_nil r1
  obtain rfl : args = #[v0, v1] := by cases args; simp_all
  obtain ⟨rfl, rfl⟩ := trodVars_none hV
  obtain ⟨cs0, rfl, _⟩ := okWide_struct Try.underlying23 (hval 0 23 v0 rfl rfl)
  have k0 := h0
  have lt0 : ∀ x ∈ p0, x.block < W.heap.size := by obtain ⟨m, hm⟩ := k0; exact DataW.trod_lt m _ _ _ hm
  obtain ⟨n0, s0, rfl, b0, w0⟩ : ∃ (n : Int) (s : ByteArray), cs0 = #[.int .i64 n, .string s] ∧ (-9223372036854775808 ≤ n ∧ n ≤ 9223372036854775807) ∧ s.size ≤ maxLen := by
    obtain ⟨fuel, hf⟩ := h0
    exact braid_of hf
  obtain ⟨a1, rfl, rfl, rfl, w1⟩ := open_string Try.underlying9 (hval 1 9 v1 rfl rfl) h1
  clear hA0 hval0
  refine (walk n0 s0 a1 W b0 w0 w1).mono fun e W' ⟨he, bel⟩ => ?_
  subst he
  exact ⟨_, rfl, _, _, _, [], _, [], hW', trodAll_mk1 (shut_bool Try.underlying4 _), (trodAll_cons_mk (Below.trod laidOut (by kernel_rfl) (of_decide_eq_true (by kernel_rfl)) k0 bel lt0) (trodAll_cons_mk (shut_string Try.underlying9 w1) trodAll_mk0)), rfl, bel.frame _, fun h => by cases h⟩

theorem closed : joinedFacts Try.prog 6 Try.f6 Rows.fnExactBraidActSpec Rows.fnExactBraidActRow = true :=
  ((restOf Try.prog 6 Try.f6 Rows.fnExactBraidActSpec Rows.fnExactBraidActRow).2 enter_is lifts_is make_is).trans (by kernel_rfl)
theorem over : Rows.fnExactBraidActRow.holds Try.pinned (OpenSpec.ofChange Rows.fnExactBraidActSpec) := by
  first
  | exact OpenClaim.holds_of_wide_leaving 6 Try.f6 rfl rfl rfl rfl rfl rfl rfl ⟨rfl, rfl, rfl, rfl, rfl⟩ rfl rfl rfl rfl rfl (by kernel_rfl) Try.func6 closed
      (of_decide_eq_true (by kernel_rfl)) (by unfold Func.isWrapper; first | (rw [if_pos (by decide +kernel)]; kernel_rfl) | (rw [if_neg (by decide +kernel)]; exact ⟨rfl, rfl⟩))
      (fun os started H enc _ => leaving_of_handed (lifted os started H enc))
  | exact OpenClaim.holds_of_wide 6 Try.f6 rfl rfl rfl rfl rfl rfl rfl ⟨rfl, rfl, rfl, rfl, rfl⟩ rfl rfl rfl rfl rfl (by kernel_rfl) Try.func6 closed
      (of_decide_eq_true (by kernel_rfl)) (by unfold Func.isWrapper; first | (rw [if_pos (by decide +kernel)]; kernel_rfl) | (rw [if_neg (by decide +kernel)]; exact ⟨rfl, rfl⟩))
      (fun os started H enc _ => lifted os started H enc)

theorem proved : Rows.FnExactBraidActSaid := over
#print axioms proved
end Go.Proofs.Ytaaeiogdhmiaaaa.LBraidAct

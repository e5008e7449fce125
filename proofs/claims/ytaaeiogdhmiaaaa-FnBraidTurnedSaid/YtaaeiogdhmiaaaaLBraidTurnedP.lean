/-
  Proves 'Rows.FnBraidTurnedSaid': for every list of bytes, the program's BraidTurned of the braid that the model draws from it answers as the model's, and where it is told it acts back.
  Conditions: none beyond the row's own.
-/
import Derived.Test.YtaaeiogdhmiaaaaRows
import Derived.Test.YtaaeiogdhmiaaaaKf
import Derived.Test.YtaaeiogdhmiaaaaKl
import Derived.Test.YtaaeiogdhmiaaaaBe
import Derived.Test.YtaaeiogdhmiaaaaCv
import Derived.Test.YtaaeiogdhmiaaaaCj
import Derived.Test.YtaaeiogdhmiaaaaCn
import Derived.Test.YtaaeiogdhmiaaaaCz
import Derived.WalkKit
import Derived.ProofKit
import Derived.OpenShut
import Derived.ShutString
import Derived.ChangeOld
import Derived.Below
namespace Go.Proofs.Ytaaeiogdhmiaaaa.LBraidTurnedP
open Go.ChangeShapes Go.WideShapes Go.ChangeAt Go.RowKit
open Go.ChangeMaps (open_string shut_string)
set_option linter.unusedVariables false

theorem own : ownKnob Try.prog.godebug = none := by kernel_rfl
theorem laidOut : laidOutB Try.prog = true := by kernel_rfl

set_option maxRecDepth 100000 in
set_option maxHeartbeats 4000000 in
theorem walk (a0 : Option Addr) (len0 cap0 : Nat) (z0 : List Int) (w : World) (w0 : BsAt w.heap.size w a0 len0 cap0 z0) :
    Calls Try.prog 17 #[.slice a0 len0 cap0] w fun e w' => e = .returned (.bool true) ∧ Below w.heap.size w w' := by
  have HDr := Lib.hid (drawBraidTurned_any a0 len0 cap0 z0 w w0)
  have hfit := w0.fit
  unfold maxLen at hfit
  clear w0
  by_cases hlong : ¬ len0 ≤ 1048576
  · have hd : decide ((1048576 : Int) < (len0 : Int)) = true := decide_eq_true (by omega)
    go_enter Try.func17, Try.ntmps17
    go_wp2_with fail
    go_ret
    exact ⟨rfl, Below.refl _ _⟩
  have hd : decide ((1048576 : Int) < (len0 : Int)) = false := decide_eq_false (by omega)
  go_enter Try.func17, Try.ntmps17
  go_wp2_with fail
  refine HDr.out.mono ?_
  rintro e w1 ⟨⟨m, s, rfl, hm, hs⟩, hb1⟩
  obtain ⟨V, hV⟩ : ∃ V, w1.alloc (.cells #[.int .i64 m, .string s] 26) = V := ⟨_, rfl⟩
  have HV := Lib.hid (oneBox hV)
  have HVE := Lib.hid hV
  have HBV := Lib.hid (hb1.trans (HV.out.1.mono hb1.size))
  have HSM : Hid (s.size ≤ maxLen) := Lib.hid (by unfold maxLen; omega)
  have hsb := hs
  obtain ⟨b, hb⟩ : ∃ b, braidB m s = b := ⟨_, rfl⟩
  obtain ⟨t, ht⟩ : ∃ t, bstr (backL s.data.toList) = t := ⟨_, rfl⟩
  obtain ⟨n', t', hmt⟩ : ∃ n' t', brR b m t = .tuple #[brV n' t', .bool b] ∧ (b = true → n' = m ∧ t' = t) := by
    cases b with
    | true => exact ⟨m, t, rfl, fun _ => ⟨rfl, rfl⟩⟩
    | false => exact ⟨0, { data := #[] }, rfl, fun h => by cases h⟩
  have hI := fun w : World => iBraidTurned_any m s w HSM.out
  have hS := fun w : World => sBraidTurned_any m s w HSM.out
  rw [hb, ht, hmt.1] at hI hS
  have HI := Lib.hid hI
  have HS := Lib.hid hS
  have HB := Lib.hid hb
  have HT := Lib.hid ht
  have HNT := Lib.hid hmt.2
  have hbb : (b != b) = false := by cases b <;> rfl
  have hbq : (b == b) = true := by cases b <;> rfl
  clear hV hb1 hI hS hb ht hmt
  go_wp2_with fail
  rw [HVE.out]
  refine (HI.out V).mono ?_
  rintro e w2 ⟨rfl, hb2⟩
  have HK2 := Lib.hid hb2
  clear hb2
  obtain ⟨U, hU⟩ : ∃ U, w2.alloc (.cells #[.int .i64 n', .string t'] 26) = U := ⟨_, rfl⟩
  have HU := Lib.hid (oneBox hU)
  have HUE := Lib.hid hU
  clear hU
  have HK3 := Lib.hid (HK2.out.trans (HU.out.1.mono HK2.out.size))
  obtain ⟨⟨c0, c1⟩, _, _⟩ := boxOf2 HV.out.2.2 HK3.out
  rw [← HUE.out] at c0 c1
  go_wp2_with fail
  rw [HUE.out] at c0 c1
  rw [HUE.out]
  refine (HS.out U).mono ?_
  rintro e w4 ⟨rfl, hb4⟩
  have HK4 := Lib.hid (HK3.out.trans (hb4.mono HK3.out.size))
  have HJ4 := Lib.hid hb4
  clear hb4 c0 c1
  obtain ⟨X, hX⟩ : ∃ X, w4.alloc (.cells #[.int .i64 n', .string t'] 26) = X := ⟨_, rfl⟩
  have HX := Lib.hid (oneBox hX)
  have HXE := Lib.hid hX
  clear hX
  have HJ5 := Lib.hid (HJ4.out.trans (HX.out.1.mono HJ4.out.size))
  have HK5 := Lib.hid (HK4.out.trans (HX.out.1.mono HK4.out.size))
  obtain ⟨⟨d0, d1⟩, _, _⟩ := boxOf2 HU.out.2.2 HJ5.out
  obtain ⟨⟨e0, e1⟩, _, _⟩ := boxOf2 HX.out.2.2 (Below.refl _ X)
  rw [← HXE.out] at d0 d1 e0 e1
  cases b with
  | false =>
    go_wp2
    rw [HXE.out]
    go_ret
    exact ⟨rfl, HBV.out.trans (HK5.out.mono HBV.out.size)⟩
  | true =>
    obtain ⟨rfl, rfl⟩ := HNT.out rfl
    have hbr := HB.out
    obtain ⟨_, _, pA⟩ := braid_all hbr
    have HPL : Hid (∀ c ∈ s.data.toList, brB c = true) := Lib.hid (fun c hc => (pA c hc).1)
    have hbt := braid_turned hbr
    rw [HT.out] at hbt
    have htl : t'.data.toList = backL s.data.toList := by rw [← HT.out]; rfl
    have hts : t'.size ≤ maxLen := by rw [← HT.out, bstr_size, backL_length]; have := HSM.out; simpa using this
    have hbk : bstr (backL t'.data.toList) = s := by rw [htl, backB_back _ HPL.out]; rfl
    have hI2 := fun w : World => iBraidTurned_any n' t' w hts
    rw [hbt, hbk] at hI2
    have HI2 : Hid (∀ w : World, Calls Try.prog 30 #[brV n' t'] w fun e w' => e = .returned (.tuple #[brV n' s, .bool true]) ∧ Below w.heap.size w w') := Lib.hid hI2
    obtain ⟨c, q, hq, p1, _, hsz⟩ := act_shape (wordB ({ data := #[98, 97] } : ByteArray).data.toList && braidB n' s) (actL s.data.toList ({ data := #[98, 97] } : ByteArray).data.toList)
    have hcs : c.size ≤ maxLen := by
      refine Nat.le_trans hsz ?_
      cases ho : actL s.data.toList ({ data := #[98, 97] } : ByteArray).data.toList with
      | none => exact Nat.zero_le _
      | some l => have := actL_len _ _ l (by decide) ho; unfold maxLen; simp; omega
    obtain ⟨d, r, hr, p2, _, _⟩ := act_shape (wordB c.data.toList && braidB n' t') (actL t'.data.toList c.data.toList)
    have ha1 := fun w : World => iBraidAct_any n' s { data := #[98, 97] } w HSM.out (by decide)
    have ha2 := fun w : World => iBraidAct_any n' t' c w hts hcs
    rw [hq] at ha1
    rw [hr] at ha2
    have HA1 := Lib.hid ha1
    have HA2 := Lib.hid ha2
    have HEQ : Hid (q = true → r = true → d = { data := #[98, 97] }) := Lib.hid (fun h1 h2 => by
      have q1 := actL_F _ _ _ (p1 h1).2
      have q2 := actL_F _ _ _ (p2 h2).2
      rw [q1, htl, act_turned _ HPL.out _ (by decide) ((red_iff _).1 (by decide))] at q2
      exact ba_eq q2)
    clear hbr pA hbt htl hts hbk hI2 hq p1 hsz hcs hr p2 ha1 ha2
    go_wp2_with fail
    rw [HXE.out] at d0 d1 e0 e1
    rw [HXE.out]
    refine (HI2.out X).mono ?_
    rintro e w6 ⟨rfl, hb6⟩
    have HK6 := Lib.hid (HK5.out.trans (hb6.mono HK5.out.size))
    have HJ6 := Lib.hid (HJ5.out.trans (hb6.mono HJ5.out.size))
    clear hb6 d0 d1 e0 e1
    obtain ⟨Y, hY⟩ : ∃ Y, w6.alloc (.cells #[.int .i64 n', .string s] 26) = Y := ⟨_, rfl⟩
    have HY := Lib.hid (oneBox hY)
    have HYE := Lib.hid hY
    clear hY
    have HK7 := Lib.hid (HK6.out.trans (HY.out.1.mono HK6.out.size))
    have HJ7 := Lib.hid (HJ6.out.trans (HY.out.1.mono HJ6.out.size))
    obtain ⟨⟨c0, c1⟩, _, _⟩ := boxOf2 HV.out.2.2 HK7.out
    rw [← HYE.out] at c0 c1
    go_wp2_with fail
    rw [HYE.out] at c0 c1
    rw [HYE.out]
    refine (HA1.out Y).mono ?_
    rintro e w8 ⟨rfl, hb8⟩
    have HK8 := Lib.hid (HK7.out.trans (hb8.mono HK7.out.size))
    have HJ8 := Lib.hid (HJ7.out.trans (hb8.mono HJ7.out.size))
    have HY8 := Lib.hid hb8
    clear hb8 c0 c1
    obtain ⟨⟨d0, d1⟩, _, _⟩ := boxOf2 HU.out.2.2 HJ8.out
    go_wp2_with fail
    refine (HA2.out _).mono ?_
    rintro e w9 ⟨rfl, hb9⟩
    have HK9 := Lib.hid (HK8.out.trans (hb9.mono HK8.out.size))
    have HY9 := Lib.hid (HY8.out.trans (hb9.mono HY8.out.size))
    clear hb9 d0 d1
    obtain ⟨⟨c0, c1⟩, _, _⟩ := boxOf2 HV.out.2.2 HK9.out
    obtain ⟨⟨e0, e1⟩, _, _⟩ := boxOf2 HY.out.2.2 HY9.out
    cases q with
    | false =>
      go_wp2
      go_ret
      exact ⟨rfl, HBV.out.trans (HK9.out.mono HBV.out.size)⟩
    | true =>
      cases r with
      | false =>
        go_wp2
        go_ret
        exact ⟨rfl, HBV.out.trans (HK9.out.mono HBV.out.size)⟩
      | true =>
        obtain rfl := HEQ.out rfl rfl
        go_wp2
        go_ret
        exact ⟨rfl, HBV.out.trans (HK9.out.mono HBV.out.size)⟩

set_option maxRecDepth 100000 in
theorem lifted (os : Os) (started : os.Started) (H : Type) (enc : TypeId × Value → H) :
    ReturnsInHanded {} Try.checked os 17 .any (Rows.fnBraidTurnedSpec.pre6 enc Try.prog Try.f17 Rows.fnBraidTurnedRow.domain false) (Rows.fnBraidTurnedSpec.post enc Try.prog Try.f17 false true false false) := by
  refine returnsInHanded_of_change (C := Try.checked) own started (by kernel_rfl) Try.func17
    (ChangeSpec.witness6 (enc := enc) (C := Try.checked) false ⟨#[], #[.slice none 0 0], []⟩ 8 (by kernel_rfl) (by kernel_rfl) (by kernel_rfl) (by kernel_rfl)) ?_
  intro W base args ds gs before hval0 hW hcnd _
  have hval : ∀ (j : Nat) t v, Try.f17.params[j]? = some t → args[j]? = some v → Value.okWide Try.prog W .any base t v := hval0
  have hW' := hW
  obtain ⟨p, q, hA0, hV, rfl, hfz, hnd⟩ := hW
  have hA : DataW.TrodAll enc Try.prog W 0 (fun _ => true) true Try.f17.params.toList args.toList ds p := hA0
  rw [Try.params17] at hA hval
  obtain ⟨v0, vs0, d0, ds0, p0, q0, hargs, rfl, rfl, h0, r0⟩ := trodAll_cons hA
  obtain ⟨rfl, rfl, rfl⟩ := trodAll_nil r0
  obtain rfl : args = #[v0] := by cases args; simp_all
  obtain ⟨rfl, rfl⟩ := trodVars_none hV
  obtain ⟨a0, len0, cap0, rfl⟩ := okWide_slice Try.underlying62 (hval 0 62 v0 rfl rfl)
  have k0 := h0
  have lt0 : ∀ x ∈ p0, x.block < W.heap.size := by obtain ⟨m, hm⟩ := k0; exact DataW.trod_lt m _ _ _ hm
  obtain ⟨z0, w0⟩ : ∃ zs, BsAt W.heap.size W a0 len0 cap0 zs := by
    obtain ⟨fuel, hf⟩ := h0
    exact bs_of hf
  clear hA0 hval0
  refine (walk a0 len0 cap0 z0 W w0).mono fun e W' ⟨he, bel⟩ => ?_
  subst he
  exact ⟨_, rfl, _, _, _, [], _, [], hW', trodAll_mk1 (shut_bool Try.underlying4 _), (trodAll_cons_mk (Below.trod laidOut (by kernel_rfl) (of_decide_eq_true (by kernel_rfl)) k0 bel lt0) trodAll_mk0), rfl, bel.frame _, fun h => by cases h⟩

theorem closed : joinedFacts Try.prog 17 Try.f17 Rows.fnBraidTurnedSpec Rows.fnBraidTurnedRow = true :=
  ((restOf Try.prog 17 Try.f17 Rows.fnBraidTurnedSpec Rows.fnBraidTurnedRow).2 enter_is lifts_is make_is).trans (by kernel_rfl)
theorem over : Rows.fnBraidTurnedRow.holds Try.pinned (OpenSpec.ofChange Rows.fnBraidTurnedSpec) := by
  first
  | exact OpenClaim.holds_of_wide_leaving 17 Try.f17 rfl rfl rfl rfl rfl rfl rfl ⟨rfl, rfl, rfl, rfl, rfl⟩ rfl rfl rfl rfl rfl (by kernel_rfl) Try.func17 closed
      (of_decide_eq_true (by kernel_rfl)) (by unfold Func.isWrapper; first | (rw [if_pos (by decide +kernel)]; kernel_rfl) | (rw [if_neg (by decide +kernel)]; exact ⟨rfl, rfl⟩))
      (fun os started H enc _ => leaving_of_handed (lifted os started H enc))
  | exact OpenClaim.holds_of_wide 17 Try.f17 rfl rfl rfl rfl rfl rfl rfl ⟨rfl, rfl, rfl, rfl, rfl⟩ rfl rfl rfl rfl rfl (by kernel_rfl) Try.func17 closed
      (of_decide_eq_true (by kernel_rfl)) (by unfold Func.isWrapper; first | (rw [if_pos (by decide +kernel)]; kernel_rfl) | (rw [if_neg (by decide +kernel)]; exact ⟨rfl, rfl⟩))
      (fun os started H enc _ => lifted os started H enc)

theorem proved : Rows.FnBraidTurnedSaid := over
#print axioms proved
end Go.Proofs.Ytaaeiogdhmiaaaa.LBraidTurnedP

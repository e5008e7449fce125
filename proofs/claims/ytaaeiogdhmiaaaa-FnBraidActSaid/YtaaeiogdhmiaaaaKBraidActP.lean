/-
  Proves 'Rows.FnBraidActSaid': for every list of bytes, the program's BraidAct of the braid and the word that the model draws from it answers as the model's, and where it is told it goes along turned words and squares.
  Conditions: none beyond the row's own.
-/
import Derived.Test.YtaaeiogdhmiaaaaRows
import Derived.WalkKit
import Derived.ProofKit
import Derived.OpenShut
import Derived.ShutString
import Derived.ChangeOld
import Derived.Below
import Derived.Test.YtaaeiogdhmiaaaaBwa
import Derived.Test.YtaaeiogdhmiaaaaBwb
import Derived.Test.YtaaeiogdhmiaaaaBwc
import Derived.Test.YtaaeiogdhmiaaaaBwd
import Derived.Test.YtaaeiogdhmiaaaaBwe
import Derived.Test.YtaaeiogdhmiaaaaBwf

namespace Go.Proofs.Ytaaeiogdhmiaaaa.LBraidActP
open Go.ChangeShapes Go.WideShapes Go.ChangeAt Go.RowKit
open Go.ChangeMaps (open_string shut_string)
set_option linter.unusedVariables false

theorem own : ownKnob Try.prog.godebug = none := by kernel_rfl
theorem laidOut : laidOutB Try.prog = true := by kernel_rfl

set_option maxRecDepth 100000 in
set_option maxHeartbeats 4000000 in
theorem walk (a0 : Option Addr) (len0 cap0 : Nat) (z0 : List Int) (w : World) (w0 : BsAt w.heap.size w a0 len0 cap0 z0) :
    Calls Try.prog 18 #[.slice a0 len0 cap0] w fun e w' => e = .returned (.bool true) ∧ Below w.heap.size w w' := by
  have HDr := Lib.hid (drawBraidAct_any a0 len0 cap0 z0 w w0)
  have hfit := w0.fit
  unfold maxLen at hfit
  clear w0
  by_cases hlong : ¬ len0 ≤ 1048576
  · have hd : decide ((1048576 : Int) < (len0 : Int)) = true := decide_eq_true (by omega)
    go_enter Try.func18, Try.ntmps18
    go_wp2_with fail
    go_ret
    exact ⟨rfl, Below.refl _ _⟩
  have hd : decide ((1048576 : Int) < (len0 : Int)) = false := decide_eq_false (by omega)
  go_enter Try.func18, Try.ntmps18
  go_wp2_with fail
  refine HDr.out.mono ?_
  rintro e w1 ⟨⟨m, s, z, rfl, hm, hs, hz⟩, hb1⟩
  obtain ⟨V, hV⟩ : ∃ V, w1.alloc (.cells #[.int .i64 m, .string s] 26) = V := ⟨_, rfl⟩
  have HV := Lib.hid (oneBox hV)
  have HVE := Lib.hid hV
  have HBV := Lib.hid (hb1.trans (HV.out.1.mono hb1.size))
  have HSM : Hid (s.size ≤ maxLen) := Lib.hid (by unfold maxLen; omega)
  have HZM : Hid (z.size ≤ maxLen) := Lib.hid (by unfold maxLen; omega)
  obtain ⟨t, b, ht, p1, pe, _⟩ := act_shape (wordB z.data.toList && braidB m s) (actL s.data.toList z.data.toList)
  have hI := fun w : World => iBraidAct_any m s z w HSM.out HZM.out
  have hS := fun w : World => sBraidAct_any m s z w HSM.out HZM.out
  rw [ht] at hI hS
  have HI := Lib.hid hI
  have HS := Lib.hid hS
  have HP1 := Lib.hid p1
  have hbb : (b != b) = false := by cases b <;> rfl
  have hbq : (b == b) = true := by cases b <;> rfl
  clear hV hb1 hI hS ht p1 pe hm hs hz
  go_wp2_with fail
  rw [HVE.out]
  refine (HI.out V).mono ?_
  rintro e w2 ⟨rfl, hb2⟩
  have HK2 := Lib.hid hb2
  clear hb2
  obtain ⟨⟨c0, c1⟩, _, _⟩ := boxOf2 HV.out.2.2 HK2.out
  go_wp2_with fail
  refine (HS.out w2).mono ?_
  rintro e w3 ⟨rfl, hb3⟩
  have HK3 := Lib.hid (HK2.out.trans (hb3.mono HK2.out.size))
  clear hb3 c0 c1
  cases b with
  | false =>
    go_wp2
    go_ret
    exact ⟨rfl, HBV.out.trans (HK3.out.mono HBV.out.size)⟩
  | true =>
    obtain ⟨hwb, hact⟩ := HP1.out rfl
    rw [Bool.and_eq_true] at hwb
    obtain ⟨hwz, hbr⟩ := hwb
    obtain ⟨_, _, pA⟩ := braid_all hbr
    have HPL : Hid (∀ c ∈ s.data.toList, brB c = true) := Lib.hid (fun c hc => (pA c hc).1)
    obtain ⟨z1, z2, z3⟩ := (wordB_iff _).1 hwz
    have hnz : noC z.data.toList := (red_iff _).1 z3
    have hwt : wordB t.data.toList = true := actL_word _ HPL.out _ _ hwz hact
    obtain ⟨zb, hzb⟩ : ∃ x, bstr (backL z.data.toList) = x := ⟨_, rfl⟩
    have hzbl : zb.data.toList = backL z.data.toList := by rw [← hzb]; rfl
    have hwzb : wordB zb.data.toList = true := by
      rw [hzbl]
      exact (wordB_iff _).2 ⟨by rw [backL_length]; exact z1, letL_back _ z2, (red_iff _).2 (noC_back _ z2 hnz)⟩
    obtain ⟨tb, htb⟩ : ∃ x, bstr (backL t.data.toList) = x := ⟨_, rfl⟩
    have hab : actL s.data.toList zb.data.toList = some (backL t.data.toList) := by rw [hzbl, actL_back _ HPL.out _ z2, hact]; rfl
    have hzbs : zb.size ≤ maxLen := by have := ((wordB_iff _).1 hwzb).1; simp at this; unfold maxLen; omega
    have ha2 := fun w : World => iBraidAct_any m s zb w HSM.out hzbs
    rw [hwzb, hbr, hab] at ha2
    have HA2 : Hid (∀ w : World, Calls Try.prog 32 #[brV m s, .string zb] w fun e w' => e = .returned (.tuple #[.string tb, .bool true]) ∧ Below w.heap.size w w') := Lib.hid (by rw [← htb]; exact ha2)
    have HT1 := Lib.hid (fun w => iWordTurned_yes z w hwz)
    have HT2 := Lib.hid (fun w => iWordTurned_yes t w hwt)
    rw [hzb] at HT1
    rw [htb] at HT2
    have hpz := fun w => iPower_yes z 2 w hwz (by omega) (by omega)
    have hpt := fun w => iPower_yes t 2 w hwt (by omega) (by omega)
    obtain ⟨u, bu, hu, pu, us⟩ := told_shape (redL [] (powL 2 z.data.toList))
    obtain ⟨v, bv, hv, pv, _⟩ := told_shape (redL [] (powL 2 t.data.toList))
    rw [hu] at hpz
    rw [hv] at hpt
    have HPZ := Lib.hid hpz
    have HPT := Lib.hid hpt
    obtain ⟨x, bx, hx, px, _, _⟩ := act_shape (wordB u.data.toList && braidB m s) (actL s.data.toList u.data.toList)
    have ha3 := fun w : World => iBraidAct_any m s u w HSM.out (by unfold maxLen; omega)
    rw [hx] at ha3
    have HA3 := Lib.hid ha3
    have HEQ : Hid (bu = true → bx = true → bv = true → x = v) := Lib.hid (fun h1 h2 h3 => by
      have q := actL_F _ _ _ (px h2).2
      have e2 : ∀ l : List UInt8, powL 2 l = l ++ l := fun l => by simp [powL, repL]
      rw [(pu h1).1, e2, actF_two _ HPL.out _ z2 hnz, ← actL_F _ _ _ hact, ← e2, ← (pv h3).1] at q
      exact ba_eq q)
    clear hwz hbr pA z1 z2 z3 hnz hwt hzb hzbl hwzb htb hab hzbs ha2 hpz hpt hu pu us hv pv hx px ha3 hact
    have go : ∀ {a b : World}, Below V.heap.size V a → Below a.heap.size a b → Below V.heap.size V b := fun h k => h.trans (k.mono h.size)
    go_wp2_with fail
    refine (HT1.out _).mono ?_
    rintro e w4 ⟨rfl, hb4⟩
    have HK4 := Lib.hid (go HK3.out hb4)
    clear hb4
    obtain ⟨⟨c0, c1⟩, _, _⟩ := boxOf2 HV.out.2.2 HK4.out
    go_wp2_with fail
    refine (HA2.out _).mono ?_
    rintro e w5 ⟨rfl, hb5⟩
    have HK5 := Lib.hid (go HK4.out hb5)
    clear hb5 c0 c1
    go_wp2_with fail
    refine (HT2.out _).mono ?_
    rintro e w6 ⟨rfl, hb6⟩
    have HK6 := Lib.hid (go HK5.out hb6)
    clear hb6
    go_wp2_with fail
    refine (HPZ.out _).mono ?_
    rintro e w7 ⟨rfl, hb7⟩
    have HK7 := Lib.hid (go HK6.out hb7)
    clear hb7
    obtain ⟨⟨c0, c1⟩, _, _⟩ := boxOf2 HV.out.2.2 HK7.out
    go_wp2_with fail
    refine (HA3.out _).mono ?_
    rintro e w8 ⟨rfl, hb8⟩
    have HK8 := Lib.hid (go HK7.out hb8)
    clear hb8 c0 c1
    go_wp2_with fail
    refine (HPT.out _).mono ?_
    rintro e w9 ⟨rfl, hb9⟩
    have HK9 := Lib.hid (go HK8.out hb9)
    clear hb9 go
    cases bu with
    | false =>
      go_wp2
      go_ret
      exact ⟨rfl, HBV.out.trans (HK9.out.mono HBV.out.size)⟩
    | true =>
      cases bx with
      | false =>
        go_wp2
        go_ret
        exact ⟨rfl, HBV.out.trans (HK9.out.mono HBV.out.size)⟩
      | true =>
        cases bv with
        | false =>
          go_wp2
          go_ret
          exact ⟨rfl, HBV.out.trans (HK9.out.mono HBV.out.size)⟩
        | true =>
          obtain rfl := HEQ.out rfl rfl rfl
          go_wp2
          go_ret
          exact ⟨rfl, HBV.out.trans (HK9.out.mono HBV.out.size)⟩

set_option maxRecDepth 100000 in
theorem lifted (os : Os) (started : os.Started) (H : Type) (enc : TypeId × Value → H) :
    ReturnsInHanded {} Try.checked os 18 .any (Rows.fnBraidActSpec.pre6 enc Try.prog Try.f18 Rows.fnBraidActRow.domain false) (Rows.fnBraidActSpec.post enc Try.prog Try.f18 false true false false) := by
  refine returnsInHanded_of_change (C := Try.checked) own started (by kernel_rfl) Try.func18
    (ChangeSpec.witness6 (enc := enc) (C := Try.checked) false ⟨#[], #[.slice none 0 0], []⟩ 8 (by kernel_rfl) (by kernel_rfl) (by kernel_rfl) (by kernel_rfl)) ?_
  intro W base args ds gs before hval0 hW hcnd _
  have hval : ∀ (j : Nat) t v, Try.f18.params[j]? = some t → args[j]? = some v → Value.okWide Try.prog W .any base t v := hval0
  have hW' := hW
  obtain ⟨p, q, hA0, hV, rfl, hfz, hnd⟩ := hW
  have hA : DataW.TrodAll enc Try.prog W 0 (fun _ => true) true Try.f18.params.toList args.toList ds p := hA0
  rw [Try.params18] at hA hval
  obtain ⟨v0, vs0, d0, ds0, p0, q0, hargs, rfl, rfl, h0, r0⟩ := trodAll_cons hA
  obtain ⟨rfl, rfl, rfl⟩ := trodAll_nil r0
  obtain rfl : args = #[v0] := by cases args; simp_all
  obtain ⟨rfl, rfl⟩ := trodVars_none hV
  obtain ⟨a0, len0, cap0, rfl⟩ := okWide_slice Try.underlying62 (hval 0 62 v0 rfl rfl)
  have k0 := h0
  have lt0 : ∀ x ∈ p0, x.block < W.heap.size := by obtain ⟨m, hm⟩ := k0; exact DataW.trod_lt m _ _ _ hm
  obtain ⟨z0, w0⟩ : ∃ zs, BsAt W.heap.size W a0 len0 cap0 zs := by
    obtain ⟨fuel, hf⟩ := h0
    exact bs_of hf
  clear hA0 hval0
  refine (walk a0 len0 cap0 z0 W w0).mono fun e W' ⟨he, bel⟩ => ?_
  subst he
  exact ⟨_, rfl, _, _, _, [], _, [], hW', trodAll_mk1 (shut_bool Try.underlying4 _), (trodAll_cons_mk (Below.trod laidOut (by kernel_rfl) (of_decide_eq_true (by kernel_rfl)) k0 bel lt0) trodAll_mk0), rfl, bel.frame _, fun h => by cases h⟩

theorem closed : joinedFacts Try.prog 18 Try.f18 Rows.fnBraidActSpec Rows.fnBraidActRow = true :=
  ((restOf Try.prog 18 Try.f18 Rows.fnBraidActSpec Rows.fnBraidActRow).2 enter_is lifts_is make_is).trans (by kernel_rfl)
theorem over : Rows.fnBraidActRow.holds Try.pinned (OpenSpec.ofChange Rows.fnBraidActSpec) := by
  first
  | exact OpenClaim.holds_of_wide_leaving 18 Try.f18 rfl rfl rfl rfl rfl rfl rfl ⟨rfl, rfl, rfl, rfl, rfl⟩ rfl rfl rfl rfl rfl (by kernel_rfl) Try.func18 closed
      (of_decide_eq_true (by kernel_rfl)) (by unfold Func.isWrapper; first | (rw [if_pos (by decide +kernel)]; kernel_rfl) | (rw [if_neg (by decide +kernel)]; exact ⟨rfl, rfl⟩))
      (fun os started H enc _ => leaving_of_handed (lifted os started H enc))
  | exact OpenClaim.holds_of_wide 18 Try.f18 rfl rfl rfl rfl rfl rfl rfl ⟨rfl, rfl, rfl, rfl, rfl⟩ rfl rfl rfl rfl rfl (by kernel_rfl) Try.func18 closed
      (of_decide_eq_true (by kernel_rfl)) (by unfold Func.isWrapper; first | (rw [if_pos (by decide +kernel)]; kernel_rfl) | (rw [if_neg (by decide +kernel)]; exact ⟨rfl, rfl⟩))
      (fun os started H enc _ => lifted os started H enc)

theorem proved : Rows.FnBraidActSaid := over
#print axioms proved
end Go.Proofs.Ytaaeiogdhmiaaaa.LBraidActP

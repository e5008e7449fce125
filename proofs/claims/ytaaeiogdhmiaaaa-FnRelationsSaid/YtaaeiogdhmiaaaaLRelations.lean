/-
  Proves 'Rows.FnRelationsSaid': for every list of bytes, the program's BraidIn of the braid that the model draws from it answers as the model's, and where it holds the braid with 'xyx' and the braid with 'yxy' behind it act the same on 'ab'.
  Conditions: none beyond the row's own.
-/
import Derived.Test.YtaaeiogdhmiaaaaRows
import Derived.Test.YtaaeiogdhmiaaaaKf
import Derived.Test.YtaaeiogdhmiaaaaKl
import Derived.Test.YtaaeiogdhmiaaaaBd
import Derived.Test.YtaaeiogdhmiaaaaCv
import Derived.Test.YtaaeiogdhmiaaaaCg
import Derived.Test.YtaaeiogdhmiaaaaCq
import Derived.Test.YtaaeiogdhmiaaaaCh
import Derived.Test.YtaaeiogdhmiaaaaCc
import Derived.WalkKit
import Derived.ProofKit
import Derived.OpenShut
import Derived.ShutString
import Derived.ChangeOld
import Derived.Below
namespace Go.Proofs.Ytaaeiogdhmiaaaa.LRelations
open Go.ChangeShapes Go.WideShapes Go.ChangeAt Go.RowKit
open Go.ChangeMaps (open_string shut_string)
set_option linter.unusedVariables false

theorem own : ownKnob Try.prog.godebug = none := by kernel_rfl
theorem laidOut : laidOutB Try.prog = true := by kernel_rfl

set_option maxRecDepth 100000 in
set_option maxHeartbeats 4000000 in
theorem walk (a0 : Option Addr) (len0 cap0 : Nat) (z0 : List Int) (w : World) (w0 : BsAt w.heap.size w a0 len0 cap0 z0) :
    Calls Try.prog 14 #[.slice a0 len0 cap0] w fun e w' => e = .returned (.bool true) ∧ Below w.heap.size w w' := by
  have HDr := Lib.hid (drawBraidIn_any a0 len0 cap0 z0 w w0)
  have hfit := w0.fit
  unfold maxLen at hfit
  clear w0
  by_cases hlong : ¬ len0 ≤ 1048576
  · have hd : decide ((1048576 : Int) < (len0 : Int)) = true := decide_eq_true (by omega)
    go_enter Try.func14, Try.ntmps14
    go_wp2_with fail
    go_ret
    exact ⟨rfl, Below.refl _ _⟩
  have hd : decide ((1048576 : Int) < (len0 : Int)) = false := decide_eq_false (by omega)
  go_enter Try.func14, Try.ntmps14
  go_wp2_with fail
  refine HDr.out.mono ?_
  rintro e w1 ⟨⟨m, s, rfl, hm, hs⟩, hb1⟩
  obtain ⟨V, hV⟩ : ∃ V, w1.alloc (.cells #[.int .i64 m, .string s] 26) = V := ⟨_, rfl⟩
  have HV := Lib.hid (oneBox hV)
  have HVE := Lib.hid hV
  have HBV := Lib.hid (hb1.trans (HV.out.1.mono hb1.size))
  obtain ⟨r, hr⟩ : ∃ r, braidB m s = r := ⟨_, rfl⟩
  have HR := Lib.hid hr
  have HSM : Hid (s.size ≤ maxLen) := Lib.hid (by unfold maxLen; omega)
  have hrr : (r != r) = false := by cases r <;> rfl
  have hrq : (r == r) = true := by cases r <;> rfl
  clear hV hb1 hr
  go_wp2_with fail
  rw [HVE.out]
  refine (iBraidIn_any m s r V HSM.out HR.out).mono ?_
  rintro e w2 ⟨rfl, hb2⟩
  have HK2 := Lib.hid hb2
  clear hb2
  obtain ⟨⟨c0, c1⟩, _, _⟩ := boxOf2 HV.out.2.2 HK2.out
  go_wp2_with fail
  refine (sBraidIn_any m s r w2 HSM.out HR.out).mono ?_
  rintro e w3 ⟨rfl, hb3⟩
  have HK3 := Lib.hid (HK2.out.trans (hb3.mono HK2.out.size))
  clear hb3 c0 c1
  cases r with
  | false =>
    go_wp2
    go_ret
    exact ⟨rfl, HBV.out.trans (HK3.out.mono HBV.out.size)⟩
  | true =>
    have hbr := HR.out
    obtain ⟨N, rfl⟩ : ∃ N : Nat, m = (N : Int) := ⟨m.toNat, by omega⟩
    obtain ⟨hN, hpl⟩ := braid_pl hbr
    obtain ⟨_, _, pA⟩ := braid_all hbr
    have HPL : Hid (∀ c ∈ s.data.toList, brB c = true) := Lib.hid (fun c hc => (pA c hc).1)
    obtain ⟨hN1, hN2⟩ := hN
    clear hbr hpl pA
    obtain ⟨⟨c0, c1⟩, _, _⟩ := boxOf2 HV.out.2.2 HK3.out
    by_cases h3 : N < 3
    · go_wp2
      go_ret
      exact ⟨rfl, HBV.out.trans (HK3.out.mono HBV.out.size)⟩
    · by_cases h27 : 27 < s.size
      · exact absurd h27 (by omega)
      · obtain ⟨s1, hs1⟩ : ∃ z, s ++ { data := #[120, 121, 120] } = z := ⟨_, rfl⟩
        obtain ⟨s2, hs2⟩ : ∃ z, s ++ { data := #[121, 120, 121] } = z := ⟨_, rfl⟩
        have e1 : s1.data.toList = s.data.toList ++ [120, 121, 120] := by rw [← hs1, append_toList]
        have e2 : s2.data.toList = s.data.toList ++ [121, 120, 121] := by rw [← hs2, append_toList]
        have HS1 : Hid (s1.size ≤ maxLen) := Lib.hid (by rw [← hs1, ByteArray.size_append]; have : ({ data := #[120, 121, 120] } : ByteArray).size = 3 := rfl; unfold maxLen; omega)
        have HS2 : Hid (s2.size ≤ maxLen) := Lib.hid (by rw [← hs2, ByteArray.size_append]; have : ({ data := #[121, 120, 121] } : ByteArray).size = 3 := rfl; unfold maxLen; omega)
        obtain ⟨t1, b1, ht1, p1, _, _⟩ := act_shape (wordB ({ data := #[97, 98] } : ByteArray).data.toList && braidB (N : Int) s1) (actL s1.data.toList ({ data := #[97, 98] } : ByteArray).data.toList)
        obtain ⟨t2, b2, ht2, p2, _, _⟩ := act_shape (wordB ({ data := #[97, 98] } : ByteArray).data.toList && braidB (N : Int) s2) (actL s2.data.toList ({ data := #[97, 98] } : ByteArray).data.toList)
        have hw : ({ data := #[97, 98] } : ByteArray).size ≤ maxLen := by decide
        have ha1 := fun w : World => iBraidAct_any (N : Int) s1 { data := #[97, 98] } w HS1.out hw
        have ha2 := fun w : World => iBraidAct_any (N : Int) s2 { data := #[97, 98] } w HS2.out hw
        rw [ht1] at ha1
        rw [ht2] at ha2
        have HA1 := Lib.hid ha1
        have HA2 := Lib.hid ha2
        have HEQ : Hid (b1 = true → b2 = true → t1 = t2) := Lib.hid (fun h1 h2 => by
          have q1 := actL_F _ _ _ (p1 h1).2
          have q2 := actL_F _ _ _ (p2 h2).2
          rw [e1] at q1
          rw [e2, ← act_rel _ _ HPL.out (by decide) ((red_iff _).1 (by decide))] at q2
          exact ba_eq (q1.trans q2.symm))
        have HE1 := Lib.hid hs1
        have HE2 := Lib.hid hs2
        clear hs1 hs2 e1 e2 ht1 ht2 p1 p2 ha1 ha2 hw
        go_wp2_with fail
        rw [HE1.out]
        refine (lawBraid_any (N : Int) s1 w3).mono ?_
        rintro e w4 ⟨rfl, hb4⟩
        have HK4 := Lib.hid (HK3.out.trans (hb4.mono HK3.out.size))
        clear hb4 c0 c1
        obtain ⟨⟨c0, c1⟩, _, _⟩ := boxOf2 HV.out.2.2 HK4.out
        go_wp2_with fail
        refine (HA1.out _).mono ?_
        rintro e w5 ⟨rfl, hb5⟩
        have HK5 := Lib.hid (HK4.out.trans (hb5.mono HK4.out.size))
        clear hb5 c0 c1
        obtain ⟨⟨c0, c1⟩, _, _⟩ := boxOf2 HV.out.2.2 HK5.out
        go_wp2_with fail
        rw [HE2.out]
        refine (lawBraid_any (N : Int) s2 w5).mono ?_
        rintro e w6 ⟨rfl, hb6⟩
        have HK6 := Lib.hid (HK5.out.trans (hb6.mono HK5.out.size))
        clear hb6 c0 c1
        go_wp2_with fail
        refine (HA2.out _).mono ?_
        rintro e w7 ⟨rfl, hb7⟩
        have HK7 := Lib.hid (HK6.out.trans (hb7.mono HK6.out.size))
        clear hb7
        cases b1 with
        | false =>
          go_wp2
          go_ret
          exact ⟨rfl, HBV.out.trans (HK7.out.mono HBV.out.size)⟩
        | true =>
          cases b2 with
          | false =>
            go_wp2
            go_ret
            exact ⟨rfl, HBV.out.trans (HK7.out.mono HBV.out.size)⟩
          | true =>
            obtain rfl := HEQ.out rfl rfl
            go_wp2
            go_ret
            exact ⟨rfl, HBV.out.trans (HK7.out.mono HBV.out.size)⟩

set_option maxRecDepth 100000 in
theorem lifted (os : Os) (started : os.Started) (H : Type) (enc : TypeId × Value → H) :
    ReturnsInHanded {} Try.checked os 14 .any (Rows.fnRelationsSpec.pre6 enc Try.prog Try.f14 Rows.fnRelationsRow.domain false) (Rows.fnRelationsSpec.post enc Try.prog Try.f14 false true false false) := by
  refine returnsInHanded_of_change (C := Try.checked) own started (by kernel_rfl) Try.func14
    (ChangeSpec.witness6 (enc := enc) (C := Try.checked) false ⟨#[], #[.slice none 0 0], []⟩ 8 (by kernel_rfl) (by kernel_rfl) (by kernel_rfl) (by kernel_rfl)) ?_
  intro W base args ds gs before hval0 hW hcnd _
  have hval : ∀ (j : Nat) t v, Try.f14.params[j]? = some t → args[j]? = some v → Value.okWide Try.prog W .any base t v := hval0
  have hW' := hW
  obtain ⟨p, q, hA0, hV, rfl, hfz, hnd⟩ := hW
  have hA : DataW.TrodAll enc Try.prog W 0 (fun _ => true) true Try.f14.params.toList args.toList ds p := hA0
  rw [Try.params14] at hA hval
  obtain ⟨v0, vs0, d0, ds0, p0, q0, hargs, rfl, rfl, h0, r0⟩ := trodAll_cons hA
  obtain ⟨rfl, rfl, rfl⟩ := trodAll_nil r0
  obtain rfl : args = #[v0] := by cases args; simp_all
  obtain ⟨rfl, rfl⟩ := trodVars_none hV
  obtain ⟨a0, len0, cap0, rfl⟩ := okWide_slice Try.underlying62 (hval 0 62 v0 rfl rfl)
  have k0 := h0
  have lt0 : ∀ x ∈ p0, x.block < W.heap.size := by obtain ⟨m, hm⟩ := k0; exact DataW.trod_lt m _ _ _ hm
  obtain ⟨z0, w0⟩ : ∃ zs, BsAt W.heap.size W a0 len0 cap0 zs := by
    obtain ⟨fuel, hf⟩ := h0
    exact bs_of hf
  clear hA0 hval0
  refine (walk a0 len0 cap0 z0 W w0).mono fun e W' ⟨he, bel⟩ => ?_
  subst he
  exact ⟨_, rfl, _, _, _, [], _, [], hW', trodAll_mk1 (shut_bool Try.underlying4 _), (trodAll_cons_mk (Below.trod laidOut (by kernel_rfl) (of_decide_eq_true (by kernel_rfl)) k0 bel lt0) trodAll_mk0), rfl, bel.frame _, fun h => by cases h⟩

theorem closed : joinedFacts Try.prog 14 Try.f14 Rows.fnRelationsSpec Rows.fnRelationsRow = true :=
  ((restOf Try.prog 14 Try.f14 Rows.fnRelationsSpec Rows.fnRelationsRow).2 enter_is lifts_is make_is).trans (by kernel_rfl)
theorem over : Rows.fnRelationsRow.holds Try.pinned (OpenSpec.ofChange Rows.fnRelationsSpec) := by
  first
  | exact OpenClaim.holds_of_wide_leaving 14 Try.f14 rfl rfl rfl rfl rfl rfl rfl ⟨rfl, rfl, rfl, rfl, rfl⟩ rfl rfl rfl rfl rfl (by kernel_rfl) Try.func14 closed
      (of_decide_eq_true (by kernel_rfl)) (by unfold Func.isWrapper; first | (rw [if_pos (by decide +kernel)]; kernel_rfl) | (rw [if_neg (by decide +kernel)]; exact ⟨rfl, rfl⟩))
      (fun os started H enc _ => leaving_of_handed (lifted os started H enc))
  | exact OpenClaim.holds_of_wide 14 Try.f14 rfl rfl rfl rfl rfl rfl rfl ⟨rfl, rfl, rfl, rfl, rfl⟩ rfl rfl rfl rfl rfl (by kernel_rfl) Try.func14 closed
      (of_decide_eq_true (by kernel_rfl)) (by unfold Func.isWrapper; first | (rw [if_pos (by decide +kernel)]; kernel_rfl) | (rw [if_neg (by decide +kernel)]; exact ⟨rfl, rfl⟩))
      (fun os started H enc _ => lifted os started H enc)

theorem proved : Rows.FnRelationsSaid := over
#print axioms proved
end Go.Proofs.Ytaaeiogdhmiaaaa.LRelations

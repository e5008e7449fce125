/-
  Proves 'Rows.FnBraidSumSaid': for every list of bytes, the program's BraidSum of the braid that the model draws from it answers as the model's, and where it is told it is even exactly where the permutation is.
  Conditions: none beyond the row's own.
-/
import Derived.Test.YtaaeiogdhmiaaaaRows
import Derived.Test.YtaaeiogdhmiaaaaKf
import Derived.Test.YtaaeiogdhmiaaaaKl
import Derived.Test.YtaaeiogdhmiaaaaCt
import Derived.Test.YtaaeiogdhmiaaaaCv
import Derived.Test.YtaaeiogdhmiaaaaCk
import Derived.WalkKit
import Derived.ProofKit
import Derived.OpenShut
import Derived.ShutString
import Derived.ChangeOld
import Derived.Below
namespace Go.Proofs.Ytaaeiogdhmiaaaa.LBraidSumP
open Go.ChangeShapes Go.WideShapes Go.ChangeAt Go.RowKit
open Go.ChangeMaps (open_string shut_string)
set_option linter.unusedVariables false

theorem own : ownKnob Try.prog.godebug = none := by kernel_rfl
theorem laidOut : laidOutB Try.prog = true := by kernel_rfl

set_option maxRecDepth 100000 in
set_option maxHeartbeats 4000000 in
theorem walk (a0 : Option Addr) (len0 cap0 : Nat) (z0 : List Int) (w : World) (w0 : BsAt w.heap.size w a0 len0 cap0 z0) :
    Calls Try.prog 20 #[.slice a0 len0 cap0] w fun e w' => e = .returned (.bool true) ∧ Below w.heap.size w w' := by
  have HDr := Lib.hid (drawBraidSum_any a0 len0 cap0 z0 w w0)
  have hfit := w0.fit
  unfold maxLen at hfit
  clear w0
  by_cases hlong : ¬ len0 ≤ 1048576
  · have hd : decide ((1048576 : Int) < (len0 : Int)) = true := decide_eq_true (by omega)
    go_enter Try.func20, Try.ntmps20
    go_wp2_with fail
    go_ret
    exact ⟨rfl, Below.refl _ _⟩
  have hd : decide ((1048576 : Int) < (len0 : Int)) = false := decide_eq_false (by omega)
  go_enter Try.func20, Try.ntmps20
  go_wp2_with fail
  refine HDr.out.mono ?_
  rintro e w1 ⟨⟨m, s, rfl, hm, hs⟩, hb1⟩
  obtain ⟨V, hV⟩ : ∃ V, w1.alloc (.cells #[.int .i64 m, .string s] 26) = V := ⟨_, rfl⟩
  have HV := Lib.hid (oneBox hV)
  have HVE := Lib.hid hV
  have HBV := Lib.hid (hb1.trans (HV.out.1.mono hb1.size))
  have HSM : Hid (s.size ≤ maxLen) := Lib.hid (by unfold maxLen; omega)
  clear hV hb1
  obtain ⟨b, hb⟩ : ∃ b, braidB m s = b := ⟨_, rfl⟩
  have hsum := fun w : World => sBraidSum_any m s w HSM.out
  have hisum := fun w : World => iBraidSum_any m s w HSM.out
  obtain ⟨y, hy⟩ : ∃ y, (if b = true then sgSum s.data.toList else 0) = y := ⟨_, rfl⟩
  unfold numR at hsum hisum
  rw [hb, hy] at hsum hisum
  have hyy : (y != y) = false := by simp
  have hyq : (y == y) = true := by simp
  have hbb : (b != b) = false := by cases b <;> rfl
  have HS := Lib.hid hsum
  have HI := Lib.hid hisum
  have HB := Lib.hid hb
  have HY := Lib.hid hy
  clear hsum hisum hb hy
  go_wp2_with fail
  rw [HVE.out]
  refine (HI.out V).mono ?_
  rintro e w2 ⟨rfl, hb2⟩
  have HK2 := Lib.hid hb2
  clear hb2
  obtain ⟨⟨c0, c1⟩, _, _⟩ := boxOf2 HV.out.2.2 HK2.out
  go_wp2_with fail
  refine (HS.out w2).mono ?_
  rintro e w3 ⟨rfl, hb3⟩
  have HK3 := Lib.hid (HK2.out.trans (hb3.mono HK2.out.size))
  clear hb3 c0 c1
  cases b with
  | false =>
    go_wp2
    go_ret
    exact ⟨rfl, HBV.out.trans (HK3.out.mono HBV.out.size)⟩
  | true =>
    have hbr := HB.out
    have hyv : sgSum s.data.toList = y := by have := HY.out; rwa [if_pos rfl] at this
    have hbd := sgSum_bnd s.data.toList
    rw [hyv, show s.data.toList.length = s.size by simp] at hbd
    obtain ⟨N, rfl⟩ : ∃ N : Nat, m = (N : Int) := ⟨m.toNat, by omega⟩
    obtain ⟨hN, hpl⟩ := braid_pl hbr
    have hpar := par_braid hN s.data.toList hpl
    have HP := Lib.hid (fun w => iBraidPerm_yes N s w hbr)
    obtain ⟨z, hz⟩ : ∃ z, permZ N s.data.toList = z := ⟨_, rfl⟩
    have hzl : z.length = N := by rw [← hz]; exact permZ_len _ _
    rw [hz, hyv, invN_eq, hzl] at hpar
    rw [hz] at HP
    have HZL := Lib.hid hzl
    have HPAR := Lib.hid hpar
    obtain ⟨hN1, hN2⟩ := hN
    have hy1 : -5 ≤ y := by omega
    have hy2 : y ≤ 5 := by omega
    clear hbr hyv hpl hpar hz hzl hbd
    obtain ⟨⟨c0, c1⟩, _, _⟩ := boxOf2 HV.out.2.2 HK3.out
    go_wp2_with fail
    refine (HP.out w3).mono ?_
    rintro e w4 ⟨v, rfl, hrow, hb4⟩
    have HK4 := Lib.hid (HK3.out.trans (hb4.mono HK3.out.size))
    obtain ⟨g, cap, rfl⟩ : ∃ g cap, v = .slice (some ⟨g, 0, none⟩) N cap := by
      rcases hrow.2 with ⟨_, h0⟩ | ⟨g, cap, cur, rfl, _⟩
      · exact absurd h0 (by rw [HZL.out]; omega)
      · exact ⟨g, cap, by rw [HZL.out]⟩
    have hcell : ∀ X, (∃ q, X = w4.drewN q) → ∀ i, i < N → X.cell? ⟨g, i, none⟩ = some (.int .i64 (z.getD i 0)) := fun X hX i hi => by
      obtain ⟨q, rfl⟩ := hX
      have h1 : i < z.length := by rw [HZL.out]; exact hi
      have h2 : w4.cell? ⟨g, i, none⟩ = some (.int .i64 (z.getD i 0)) := by
        rw [World.ownsRow.cellAt (show w4.ownsRow w3.heap.size 3 1 (.slice (some ⟨g, 0, none⟩) N cap) N (intsV z) from by have := hrow; unfold IntRow at this; rwa [HZL.out] at this) i (by omega)]
        simp [intsV, List.getElem?_eq_getElem h1]
      exact h2
    have HCE := Lib.hid hcell
    clear hcell hrow hb4 c0 c1
    go_wp2_with fail
    go_loopw [10, 11, 12] (fun n i k X => ∃ (j c : Nat) (u : Value), j ≤ N ∧ i = .int .i64 (j : Int) ∧ k = u ∧ n = .int .i64 (c : Int) ∧ c ≤ 16 ∧ Hid (c = cntI z j) ∧ ∃ q, X = w4.drewN q) (fun _ i _ _ => N - (intOf i).toNat)
    case atStart => exact ⟨0, 0, _, Nat.zero_le _, rfl, rfl, rfl, by omega, Lib.hid rfl, 0, rfl⟩
    case round =>
      obtain ⟨j, c, u, hj, rfl, rfl, rfl, hc16, HC, q, hq⟩ := hrel
      have HQ : Hid (∃ q, wr = w4.drewN q) := Lib.hid ⟨q, hq⟩
      clear hq
      obtain ⟨U, hU⟩ : ∃ U, U = wr := ⟨_, rfl⟩
      rw [← hU] at HQ ⊢
      clear hU
      by_cases hlt : j < N
      · have hcs := cntI_succ z j
        have hcb := cntI_le z (j + 1) (by omega)
        have HCS := Lib.hid hcs
        clear hcs
        go_wp2_with fail
        go_loopw [10, 12] (fun n k X => ∃ (p d : Nat), p ≤ j ∧ k = .int .i64 (p : Int) ∧ n = .int .i64 (d : Int) ∧ d ≤ 16 + 4 ∧ Hid (d = c + cntK z j p) ∧ ∃ q, X = w4.drewN q) (fun _ k _ => j - (intOf k).toNat)
        case atStart => exact ⟨0, c, Nat.zero_le _, rfl, rfl, by omega, Lib.hid rfl, HQ.out⟩
        case round =>
          obtain ⟨p, d, hp, rfl, rfl, hd20, HD, q2, hq2⟩ := hrel
          by_cases hltp : p < j
          · have hcj := HCE.out wr ⟨q2, hq2⟩ j hlt
            have hcp := HCE.out wr ⟨q2, hq2⟩ p (by omega)
            have hks := cntK_succ z j p
            have hkl := cntK_le z j (p + 1)
            have hdc := HD.out
            obtain ⟨xj, hxj⟩ : ∃ x, z.getD j 0 = x := ⟨_, rfl⟩
            obtain ⟨xp, hxp⟩ : ∃ x, z.getD p 0 = x := ⟨_, rfl⟩
            rw [hxj] at hcj hks
            rw [hxp] at hcp hks
            have HQ2 : Hid (∃ q, wr = w4.drewN q) := Lib.hid ⟨q2, hq2⟩
            have hjN : (j : Int) < (N : Int) := by omega
            have hpN : (p : Int) < (N : Int) := by omega
            clear hq2 hxj hxp
            by_cases hgt : xj < xp
            · rw [if_pos hgt] at hks
              have HDD : Hid (d + 1 = c + cntK z j (p + 1)) := Lib.hid (by rw [hks, hdc]; omega)
              have hdb : d + 1 ≤ 16 + 4 := by rw [HDD.out]; omega
              have hdd : decide (xj < xp) = true := decide_eq_true hgt
              clear hks hkl hdc
              go_wp2
              go_quiet (fail)
              go_wp2
              go_roundw
              case rel => exact ⟨p + 1, d + 1, by omega, by go_num, by go_num, hdb, HDD, by obtain ⟨q, h⟩ := HQ2.out; exact ⟨q + nq, by rw [h, World.drewN_drewN]⟩⟩
              case measure => simp [intOf]; omega
            · rw [if_neg hgt] at hks
              have HDD : Hid (d = c + cntK z j (p + 1)) := Lib.hid (by rw [hks, hdc]; omega)
              have hdd : decide (xj < xp) = false := decide_eq_false hgt
              clear hks hkl hdc
              go_wp2
              go_quiet (fail)
              go_wp2
              go_roundw
              case rel => exact ⟨p + 1, d, by omega, by go_num, rfl, hd20, HDD, by obtain ⟨q, h⟩ := HQ2.out; exact ⟨q + nq, by rw [h, World.drewN_drewN]⟩⟩
              case measure => simp [intOf]; omega
          · obtain rfl : p = j := by omega
            have HDD : Hid (d = cntI z (p + 1)) := Lib.hid (by rw [HCS.out, HD.out, HC.out])
            have hdb : d ≤ 16 := by rw [HDD.out]; omega
            have HQ2 : Hid (∃ q, wr = w4.drewN q) := Lib.hid ⟨q2, hq2⟩
            clear hq2
            go_wp2
            go_roundw
            case rel => exact ⟨p + 1, d, _, by omega, by go_num, rfl, rfl, hdb, HDD, HQ2.out⟩
            case measure => simp [intOf]; omega
      · obtain rfl : j = N := by omega
        have hmod : Int.tmod ((c : Int) + y) 2 = 0 := by
          have h1 := HPAR.out
          rw [← HC.out] at h1
          obtain ⟨t, ht⟩ : ∃ t, (c : Int) + y = 2 * t := ⟨((c : Int) + y) / 2, by omega⟩
          rw [ht]; exact Int.mul_tmod_right 2 t
        have HQ2 := HQ
        go_wp2
        go_ret
        refine ⟨rfl, ?_⟩
        obtain ⟨q, h⟩ := HQ2.out
        rw [h]
        exact below_drewN (HBV.out.trans (HK4.out.mono HBV.out.size)) _

set_option maxRecDepth 100000 in
theorem lifted (os : Os) (started : os.Started) (H : Type) (enc : TypeId × Value → H) :
    ReturnsInHanded {} Try.checked os 20 .any (Rows.fnBraidSumSpec.pre6 enc Try.prog Try.f20 Rows.fnBraidSumRow.domain false) (Rows.fnBraidSumSpec.post enc Try.prog Try.f20 false true false false) := by
  refine returnsInHanded_of_change (C := Try.checked) own started (by kernel_rfl) Try.func20
    (ChangeSpec.witness6 (enc := enc) (C := Try.checked) false ⟨#[], #[.slice none 0 0], []⟩ 8 (by kernel_rfl) (by kernel_rfl) (by kernel_rfl) (by kernel_rfl)) ?_
  intro W base args ds gs before hval0 hW hcnd _
  have hval : ∀ (j : Nat) t v, Try.f20.params[j]? = some t → args[j]? = some v → Value.okWide Try.prog W .any base t v := hval0
  have hW' := hW
  obtain ⟨p, q, hA0, hV, rfl, hfz, hnd⟩ := hW
  have hA : DataW.TrodAll enc Try.prog W 0 (fun _ => true) true Try.f20.params.toList args.toList ds p := hA0
  rw [Try.params20] at hA hval
  obtain ⟨v0, vs0, d0, ds0, p0, q0, hargs, rfl, rfl, h0, r0⟩ := trodAll_cons hA
  obtain ⟨rfl, rfl, rfl⟩ := trodAll_nil r0
  obtain rfl : args = #[v0] := by cases args; simp_all
  obtain ⟨rfl, rfl⟩ := trodVars_none hV
  obtain ⟨a0, len0, cap0, rfl⟩ := okWide_slice Try.underlying62 (hval 0 62 v0 rfl rfl)
  have k0 := h0
  have lt0 : ∀ x ∈ p0, x.block < W.heap.size := by obtain ⟨m, hm⟩ := k0; exact DataW.trod_lt m _ _ _ hm
  obtain ⟨z0, w0⟩ : ∃ zs, BsAt W.heap.size W a0 len0 cap0 zs := by
    obtain ⟨fuel, hf⟩ := h0
    exact bs_of hf
  clear hA0 hval0
  refine (walk a0 len0 cap0 z0 W w0).mono fun e W' ⟨he, bel⟩ => ?_
  subst he
  exact ⟨_, rfl, _, _, _, [], _, [], hW', trodAll_mk1 (shut_bool Try.underlying4 _), (trodAll_cons_mk (Below.trod laidOut (by kernel_rfl) (of_decide_eq_true (by kernel_rfl)) k0 bel lt0) trodAll_mk0), rfl, bel.frame _, fun h => by cases h⟩

theorem closed : joinedFacts Try.prog 20 Try.f20 Rows.fnBraidSumSpec Rows.fnBraidSumRow = true :=
  ((restOf Try.prog 20 Try.f20 Rows.fnBraidSumSpec Rows.fnBraidSumRow).2 enter_is lifts_is make_is).trans (by kernel_rfl)
theorem over : Rows.fnBraidSumRow.holds Try.pinned (OpenSpec.ofChange Rows.fnBraidSumSpec) := by
  first
  | exact OpenClaim.holds_of_wide_leaving 20 Try.f20 rfl rfl rfl rfl rfl rfl rfl ⟨rfl, rfl, rfl, rfl, rfl⟩ rfl rfl rfl rfl rfl (by kernel_rfl) Try.func20 closed
      (of_decide_eq_true (by kernel_rfl)) (by unfold Func.isWrapper; first | (rw [if_pos (by decide +kernel)]; kernel_rfl) | (rw [if_neg (by decide +kernel)]; exact ⟨rfl, rfl⟩))
      (fun os started H enc _ => leaving_of_handed (lifted os started H enc))
  | exact OpenClaim.holds_of_wide 20 Try.f20 rfl rfl rfl rfl rfl rfl rfl ⟨rfl, rfl, rfl, rfl, rfl⟩ rfl rfl rfl rfl rfl (by kernel_rfl) Try.func20 closed
      (of_decide_eq_true (by kernel_rfl)) (by unfold Func.isWrapper; first | (rw [if_pos (by decide +kernel)]; kernel_rfl) | (rw [if_neg (by decide +kernel)]; exact ⟨rfl, rfl⟩))
      (fun os started H enc _ => lifted os started H enc)

theorem proved : Rows.FnBraidSumSaid := over
#print axioms proved
end Go.Proofs.Ytaaeiogdhmiaaaa.LBraidSumP

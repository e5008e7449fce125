/-
  Proves 'Rows.FnSumsSaid': for every list of bytes, the sums of letters of the inverse of the word that the model draws from it are opposite.
  Conditions: none beyond the row's own.
-/
import Derived.Test.YtjmjkfoibmbnhaaRows
import Derived.WalkKit
import Derived.ProofKit
import Derived.OpenShut
import Derived.ShutString
import Derived.ChangeOld
import Derived.Below
import Derived.Test.YtjmjkfoibmbnhaaBa
import Derived.Test.YtjmjkfoibmbnhaaBb
import Derived.Test.YtjmjkfoibmbnhaaBc

namespace Go.Proofs.Ytjmjkfoibmbnhaa.LSums
open Go.ChangeShapes Go.WideShapes Go.ChangeAt Go.RowKit
open Go.ChangeMaps (open_string shut_string)
set_option linter.unusedVariables false

theorem own : ownKnob Try.prog.godebug = none := by kernel_rfl
theorem laidOut : laidOutB Try.prog = true := by kernel_rfl

set_option maxRecDepth 100000 in
set_option maxHeartbeats 3000000 in
theorem walk (a0 : Option Addr) (len0 cap0 : Nat) (z0 : List Int) (w : World) (w0 : BsAt w.heap.size w a0 len0 cap0 z0) :
    Calls Try.prog 10 #[.slice a0 len0 cap0] w fun e w' => e = .returned (.bool true) ∧ Below w.heap.size w w' := by
  have HDr := Lib.hid (drawWordSums_any a0 len0 cap0 z0 w w0)
  have hfit := w0.fit
  unfold maxLen at hfit
  clear w0
  by_cases hlong : ¬ len0 ≤ 1048576
  · have hd : decide ((1048576 : Int) < (len0 : Int)) = true := decide_eq_true (by omega)
    go_enter Try.func10, Try.ntmps10
    go_wp2_with fail
    go_ret
    exact ⟨rfl, Below.refl _ _⟩
  have hd : decide ((1048576 : Int) < (len0 : Int)) = false := decide_eq_false (by omega)
  go_enter Try.func10, Try.ntmps10
  go_wp2_with fail
  refine HDr.out.mono ?_
  rintro e w1 ⟨⟨s, rfl, hs⟩, hb1⟩
  have HB1 := Lib.hid hb1
  have hsm : s.size ≤ maxLen := by unfold maxLen; omega
  clear hb1
  cases hw : wordB s.data.toList with
  | false =>
    have HW := Lib.hid hw
    clear hw
    go_wp2_with fail
    refine (iSums_f hsm HW.out _).mono ?_
    rintro e w2 ⟨⟨au, cu, rfl, hu⟩, hb2⟩
    have HU := Lib.hid hu
    have HB2 := Lib.hid (HB1.out.trans (hb2.mono HB1.out.size))
    clear hu hb2
    go_wp2_with fail
    refine (sSums_f hsm HW.out _).mono ?_
    rintro e w3 ⟨⟨av, cv, rfl, hv⟩, hb3⟩
    have HU3 := Lib.hid (HU.out.below hb3)
    have HV := Lib.hid hv
    have HB3 := Lib.hid (HB2.out.trans (hb3.mono HB2.out.size))
    clear hv hb3
    go_wp2_with fail
    refine (sameInts_yes au av cu cv 0 [] _ HU3.out HV.out).mono ?_
    rintro e w4 ⟨rfl, hb4⟩
    have HU4 := Lib.hid (HU3.out.below hb4)
    have HV4 := Lib.hid (HV.out.below hb4)
    have HB4 := Lib.hid (HB3.out.trans (hb4.mono HB3.out.size))
    clear hb4
    go_wp2_with fail
    refine (sameInts_yes au av cu cv 0 [] _ HU4.out HV4.out).mono ?_
    rintro e w5 ⟨rfl, hb5⟩
    have HB5 := Lib.hid (HB4.out.trans (hb5.mono HB4.out.size))
    clear hb5
    go_wp2
    go_ret
    exact ⟨rfl, HB5.out⟩
  | true =>
    obtain ⟨h1, h2, h3⟩ := (wordB_iff _).1 hw
    have hns := toList_size s
    obtain ⟨t, ht⟩ := is_of (backL s.data.toList)
    have hlt := letL_back _ h2
    have hsum : ∀ i, i < 4 → (sumsL t.data.toList).getD i 0 = 0 - (sumsL s.data.toList).getD i 0 := fun i hi => by
      unfold Is at ht
      rw [ht, sums_getD hlt i hi, sums_getD h2 i hi, sgL_back i _ h2]; omega
    have hbda : ∀ i, i < 4 → -20 ≤ (sumsL s.data.toList).getD i 0 ∧ (sumsL s.data.toList).getD i 0 ≤ 20 := fun i hi => by rw [sums_getD h2 i hi]; have := sgL_bnd i s.data.toList; omega
    have HT := Lib.hid ht
    have HW := Lib.hid hw
    have HTW : Hid (wordB t.data.toList = true) := Lib.hid (by unfold Is at ht; rw [ht]; exact word_back hw)
    have HS := Lib.hid hsum
    have HBA := Lib.hid hbda
    clear hw h1 h2 h3 hns ht hlt hsum hbda
    go_wp2_with fail
    refine (iSums_t HW.out _).mono ?_
    rintro e w2 ⟨⟨au, cu, rfl, hu⟩, hb2⟩
    have HU := Lib.hid hu
    have HB2 := Lib.hid (HB1.out.trans (hb2.mono HB1.out.size))
    clear hu hb2
    go_wp2_with fail
    refine (sSums_t HW.out _).mono ?_
    rintro e w3 ⟨⟨av, cv, rfl, hv⟩, hb3⟩
    have HU3 := Lib.hid (HU.out.below hb3)
    have HV := Lib.hid hv
    have HB3 := Lib.hid (HB2.out.trans (hb3.mono HB2.out.size))
    clear hv hb3
    go_wp2_with fail
    refine (sameInts_yes au av cu cv 4 _ _ HU3.out HV.out).mono ?_
    rintro e w4 ⟨rfl, hb4⟩
    have HU4 := Lib.hid (HU3.out.below hb4)
    have HB4 := Lib.hid (HB3.out.trans (hb4.mono HB3.out.size))
    clear hb4
    go_wp2_with fail
    refine (iTurned_t HW.out HT.out _).mono ?_
    rintro e w5 ⟨rfl, hb5⟩
    have HU5 := Lib.hid (HU4.out.below hb5)
    have HB5 := Lib.hid (HB4.out.trans (hb5.mono HB4.out.size))
    clear hb5
    go_wp2_with fail
    refine (iSums_t HTW.out _).mono ?_
    rintro e w6 ⟨⟨ax, cx, rfl, hx⟩, hb6⟩
    obtain ⟨gu, rfl, hgu, hcu⟩ := (HU5.out.below hb6).four
    obtain ⟨gx, rfl, hgx, hcx⟩ := hx.four
    have HCU := Lib.hid hcu
    have HCX := Lib.hid hcx
    have HB6 := Lib.hid (HB5.out.trans (hb6.mono HB5.out.size))
    clear hx hb6 hcu hcx
    go_wp2
    go_loopw [12] (fun i wr => ∃ k : Nat, k ≤ 4 ∧ i = .int .i64 k ∧ Below w6.heap.size w6 wr) (fun i _ => 4 - (intOf i).toNat)
    case atStart => exact ⟨0, Nat.zero_le _, rfl, Below.refl _ _⟩
    case round =>
      obtain ⟨k, hk, rfl, hB⟩ := hrel
      by_cases hlt : k < 4
      · have hki : (k : Int) < 4 := by omega
        obtain ⟨p, hp⟩ : ∃ p, (sumsL s.data.toList).getD k 0 = p := ⟨_, rfl⟩
        have d1 : wr.cell? ⟨gu, k, none⟩ = some (.int .i64 p) := by rw [← hp]; exact (hB.cell (p := ⟨gu, k, none⟩) hgu).trans (HCU.out k hlt)
        have d2 : wr.cell? ⟨gx, k, none⟩ = some (.int .i64 (0 - p)) := by rw [← hp, ← HS.out k hlt]; exact (hB.cell (p := ⟨gx, k, none⟩) hgx).trans (HCX.out k hlt)
        have hb1 := HBA.out k hlt
        rw [hp] at hb1
        have e1 : IntKind.i64.wrap (0 - p) = 0 - p := IntWalk.i64_in _ (by omega)
        clear hp
        go_wp2
        go_quiet (fail)
        go_wp2
        go_roundw
        case rel => exact ⟨k + 1, by omega, by go_num, below_drewN hB _⟩
        case measure => simp [intOf]; omega
      · have hB9 := HB6.out.trans (hB.mono HB6.out.size)
        go_wp2
        go_ret
        exact ⟨rfl, hB9⟩

set_option maxRecDepth 100000 in
theorem lifted (os : Os) (started : os.Started) (H : Type) (enc : TypeId × Value → H) :
    ReturnsInHanded {} Try.checked os 10 .any (Rows.fnSumsSpec.pre6 enc Try.prog Try.f10 Rows.fnSumsRow.domain false) (Rows.fnSumsSpec.post enc Try.prog Try.f10 false true false false) := by
  refine returnsInHanded_of_change (C := Try.checked) own started (by kernel_rfl) Try.func10
    (ChangeSpec.witness6 (enc := enc) (C := Try.checked) false ⟨#[], #[.slice none 0 0], []⟩ 8 (by kernel_rfl) (by kernel_rfl) (by kernel_rfl) (by kernel_rfl)) ?_
  intro W base args ds gs before hval0 hW hcnd _
  have hval : ∀ (j : Nat) t v, Try.f10.params[j]? = some t → args[j]? = some v → Value.okWide Try.prog W .any base t v := hval0
  have hW' := hW
  obtain ⟨p, q, hA0, hV, rfl, hfz, hnd⟩ := hW
  have hA : DataW.TrodAll enc Try.prog W 0 (fun _ => true) true Try.f10.params.toList args.toList ds p := hA0
  rw [Try.params10] at hA hval
  obtain ⟨v0, vs0, d0, ds0, p0, q0, hargs, rfl, rfl, h0, r0⟩ := trodAll_cons hA
  obtain ⟨rfl, rfl, rfl⟩ := trodAll_nil r0
  obtain rfl : args = #[v0] := by cases args; simp_all
  obtain ⟨rfl, rfl⟩ := trodVars_none hV
  obtain ⟨a0, len0, cap0, rfl⟩ := okWide_slice Try.underlying22 (hval 0 22 v0 rfl rfl)
  have k0 := h0
  have lt0 : ∀ x ∈ p0, x.block < W.heap.size := by obtain ⟨m, hm⟩ := k0; exact DataW.trod_lt m _ _ _ hm
  obtain ⟨z0, w0⟩ : ∃ zs, BsAt W.heap.size W a0 len0 cap0 zs := by
    obtain ⟨fuel, hf⟩ := h0
    exact bs_of hf
  clear hA0 hval0
  refine (walk a0 len0 cap0 z0 W w0).mono fun e W' ⟨he, bel⟩ => ?_
  subst he
  exact ⟨_, rfl, _, _, _, [], _, [], hW', trodAll_mk1 (shut_bool Try.underlying4 _), (trodAll_cons_mk (Below.trod laidOut (by kernel_rfl) (of_decide_eq_true (by kernel_rfl)) k0 bel lt0) trodAll_mk0), rfl, bel.frame _, fun h => by cases h⟩

theorem over : Rows.fnSumsRow.holds Try.pinned (OpenSpec.ofChange Rows.fnSumsSpec) :=
  OpenClaim.holds_of_wide 10 Try.f10 rfl rfl rfl rfl rfl rfl rfl ⟨rfl, rfl, rfl, rfl, rfl⟩ rfl rfl rfl rfl rfl (by kernel_rfl) Try.func10 (by kernel_rfl)
    (of_decide_eq_true (by kernel_rfl)) (by unfold Func.isWrapper; first | (rw [if_pos (by decide +kernel)]; kernel_rfl) | (rw [if_neg (by decide +kernel)]; exact ⟨rfl, rfl⟩))
    (fun os started H enc _ => lifted os started H enc)

theorem proved : Rows.FnSumsSaid := over
#print axioms proved
end Go.Proofs.Ytjmjkfoibmbnhaa.LSums

/-
  Proves 'Rows.FnLowestSaid': for every list of bytes, the commutator of the two words that the model draws from it does not have depth one, and its coefficient of ab is the difference of the products of their sums of letters.
  Conditions: none beyond the row's own.
-/
import Derived.Test.YtebgcebjlbhjjabRows
import Derived.WalkKit
import Derived.ProofKit
import Derived.OpenShut
import Derived.ShutString
import Derived.ChangeOld
import Derived.Below
import Derived.Test.YtebgcebjlbhjjabBa
import Derived.Test.YtebgcebjlbhjjabBb
import Derived.Test.YtebgcebjlbhjjabBc
import Derived.Test.YtebgcebjlbhjjabBd
import Derived.Test.YtebgcebjlbhjjabBe

namespace Go.Proofs.Ytebgcebjlbhjjab.LLowest
open Go.ChangeShapes Go.WideShapes Go.ChangeAt Go.RowKit
open Go.ChangeMaps (open_string shut_string)
set_option linter.unusedVariables false

theorem own : ownKnob Try.prog.godebug = none := by kernel_rfl
theorem laidOut : laidOutB Try.prog = true := by kernel_rfl

set_option maxRecDepth 100000 in
set_option maxHeartbeats 6000000 in
theorem walk (a0 : Option Addr) (len0 cap0 : Nat) (z0 : List Int) (w : World) (w0 : BsAt w.heap.size w a0 len0 cap0 z0) :
    Calls Try.prog 11 #[.slice a0 len0 cap0] w fun e w' => e = .returned (.bool true) ∧ Below w.heap.size w w' := by
  have HDr := Lib.hid (drawComm_any a0 len0 cap0 z0 w w0)
  have hfit := w0.fit
  unfold maxLen at hfit
  clear w0
  by_cases hlong : ¬ len0 ≤ 1048576
  · have hd : decide ((1048576 : Int) < (len0 : Int)) = true := decide_eq_true (by omega)
    go_enter Try.func11, Try.ntmps11
    go_wp2_with fail
    go_ret
    exact ⟨rfl, Below.refl _ _⟩
  have hd : decide ((1048576 : Int) < (len0 : Int)) = false := decide_eq_false (by omega)
  go_enter Try.func11, Try.ntmps11
  go_wp2_with fail
  refine HDr.out.mono ?_
  rintro e w1 ⟨⟨a, b, rfl, ha, hb⟩, hb1⟩
  have HB1 := Lib.hid hb1
  have ham : a.size ≤ maxLen := by unfold maxLen; omega
  have hbm : b.size ≤ maxLen := by unfold maxLen; omega
  clear hb1
  by_cases hw : ¬ (wordB a.data.toList = true ∧ wordB b.data.toList = true)
  · have HW := Lib.hid hw
    clear hw
    go_wp2_with fail
    refine (iComm_no a b _ ham hbm HW.out).mono ?_
    rintro e w2 ⟨rfl, hb2⟩
    have HB2 := Lib.hid (HB1.out.trans (hb2.mono HB1.out.size))
    clear hb2
    go_wp2_with fail
    refine (sComm_no a b _ ham hbm HW.out).mono ?_
    rintro e w3 ⟨rfl, hb3⟩
    have HB3 := Lib.hid (HB2.out.trans (hb3.mono HB2.out.size))
    clear hb3
    go_wp2
    go_ret
    exact ⟨rfl, HB3.out⟩
  obtain ⟨hwa, hwb⟩ := Decidable.not_not.1 hw
  have hla := ((wordB_iff _).1 hwa).2.1
  have hlb := ((wordB_iff _).1 hwb).2.1
  have hcl := comm_let hla hlb
  have hna := toList_size a
  have hnb := toList_size b
  obtain ⟨o, ho⟩ := is_of (redL [] (commL a.data.toList b.data.toList))
  have hos := is_red_size ho
  unfold commL at hos
  rw [List.length_append, List.length_append, List.length_append, backL_length, backL_length] at hos
  have how := word_of_is hcl ho (by omega)
  have hlo := ((wordB_iff _).1 how).2.1
  have hom : o.size ≤ maxLen := by unfold maxLen; omega
  obtain ⟨n, hn⟩ : ∃ n, depthT (serW o.data.toList) = n := ⟨_, rfl⟩
  obtain ⟨k, hk⟩ : ∃ k, coefAt (bstr [xB 0, xB 1]) (serW o.data.toList) = k := ⟨_, rfl⟩
  have hn1 : n ≠ 1 := fun e => by
    rw [← hn] at e
    obtain ⟨i, hi, h⟩ := (depth_one_iff hlo).1 e
    apply h
    unfold Is at ho
    rw [ho, sig_red hi hcl, ← sg_sig, comm_sg i hla hlb]
  obtain ⟨p0, hp0⟩ : ∃ p, (sumsL a.data.toList).getD 0 0 = p := ⟨_, rfl⟩
  obtain ⟨p1, hp1⟩ : ∃ p, (sumsL a.data.toList).getD 1 0 = p := ⟨_, rfl⟩
  obtain ⟨q0, hq0⟩ : ∃ p, (sumsL b.data.toList).getD 0 0 = p := ⟨_, rfl⟩
  obtain ⟨q1, hq1⟩ : ∃ p, (sumsL b.data.toList).getD 1 0 = p := ⟨_, rfl⟩
  have hk1 : k = p0 * q1 - p1 * q0 := by
    rw [← hk, ← hp0, ← hp1, ← hq0, ← hq1, sums_getD hla 0 (by omega), sums_getD hla 1 (by omega), sums_getD hlb 0 (by omega), sums_getD hlb 1 (by omega), sg_sig, sg_sig, sg_sig, sg_sig]
    have h1 := (cs_two (h := 0) (g := 1) (by omega) (by omega) o.data.toList hlo).2.2
    have h2 : cs o.data.toList [xB 0, xB 1] = coefAt (bstr [xB 0, xB 1]) (serW o.data.toList) := rfl
    rw [← h2, h1]
    unfold Is at ho
    rw [ho]; exact two_comm (by omega) (by omega) hla hlb
  have b0 : -9 ≤ p0 ∧ p0 ≤ 9 := by rw [← hp0, sums_getD hla 0 (by omega)]; have := sgL_bnd 0 a.data.toList; omega
  have b1 : -9 ≤ p1 ∧ p1 ≤ 9 := by rw [← hp1, sums_getD hla 1 (by omega)]; have := sgL_bnd 1 a.data.toList; omega
  have b2 : -9 ≤ q0 ∧ q0 ≤ 9 := by rw [← hq0, sums_getD hlb 0 (by omega)]; have := sgL_bnd 0 b.data.toList; omega
  have b3 : -9 ≤ q1 ∧ q1 ≤ 9 := by rw [← hq1, sums_getD hlb 1 (by omega)]; have := sgL_bnd 1 b.data.toList; omega
  have m1 := mul_nine b0 b3
  have m2 := mul_nine b1 b2
  obtain ⟨x, hx⟩ : ∃ x, p0 * q1 = x := ⟨_, rfl⟩
  obtain ⟨y, hy⟩ : ∃ y, p1 * q0 = y := ⟨_, rfl⟩
  rw [hx] at hk1 m1
  rw [hy] at hk1 m2
  have e1 : IntKind.i64.wrap (p0 * q1) = x := by rw [hx]; exact IntWalk.i64_in _ (by omega)
  have e2 : IntKind.i64.wrap (p1 * q0) = y := by rw [hy]; exact IntWalk.i64_in _ (by omega)
  have e3 : IntKind.i64.wrap (x - y) = x - y := IntWalk.i64_in _ (by omega)
  have HA := Lib.hid hwa
  have HB := Lib.hid hwb
  have HO := Lib.hid ho
  have HOW := Lib.hid how
  have HDp := Lib.hid (fun W => iSeriesDepth_any o true n W hom how hn)
  have HCf := Lib.hid (fun W => iSeriesCoef_any o (bstr [xB 0, xB 1]) true true k true W hom (by decide) how (by decide) hk rfl)
  have HK1 := Lib.hid hk1
  have HP0 := Lib.hid hp0
  have HP1 := Lib.hid hp1
  have HQ0 := Lib.hid hq0
  have HQ1 := Lib.hid hq1
  have ho60 : o.size ≤ 60 := by omega
  have hni : ((n : Int) != 1) = true := by
    have : ¬ (n : Int) = 1 := by omega
    simpa using this
  have hni2 : ¬ (n : Int) = 1 := by omega
  clear hw hwa hwb hla hlb hcl hna hnb ho hos how hlo hn hk hn1 hp0 hp1 hq0 hq1 hk1 hx hy
  go_wp2_with fail
  refine (iComm_t HA.out HB.out HO.out ho60 _).mono ?_
  rintro e w2 ⟨rfl, hb2⟩
  have HB2 := Lib.hid (HB1.out.trans (hb2.mono HB1.out.size))
  clear hb2
  go_wp2_with fail
  refine (sComm_t HA.out HB.out HO.out ho60 _).mono ?_
  rintro e w3 ⟨rfl, hb3⟩
  have HB3 := Lib.hid (HB2.out.trans (hb3.mono HB2.out.size))
  clear hb3
  go_wp2_with fail
  refine (HDp.out _).mono ?_
  rintro e w4 ⟨rfl, hb4⟩
  have HB4 := Lib.hid (HB3.out.trans (hb4.mono HB3.out.size))
  clear hb4
  go_wp2_with fail
  refine (HCf.out _).mono ?_
  rintro e w5 ⟨rfl, hb5⟩
  have HB5 := Lib.hid (HB4.out.trans (hb5.mono HB4.out.size))
  clear hb5
  go_wp2_with fail
  refine (iSums_t HA.out _).mono ?_
  rintro e w6 ⟨⟨au, cu, rfl, hu⟩, hb6⟩
  have HU := Lib.hid hu
  have HB6 := Lib.hid (HB5.out.trans (hb6.mono HB5.out.size))
  clear hu hb6
  go_wp2_with fail
  refine (iSums_t HB.out _).mono ?_
  rintro e w7 ⟨⟨av, cv, rfl, hv⟩, hb7⟩
  obtain ⟨gu, rfl, hgu, hcu⟩ := (HU.out.below hb7).four
  obtain ⟨gv, rfl, hgv, hcv⟩ := hv.four
  have c0 := hcu 0 (by omega)
  have c1 := hcu 1 (by omega)
  have d0 := hcv 0 (by omega)
  have d1 := hcv 1 (by omega)
  rw [HP0.out] at c0
  rw [HP1.out] at c1
  rw [HQ0.out] at d0
  rw [HQ1.out] at d1
  have HB7 := Lib.hid (HB6.out.trans (hb7.mono HB6.out.size))
  obtain rfl : k = x - y := HK1.out
  clear hb7 hv hcu hcv
  go_wp2
  go_quiet (fail)
  go_wp2
  go_ret
  exact ⟨rfl, below_drewN HB7.out _⟩

set_option maxRecDepth 100000 in
theorem lifted (os : Os) (started : os.Started) (H : Type) (enc : TypeId × Value → H) :
    ReturnsInHanded {} Try.checked os 11 .any (Rows.fnLowestSpec.pre6 enc Try.prog Try.f11 Rows.fnLowestRow.domain false) (Rows.fnLowestSpec.post enc Try.prog Try.f11 false true false false) := by
  refine returnsInHanded_of_change (C := Try.checked) own started (by kernel_rfl) Try.func11
    (ChangeSpec.witness6 (enc := enc) (C := Try.checked) false ⟨#[], #[.slice none 0 0], []⟩ 8 (by kernel_rfl) (by kernel_rfl) (by kernel_rfl) (by kernel_rfl)) ?_
  intro W base args ds gs before hval0 hW hcnd _
  have hval : ∀ (j : Nat) t v, Try.f11.params[j]? = some t → args[j]? = some v → Value.okWide Try.prog W .any base t v := hval0
  have hW' := hW
  obtain ⟨p, q, hA0, hV, rfl, hfz, hnd⟩ := hW
  have hA : DataW.TrodAll enc Try.prog W 0 (fun _ => true) true Try.f11.params.toList args.toList ds p := hA0
  rw [Try.params11] at hA hval
  obtain ⟨v0, vs0, d0, ds0, p0, q0, hargs, rfl, rfl, h0, r0⟩ := trodAll_cons hA
  obtain ⟨rfl, rfl, rfl⟩ := trodAll_nil r0
  obtain rfl : args = #[v0] := by cases args; simp_all
  obtain ⟨rfl, rfl⟩ := trodVars_none hV
  obtain ⟨a0, len0, cap0, rfl⟩ := okWide_slice Try.underlying22 (hval 0 22 v0 rfl rfl)
  have k0 := h0
  have lt0 : ∀ x ∈ p0, x.block < W.heap.size := by obtain ⟨m, hm⟩ := k0; exact DataW.trod_lt m _ _ _ hm
  obtain ⟨z0, w0⟩ : ∃ zs, BsAt W.heap.size W a0 len0 cap0 zs := by
    obtain ⟨fuel, hf⟩ := h0
    exact bs_of hf
  clear hA0 hval0
  refine (walk a0 len0 cap0 z0 W w0).mono fun e W' ⟨he, bel⟩ => ?_
  subst he
  exact ⟨_, rfl, _, _, _, [], _, [], hW', trodAll_mk1 (shut_bool Try.underlying4 _), (trodAll_cons_mk (Below.trod laidOut (by kernel_rfl) (of_decide_eq_true (by kernel_rfl)) k0 bel lt0) trodAll_mk0), rfl, bel.frame _, fun h => by cases h⟩

theorem over : Rows.fnLowestRow.holds Try.pinned (OpenSpec.ofChange Rows.fnLowestSpec) :=
  OpenClaim.holds_of_wide 11 Try.f11 rfl rfl rfl rfl rfl rfl rfl ⟨rfl, rfl, rfl, rfl, rfl⟩ rfl rfl rfl rfl rfl (by kernel_rfl) Try.func11 (by kernel_rfl)
    (of_decide_eq_true (by kernel_rfl)) (by unfold Func.isWrapper; first | (rw [if_pos (by decide +kernel)]; kernel_rfl) | (rw [if_neg (by decide +kernel)]; exact ⟨rfl, rfl⟩))
    (fun os started H enc _ => lifted os started H enc)

theorem proved : Rows.FnLowestSaid := over
#print axioms proved
end Go.Proofs.Ytebgcebjlbhjjab.LLowest

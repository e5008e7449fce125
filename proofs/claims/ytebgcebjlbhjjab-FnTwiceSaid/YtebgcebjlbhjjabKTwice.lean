/-
  Proves 'Rows.FnTwiceSaid': for every list of bytes, the word that the model draws from it, derived both ways at two generators, comes to the product of its sums of letters.
  Conditions: none beyond the row's own.
-/
import Derived.Test.YtebgcebjlbhjjabRows
import Derived.WalkKit
import Derived.ProofKit
import Derived.OpenShut
import Derived.ShutString
import Derived.ChangeOld
import Derived.Below
import Derived.Test.YtebgcebjlbhjjabBa
import Derived.Test.YtebgcebjlbhjjabBb
import Derived.Test.YtebgcebjlbhjjabBc
import Derived.Test.YtebgcebjlbhjjabBd
import Derived.Test.YtebgcebjlbhjjabBe

namespace Go.Proofs.Ytebgcebjlbhjjab.LTwice
open Go.ChangeShapes Go.WideShapes Go.ChangeAt Go.RowKit
open Go.ChangeMaps (open_string shut_string)
set_option linter.unusedVariables false

theorem own : ownKnob Try.prog.godebug = none := by kernel_rfl
theorem laidOut : laidOutB Try.prog = true := by kernel_rfl

set_option maxRecDepth 100000 in
set_option maxHeartbeats 6000000 in
theorem walk (a0 : Option Addr) (len0 cap0 : Nat) (z0 : List Int) (w : World) (w0 : BsAt w.heap.size w a0 len0 cap0 z0) :
    Calls Try.prog 5 #[.slice a0 len0 cap0] w fun e w' => e = .returned (.bool true) ∧ Below w.heap.size w w' := by
  have HDr := Lib.hid (drawFoxTwice_any a0 len0 cap0 z0 w w0)
  have hfit := w0.fit
  unfold maxLen at hfit
  clear w0
  by_cases hlong : ¬ len0 ≤ 1048576
  · have hd : decide ((1048576 : Int) < (len0 : Int)) = true := decide_eq_true (by omega)
    go_enter Try.func5, Try.ntmps5
    go_wp2_with fail
    go_ret
    exact ⟨rfl, Below.refl _ _⟩
  have hd : decide ((1048576 : Int) < (len0 : Int)) = false := decide_eq_false (by omega)
  go_enter Try.func5, Try.ntmps5
  go_wp2_with fail
  refine HDr.out.mono ?_
  rintro e w1 ⟨⟨s, g, k, rfl, hs, hg1, hg2, hk1, hk2⟩, hb1⟩
  have HB1 := Lib.hid hb1
  have hs1 := hb1.size
  have hsm : s.size ≤ maxLen := by unfold maxLen; omega
  clear hb1
  obtain ⟨b1, hb1⟩ : ∃ b, foxOfB s g = b := ⟨_, rfl⟩
  obtain ⟨us, hus⟩ : ∃ us, cond b1 (canonT (foxL g 1 s.data.toList)) [] = us := ⟨_, rfl⟩
  obtain ⟨b2, hb2⟩ : ∃ b, foxSumB us k = b := ⟨_, rfl⟩
  obtain ⟨us2, hus2⟩ : ∃ u, cond b2 (canonT (foxI k us)) [] = u := ⟨_, rfl⟩
  obtain ⟨z, hz⟩ : ∃ z, cond (b1 && b2) (plainZ us2) 0 = z := ⟨_, rfl⟩
  obtain ⟨b, hb⟩ : ∃ b, (b1 && b2) = b := ⟨_, rfl⟩
  have HT : Hid (Twice s g k b1 b2 us us2 z b) := Lib.hid ⟨hb1, hus, hb2, hus2, hz, hb⟩
  clear hb1 hus hb2 hus2 hz hb
  have hne : (b != b) = false := by cases b <;> rfl
  have hnz : (z != z) = false := by simp
  have hzz : (z == z) = true := by simp
  have hbb : (b == b) = true := by simp
  cases b with
  | false =>
    go_wp2_with fail
    refine (iFoxTwice_any s g k b1 b2 us us2 z false _ hsm HT.out).mono ?_
    rintro e w2 ⟨rfl, hb2⟩
    have HB2 := Lib.hid (HB1.out.trans (hb2.mono HB1.out.size))
    clear hb2
    go_wp2_with fail
    refine (sFoxTwice_any s g k b1 b2 us us2 z false _ hsm HT.out).mono ?_
    rintro e w3 ⟨rfl, hb3⟩
    have HB3 := Lib.hid (HB2.out.trans (hb3.mono HB2.out.size))
    clear hb3
    go_wp2
    go_ret
    exact ⟨rfl, HB3.out⟩
  | true =>
    obtain ⟨rfl, rfl⟩ : b1 = true ∧ b2 = true := by have := HT.out.hb; simpa using this
    obtain ⟨hw, hgr⟩ := foxOfB_iff.1 HT.out.h1
    have hkr := (foxSumB_iff.1 HT.out.h2).2.1
    obtain ⟨G, rfl⟩ := Int.eq_ofNat_of_zero_le hgr.1
    obtain ⟨K, rfl⟩ := Int.eq_ofNat_of_zero_le hkr.1
    have hG : G < 4 := by omega
    have hK : K < 4 := by omega
    have hl := ((wordB_iff _).1 hw).2.1
    have hns := toList_size s
    have hz1 : z = twoL K G s.data.toList := by
      have e1 : canonT (foxL (G : Int) 1 s.data.toList) = us := HT.out.hus
      have e2 : canonT (foxI (K : Int) us) = us2 := HT.out.hus2
      have e3 : plainZ us2 = z := HT.out.hz
      rw [← e3, ← e2, ← e1, twice_two]
    obtain ⟨vs, hvs⟩ : ∃ us, canonT (foxL (K : Int) 1 s.data.toList) = us := ⟨_, rfl⟩
    obtain ⟨vs2, hvs2⟩ : ∃ u, canonT (foxI (G : Int) vs) = u := ⟨_, rfl⟩
    have hvb : foxOfB s (K : Int) = true := foxOfB_iff.2 ⟨hw, by omega, by omega⟩
    have hvs1 : sumB vs = true := by rw [← hvs]; exact foxOf_sumB hvb
    have hfew := fox_few (g := (K : Int)) (l := s.data.toList) (by omega)
    rw [hvs] at hfew
    have hvb2 : foxSumB vs (G : Int) = true := foxSumB_iff.2 ⟨hvs1, by omega, foxI_tw (words_of_sum hvs1) hfew.1 hfew.2⟩
    obtain ⟨y, hy⟩ : ∃ y, plainZ vs2 = y := ⟨_, rfl⟩
    have hy1 : y = twoL G K s.data.toList := by rw [← hy, ← hvs2, ← hvs, twice_two]
    have hsum : G ≠ K → y + z = (sumsL s.data.toList).getD G 0 * (sumsL s.data.toList).getD K 0 := fun h => by
      rw [hy1, hz1, sums_getD hl G hG, sums_getD hl K hK, sgL_sig, sgL_sig]
      exact (two_both (Ne.symm h) _).trans (Int.mul_comm _ _)
    have hT2 : Twice s (K : Int) (G : Int) true true vs vs2 y true := ⟨hvb, hvs, hvb2, hvs2, hy, rfl⟩
    obtain ⟨p, hp⟩ : ∃ p, (sumsL s.data.toList).getD G 0 = p := ⟨_, rfl⟩
    obtain ⟨q, hq⟩ : ∃ q, (sumsL s.data.toList).getD K 0 = q := ⟨_, rfl⟩
    have hpb : -9 ≤ p ∧ p ≤ 9 := by rw [← hp, sums_getD hl G hG]; have := sgL_bnd G s.data.toList; omega
    have hqb : -9 ≤ q ∧ q ≤ 9 := by rw [← hq, sums_getD hl K hK]; have := sgL_bnd K s.data.toList; omega
    rw [hp, hq] at hsum
    have HT2 := Lib.hid hT2
    have HW := Lib.hid hw
    have HSum := Lib.hid hsum
    have HPp := Lib.hid hp
    have HQ := Lib.hid hq
    have hGi : (G : Int) < 4 := by omega
    have hKi : (K : Int) < 4 := by omega
    clear hw hl hns hz1 hvs hvs2 hvb hvs1 hfew hvb2 hy hy1 hsum hT2 hp hq
    go_wp2_with fail
    refine (iFoxTwice_any s G K true true us us2 z true _ hsm HT.out).mono ?_
    rintro e w2 ⟨rfl, hb2⟩
    have HB2 := Lib.hid (HB1.out.trans (hb2.mono HB1.out.size))
    clear hb2
    go_wp2_with fail
    refine (sFoxTwice_any s G K true true us us2 z true _ hsm HT.out).mono ?_
    rintro e w3 ⟨rfl, hb3⟩
    have HB3 := Lib.hid (HB2.out.trans (hb3.mono HB2.out.size))
    clear hb3
    go_wp2_with fail
    refine (iFoxTwice_any s K G true true vs vs2 y true _ hsm HT2.out).mono ?_
    rintro e w4 ⟨rfl, hb4⟩
    have HB4 := Lib.hid (HB3.out.trans (hb4.mono HB3.out.size))
    clear hb4
    go_wp2_with fail
    refine (iSums_t HW.out _).mono ?_
    rintro e w5 ⟨⟨au, cu, rfl, hu⟩, hb5⟩
    obtain ⟨gu, rfl, hgu, hcu⟩ := hu.four
    have c1 := hcu G hG
    have c2 := hcu K hK
    rw [HPp.out] at c1
    rw [HQ.out] at c2
    have HB5 := Lib.hid (HB4.out.trans (hb5.mono HB4.out.size))
    clear hu hb5 hcu
    by_cases hGK : G = K
    · subst hGK
      have hee : ((G : Int) == (G : Int)) = true := by simp
      go_wp2
      go_quiet (fail)
      go_wp2
      go_ret
      exact ⟨rfl, below_drewN HB5.out _⟩
    · have hne3 : ¬ (G : Int) = (K : Int) := by omega
      have hne2 : ((G : Int) == (K : Int)) = false := by simpa using hne3
      have hs2 := HSum.out hGK
      obtain ⟨m, hm⟩ : ∃ m, p * q = m := ⟨_, rfl⟩
      rw [hm] at hs2
      have hmb : -81 ≤ m ∧ m ≤ 81 := by
        rw [← hm]
        have h1 := mul_bnd9 hpb hqb
        exact h1
      have e1 : IntKind.i64.wrap (y + z) = m := by rw [hs2]; exact IntWalk.i64_in _ (by omega)
      have e2 : IntKind.i64.wrap (p * q) = m := by rw [hm]; exact IntWalk.i64_in _ (by omega)
      have hme : (m == m) = true := by simp
      clear hs2 hm
      go_wp2
      go_quiet (fail)
      go_wp2
      go_ret
      exact ⟨rfl, below_drewN HB5.out _⟩

set_option maxRecDepth 100000 in
theorem lifted (os : Os) (started : os.Started) (H : Type) (enc : TypeId × Value → H) :
    ReturnsInHanded {} Try.checked os 5 .any (Rows.fnTwiceSpec.pre6 enc Try.prog Try.f5 Rows.fnTwiceRow.domain false) (Rows.fnTwiceSpec.post enc Try.prog Try.f5 false true false false) := by
  refine returnsInHanded_of_change (C := Try.checked) own started (by kernel_rfl) Try.func5
    (ChangeSpec.witness6 (enc := enc) (C := Try.checked) false ⟨#[], #[.slice none 0 0], []⟩ 8 (by kernel_rfl) (by kernel_rfl) (by kernel_rfl) (by kernel_rfl)) ?_
  intro W base args ds gs before hval0 hW hcnd _
  have hval : ∀ (j : Nat) t v, Try.f5.params[j]? = some t → args[j]? = some v → Value.okWide Try.prog W .any base t v := hval0
  have hW' := hW
  obtain ⟨p, q, hA0, hV, rfl, hfz, hnd⟩ := hW
  have hA : DataW.TrodAll enc Try.prog W 0 (fun _ => true) true Try.f5.params.toList args.toList ds p := hA0
  rw [Try.params5] at hA hval
  obtain ⟨v0, vs0, d0, ds0, p0, q0, hargs, rfl, rfl, h0, r0⟩ := trodAll_cons hA
  obtain ⟨rfl, rfl, rfl⟩ := trodAll_nil r0
  obtain rfl : args = #[v0] := by cases args; simp_all
  obtain ⟨rfl, rfl⟩ := trodVars_none hV
  obtain ⟨a0, len0, cap0, rfl⟩ := okWide_slice Try.underlying22 (hval 0 22 v0 rfl rfl)
  have k0 := h0
  have lt0 : ∀ x ∈ p0, x.block < W.heap.size := by obtain ⟨m, hm⟩ := k0; exact DataW.trod_lt m _ _ _ hm
  obtain ⟨z0, w0⟩ : ∃ zs, BsAt W.heap.size W a0 len0 cap0 zs := by
    obtain ⟨fuel, hf⟩ := h0
    exact bs_of hf
  clear hA0 hval0
  refine (walk a0 len0 cap0 z0 W w0).mono fun e W' ⟨he, bel⟩ => ?_
  subst he
  exact ⟨_, rfl, _, _, _, [], _, [], hW', trodAll_mk1 (shut_bool Try.underlying4 _), (trodAll_cons_mk (Below.trod laidOut (by kernel_rfl) (of_decide_eq_true (by kernel_rfl)) k0 bel lt0) trodAll_mk0), rfl, bel.frame _, fun h => by cases h⟩

theorem over : Rows.fnTwiceRow.holds Try.pinned (OpenSpec.ofChange Rows.fnTwiceSpec) :=
  OpenClaim.holds_of_wide 5 Try.f5 rfl rfl rfl rfl rfl rfl rfl ⟨rfl, rfl, rfl, rfl, rfl⟩ rfl rfl rfl rfl rfl (by kernel_rfl) Try.func5 (by kernel_rfl)
    (of_decide_eq_true (by kernel_rfl)) (by unfold Func.isWrapper; first | (rw [if_pos (by decide +kernel)]; kernel_rfl) | (rw [if_neg (by decide +kernel)]; exact ⟨rfl, rfl⟩))
    (fun os started H enc _ => lifted os started H enc)

theorem proved : Rows.FnTwiceSaid := over
#print axioms proved
end Go.Proofs.Ytebgcebjlbhjjab.LTwice

/-
  Proves 'Rows.FnCoefSaid': for every list of bytes, the coefficient of 1 in the series of the word that the model draws from it is 1, and those of one letter are sums of letters.
  Conditions: none beyond the row's own.
-/
import Derived.Test.YtebgcebjlbhjjabRows
import Derived.WalkKit
import Derived.ProofKit
import Derived.OpenShut
import Derived.ShutString
import Derived.ChangeOld
import Derived.Below
import Derived.Test.YtebgcebjlbhjjabBa
import Derived.Test.YtebgcebjlbhjjabBb
import Derived.Test.YtebgcebjlbhjjabBc
import Derived.Test.YtebgcebjlbhjjabBd
import Derived.Test.YtebgcebjlbhjjabBe

namespace Go.Proofs.Ytebgcebjlbhjjab.LCoef
open Go.ChangeShapes Go.WideShapes Go.ChangeAt Go.RowKit
open Go.ChangeMaps (open_string shut_string)
set_option linter.unusedVariables false

theorem own : ownKnob Try.prog.godebug = none := by kernel_rfl
theorem laidOut : laidOutB Try.prog = true := by kernel_rfl

set_option maxRecDepth 100000 in
set_option maxHeartbeats 6000000 in
theorem walk (a0 : Option Addr) (len0 cap0 : Nat) (z0 : List Int) (w : World) (w0 : BsAt w.heap.size w a0 len0 cap0 z0) :
    Calls Try.prog 10 #[.slice a0 len0 cap0] w fun e w' => e = .returned (.bool true) ∧ Below w.heap.size w w' := by
  have HDr := Lib.hid (drawSeriesCoef_any a0 len0 cap0 z0 w w0)
  have hfit := w0.fit
  unfold maxLen at hfit
  clear w0
  by_cases hlong : ¬ len0 ≤ 1048576
  · have hd : decide ((1048576 : Int) < (len0 : Int)) = true := decide_eq_true (by omega)
    go_enter Try.func10, Try.ntmps10
    go_wp2_with fail
    go_ret
    exact ⟨rfl, Below.refl _ _⟩
  have hd : decide ((1048576 : Int) < (len0 : Int)) = false := decide_eq_false (by omega)
  go_enter Try.func10, Try.ntmps10
  go_wp2_with fail
  refine HDr.out.mono ?_
  rintro e w1 ⟨⟨s, m, rfl, hs, hm⟩, hb1⟩
  have HB1 := Lib.hid hb1
  have hsm : s.size ≤ maxLen := by unfold maxLen; omega
  have hmm : m.size ≤ maxLen := by unfold maxLen; omega
  clear hb1
  obtain ⟨b1, h1⟩ : ∃ b, wordB s.data.toList = b := ⟨_, rfl⟩
  obtain ⟨b2, h2⟩ : ∃ b, monoB m = b := ⟨_, rfl⟩
  obtain ⟨b, hb⟩ : ∃ b, (b1 && b2) = b := ⟨_, rfl⟩
  obtain ⟨z, hz⟩ : ∃ z, cond (b1 && b2) (coefAt m (serW s.data.toList)) 0 = z := ⟨_, rfl⟩
  have hzz : (z != z) = false := by simp
  have hze : (z == z) = true := by simp
  have H1 := Lib.hid h1
  have H2 := Lib.hid h2
  have HZ := Lib.hid hz
  have HB := Lib.hid hb
  clear h1 h2 hz hb
  cases b with
  | false =>
    go_wp2_with fail
    refine (iSeriesCoef_any s m b1 b2 z false _ hsm hmm H1.out H2.out HZ.out HB.out).mono ?_
    rintro e w2 ⟨rfl, hb2⟩
    have HB2 := Lib.hid (HB1.out.trans (hb2.mono HB1.out.size))
    clear hb2
    go_wp2_with fail
    refine (sSeriesCoef_any s m b1 b2 z false _ hsm hmm H1.out H2.out HZ.out HB.out).mono ?_
    rintro e w3 ⟨rfl, hb3⟩
    have HB3 := Lib.hid (HB2.out.trans (hb3.mono HB2.out.size))
    clear hb3
    go_wp2
    go_ret
    exact ⟨rfl, HB3.out⟩
  | true =>
    obtain ⟨rfl, rfl⟩ : b1 = true ∧ b2 = true := by have := HB.out; simpa using this
    have hl := ((wordB_iff _).1 H1.out).2.1
    have hz0 : coefAt m (serW s.data.toList) = z := HZ.out
    have h0 : m.size = 0 → z = 1 := fun h => by
      rw [← hz0, no_iff.2 h]; exact serW_no _ hl
    have h1 : m.size = 1 → ∃ i, i < 4 ∧ m = bstr [xB i] ∧ (sumsL s.data.toList).getD i 0 = z := fun h => by
      obtain ⟨i, hi, e⟩ := one_mono H2.out h
      refine ⟨i, hi, by rw [← e, bstr_of], ?_⟩
      rw [sums_getD hl i hi, ← hz0, sg_sig, ← (cs_two hi hi _ hl).2.1, ← e, cs_at]
    have HC0 := Lib.hid h0
    have HC1 := Lib.hid h1
    clear hl hz0 h0 h1
    go_wp2_with fail
    refine (iSeriesCoef_any s m true true z true _ hsm hmm H1.out H2.out HZ.out HB.out).mono ?_
    rintro e w2 ⟨rfl, hb2⟩
    have HB2 := Lib.hid (HB1.out.trans (hb2.mono HB1.out.size))
    clear hb2
    go_wp2_with fail
    refine (sSeriesCoef_any s m true true z true _ hsm hmm H1.out H2.out HZ.out HB.out).mono ?_
    rintro e w3 ⟨rfl, hb3⟩
    have HB3 := Lib.hid (HB2.out.trans (hb3.mono HB2.out.size))
    clear hb3
    go_wp2_with fail
    refine (iSums_t H1.out _).mono ?_
    rintro e w4 ⟨⟨au, cu, rfl, hu⟩, hb4⟩
    obtain ⟨gu, rfl, hgu, hcu⟩ := hu.four
    have HCU := Lib.hid hcu
    have HB4 := Lib.hid (HB3.out.trans (hb4.mono HB3.out.size))
    clear hu hb4 hcu
    by_cases hm0 : m.size = 0
    · obtain rfl : z = 1 := HC0.out hm0
      have hmi : ((m.size : Int) == 0) = true := by rw [hm0]; rfl
      have HM0 := Lib.hid hm0
      clear hm0
      go_wp2
      go_ret
      exact ⟨rfl, HB4.out⟩
    · have hmi : ((m.size : Int) == 0) = false := by simpa using hm0
      have hmi2 : ¬ (m.size : Int) = 0 := by omega
      by_cases hm1 : m.size = 1
      · obtain ⟨i, hi, he, hzi⟩ := HC1.out hm1
        have hcell := HCU.out i hi
        rw [hzi] at hcell
        clear hzi HC0 HC1 HCU hm1 hm0 H2 HZ hmi hmi2
        rcases (show i = 0 ∨ i = 1 ∨ i = 2 ∨ i = 3 by omega) with rfl | rfl | rfl | rfl
        · obtain rfl : m = { data := #[97] } := he
          have hcell2 : w4.cell? ⟨gu, ((({ data := #[97] } : ByteArray)[0]'(by decide)).toNat - 97) % 256, none⟩ = some (.int .i64 z) := hcell
          go_wp2
          go_ret
          exact ⟨rfl, HB4.out⟩
        · obtain rfl : m = { data := #[98] } := he
          have hcell2 : w4.cell? ⟨gu, ((({ data := #[98] } : ByteArray)[0]'(by decide)).toNat - 97) % 256, none⟩ = some (.int .i64 z) := hcell
          go_wp2
          go_ret
          exact ⟨rfl, HB4.out⟩
        · obtain rfl : m = { data := #[99] } := he
          have hcell2 : w4.cell? ⟨gu, ((({ data := #[99] } : ByteArray)[0]'(by decide)).toNat - 97) % 256, none⟩ = some (.int .i64 z) := hcell
          go_wp2
          go_ret
          exact ⟨rfl, HB4.out⟩
        · obtain rfl : m = { data := #[100] } := he
          have hcell2 : w4.cell? ⟨gu, ((({ data := #[100] } : ByteArray)[0]'(by decide)).toNat - 97) % 256, none⟩ = some (.int .i64 z) := hcell
          go_wp2
          go_ret
          exact ⟨rfl, HB4.out⟩
      · have hmj : ((m.size : Int) == 1) = false := by
          have : ¬ (m.size : Int) = 1 := by omega
          simpa using this
        have hmj2 : ¬ (m.size : Int) = 1 := by omega
        go_wp2
        go_ret
        exact ⟨rfl, HB4.out⟩

set_option maxRecDepth 100000 in
theorem lifted (os : Os) (started : os.Started) (H : Type) (enc : TypeId × Value → H) :
    ReturnsInHanded {} Try.checked os 10 .any (Rows.fnCoefSpec.pre6 enc Try.prog Try.f10 Rows.fnCoefRow.domain false) (Rows.fnCoefSpec.post enc Try.prog Try.f10 false true false false) := by
  refine returnsInHanded_of_change (C := Try.checked) own started (by kernel_rfl) Try.func10
    (ChangeSpec.witness6 (enc := enc) (C := Try.checked) false ⟨#[], #[.slice none 0 0], []⟩ 8 (by kernel_rfl) (by kernel_rfl) (by kernel_rfl) (by kernel_rfl)) ?_
  intro W base args ds gs before hval0 hW hcnd _
  have hval : ∀ (j : Nat) t v, Try.f10.params[j]? = some t → args[j]? = some v → Value.okWide Try.prog W .any base t v := hval0
  have hW' := hW
  obtain ⟨p, q, hA0, hV, rfl, hfz, hnd⟩ := hW
  have hA : DataW.TrodAll enc Try.prog W 0 (fun _ => true) true Try.f10.params.toList args.toList ds p := hA0
  rw [Try.params10] at hA hval
  obtain ⟨v0, vs0, d0, ds0, p0, q0, hargs, rfl, rfl, h0, r0⟩ := trodAll_cons hA
  obtain ⟨rfl, rfl, rfl⟩ := trodAll_nil r0
  obtain rfl : args = #[v0] := by cases args; simp_all
  obtain ⟨rfl, rfl⟩ := trodVars_none hV
  obtain ⟨a0, len0, cap0, rfl⟩ := okWide_slice Try.underlying22 (hval 0 22 v0 rfl rfl)
  have k0 := h0
  have lt0 : ∀ x ∈ p0, x.block < W.heap.size := by obtain ⟨m, hm⟩ := k0; exact DataW.trod_lt m _ _ _ hm
  obtain ⟨z0, w0⟩ : ∃ zs, BsAt W.heap.size W a0 len0 cap0 zs := by
    obtain ⟨fuel, hf⟩ := h0
    exact bs_of hf
  clear hA0 hval0
  refine (walk a0 len0 cap0 z0 W w0).mono fun e W' ⟨he, bel⟩ => ?_
  subst he
  exact ⟨_, rfl, _, _, _, [], _, [], hW', trodAll_mk1 (shut_bool Try.underlying4 _), (trodAll_cons_mk (Below.trod laidOut (by kernel_rfl) (of_decide_eq_true (by kernel_rfl)) k0 bel lt0) trodAll_mk0), rfl, bel.frame _, fun h => by cases h⟩

theorem over : Rows.fnCoefRow.holds Try.pinned (OpenSpec.ofChange Rows.fnCoefSpec) :=
  OpenClaim.holds_of_wide 10 Try.f10 rfl rfl rfl rfl rfl rfl rfl ⟨rfl, rfl, rfl, rfl, rfl⟩ rfl rfl rfl rfl rfl (by kernel_rfl) Try.func10 (by kernel_rfl)
    (of_decide_eq_true (by kernel_rfl)) (by unfold Func.isWrapper; first | (rw [if_pos (by decide +kernel)]; kernel_rfl) | (rw [if_neg (by decide +kernel)]; exact ⟨rfl, rfl⟩))
    (fun os started H enc _ => lifted os started H enc)

theorem proved : Rows.FnCoefSaid := over
#print axioms proved
end Go.Proofs.Ytebgcebjlbhjjab.LCoef

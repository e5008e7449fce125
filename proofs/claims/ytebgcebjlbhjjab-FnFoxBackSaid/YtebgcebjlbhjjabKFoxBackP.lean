/-
  Proves 'Rows.FnFoxBackSaid': for every list of bytes, what the four sums that the model draws from it come to when they are multiplied back has no coefficients, and its derivatives are the four sums.
  Conditions: none beyond the row's own.
-/
import Derived.Test.YtebgcebjlbhjjabRows
import Derived.WalkKit
import Derived.ProofKit
import Derived.OpenShut
import Derived.ShutString
import Derived.ChangeOld
import Derived.Below
import Derived.Test.YtebgcebjlbhjjabBa
import Derived.Test.YtebgcebjlbhjjabBb
import Derived.Test.YtebgcebjlbhjjabBc
import Derived.Test.YtebgcebjlbhjjabBd
import Derived.Test.YtebgcebjlbhjjabBe

namespace Go.Proofs.Ytebgcebjlbhjjab.LFoxBackP
open Go.ChangeShapes Go.WideShapes Go.ChangeAt Go.RowKit
open Go.ChangeMaps (open_string shut_string)
set_option linter.unusedVariables false

theorem own : ownKnob Try.prog.godebug = none := by kernel_rfl
theorem laidOut : laidOutB Try.prog = true := by kernel_rfl

set_option maxRecDepth 100000 in
set_option maxHeartbeats 6000000 in
theorem walk (a0 : Option Addr) (len0 cap0 : Nat) (z0 : List Int) (w : World) (w0 : BsAt w.heap.size w a0 len0 cap0 z0) :
    Calls Try.prog 3 #[.slice a0 len0 cap0] w fun e w' => e = .returned (.bool true) ∧ Below w.heap.size w w' := by
  have HDr := Lib.hid (drawFoxBack_any a0 len0 cap0 z0 w w0)
  have hfit := w0.fit
  unfold maxLen at hfit
  clear w0
  by_cases hlong : ¬ len0 ≤ 1048576
  · have hd : decide ((1048576 : Int) < (len0 : Int)) = true := decide_eq_true (by omega)
    go_enter Try.func3, Try.ntmps3
    go_wp2_with fail
    go_ret
    exact ⟨rfl, Below.refl _ _⟩
  have hd : decide ((1048576 : Int) < (len0 : Int)) = false := decide_eq_false (by omega)
  go_enter Try.func3, Try.ntmps3
  go_wp2_with fail
  refine HDr.out.mono ?_
  rintro e w1 ⟨⟨g, c, rows, rfl, hI⟩, hb1⟩
  have HI := Lib.hid hI
  have HB1 := Lib.hid hb1
  clear hI hb1
  cases hb : backB rows with
  | false =>
    have HS := Lib.hid hb
    have HU : Hid (cond false (canonT (backN rows 4)) [] = []) := Lib.hid rfl
    have HN : Hid (([] : List Tm).length = 0) := Lib.hid rfl
    clear hb
    go_wp2_with fail
    refine (iFoxBack_t HI.out HS.out HU.out HN.out).mono ?_
    rintro e w2 ⟨⟨a2, c2, rfl, h2⟩, hb2⟩
    have HI := Lib.hid (HI.out.below hb2)
    have H2 := Lib.hid h2
    have HB2 := Lib.hid (HB1.out.trans (hb2.mono HB1.out.size))
    clear h2 hb2
    go_wp2_with fail
    refine (sFoxBack_t HI.out HS.out HU.out HN.out).mono ?_
    rintro e w3 ⟨⟨a3, c3, rfl, h3⟩, hb3⟩
    have H2 := Lib.hid (H2.out.below hb3)
    have H3 := Lib.hid h3
    have HB3 := Lib.hid (HB2.out.trans (hb3.mono HB2.out.size))
    clear h3 hb3
    go_wp2_with fail
    refine (sameSum_t H2.out H3.out).mono ?_
    rintro e w4 ⟨rfl, hb4⟩
    have HB4 := Lib.hid (HB3.out.trans (hb4.mono HB3.out.size))
    have H2 := Lib.hid (H2.out.below hb4)
    have H3 := Lib.hid (H3.out.below hb4)
    clear hb4
    go_wp2_with fail
    refine (sameSum_t H2.out H3.out).mono ?_
    rintro e w5 ⟨rfl, hb5⟩
    have HB5 := Lib.hid (HB4.out.trans (hb5.mono HB4.out.size))
    clear hb5
    go_wp2
    go_ret
    exact ⟨rfl, HB5.out⟩
  | true =>
    obtain ⟨us, hus⟩ : ∃ us, canonT (backN rows 4) = us := ⟨_, rfl⟩
    obtain ⟨k, hk⟩ : ∃ k, us.length = k := ⟨_, rfl⟩
    have hus1 : sumB us = true := by rw [← hus]; exact sum_of_tw (backB_tw hb rfl)
    have hsum : ∀ h, h < 4 → sumB (rows.getD h []) = true := fun h hh => by
      have hb2 := hb
      unfold backB at hb2
      simp only [Bool.and_eq_true] at hb2
      have h3 := List.all_eq_true.1 hb2.2.1 h (List.mem_range.2 hh)
      exact (prodB_iff.1 h3).1
    have hpl : plainZ us = 0 := by rw [← hus, plain_canon, plain_backN]
    have hfox : ∀ h : Nat, h < 4 → canonT (foxI (h : Int) us) = rows.getD h [] := fun h hh => by
      rw [← hus, ((Same.canon _).fox (h : Int)).eq, (fox_backN (fun j hj => words_of_sum (hsum j hj)) hh).eq, sum_id (hsum h hh)]
    have HS := Lib.hid hb
    have HU : Hid (cond true (canonT (backN rows 4)) [] = us) := Lib.hid hus
    have HN := Lib.hid hk
    have HUS := Lib.hid hus1
    have HPU : Hid (cond true (plainZ us) 0 = 0) := Lib.hid hpl
    have HFox := Lib.hid hfox
    have HL := Lib.hid HI.out.len
    clear hb hus hk hus1 hsum hpl hfox
    go_wp2_with fail
    refine (iFoxBack_t HI.out HS.out HU.out HN.out).mono ?_
    rintro e w2 ⟨⟨a2, c2, rfl, h2⟩, hb2⟩
    have HI := Lib.hid (HI.out.below hb2)
    have H2 := Lib.hid h2
    have HB2 := Lib.hid (HB1.out.trans (hb2.mono HB1.out.size))
    clear h2 hb2
    go_wp2_with fail
    refine (sFoxBack_t HI.out HS.out HU.out HN.out).mono ?_
    rintro e w3 ⟨⟨a3, c3, rfl, h3⟩, hb3⟩
    have H2 := Lib.hid (H2.out.below hb3)
    have HI := Lib.hid (HI.out.below hb3)
    have H3 := Lib.hid h3
    have HB3 := Lib.hid (HB2.out.trans (hb3.mono HB2.out.size))
    clear h3 hb3
    go_wp2_with fail
    refine (sameSum_t H2.out H3.out).mono ?_
    rintro e w4 ⟨rfl, hb4⟩
    have HB4 := Lib.hid (HB3.out.trans (hb4.mono HB3.out.size))
    have H2 := Lib.hid (H2.out.below hb4)
    have HI := Lib.hid (HI.out.below hb4)
    clear hb4
    go_wp2_with fail
    refine (iSumPlain_t H2.out HUS.out HPU.out).mono ?_
    rintro e w5 ⟨rfl, hb5⟩
    have HB5 := Lib.hid (HB4.out.trans (hb5.mono HB4.out.size))
    have H2 := Lib.hid (H2.out.below hb5)
    have HI := Lib.hid (HI.out.below hb5)
    clear hb5
    go_wp2_with fail
    go_loopw [10] (fun i wr => ∃ j : Nat, j ≤ 4 ∧ i = .int .i64 j ∧ Hid (Below w5.heap.size w5 wr)) (fun i _ => 4 - (intOf i).toNat)
    case atStart => exact ⟨0, Nat.zero_le _, rfl, Lib.hid (Below.refl _ _)⟩
    case round =>
      obtain ⟨j, hj, rfl, HB6⟩ := hrel
      obtain ⟨w6, rfl⟩ : ∃ w6 : World, w6 = wr := ⟨_, rfl⟩
      by_cases hlt : j < 4
      · have hji : (j : Int) < 4 := by omega
        have H2 := Lib.hid (H2.out.below HB6.out)
        have HI := Lib.hid (HI.out.below HB6.out)
        obtain ⟨r, hr⟩ : ∃ r, rows.getD j [] = r := ⟨_, rfl⟩
        obtain ⟨m, hm⟩ : ∃ m, r.length = m := ⟨_, rfl⟩
        obtain ⟨b, hb⟩ : ∃ b, foxSumB us (j : Int) = b := ⟨_, rfl⟩
        obtain ⟨ds, hds⟩ : ∃ d, cond b (canonT (foxI (j : Int) us)) [] = d := ⟨_, rfl⟩
        obtain ⟨kd, hkd⟩ : ∃ k, ds.length = k := ⟨_, rfl⟩
        have hsame : b = true → ds = r := fun e => by
          subst e
          rw [← hds, ← hr]
          exact HFox.out j hlt
        have hjr : j < rows.length := by rw [HL.out]; exact hlt
        have hrj : rows[j] = r := by rw [← hr, List.getD_eq_getElem?_getD, List.getElem?_eq_getElem hjr]; rfl
        have HP := Lib.hid hb
        have HD := Lib.hid hds
        have HKD := Lib.hid hkd
        have HSA := Lib.hid hsame
        have HRJ := Lib.hid hrj
        have HM := Lib.hid hm
        clear hr hm hb hds hkd hsame hrj
        go_wp2_with fail
        refine (iFoxSum_t H2.out HP.out HD.out HKD.out).mono ?_
        rintro e w7 ⟨⟨a7, c7, rfl, h7⟩, hb7⟩
        have HI := Lib.hid (HI.out.below hb7)
        have H7 := Lib.hid h7
        have HB7 := Lib.hid (HB6.out.trans (hb7.mono HB6.out.size))
        clear h7 hb7
        cases b with
        | false =>
          go_wp2
          go_roundw
          case rel => exact ⟨j + 1, by omega, by go_num, HB7⟩
          case measure => simp [intOf]; omega
        | true =>
          obtain rfl : ds = r := HSA.out rfl
          obtain rfl : kd = m := HKD.out.symm.trans HM.out
          obtain ⟨x, e, hxb, hx⟩ := HI.out.at_ (by omega)
          cases e
          obtain ⟨ai, ci, c0, hi⟩ := hx j hjr
          rw [HRJ.out, HM.out] at c0 hi
          have c1 : w7.cell? ⟨g, j, none⟩ = some (.slice ai kd ci) := by
            have e2 : (⟨g, 0, none⟩ : Addr).add j = ⟨g, j, none⟩ := by unfold Addr.add; split <;> simp_all
            rw [← e2]; exact c0
          have HIr := Lib.hid hi
          clear hx c0 hi hxb
          go_wp2_with fail
          refine (sameSum_yes _ ai _ ci kd ds _ H7.out.is HIr.out).mono ?_
          rintro e w8 ⟨rfl, hb8⟩
          have HB8 := Lib.hid (HB7.out.trans (hb8.mono HB7.out.size))
          clear hb8
          go_wp2
          go_roundw
          case rel => exact ⟨j + 1, by omega, by go_num, HB8⟩
          case measure => simp [intOf]; omega
      · have HB9 := Lib.hid (HB5.out.trans (HB6.out.mono HB5.out.size))
        go_wp2
        go_ret
        exact ⟨rfl, HB9.out⟩

set_option maxRecDepth 100000 in
theorem lifted (os : Os) (started : os.Started) (H : Type) (enc : TypeId × Value → H) :
    ReturnsInHanded {} Try.checked os 3 .any (Rows.fnFoxBackSpec.pre6 enc Try.prog Try.f3 Rows.fnFoxBackRow.domain false) (Rows.fnFoxBackSpec.post enc Try.prog Try.f3 false true false false) := by
  refine returnsInHanded_of_change (C := Try.checked) own started (by kernel_rfl) Try.func3
    (ChangeSpec.witness6 (enc := enc) (C := Try.checked) false ⟨#[], #[.slice none 0 0], []⟩ 8 (by kernel_rfl) (by kernel_rfl) (by kernel_rfl) (by kernel_rfl)) ?_
  intro W base args ds gs before hval0 hW hcnd _
  have hval : ∀ (j : Nat) t v, Try.f3.params[j]? = some t → args[j]? = some v → Value.okWide Try.prog W .any base t v := hval0
  have hW' := hW
  obtain ⟨p, q, hA0, hV, rfl, hfz, hnd⟩ := hW
  have hA : DataW.TrodAll enc Try.prog W 0 (fun _ => true) true Try.f3.params.toList args.toList ds p := hA0
  rw [Try.params3] at hA hval
  obtain ⟨v0, vs0, d0, ds0, p0, q0, hargs, rfl, rfl, h0, r0⟩ := trodAll_cons hA
  obtain ⟨rfl, rfl, rfl⟩ := trodAll_nil r0
  obtain rfl : args = #[v0] := by cases args; simp_all
  obtain ⟨rfl, rfl⟩ := trodVars_none hV
  obtain ⟨a0, len0, cap0, rfl⟩ := okWide_slice Try.underlying22 (hval 0 22 v0 rfl rfl)
  have k0 := h0
  have lt0 : ∀ x ∈ p0, x.block < W.heap.size := by obtain ⟨m, hm⟩ := k0; exact DataW.trod_lt m _ _ _ hm
  obtain ⟨z0, w0⟩ : ∃ zs, BsAt W.heap.size W a0 len0 cap0 zs := by
    obtain ⟨fuel, hf⟩ := h0
    exact bs_of hf
  clear hA0 hval0
  refine (walk a0 len0 cap0 z0 W w0).mono fun e W' ⟨he, bel⟩ => ?_
  subst he
  exact ⟨_, rfl, _, _, _, [], _, [], hW', trodAll_mk1 (shut_bool Try.underlying4 _), (trodAll_cons_mk (Below.trod laidOut (by kernel_rfl) (of_decide_eq_true (by kernel_rfl)) k0 bel lt0) trodAll_mk0), rfl, bel.frame _, fun h => by cases h⟩

theorem over : Rows.fnFoxBackRow.holds Try.pinned (OpenSpec.ofChange Rows.fnFoxBackSpec) :=
  OpenClaim.holds_of_wide 3 Try.f3 rfl rfl rfl rfl rfl rfl rfl ⟨rfl, rfl, rfl, rfl, rfl⟩ rfl rfl rfl rfl rfl (by kernel_rfl) Try.func3 (by kernel_rfl)
    (of_decide_eq_true (by kernel_rfl)) (by unfold Func.isWrapper; first | (rw [if_pos (by decide +kernel)]; kernel_rfl) | (rw [if_neg (by decide +kernel)]; exact ⟨rfl, rfl⟩))
    (fun os started H enc _ => lifted os started H enc)

theorem proved : Rows.FnFoxBackSaid := over
#print axioms proved
end Go.Proofs.Ytebgcebjlbhjjab.LFoxBackP

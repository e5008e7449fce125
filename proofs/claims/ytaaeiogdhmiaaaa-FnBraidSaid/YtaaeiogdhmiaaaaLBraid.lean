/-
  Proves 'Rows.FnBraidSaid': for every list of bytes, the program's BraidIn of the braid that the model draws from it answers as the model's, and where it holds the product of all generators stays.
  Conditions: none beyond the row's own.
-/
import Derived.Test.YtaaeiogdhmiaaaaRows
import Derived.Test.YtaaeiogdhmiaaaaKf
import Derived.Test.YtaaeiogdhmiaaaaKl
import Derived.Test.YtaaeiogdhmiaaaaBc
import Derived.Test.YtaaeiogdhmiaaaaCv
import Derived.Test.YtaaeiogdhmiaaaaCg
import Derived.Test.YtaaeiogdhmiaaaaCq
import Derived.Test.YtaaeiogdhmiaaaaCh
import Derived.Test.YtaaeiogdhmiaaaaCc
import Derived.WalkKit
import Derived.ProofKit
import Derived.OpenShut
import Derived.ShutString
import Derived.ChangeOld
import Derived.Below
namespace Go.Proofs.Ytaaeiogdhmiaaaa.LBraid
open Go.ChangeShapes Go.WideShapes Go.ChangeAt Go.RowKit
open Go.ChangeMaps (open_string shut_string)
set_option linter.unusedVariables false

theorem own : ownKnob Try.prog.godebug = none := by kernel_rfl
theorem laidOut : laidOutB Try.prog = true := by kernel_rfl

set_option maxRecDepth 100000 in
set_option maxHeartbeats 4000000 in
theorem walk (a0 : Option Addr) (len0 cap0 : Nat) (z0 : List Int) (w : World) (w0 : BsAt w.heap.size w a0 len0 cap0 z0) :
    Calls Try.prog 13 #[.slice a0 len0 cap0] w fun e w' => e = .returned (.bool true) ∧ Below w.heap.size w w' := by
  have HDr := Lib.hid (drawBraidIn_any a0 len0 cap0 z0 w w0)
  have hfit := w0.fit
  unfold maxLen at hfit
  clear w0
  by_cases hlong : ¬ len0 ≤ 1048576
  · have hd : decide ((1048576 : Int) < (len0 : Int)) = true := decide_eq_true (by omega)
    go_enter Try.func13, Try.ntmps13
    go_wp2_with fail
    go_ret
    exact ⟨rfl, Below.refl _ _⟩
  have hd : decide ((1048576 : Int) < (len0 : Int)) = false := decide_eq_false (by omega)
  go_enter Try.func13, Try.ntmps13
  go_wp2_with fail
  refine HDr.out.mono ?_
  rintro e w1 ⟨⟨m, s, rfl, hm, hs⟩, hb1⟩
  obtain ⟨V, hV⟩ : ∃ V, w1.alloc (.cells #[.int .i64 m, .string s] 26) = V := ⟨_, rfl⟩
  have HV := Lib.hid (oneBox hV)
  have HVE := Lib.hid hV
  have HBV := Lib.hid (hb1.trans (HV.out.1.mono hb1.size))
  obtain ⟨r, hr⟩ : ∃ r, braidB m s = r := ⟨_, rfl⟩
  have HR := Lib.hid hr
  have HSM : Hid (s.size ≤ maxLen) := Lib.hid (by unfold maxLen; omega)
  have hrr : (r != r) = false := by cases r <;> rfl
  have hrq : (r == r) = true := by cases r <;> rfl
  clear hV hb1 hr
  go_wp2_with fail
  rw [HVE.out]
  refine (iBraidIn_any m s r V HSM.out HR.out).mono ?_
  rintro e w2 ⟨rfl, hb2⟩
  have HK2 := Lib.hid hb2
  clear hb2
  obtain ⟨⟨c0, c1⟩, _, _⟩ := boxOf2 HV.out.2.2 HK2.out
  go_wp2_with fail
  refine (sBraidIn_any m s r w2 HSM.out HR.out).mono ?_
  rintro e w3 ⟨rfl, hb3⟩
  have HK3 := Lib.hid (HK2.out.trans (hb3.mono HK2.out.size))
  clear hb3 c0 c1
  cases r with
  | false =>
    go_wp2
    go_ret
    exact ⟨rfl, HBV.out.trans (HK3.out.mono HBV.out.size)⟩
  | true =>
    have hbr := HR.out
    obtain ⟨N, rfl⟩ : ∃ N : Nat, m = (N : Int) := ⟨m.toNat, by omega⟩
    obtain ⟨hN, hpl⟩ := braid_pl hbr
    obtain ⟨_, _, pA⟩ := braid_all hbr
    have HPL : Hid (∀ c ∈ s.data.toList, brB c = true ∧ plN c + 1 < N) := Lib.hid (fun c hc => ⟨(pA c hc).1, hpl c hc⟩)
    have HN := Lib.hid hN
    obtain ⟨hN1, hN2⟩ := hN
    obtain ⟨z, hz⟩ : ∃ z, bstr (gensL N) = z := ⟨_, rfl⟩
    have hzl : z.data.toList = gensL N := by rw [← hz]; rfl
    have hsl : ∀ w, (Instr.slice 9 (.string { data := #[97, 98, 99, 100] }) none (some (.int .i64 (N : Int))) none).run Try.prog w = .ok (.string z) w := by
      rw [← hz]
      have h234 : N = 2 ∨ N = 3 ∨ N = 4 := by omega
      rcases h234 with rfl | rfl | rfl <;> exact fun w => by kernel_rfl
    obtain ⟨t, c, ht, h1, _, _⟩ := act_shape (wordB z.data.toList && braidB (N : Int) s) (actL s.data.toList z.data.toList)
    have hzs : z.size ≤ maxLen := by
      have : z.size = (gensL N).length := by rw [← hz, bstr_size]
      rw [this]
      unfold maxLen gensL
      simp; omega
    have hact := fun w : World => iBraidAct_any (N : Int) s z w HSM.out hzs
    rw [ht] at hact
    have HACT := Lib.hid hact
    have HEQ : Hid (c = true → t = z) := Lib.hid (fun hc => by
      obtain ⟨_, h⟩ := h1 hc
      rw [hzl] at h
      exact ba_eq ((act_gens HN.out HPL.out h).trans hzl.symm))
    clear hbr hpl pA hz hzl ht h1 hzs hact
    obtain ⟨⟨c0, c1⟩, _, _⟩ := boxOf2 HV.out.2.2 HK3.out
    go_wp2_with fail
    refine (HACT.out _).mono ?_
    rintro e w4 ⟨rfl, hb4⟩
    have HK4 := Lib.hid (HK3.out.trans (hb4.mono HK3.out.size))
    clear hb4 c0 c1
    cases c with
    | false =>
      go_wp2
      go_ret
      exact ⟨rfl, HBV.out.trans (HK4.out.mono HBV.out.size)⟩
    | true =>
      obtain rfl := HEQ.out rfl
      go_wp2
      go_ret
      exact ⟨rfl, HBV.out.trans (HK4.out.mono HBV.out.size)⟩

set_option maxRecDepth 100000 in
theorem lifted (os : Os) (started : os.Started) (H : Type) (enc : TypeId × Value → H) :
    ReturnsInHanded {} Try.checked os 13 .any (Rows.fnBraidSpec.pre6 enc Try.prog Try.f13 Rows.fnBraidRow.domain false) (Rows.fnBraidSpec.post enc Try.prog Try.f13 false true false false) := by
  refine returnsInHanded_of_change (C := Try.checked) own started (by kernel_rfl) Try.func13
    (ChangeSpec.witness6 (enc := enc) (C := Try.checked) false ⟨#[], #[.slice none 0 0], []⟩ 8 (by kernel_rfl) (by kernel_rfl) (by kernel_rfl) (by kernel_rfl)) ?_
  intro W base args ds gs before hval0 hW hcnd _
  have hval : ∀ (j : Nat) t v, Try.f13.params[j]? = some t → args[j]? = some v → Value.okWide Try.prog W .any base t v := hval0
  have hW' := hW
  obtain ⟨p, q, hA0, hV, rfl, hfz, hnd⟩ := hW
  have hA : DataW.TrodAll enc Try.prog W 0 (fun _ => true) true Try.f13.params.toList args.toList ds p := hA0
  rw [Try.params13] at hA hval
  obtain ⟨v0, vs0, d0, ds0, p0, q0, hargs, rfl, rfl, h0, r0⟩ := trodAll_cons hA
  obtain ⟨rfl, rfl, rfl⟩ := trodAll_nil r0
  obtain rfl : args = #[v0] := by cases args; simp_all
  obtain ⟨rfl, rfl⟩ := trodVars_none hV
  obtain ⟨a0, len0, cap0, rfl⟩ := okWide_slice Try.underlying62 (hval 0 62 v0 rfl rfl)
  have k0 := h0
  have lt0 : ∀ x ∈ p0, x.block < W.heap.size := by obtain ⟨m, hm⟩ := k0; exact DataW.trod_lt m _ _ _ hm
  obtain ⟨z0, w0⟩ : ∃ zs, BsAt W.heap.size W a0 len0 cap0 zs := by
    obtain ⟨fuel, hf⟩ := h0
    exact bs_of hf
  clear hA0 hval0
  refine (walk a0 len0 cap0 z0 W w0).mono fun e W' ⟨he, bel⟩ => ?_
  subst he
  exact ⟨_, rfl, _, _, _, [], _, [], hW', trodAll_mk1 (shut_bool Try.underlying4 _), (trodAll_cons_mk (Below.trod laidOut (by kernel_rfl) (of_decide_eq_true (by kernel_rfl)) k0 bel lt0) trodAll_mk0), rfl, bel.frame _, fun h => by cases h⟩

theorem closed : joinedFacts Try.prog 13 Try.f13 Rows.fnBraidSpec Rows.fnBraidRow = true :=
  ((restOf Try.prog 13 Try.f13 Rows.fnBraidSpec Rows.fnBraidRow).2 enter_is lifts_is make_is).trans (by kernel_rfl)
theorem over : Rows.fnBraidRow.holds Try.pinned (OpenSpec.ofChange Rows.fnBraidSpec) := by
  first
  | exact OpenClaim.holds_of_wide_leaving 13 Try.f13 rfl rfl rfl rfl rfl rfl rfl ⟨rfl, rfl, rfl, rfl, rfl⟩ rfl rfl rfl rfl rfl (by kernel_rfl) Try.func13 closed
      (of_decide_eq_true (by kernel_rfl)) (by unfold Func.isWrapper; first | (rw [if_pos (by decide +kernel)]; kernel_rfl) | (rw [if_neg (by decide +kernel)]; exact ⟨rfl, rfl⟩))
      (fun os started H enc _ => leaving_of_handed (lifted os started H enc))
  | exact OpenClaim.holds_of_wide 13 Try.f13 rfl rfl rfl rfl rfl rfl rfl ⟨rfl, rfl, rfl, rfl, rfl⟩ rfl rfl rfl rfl rfl (by kernel_rfl) Try.func13 closed
      (of_decide_eq_true (by kernel_rfl)) (by unfold Func.isWrapper; first | (rw [if_pos (by decide +kernel)]; kernel_rfl) | (rw [if_neg (by decide +kernel)]; exact ⟨rfl, rfl⟩))
      (fun os started H enc _ => lifted os started H enc)

theorem proved : Rows.FnBraidSaid := over
#print axioms proved
end Go.Proofs.Ytaaeiogdhmiaaaa.LBraid

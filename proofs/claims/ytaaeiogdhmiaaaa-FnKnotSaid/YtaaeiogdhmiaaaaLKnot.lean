/-
  Proves 'Rows.FnKnotSaid': for every list of bytes, the program's BraidKnot of the braid that the model draws from it answers as the model's, and where it holds the permutation leaves no place alone.
  Conditions: none beyond the row's own.
-/
import Derived.Test.YtaaeiogdhmiaaaaRows
import Derived.Test.YtaaeiogdhmiaaaaKf
import Derived.Test.YtaaeiogdhmiaaaaKl
import Derived.Test.YtaaeiogdhmiaaaaCt
import Derived.Test.YtaaeiogdhmiaaaaCv
import Derived.WalkKit
import Derived.ProofKit
import Derived.OpenShut
import Derived.ShutString
import Derived.ChangeOld
import Derived.Below
namespace Go.Proofs.Ytaaeiogdhmiaaaa.LKnot
open Go.ChangeShapes Go.WideShapes Go.ChangeAt Go.RowKit
open Go.ChangeMaps (open_string shut_string)
set_option linter.unusedVariables false

theorem own : ownKnob Try.prog.godebug = none := by kernel_rfl
theorem laidOut : laidOutB Try.prog = true := by kernel_rfl

set_option maxRecDepth 100000 in
set_option maxHeartbeats 4000000 in
theorem walk (a0 : Option Addr) (len0 cap0 : Nat) (z0 : List Int) (w : World) (w0 : BsAt w.heap.size w a0 len0 cap0 z0) :
    Calls Try.prog 21 #[.slice a0 len0 cap0] w fun e w' => e = .returned (.bool true) ∧ Below w.heap.size w w' := by
  have HDr := Lib.hid (drawBraidKnot_any a0 len0 cap0 z0 w w0)
  have hfit := w0.fit
  unfold maxLen at hfit
  clear w0
  by_cases hlong : ¬ len0 ≤ 1048576
  · have hd : decide ((1048576 : Int) < (len0 : Int)) = true := decide_eq_true (by omega)
    go_enter Try.func21, Try.ntmps21
    go_wp2_with fail
    go_ret
    exact ⟨rfl, Below.refl _ _⟩
  have hd : decide ((1048576 : Int) < (len0 : Int)) = false := decide_eq_false (by omega)
  go_enter Try.func21, Try.ntmps21
  go_wp2_with fail
  refine HDr.out.mono ?_
  rintro e w1 ⟨⟨m, s, rfl, hm, hs⟩, hb1⟩
  obtain ⟨V, hV⟩ : ∃ V, w1.alloc (.cells #[.int .i64 m, .string s] 26) = V := ⟨_, rfl⟩
  have HV := Lib.hid (oneBox hV)
  have HVE := Lib.hid hV
  have HBV := Lib.hid (hb1.trans (HV.out.1.mono hb1.size))
  obtain ⟨r, hr⟩ : ∃ r, knotB m s = r := ⟨_, rfl⟩
  have HR := Lib.hid hr
  have HSM : Hid (s.size ≤ maxLen) := Lib.hid (by unfold maxLen; omega)
  have hrr : (r != r) = false := by cases r <;> rfl
  have hrq : (r == r) = true := by cases r <;> rfl
  clear hV hb1 hr
  go_wp2_with fail
  rw [HVE.out]
  refine (iBraidKnot_any m s r V HSM.out HR.out).mono ?_
  rintro e w2 ⟨rfl, hb2⟩
  have HK2 := Lib.hid hb2
  clear hb2
  obtain ⟨⟨c0, c1⟩, _, _⟩ := boxOf2 HV.out.2.2 HK2.out
  go_wp2_with fail
  refine (sBraidKnot_any m s r w2 HSM.out HR.out).mono ?_
  rintro e w3 ⟨rfl, hb3⟩
  have HK3 := Lib.hid (HK2.out.trans (hb3.mono HK2.out.size))
  clear hb3 c0 c1
  cases r with
  | false =>
    go_wp2
    go_ret
    exact ⟨rfl, HBV.out.trans (HK3.out.mono HBV.out.size)⟩
  | true =>
    have hkn := HR.out
    unfold knotB at hkn
    simp only [Bool.and_eq_true, decide_eq_true_eq] at hkn
    obtain ⟨hbr, hbk⟩ := hkn
    obtain ⟨N, rfl⟩ : ∃ N : Nat, m = (N : Int) := ⟨m.toNat, by omega⟩
    rw [Int.toNat_natCast] at hbk
    obtain ⟨hN, hpl⟩ := braid_pl hbr
    have hne := knot_all N (mem234 hN) _ (atL_mem hN s.data.toList hpl) hbk
    have HNE : Hid (∀ i, i < N → (permZ N s.data.toList).getD i 0 ≠ (i : Int)) := Lib.hid fun i hi => hne i (List.mem_range.2 hi)
    have HP := Lib.hid (fun w => iBraidPerm_yes N s w hbr)
    obtain ⟨z, hz⟩ : ∃ z, permZ N s.data.toList = z := ⟨_, rfl⟩
    have HZL : Hid (z.length = N) := Lib.hid (by rw [← hz]; exact permZ_len _ _)
    rw [hz] at HP HNE
    obtain ⟨hN1, hN2⟩ := hN
    clear hbr hbk hpl hne hz
    obtain ⟨⟨c0, c1⟩, _, _⟩ := boxOf2 HV.out.2.2 HK3.out
    go_wp2_with fail
    refine (HP.out w3).mono ?_
    rintro e w4 ⟨v, rfl, hrow, hb4⟩
    have HK4 := Lib.hid (HK3.out.trans (hb4.mono HK3.out.size))
    obtain ⟨g, cap, rfl⟩ : ∃ g cap, v = .slice (some ⟨g, 0, none⟩) N cap := by
      rcases hrow.2 with ⟨_, h0⟩ | ⟨g, cap, cur, rfl, _⟩
      · exact absurd h0 (by rw [HZL.out]; omega)
      · exact ⟨g, cap, by rw [HZL.out]⟩
    have hcell : ∀ i, i < N → w4.cell? ⟨g, i, none⟩ = some (.int .i64 (z.getD i 0)) := fun i hi => by
      have h1 : i < z.length := by rw [HZL.out]; exact hi
      rw [World.ownsRow.cellAt (show w4.ownsRow w3.heap.size 3 1 (.slice (some ⟨g, 0, none⟩) N cap) N (intsV z) from by have := hrow; unfold IntRow at this; rwa [HZL.out] at this) i (by omega)]
      simp [intsV, List.getElem?_eq_getElem h1]
    have HCE := Lib.hid hcell
    clear hcell hrow hb4 c0 c1
    go_wp2_with fail
    go_loop [8] (fun i => ∃ k : Nat, k ≤ N ∧ i = .int .i64 (k : Int)) (fun i => N - (intOf i).toNat)
    case atStart => exact ⟨0, Nat.zero_le _, rfl⟩
    case round =>
      obtain ⟨k, hk, rfl⟩ := hrel
      by_cases hlt : k < N
      · have hc := HCE.out k hlt
        have hn := HNE.out k hlt
        obtain ⟨x, hx⟩ : ∃ x, z.getD k 0 = x := ⟨_, rfl⟩
        rw [hx] at hc hn
        have hd : (x == (k : Int)) = false := by simpa using hn
        clear hx
        go_wp2
        go_round
        case rel => exact ⟨k + 1, by omega, by go_num⟩
        case measure => simp [intOf]; omega
      · go_wp2
        go_ret
        exact ⟨rfl, HBV.out.trans (HK4.out.mono HBV.out.size)⟩

set_option maxRecDepth 100000 in
theorem lifted (os : Os) (started : os.Started) (H : Type) (enc : TypeId × Value → H) :
    ReturnsInHanded {} Try.checked os 21 .any (Rows.fnKnotSpec.pre6 enc Try.prog Try.f21 Rows.fnKnotRow.domain false) (Rows.fnKnotSpec.post enc Try.prog Try.f21 false true false false) := by
  refine returnsInHanded_of_change (C := Try.checked) own started (by kernel_rfl) Try.func21
    (ChangeSpec.witness6 (enc := enc) (C := Try.checked) false ⟨#[], #[.slice none 0 0], []⟩ 8 (by kernel_rfl) (by kernel_rfl) (by kernel_rfl) (by kernel_rfl)) ?_
  intro W base args ds gs before hval0 hW hcnd _
  have hval : ∀ (j : Nat) t v, Try.f21.params[j]? = some t → args[j]? = some v → Value.okWide Try.prog W .any base t v := hval0
  have hW' := hW
  obtain ⟨p, q, hA0, hV, rfl, hfz, hnd⟩ := hW
  have hA : DataW.TrodAll enc Try.prog W 0 (fun _ => true) true Try.f21.params.toList args.toList ds p := hA0
  rw [Try.params21] at hA hval
  obtain ⟨v0, vs0, d0, ds0, p0, q0, hargs, rfl, rfl, h0, r0⟩ := trodAll_cons hA
  obtain ⟨rfl, rfl, rfl⟩ := trodAll_nil r0
  obtain rfl : args = #[v0] := by cases args; simp_all
  obtain ⟨rfl, rfl⟩ := trodVars_none hV
  obtain ⟨a0, len0, cap0, rfl⟩ := okWide_slice Try.underlying62 (hval 0 62 v0 rfl rfl)
  have k0 := h0
  have lt0 : ∀ x ∈ p0, x.block < W.heap.size := by obtain ⟨m, hm⟩ := k0; exact DataW.trod_lt m _ _ _ hm
  obtain ⟨z0, w0⟩ : ∃ zs, BsAt W.heap.size W a0 len0 cap0 zs := by
    obtain ⟨fuel, hf⟩ := h0
    exact bs_of hf
  clear hA0 hval0
  refine (walk a0 len0 cap0 z0 W w0).mono fun e W' ⟨he, bel⟩ => ?_
  subst he
  exact ⟨_, rfl, _, _, _, [], _, [], hW', trodAll_mk1 (shut_bool Try.underlying4 _), (trodAll_cons_mk (Below.trod laidOut (by kernel_rfl) (of_decide_eq_true (by kernel_rfl)) k0 bel lt0) trodAll_mk0), rfl, bel.frame _, fun h => by cases h⟩

theorem closed : joinedFacts Try.prog 21 Try.f21 Rows.fnKnotSpec Rows.fnKnotRow = true :=
  ((restOf Try.prog 21 Try.f21 Rows.fnKnotSpec Rows.fnKnotRow).2 enter_is lifts_is make_is).trans (by kernel_rfl)
theorem over : Rows.fnKnotRow.holds Try.pinned (OpenSpec.ofChange Rows.fnKnotSpec) := by
  first
  | exact OpenClaim.holds_of_wide_leaving 21 Try.f21 rfl rfl rfl rfl rfl rfl rfl ⟨rfl, rfl, rfl, rfl, rfl⟩ rfl rfl rfl rfl rfl (by kernel_rfl) Try.func21 closed
      (of_decide_eq_true (by kernel_rfl)) (by unfold Func.isWrapper; first | (rw [if_pos (by decide +kernel)]; kernel_rfl) | (rw [if_neg (by decide +kernel)]; exact ⟨rfl, rfl⟩))
      (fun os started H enc _ => leaving_of_handed (lifted os started H enc))
  | exact OpenClaim.holds_of_wide 21 Try.f21 rfl rfl rfl rfl rfl rfl rfl ⟨rfl, rfl, rfl, rfl, rfl⟩ rfl rfl rfl rfl rfl (by kernel_rfl) Try.func21 closed
      (of_decide_eq_true (by kernel_rfl)) (by unfold Func.isWrapper; first | (rw [if_pos (by decide +kernel)]; kernel_rfl) | (rw [if_neg (by decide +kernel)]; exact ⟨rfl, rfl⟩))
      (fun os started H enc _ => lifted os started H enc)

theorem proved : Rows.FnKnotSaid := over
#print axioms proved
end Go.Proofs.Ytaaeiogdhmiaaaa.LKnot

/-
  Proves 'Rows.FnNestSaid': for every list of bytes, the nested commutator of the words that the model draws from it has depth 0 or at least their number, if these are at most four.
  Conditions: none beyond the row's own.
-/
import Derived.Test.YtdhmicpoigoleabRows
import Derived.WalkKit
import Derived.ProofKit
import Derived.OpenShut
import Derived.ShutString
import Derived.ChangeOld
import Derived.Below
import Derived.Test.YtdhmicpoigoleabBa
import Derived.Test.YtdhmicpoigoleabBb
import Derived.Test.YtdhmicpoigoleabBc

namespace Go.Proofs.Ytdhmicpoigoleab.LNest
open Go.ChangeShapes Go.WideShapes Go.ChangeAt Go.RowKit
open Go.ChangeMaps (open_string shut_string)
set_option linter.unusedVariables false

theorem own : ownKnob Try.prog.godebug = none := by kernel_rfl
theorem laidOut : laidOutB Try.prog = true := by kernel_rfl

set_option maxRecDepth 100000 in
set_option maxHeartbeats 4000000 in
theorem walk (a0 : Option Addr) (len0 cap0 : Nat) (z0 : List Int) (w : World) (w0 : BsAt w.heap.size w a0 len0 cap0 z0) :
    Calls Try.prog 3 #[.slice a0 len0 cap0] w fun e w' => e = .returned (.bool true) ∧ Below w.heap.size w w' := by
  have HDr := Lib.hid (drawNestOf_any a0 len0 cap0 z0 w w0)
  have hfit := w0.fit
  unfold maxLen at hfit
  clear w0
  by_cases hlong : ¬ len0 ≤ 1048576
  · have hd : decide ((1048576 : Int) < (len0 : Int)) = true := decide_eq_true (by omega)
    go_enter Try.func3, Try.ntmps3
    go_wp2_with fail
    go_ret
    exact ⟨rfl, Below.refl _ _⟩
  have hd : decide ((1048576 : Int) < (len0 : Int)) = false := decide_eq_false (by omega)
  go_enter Try.func3, Try.ntmps3
  go_wp2_with fail
  refine HDr.out.mono ?_
  rintro e w1 ⟨⟨g, c, k, ys, rfl, hkc, hk3, hyl, hat, hys⟩, hb1⟩
  have HB1 := Lib.hid hb1
  obtain ⟨o, ho⟩ : ∃ o, nestO ys = o := ⟨_, rfl⟩
  have HO := Lib.hid ho
  have HYL := Lib.hid hyl
  have HA1 := Lib.hid hat
  clear hb1 hat hys
  cases o with
  | none =>
    clear ho hyl
    go_wp2_with fail
    refine (iNestOf_any _ _ k ys none _ HYL.out hkc HA1.out HO.out).mono ?_
    rintro e w2 ⟨rfl, hb2⟩
    have HB2 := Lib.hid (HB1.out.trans (hb2.mono HB1.out.size))
    have HA1 := Lib.hid (HA1.out.below hb2)
    clear hb2
    go_wp2_with fail
    refine (sNestOf_any _ _ k ys none _ HYL.out HA1.out HO.out).mono ?_
    rintro e w3 ⟨rfl, hb3⟩
    have HB3 := Lib.hid (HB2.out.trans (hb3.mono HB2.out.size))
    clear hb3
    go_wp2
    go_ret
    exact ⟨rfl, HB3.out⟩
  | some t =>
    have hn : 1 ≤ k ∧ nestN ys k = some t := by
      unfold nestO at ho
      rw [hyl] at ho
      by_cases h : 1 ≤ k ∧ k ≤ 8
      · rw [if_pos h] at ho; exact ⟨h.1, ho⟩
      · rw [if_neg h] at ho; cases ho
    obtain ⟨hlow, hwt⟩ := nest_low k t (by omega) hn.2
    obtain ⟨n, hdn⟩ : ∃ n, depthT (serW t.data.toList) = n := ⟨_, rfl⟩
    have hge : n ≠ 0 → k ≤ n := fun h0 => by
      have := low_depth ((wordB_iff _).1 hwt).2.1 hlow (by rw [hdn]; exact h0)
      rw [hdn] at this
      exact this
    have htm : t.size ≤ maxLen := by
      have h1 := ((wordB_iff _).1 hwt).1
      have h2 : t.data.toList.length = t.size := by simp
      unfold maxLen; omega
    have HN := Lib.hid (fun W => iSeriesDepth_any t true n W htm hwt hdn)
    have HGE := Lib.hid hge
    clear ho hyl hlow hwt hdn hge
    go_wp2_with fail
    refine (iNestOf_any _ _ k ys (some t) _ HYL.out hkc HA1.out HO.out).mono ?_
    rintro e w2 ⟨rfl, hb2⟩
    have HB2 := Lib.hid (HB1.out.trans (hb2.mono HB1.out.size))
    have HA1 := Lib.hid (HA1.out.below hb2)
    clear hb2
    go_wp2_with fail
    refine (sNestOf_any _ _ k ys (some t) _ HYL.out HA1.out HO.out).mono ?_
    rintro e w3 ⟨rfl, hb3⟩
    have HB3 := Lib.hid (HB2.out.trans (hb3.mono HB2.out.size))
    clear hb3
    go_wp2_with fail
    refine (HN.out _).mono ?_
    rintro e w4 ⟨rfl, hb4⟩
    have HB4 := Lib.hid (HB3.out.trans (hb4.mono HB3.out.size))
    clear hb4
    by_cases hn0 : n = 0
    · subst hn0
      go_wp2
      go_ret
      exact ⟨rfl, HB4.out⟩
    · have hni : ((n : Int) == 0) = false := by simpa using hn0
      have hnn : ¬ (n : Int) = 0 := by omega
      have hk4 : ¬ (4 : Int) < (k : Int) := by omega
      have hd4 : decide ((4 : Int) < (k : Int)) = false := decide_eq_false hk4
      have hgi : (k : Int) ≤ (n : Int) := by have := HGE.out hn0; omega
      have hgd : decide ((k : Int) ≤ (n : Int)) = true := decide_eq_true hgi
      go_wp2
      go_ret
      exact ⟨rfl, HB4.out⟩

set_option maxRecDepth 100000 in
theorem lifted (os : Os) (started : os.Started) (H : Type) (enc : TypeId × Value → H) :
    ReturnsInHanded {} Try.checked os 3 .any (Rows.fnNestSpec.pre6 enc Try.prog Try.f3 Rows.fnNestRow.domain false) (Rows.fnNestSpec.post enc Try.prog Try.f3 false true false false) := by
  refine returnsInHanded_of_change (C := Try.checked) own started (by kernel_rfl) Try.func3
    (ChangeSpec.witness6 (enc := enc) (C := Try.checked) false ⟨#[], #[.slice none 0 0], []⟩ 8 (by kernel_rfl) (by kernel_rfl) (by kernel_rfl) (by kernel_rfl)) ?_
  intro W base args ds gs before hval0 hW hcnd _
  have hval : ∀ (j : Nat) t v, Try.f3.params[j]? = some t → args[j]? = some v → Value.okWide Try.prog W .any base t v := hval0
  have hW' := hW
  obtain ⟨p, q, hA0, hV, rfl, hfz, hnd⟩ := hW
  have hA : DataW.TrodAll enc Try.prog W 0 (fun _ => true) true Try.f3.params.toList args.toList ds p := hA0
  rw [Try.params3] at hA hval
  obtain ⟨v0, vs0, d0, ds0, p0, q0, hargs, rfl, rfl, h0, r0⟩ := trodAll_cons hA
  obtain ⟨rfl, rfl, rfl⟩ := trodAll_nil r0
  obtain rfl : args = #[v0] := by cases args; simp_all
  obtain ⟨rfl, rfl⟩ := trodVars_none hV
  obtain ⟨a0, len0, cap0, rfl⟩ := okWide_slice Try.underlying22 (hval 0 22 v0 rfl rfl)
  have k0 := h0
  have lt0 : ∀ x ∈ p0, x.block < W.heap.size := by obtain ⟨m, hm⟩ := k0; exact DataW.trod_lt m _ _ _ hm
  obtain ⟨z0, w0⟩ : ∃ zs, BsAt W.heap.size W a0 len0 cap0 zs := by
    obtain ⟨fuel, hf⟩ := h0
    exact bs_of hf
  clear hA0 hval0
  refine (walk a0 len0 cap0 z0 W w0).mono fun e W' ⟨he, bel⟩ => ?_
  subst he
  exact ⟨_, rfl, _, _, _, [], _, [], hW', trodAll_mk1 (shut_bool Try.underlying4 _), (trodAll_cons_mk (Below.trod laidOut (by kernel_rfl) (of_decide_eq_true (by kernel_rfl)) k0 bel lt0) trodAll_mk0), rfl, bel.frame _, fun h => by cases h⟩

theorem over : Rows.fnNestRow.holds Try.pinned (OpenSpec.ofChange Rows.fnNestSpec) :=
  OpenClaim.holds_of_wide 3 Try.f3 rfl rfl rfl rfl rfl rfl rfl ⟨rfl, rfl, rfl, rfl, rfl⟩ rfl rfl rfl rfl rfl (by kernel_rfl) Try.func3 (by kernel_rfl)
    (of_decide_eq_true (by kernel_rfl)) (by unfold Func.isWrapper; first | (rw [if_pos (by decide +kernel)]; kernel_rfl) | (rw [if_neg (by decide +kernel)]; exact ⟨rfl, rfl⟩))
    (fun os started H enc _ => lifted os started H enc)

theorem proved : Rows.FnNestSaid := over
#print axioms proved
end Go.Proofs.Ytdhmicpoigoleab.LNest

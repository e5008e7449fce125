/-
  Proves 'Rows.FnDepthSumSaid': for every list of bytes, the depth of the commutator of the two words that the model draws from it is 0 or not less than the sum of the words' own depths, where these are not 0.
  Conditions: none beyond the row's own.
-/
import Derived.Test.YtfhlceggihodeaaRows
import Derived.WalkKit
import Derived.ProofKit
import Derived.OpenShut
import Derived.ShutString
import Derived.ChangeOld
import Derived.Below
import Derived.Test.YtfhlceggihodeaaBa
import Derived.Test.YtfhlceggihodeaaBb
import Derived.Test.YtfhlceggihodeaaBc

namespace Go.Proofs.Ytfhlceggihodeaa.LDepthSum
open Go.ChangeShapes Go.WideShapes Go.ChangeAt Go.RowKit
open Go.ChangeMaps (open_string shut_string)
set_option linter.unusedVariables false

theorem own : ownKnob Try.prog.godebug = none := by kernel_rfl
theorem laidOut : laidOutB Try.prog = true := by kernel_rfl

set_option maxRecDepth 100000 in
set_option maxHeartbeats 2000000 in
theorem walk (a0 : Option Addr) (len0 cap0 : Nat) (z0 : List Int) (w : World) (w0 : BsAt w.heap.size w a0 len0 cap0 z0) :
    Calls Try.prog 3 #[.slice a0 len0 cap0] w fun e w' => e = .returned (.bool true) ∧ Below w.heap.size w w' := by
  have HDr := Lib.hid (drawComm_any a0 len0 cap0 z0 w w0)
  have hfit := w0.fit
  unfold maxLen at hfit
  clear w0
  by_cases hlong : ¬ len0 ≤ 1048576
  · have hd : decide ((1048576 : Int) < (len0 : Int)) = true := decide_eq_true (by omega)
    go_enter Try.func3, Try.ntmps3
    go_wp2_with fail
    go_ret
    exact ⟨rfl, Below.refl _ _⟩
  have hd : decide ((1048576 : Int) < (len0 : Int)) = false := decide_eq_false (by omega)
  go_enter Try.func3, Try.ntmps3
  go_wp2_with fail
  refine HDr.out.mono ?_
  rintro e w1 ⟨⟨s, t, rfl, hs, ht⟩, hb1⟩
  have HB1 := Lib.hid hb1
  have hs1 := hb1.size
  have hsm : s.size ≤ maxLen := by unfold maxLen; omega
  have htm : t.size ≤ maxLen := by unfold maxLen; omega
  clear hb1
  by_cases hw : ¬ (wordB s.data.toList = true ∧ wordB t.data.toList = true)
  · have HW := Lib.hid hw
    clear hw
    go_wp2_with fail
    refine (iComm_no s t _ hsm htm HW.out).mono ?_
    rintro e w2 ⟨rfl, hb2⟩
    have HB2 := Lib.hid (HB1.out.trans (hb2.mono hs1))
    clear hb2
    go_wp2_with fail
    refine (sComm_no s t _ hsm htm HW.out).mono ?_
    rintro e w3 ⟨rfl, hb3⟩
    have HB3 := Lib.hid (HB2.out.trans (hb3.mono HB2.out.size))
    clear hb3
    go_wp2
    go_ret
    exact ⟨rfl, HB3.out⟩
  obtain ⟨hws, hwt⟩ : wordB s.data.toList = true ∧ wordB t.data.toList = true := Decidable.not_not.1 hw
  have HWS := Lib.hid hws
  have HWT := Lib.hid hwt
  obtain ⟨r, hr⟩ : ∃ r, redL [] (commL s.data.toList t.data.toList) = r := ⟨_, rfl⟩
  have HR := Lib.hid hr
  clear hw
  by_cases h60 : r.length ≤ 60
  · have HT := Lib.hid (toldV_yes h60)
    obtain ⟨q, hq⟩ : ∃ q, bstr r = q := ⟨_, rfl⟩
    have hqd : q.data.toList = r := by rw [← hq, bstr_toList]
    have hls := ((wordB_iff _).1 hws).2.1
    have hlt := ((wordB_iff _).1 hwt).2.1
    have hlc : letL (commL s.data.toList t.data.toList) = true := by unfold commL; rw [letL_append, letL_append, letL_append, hls, hlt, letL_back _ hls, letL_back _ hlt]; rfl
    have hlr : letL r = true := by rw [← hr]; exact letL_redL _ [] hlc rfl
    have hwq : wordB q.data.toList = true := by rw [hqd, wordB_iff]; exact ⟨h60, hlr, by rw [← hr]; exact red_red _⟩
    have hqm : q.size ≤ maxLen := by
      have : q.data.toList.length = q.size := by simp
      rw [hqd] at this
      unfold maxLen; omega
    obtain ⟨n, hn⟩ : ∃ n, depthT (serW q.data.toList) = n := ⟨_, rfl⟩
    obtain ⟨u, hu⟩ : ∃ u, depthT (serW s.data.toList) = u := ⟨_, rfl⟩
    obtain ⟨v, hv⟩ : ∃ v, depthT (serW t.data.toList) = v := ⟨_, rfl⟩
    have hdep : n ≠ 0 → u ≠ 0 → v ≠ 0 → u + v ≤ n := fun h1 h2 h3 => by
      have := depth_comm hls hlt (by rw [hr, ← hqd, hn]; exact h1) (by rw [hu]; exact h2) (by rw [hv]; exact h3) (by rw [hr]; exact hlr)
      rw [hr, ← hqd, hn, hu, hv] at this
      exact this
    have hbd : ∀ l : List UInt8, letL l = true → depthT (serW l) ≤ 4 := fun l hl => by
      by_cases h0 : depthT (serW l) = 0
      · omega
      · obtain ⟨y, hy, e, _⟩ := depth_at (serW_ok l hl).canon (serW_no l hl) h0
        rw [← e]
        exact mono_size ((serW_ok l hl).mono y hy)
    have hu4 : u ≤ 4 := by rw [← hu]; exact hbd _ hls
    have hv4 : v ≤ 4 := by rw [← hv]; exact hbd _ hlt
    have hadd : IntKind.i64.wrap ((u : Int) + (v : Int)) = (u : Int) + (v : Int) := IntWalk.i64_in _ (by omega)
    have HN := Lib.hid (fun W => iSeriesDepth_any q true n W hqm hwq hn)
    have HU := Lib.hid (fun W => iSeriesDepth_any s true u W hsm hws hu)
    have HV := Lib.hid (fun W => iSeriesDepth_any t true v W htm hwt hv)
    have HD := Lib.hid hdep
    have HQ := Lib.hid hq
    clear hws hwt hqd hls hlt hlc hlr hwq hn hu hv hdep hbd hq hr h60
    go_wp2_with fail
    refine (iComm_yes s t _ HWS.out HWT.out).mono ?_
    rintro e w2 ⟨rfl, hb2⟩
    rw [HR.out, HT.out, HQ.out]
    have HB2 := Lib.hid (HB1.out.trans (hb2.mono hs1))
    clear hb2
    go_wp2_with fail
    refine (sComm_yes s t _ HWS.out HWT.out).mono ?_
    rintro e w3 ⟨rfl, hb3⟩
    rw [HR.out, HT.out, HQ.out]
    have HB3 := Lib.hid (HB2.out.trans (hb3.mono HB2.out.size))
    clear hb3
    go_wp2_with fail
    refine (HN.out _).mono ?_
    rintro e w4 ⟨rfl, hb4⟩
    have HB4 := Lib.hid (HB3.out.trans (hb4.mono HB3.out.size))
    clear hb4
    go_wp2_with fail
    refine (HU.out _).mono ?_
    rintro e w5 ⟨rfl, hb5⟩
    have HB5 := Lib.hid (HB4.out.trans (hb5.mono HB4.out.size))
    clear hb5
    go_wp2_with fail
    refine (HV.out _).mono ?_
    rintro e w6 ⟨rfl, hb6⟩
    have HB6 := Lib.hid (HB5.out.trans (hb6.mono HB5.out.size))
    clear hb6
    by_cases hn0 : n = 0
    · subst hn0
      go_wp2
      go_ret
      exact ⟨rfl, HB6.out⟩
    · have hni : ((n : Int) == 0) = false := by simpa using hn0
      have hnn : ¬ (n : Int) = 0 := by omega
      by_cases hu0 : u = 0
      · subst hu0
        go_wp2
        go_ret
        exact ⟨rfl, HB6.out⟩
      · have hui : ((u : Int) == 0) = false := by simpa using hu0
        have hun : ¬ (u : Int) = 0 := by omega
        by_cases hv0 : v = 0
        · subst hv0
          go_wp2
          go_ret
          exact ⟨rfl, HB6.out⟩
        · have hvi : ((v : Int) == 0) = false := by simpa using hv0
          have hvn : ¬ (v : Int) = 0 := by omega
          have hge := HD.out hn0 hu0 hv0
          have hgi : (u : Int) + (v : Int) ≤ (n : Int) := by omega
          have hgd : decide ((u : Int) + (v : Int) ≤ (n : Int)) = true := decide_eq_true hgi
          go_wp2
          go_ret
          exact ⟨rfl, HB6.out⟩
  · have HT := Lib.hid (toldV_no h60)
    clear hws hwt hr h60
    go_wp2_with fail
    refine (iComm_yes s t _ HWS.out HWT.out).mono ?_
    rintro e w2 ⟨rfl, hb2⟩
    rw [HR.out, HT.out]
    have HB2 := Lib.hid (HB1.out.trans (hb2.mono hs1))
    clear hb2
    go_wp2_with fail
    refine (sComm_yes s t _ HWS.out HWT.out).mono ?_
    rintro e w3 ⟨rfl, hb3⟩
    rw [HR.out, HT.out]
    have HB3 := Lib.hid (HB2.out.trans (hb3.mono HB2.out.size))
    clear hb3
    go_wp2
    go_ret
    exact ⟨rfl, HB3.out⟩

set_option maxRecDepth 100000 in
theorem lifted (os : Os) (started : os.Started) (H : Type) (enc : TypeId × Value → H) :
    ReturnsInHanded {} Try.checked os 3 .any (Rows.fnDepthSumSpec.pre6 enc Try.prog Try.f3 Rows.fnDepthSumRow.domain false) (Rows.fnDepthSumSpec.post enc Try.prog Try.f3 false true false false) := by
  refine returnsInHanded_of_change (C := Try.checked) own started (by kernel_rfl) Try.func3
    (ChangeSpec.witness6 (enc := enc) (C := Try.checked) false ⟨#[], #[.slice none 0 0], []⟩ 8 (by kernel_rfl) (by kernel_rfl) (by kernel_rfl) (by kernel_rfl)) ?_
  intro W base args ds gs before hval0 hW hcnd _
  have hval : ∀ (j : Nat) t v, Try.f3.params[j]? = some t → args[j]? = some v → Value.okWide Try.prog W .any base t v := hval0
  have hW' := hW
  obtain ⟨p, q, hA0, hV, rfl, hfz, hnd⟩ := hW
  have hA : DataW.TrodAll enc Try.prog W 0 (fun _ => true) true Try.f3.params.toList args.toList ds p := hA0
  rw [Try.params3] at hA hval
  obtain ⟨v0, vs0, d0, ds0, p0, q0, hargs, rfl, rfl, h0, r0⟩ := trodAll_cons hA
  obtain ⟨rfl, rfl, rfl⟩ := trodAll_nil r0
  obtain rfl : args = #[v0] := by cases args; simp_all
  obtain ⟨rfl, rfl⟩ := trodVars_none hV
  obtain ⟨a0, len0, cap0, rfl⟩ := okWide_slice Try.underlying22 (hval 0 22 v0 rfl rfl)
  have k0 := h0
  have lt0 : ∀ x ∈ p0, x.block < W.heap.size := by obtain ⟨m, hm⟩ := k0; exact DataW.trod_lt m _ _ _ hm
  obtain ⟨z0, w0⟩ : ∃ zs, BsAt W.heap.size W a0 len0 cap0 zs := by
    obtain ⟨fuel, hf⟩ := h0
    exact bs_of hf
  clear hA0 hval0
  refine (walk a0 len0 cap0 z0 W w0).mono fun e W' ⟨he, bel⟩ => ?_
  subst he
  exact ⟨_, rfl, _, _, _, [], _, [], hW', trodAll_mk1 (shut_bool Try.underlying4 _), (trodAll_cons_mk (Below.trod laidOut (by kernel_rfl) (of_decide_eq_true (by kernel_rfl)) k0 bel lt0) trodAll_mk0), rfl, bel.frame _, fun h => by cases h⟩

theorem over : Rows.fnDepthSumRow.holds Try.pinned (OpenSpec.ofChange Rows.fnDepthSumSpec) :=
  OpenClaim.holds_of_wide 3 Try.f3 rfl rfl rfl rfl rfl rfl rfl ⟨rfl, rfl, rfl, rfl, rfl⟩ rfl rfl rfl rfl rfl (by kernel_rfl) Try.func3 (by kernel_rfl)
    (of_decide_eq_true (by kernel_rfl)) (by unfold Func.isWrapper; first | (rw [if_pos (by decide +kernel)]; kernel_rfl) | (rw [if_neg (by decide +kernel)]; exact ⟨rfl, rfl⟩))
    (fun os started H enc _ => lifted os started H enc)

theorem proved : Rows.FnDepthSumSaid := over
#print axioms proved
end Go.Proofs.Ytfhlceggihodeaa.LDepthSum

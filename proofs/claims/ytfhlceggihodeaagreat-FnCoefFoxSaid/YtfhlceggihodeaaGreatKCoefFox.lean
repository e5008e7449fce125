/-
  Proves 'Rows.FnCoefFoxSaid': for every list of bytes, the coefficient of two letters in the series of the word that the model draws from it is what the derivatives in turn at those letters come to.
  Conditions: none beyond the row's own.
-/
import Derived.Test.YtfhlceggihodeaaGreatRows
import Derived.WalkKit
import Derived.ProofKit
import Derived.OpenShut
import Derived.ShutString
import Derived.ChangeOld
import Derived.Below
import Derived.Test.YtfhlceggihodeaaGreatBa
import Derived.Test.YtfhlceggihodeaaGreatBb
import Derived.Test.YtfhlceggihodeaaGreatBc

namespace Go.Proofs.YtfhlceggihodeaaGreat.LCoefFox
open Go.ChangeShapes Go.WideShapes Go.ChangeAt Go.RowKit
open Go.ChangeMaps (open_string shut_string)
set_option linter.unusedVariables false

theorem own : ownKnob Tryz.prog.godebug = none := by kernel_rfl
theorem laidOut : laidOutB Tryz.prog = true := by kernel_rfl

set_option maxRecDepth 100000 in
set_option maxHeartbeats 4000000 in
theorem walk (a0 : Option Addr) (len0 cap0 : Nat) (z0 : List Int) (w : World) (w0 : BsAt w.heap.size w a0 len0 cap0 z0) :
    Calls Tryz.prog 3 #[.slice a0 len0 cap0] w fun e w' => e = .returned (.bool true) ∧ Below w.heap.size w w' := by
  have HDr := Lib.hid (drawFoxTwice_any a0 len0 cap0 z0 w w0)
  have hfit := w0.fit
  unfold maxLen at hfit
  clear w0
  by_cases hlong : ¬ len0 ≤ 1048576
  · have hd : decide ((1048576 : Int) < (len0 : Int)) = true := decide_eq_true (by omega)
    go_enter Tryz.func3, Tryz.ntmps3
    go_wp2_with fail
    go_ret
    exact ⟨rfl, Below.refl _ _⟩
  have hd : decide ((1048576 : Int) < (len0 : Int)) = false := decide_eq_false (by omega)
  go_enter Tryz.func3, Tryz.ntmps3
  go_wp2_with fail
  refine HDr.out.mono ?_
  rintro e w1 ⟨⟨s, g, k, rfl, hs, hg1, hg2, hk1, hk2⟩, hb1⟩
  have HB1 := Lib.hid hb1
  have hs1 := hb1.size
  have hsm : s.size ≤ maxLen := by unfold maxLen; omega
  clear hb1
  obtain ⟨b1, hb1⟩ : ∃ b, foxOfB s g = b := ⟨_, rfl⟩
  obtain ⟨us, hus⟩ : ∃ us, cond b1 (canonT (foxL g 1 s.data.toList)) [] = us := ⟨_, rfl⟩
  obtain ⟨b2, hb2⟩ : ∃ b, foxSumB us k = b := ⟨_, rfl⟩
  obtain ⟨us2, hus2⟩ : ∃ u, cond b2 (canonT (foxI k us)) [] = u := ⟨_, rfl⟩
  obtain ⟨z, hz⟩ : ∃ z, cond (b1 && b2) (plainZ us2) 0 = z := ⟨_, rfl⟩
  obtain ⟨b, hb⟩ : ∃ b, (b1 && b2) = b := ⟨_, rfl⟩
  have HT : Hid (Twice s g k b1 b2 us us2 z b) := Lib.hid ⟨hb1, hus, hb2, hus2, hz, hb⟩
  clear hb1 hus hb2 hus2 hz hb
  have hne : (b != b) = false := by cases b <;> rfl
  have hnz : (z != z) = false := by simp
  have hzz : (z == z) = true := by simp
  have hbb : (b == b) = true := by simp
  go_wp2_with fail
  refine (iFoxTwice_any s g k b1 b2 us us2 z b _ hsm HT.out).mono ?_
  rintro e w2 ⟨rfl, hb2⟩
  have HB2 := Lib.hid (HB1.out.trans (hb2.mono hs1))
  clear hb2
  go_wp2_with fail
  refine (sFoxTwice_any s g k b1 b2 us us2 z b _ hsm HT.out).mono ?_
  rintro e w3 ⟨rfl, hb3⟩
  have HB3 := Lib.hid (HB2.out.trans (hb3.mono HB2.out.size))
  clear hb3
  cases b with
  | false =>
    go_wp2
    go_ret
    exact ⟨rfl, HB3.out⟩
  | true =>
    obtain ⟨rfl, rfl⟩ : b1 = true ∧ b2 = true := by have := HT.out.hb; simpa using this
    have hfo : foxOfB s g = true := HT.out.h1
    have hfs : foxSumB us k = true := HT.out.h2
    unfold foxOfB at hfo
    unfold foxSumB at hfs
    simp only [Bool.and_eq_true] at hfo hfs
    obtain ⟨hw, hgr⟩ := hfo
    have hkr := hfs.2.1
    unfold inR at hgr hkr
    simp only [Bool.and_eq_true, decide_eq_true_eq] at hgr hkr
    obtain ⟨G, rfl⟩ := Int.eq_ofNat_of_zero_le hgr.1
    obtain ⟨K, rfl⟩ := Int.eq_ofNat_of_zero_le hkr.1
    have hG : G < 4 := by omega
    have hK : K < 4 := by omega
    have hl := ((wordB_iff _).1 hw).2.1
    obtain ⟨m, hm⟩ : ∃ m, bstr [xB K, xB G] = m := ⟨_, rfl⟩
    have hmm : monoB m = true := by
      rw [← hm]
      have : ∀ i j : Fin 4, monoB (bstr [xB i.val, xB j.val]) = true := by decide +kernel
      exact this ⟨K, hK⟩ ⟨G, hG⟩
    have hms : m.size ≤ maxLen := by rw [← hm]; unfold maxLen; show 2 ≤ _; omega
    have hco : coefAt m (serW s.data.toList) = z := by
      rw [← hm, coef_fox hK hG _ hl]
      have e1 : canonT (foxL (G : Int) 1 s.data.toList) = us := HT.out.hus
      have e2 : canonT (foxI (K : Int) us) = us2 := HT.out.hus2
      have e3 : plainZ us2 = z := HT.out.hz
      rw [e1, e2, e3]
    have HCo := Lib.hid (fun W => iSeriesCoef_any s m true true z true W hsm hms hw hmm hco rfl)
    have hcv : ∀ V : World, (convert 22 9 (.slice (some ⟨V.heap.size, 0, none⟩) 2 2)).run Tryz.prog (V.alloc (.cells #[.int .u8 (97 + (K : Int)), .int .u8 (97 + (G : Int))] 5)) = .ok (.string m) (V.alloc (.cells #[.int .u8 (97 + (K : Int)), .int .u8 (97 + (G : Int))] 5)) := fun V => by
      rw [← hm]
      have hx : ∀ n : Nat, n < 4 → ((xB n).toNat : Int) = 97 + (n : Int) := fun n hn => by unfold xB; rw [UInt8.toNat_ofNat', Nat.mod_eq_of_lt (by omega)]; push_cast; rfl
      have := run_convert_bytes_back (P := Tryz.prog) (V.alloc (.cells #[.int .u8 (97 + (K : Int)), .int .u8 (97 + (G : Int))] 5)) 22 9 5 ⟨V.heap.size, 0, none⟩ 2 [xB K, xB G] Tryz.underlying22 Tryz.underlying5 Tryz.underlying9 (fun j hj => by
        have h2 : j = 0 ∨ j = 1 := by
          have : j < 2 := hj
          omega
        rcases h2 with rfl | rfl
        · show (V.alloc _).cell? ((⟨V.heap.size, 0, none⟩ : Addr).add 0) = some (.int .u8 ((xB K).toNat : Int))
          rw [hx K hK]
          exact (World.cell?_alloc_at _ _ _ _ (by simp)).trans rfl
        · show (V.alloc _).cell? ((⟨V.heap.size, 0, none⟩ : Addr).add 1) = some (.int .u8 ((xB G).toNat : Int))
          rw [hx G hG]
          exact (World.cell?_alloc_at _ _ _ _ (by simp)).trans rfl)
      exact this
    have hcv3 := hcv w3
    have e1 : IntKind.i64.wrap (97 + (K : Int)) = 97 + (K : Int) := IntWalk.i64_in _ (by omega)
    have e2 : IntKind.i64.wrap (97 + (G : Int)) = 97 + (G : Int) := IntWalk.i64_in _ (by omega)
    have e3 : IntKind.u8.wrap (97 + (K : Int)) = 97 + (K : Int) := IntWalk.u8_in _ (by omega)
    have e4 : IntKind.u8.wrap (97 + (G : Int)) = 97 + (G : Int) := IntWalk.u8_in _ (by omega)
    have HB4 := Lib.hid (HB3.out.alloc HB3.out.size (.cells #[.int .u8 (97 + (K : Int)), .int .u8 (97 + (G : Int))] 5))
    clear hcv hm hmm hms hco hw hl HT hfs
    go_wp2_with fail
    refine (HCo.out _).mono ?_
    rintro e w5 ⟨rfl, hb5⟩
    have HB5 := Lib.hid (HB4.out.trans (hb5.mono HB4.out.size))
    clear hb5
    go_wp2
    go_ret
    exact ⟨rfl, HB5.out⟩

set_option maxRecDepth 100000 in
theorem lifted (os : Os) (started : os.Started) (H : Type) (enc : TypeId × Value → H) :
    ReturnsInHanded {} Tryz.checked os 3 .any (Rows.fnCoefFoxSpec.pre6 enc Tryz.prog Tryz.f3 Rows.fnCoefFoxRow.domain false) (Rows.fnCoefFoxSpec.post enc Tryz.prog Tryz.f3 false true false false) := by
  refine returnsInHanded_of_change (C := Tryz.checked) own started (by kernel_rfl) Tryz.func3
    (ChangeSpec.witness6 (enc := enc) (C := Tryz.checked) false ⟨#[], #[.slice none 0 0], []⟩ 8 (by kernel_rfl) (by kernel_rfl) (by kernel_rfl) (by kernel_rfl)) ?_
  intro W base args ds gs before hval0 hW hcnd _
  have hval : ∀ (j : Nat) t v, Tryz.f3.params[j]? = some t → args[j]? = some v → Value.okWide Tryz.prog W .any base t v := hval0
  have hW' := hW
  obtain ⟨p, q, hA0, hV, rfl, hfz, hnd⟩ := hW
  have hA : DataW.TrodAll enc Tryz.prog W 0 (fun _ => true) true Tryz.f3.params.toList args.toList ds p := hA0
  rw [Tryz.params3] at hA hval
  obtain ⟨v0, vs0, d0, ds0, p0, q0, hargs, rfl, rfl, h0, r0⟩ := trodAll_cons hA
  obtain ⟨rfl, rfl, rfl⟩ := trodAll_nil r0
  obtain rfl : args = #[v0] := by cases args; simp_all
  obtain ⟨rfl, rfl⟩ := trodVars_none hV
  obtain ⟨a0, len0, cap0, rfl⟩ := okWide_slice Tryz.underlying22 (hval 0 22 v0 rfl rfl)
  have k0 := h0
  have lt0 : ∀ x ∈ p0, x.block < W.heap.size := by obtain ⟨m, hm⟩ := k0; exact DataW.trod_lt m _ _ _ hm
  obtain ⟨z0, w0⟩ : ∃ zs, BsAt W.heap.size W a0 len0 cap0 zs := by
    obtain ⟨fuel, hf⟩ := h0
    exact bs_of hf
  clear hA0 hval0
  refine (walk a0 len0 cap0 z0 W w0).mono fun e W' ⟨he, bel⟩ => ?_
  subst he
  exact ⟨_, rfl, _, _, _, [], _, [], hW', trodAll_mk1 (shut_bool Tryz.underlying4 _), (trodAll_cons_mk (Below.trod laidOut (by kernel_rfl) (of_decide_eq_true (by kernel_rfl)) k0 bel lt0) trodAll_mk0), rfl, bel.frame _, fun h => by cases h⟩

theorem over : Rows.fnCoefFoxRow.holds Tryz.pinned (OpenSpec.ofChange Rows.fnCoefFoxSpec) :=
  OpenClaim.holds_of_wide 3 Tryz.f3 rfl rfl rfl rfl rfl rfl rfl ⟨rfl, rfl, rfl, rfl, rfl⟩ rfl rfl rfl rfl rfl (by kernel_rfl) Tryz.func3 (by kernel_rfl)
    (of_decide_eq_true (by kernel_rfl)) (by unfold Func.isWrapper; first | (rw [if_pos (by decide +kernel)]; kernel_rfl) | (rw [if_neg (by decide +kernel)]; exact ⟨rfl, rfl⟩))
    (fun os started H enc _ => lifted os started H enc)

theorem proved : Rows.FnCoefFoxSaid := over
#print axioms proved
end Go.Proofs.YtfhlceggihodeaaGreat.LCoefFox

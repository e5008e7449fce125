/-
  Proves 'Rows.FnExactGroupInSaid': for every value of type Group, the program's GroupIn answers as the model's GroupIn and leaves the relators alone.
  Conditions: none beyond the row's own.
-/
import Derived.Test.YtbbkpaledlbcmaaRows
import Derived.WalkKit
import Derived.ProofKit
import Derived.OpenShut
import Derived.ShutString
import Derived.ChangeOld
import Derived.Below
import Derived.Test.YtbbkpaledlbcmaaBa
import Derived.Test.YtbbkpaledlbcmaaBb
import Derived.Test.YtbbkpaledlbcmaaBc
import Derived.Test.YtbbkpaledlbcmaaBd
import Derived.Test.YtbbkpaledlbcmaaBe

namespace Go.Proofs.Ytbbkpaledlbcmaa.LGroupIn
open Go.ChangeShapes Go.WideShapes Go.ChangeAt Go.RowKit
open Go.ChangeMaps (open_string shut_string)
set_option linter.unusedVariables false

theorem own : ownKnob Try.prog.godebug = none := by kernel_rfl
theorem laidOut : laidOutB Try.prog = true := by kernel_rfl

set_option maxRecDepth 100000 in
set_option maxHeartbeats 4000000 in
theorem walk (low0 : Int) (a0 : Option Addr) (len0 cap0 : Nat) (z0 : List ByteArray) (w : World) (b0 : -9223372036854775808 ≤ low0 ∧ low0 ≤ 9223372036854775807) (w0 : IsStrs w a0 len0 z0) :
    Calls Try.prog 17 #[.agg #[.int .i64 low0, .slice a0 len0 cap0]] w fun e w' => e = .returned (.bool true) ∧ Below w.heap.size w w' := by
  have hmx := w0.max
  obtain ⟨W, hW⟩ : ∃ W, w.alloc (.cells #[.int .i64 low0, .slice a0 len0 cap0] 61) = W := ⟨_, rfl⟩
  have hsz : W.heap.size = w.heap.size + 1 := by rw [← hW]; simp
  have hbW : Below w.heap.size w W := by rw [← hW]; exact (Below.refl _ w).alloc (Nat.le_refl _) _
  have HC : Hid (∀ w1, Below W.heap.size W w1 → w1.cell? ⟨w.heap.size, 0, none⟩ = some (.int .i64 low0) ∧ w1.cell? ⟨w.heap.size, 1, none⟩ = some (.slice a0 len0 cap0)) := Lib.hid fun w1 hg => by
    have e0 := hg.block w.heap.size (by omega)
    rw [← hW, World.alloc_heap_new] at e0
    refine ⟨?_, ?_⟩ <;> simp [World.cell?, e0]
  obtain ⟨b, hb⟩ : ∃ b, groupB low0 z0 = b := ⟨_, rfl⟩
  have HB := Lib.hid hb
  have HS := Lib.hid (w0.below hbW)
  have HBW := Lib.hid hbW
  have HW := Lib.hid hW
  have HLN := Lib.hid w0.len
  clear hW hbW hb w0 b0
  go_enter Try.func17, Try.ntmps17
  go_wp2_with fail
  rw [HW.out]
  refine (szGroup_any low0 a0 cap0 len0 1048576 z0 W HS.out (by omega)).mono ?_
  rintro e W1 ⟨⟨k, rfl, hk⟩, hb1⟩
  have hs1 := hb1.size
  have HB1 := Lib.hid hb1
  obtain ⟨c0, c1⟩ := HC.out W1 hb1
  clear hb1
  by_cases hk0 : k < 0
  · clear hk
    go_wp2
    go_ret
    exact ⟨rfl, HBW.out.trans (HB1.out.mono HBW.out.size)⟩
  · have hnl : len0 ≤ 1048576 := by rcases hk with h | ⟨_, h, _⟩ <;> omega
    clear hk
    go_wp2_with fail
    refine (toGroup_t low0 a0 cap0 len0 z0 W1 hnl (HS.out.below HB1.out)).mono ?_
    rintro e W2 ⟨⟨g1, rfl, _, _, hi1⟩, hb2⟩
    have HI1 := Lib.hid hi1
    have HB2 := Lib.hid (HB1.out.trans (hb2.mono hs1))
    obtain ⟨c0, c1⟩ := HC.out W2 HB2.out
    have hs2 := HB2.out.size
    clear hi1 hb2
    go_wp2_with fail
    refine (sGroupIn_law HI1.out HB.out).mono ?_
    rintro e W3 ⟨rfl, hb3⟩
    have HB3 := Lib.hid (HB2.out.trans (hb3.mono hs2))
    obtain ⟨c0, c1⟩ := HC.out W3 HB3.out
    have hs3 := HB3.out.size
    clear hb3
    go_wp2_with fail
    refine (toGroup_t low0 a0 cap0 len0 z0 W3 hnl (HS.out.below HB3.out)).mono ?_
    rintro e W4 ⟨⟨g2, rfl, hg2, hr2, hi2⟩, hb4⟩
    have HI2 := Lib.hid hi2
    have HR2 := Lib.hid hr2
    have HB4 := Lib.hid (HB3.out.trans (hb4.mono hs3))
    obtain ⟨c0, c1⟩ := HC.out W4 HB4.out
    have hs4 := HB4.out.size
    clear hi2 hb4 hr2
    obtain ⟨V, hV⟩ : ∃ V, W4.alloc (.cells #[.int .i64 low0, .slice (some ⟨g2, 0, none⟩) len0 len0] 64) = V := ⟨_, rfl⟩
    have hbV : Below W4.heap.size W4 V := by rw [← hV]; exact (Below.refl _ _).alloc (Nat.le_refl _) _
    have hsV : V.heap.size = W4.heap.size + 1 := by rw [← hV]; simp
    have HD : Hid (∀ w1, Below V.heap.size V w1 → _) := Lib.hid fun w1 (hg : Below V.heap.size V w1) => ((boxNew hV).below hg).2
    have HIV := Lib.hid (HI2.out.below hbV)
    have HRV := Lib.hid (HR2.out.below hbV)
    have HBV := Lib.hid (HB4.out.trans (hbV.mono hs4))
    have HV := Lib.hid hV
    clear hV hbV
    go_wp2_with fail
    rw [HV.out]
    refine (iGroupIn_law HIV.out HB.out).mono ?_
    rintro e W5 ⟨rfl, hb5⟩
    have HB5 := Lib.hid (HBV.out.trans (hb5.mono HBV.out.size))
    obtain ⟨c0, c1⟩ := HC.out W5 HB5.out
    obtain ⟨d0, d1⟩ := HD.out W5 hb5
    have HV5 := Lib.hid hb5
    have HR5 := Lib.hid (HRV.out.below hb5)
    have hs5 := HB5.out.size
    have hs55 := hb5.size
    have hne : (b != b) = false := by cases b <;> rfl
    clear hb5
    go_wp2
    go_region_held3 (fun w' : World => w'.cell? ⟨w.heap.size, 0, none⟩ = some (.int .i64 low0) ∧ w'.cell? ⟨w.heap.size, 1, none⟩ = some (.slice a0 len0 cap0) ∧ w'.cell? ⟨W4.heap.size, 0, none⟩ = some (.int .i64 low0) ∧ w'.cell? ⟨W4.heap.size, 1, none⟩ = some (.slice (some ⟨g2, 0, none⟩) len0 len0)) (first | go_keep | exact ⟨k0, k1, k2, k3⟩)
      (first
        | (go_at_call 67
           refine (toGroup_t low0 a0 cap0 len0 z0 _ hnl (HS.out.below HB5.out.drew)).mono ?_
           rintro e W6 ⟨⟨g3, rfl, _, hr3, _⟩, hb6⟩
           have HR3 := Lib.hid hr3
           have HV6 := Lib.hid (HV5.out.drew.trans (hb6.mono hs55))
           have HB6 := Lib.hid (HB5.out.drew.trans (hb6.mono hs5))
           have HR6 := Lib.hid (HR5.out.below (Below.trans (Below.refl _ _).drew hb6))
           obtain ⟨k0, k1⟩ := HC.out W6 HB6.out
           obtain ⟨k2, k3⟩ := HD.out W6 HV6.out
           clear hr3 hb6)
        | (go_at_call 69
           refine (eqGroup_yes _ _ low0 _ _ z0 _ (by rw [HLN.out]; exact hnl) HR6.out HR3.out).mono ?_
           rintro e W7 ⟨rfl, hb7⟩
           have HB7 := Lib.hid (HB6.out.trans (hb7.mono HB6.out.size))
           obtain ⟨k0, k1⟩ := HC.out W7 HB7.out
           obtain ⟨k2, k3⟩ := HD.out W7 (HV6.out.trans (hb7.mono HV6.out.size))
           clear hb7))
    go_wp2
    go_ret
    exact ⟨rfl, HBW.out.trans (HB7.out.mono HBW.out.size)⟩

set_option maxRecDepth 100000 in
theorem lifted (os : Os) (started : os.Started) (H : Type) (enc : TypeId × Value → H) :
    ReturnsInHanded {} Try.checked os 17 .any (Rows.fnExactGroupInSpec.pre6 enc Try.prog Try.f17 Rows.fnExactGroupInRow.domain false) (Rows.fnExactGroupInSpec.post enc Try.prog Try.f17 false true false false) := by
  refine returnsInHanded_of_change (C := Try.checked) own started (by kernel_rfl) Try.func17
    (ChangeSpec.witness6 (enc := enc) (C := Try.checked) false ⟨#[], #[.agg #[.int .i64 0, .slice none 0 0]], []⟩ 8 (by kernel_rfl) (by kernel_rfl) (by kernel_rfl) (by kernel_rfl)) ?_
  intro W base args ds gs before hval0 hW hcnd _
  have hval : ∀ (j : Nat) t v, Try.f17.params[j]? = some t → args[j]? = some v → Value.okWide Try.prog W .any base t v := hval0
  have hW' := hW
  obtain ⟨p, q, hA0, hV, rfl, hfz, hnd⟩ := hW
  have hA : DataW.TrodAll enc Try.prog W 0 (fun _ => true) true Try.f17.params.toList args.toList ds p := hA0
  rw [Try.params17] at hA hval
  obtain ⟨v0, vs0, d0, ds0, p0, q0, hargs, rfl, rfl, h0, r0⟩ := trodAll_cons hA
  obtain ⟨rfl, rfl, rfl⟩ := trodAll_nil r0
  obtain rfl : args = #[v0] := by cases args; simp_all
  obtain ⟨rfl, rfl⟩ := trodVars_none hV
  obtain ⟨cs0, rfl, _⟩ := okWide_struct Try.underlying61 (hval 0 61 v0 rfl rfl)
  have k0 := h0
  have lt0 : ∀ x ∈ p0, x.block < W.heap.size := by obtain ⟨m, hm⟩ := k0; exact DataW.trod_lt m _ _ _ hm
  obtain ⟨low0, a0, len0, cap0, z0, rfl, b0, w0⟩ : ∃ (low : Int) (a : Option Addr) (len cap : Nat) (zs : List ByteArray), cs0 = #[.int .i64 low, .slice a len cap] ∧ (-9223372036854775808 ≤ low ∧ low ≤ 9223372036854775807) ∧ IsStrs W a len zs := by
    obtain ⟨fuel, hf⟩ := h0
    exact group_of hf
  clear hA0 hval0
  refine (walk low0 a0 len0 cap0 z0 W b0 w0).mono fun e W' ⟨he, bel⟩ => ?_
  subst he
  exact ⟨_, rfl, _, _, _, [], _, [], hW', trodAll_mk1 (shut_bool Try.underlying4 _), (trodAll_cons_mk (Below.trod laidOut (by kernel_rfl) (of_decide_eq_true (by kernel_rfl)) k0 bel lt0) trodAll_mk0), rfl, bel.frame _, fun h => by cases h⟩

theorem closed : joinedFacts Try.prog 17 Try.f17 Rows.fnExactGroupInSpec Rows.fnExactGroupInRow = true :=
  ((restOf Try.prog 17 Try.f17 Rows.fnExactGroupInSpec Rows.fnExactGroupInRow).2 enter_is lifts_is make_is).trans (by kernel_rfl)
theorem over : Rows.fnExactGroupInRow.holds Try.pinned (OpenSpec.ofChange Rows.fnExactGroupInSpec) := by
  first
  | exact OpenClaim.holds_of_wide_leaving 17 Try.f17 rfl rfl rfl rfl rfl rfl rfl ⟨rfl, rfl, rfl, rfl, rfl⟩ rfl rfl rfl rfl rfl (by kernel_rfl) Try.func17 closed
      (of_decide_eq_true (by kernel_rfl)) (by unfold Func.isWrapper; first | (rw [if_pos (by decide +kernel)]; kernel_rfl) | (rw [if_neg (by decide +kernel)]; exact ⟨rfl, rfl⟩))
      (fun os started H enc _ => leaving_of_handed (lifted os started H enc))
  | exact OpenClaim.holds_of_wide 17 Try.f17 rfl rfl rfl rfl rfl rfl rfl ⟨rfl, rfl, rfl, rfl, rfl⟩ rfl rfl rfl rfl rfl (by kernel_rfl) Try.func17 closed
      (of_decide_eq_true (by kernel_rfl)) (by unfold Func.isWrapper; first | (rw [if_pos (by decide +kernel)]; kernel_rfl) | (rw [if_neg (by decide +kernel)]; exact ⟨rfl, rfl⟩))
      (fun os started H enc _ => lifted os started H enc)

theorem proved : Rows.FnExactGroupInSaid := over
#print axioms proved
end Go.Proofs.Ytbbkpaledlbcmaa.LGroupIn

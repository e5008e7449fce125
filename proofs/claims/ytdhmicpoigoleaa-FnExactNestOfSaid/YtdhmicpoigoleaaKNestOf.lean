/-
  Proves 'Rows.FnExactNestOfSaid': for every list of texts, the program's NestOf answers as the model's NestOf and leaves the list alone.
  Conditions: none beyond the row's own.
-/
import Derived.Test.YtdhmicpoigoleaaRows
import Derived.WalkKit
import Derived.ProofKit
import Derived.OpenShut
import Derived.ShutString
import Derived.ChangeOld
import Derived.Below
import Derived.Test.YtdhmicpoigoleaaBa
import Derived.Test.YtdhmicpoigoleaaBb
import Derived.Test.YtdhmicpoigoleaaBc

namespace Go.Proofs.Ytdhmicpoigoleaa.LNestOf
open Go.ChangeShapes Go.WideShapes Go.ChangeAt Go.RowKit
open Go.ChangeMaps (open_string shut_string)
set_option linter.unusedVariables false

theorem own : ownKnob Try.prog.godebug = none := by kernel_rfl
theorem laidOut : laidOutB Try.prog = true := by kernel_rfl

set_option maxRecDepth 100000 in
set_option maxHeartbeats 4000000 in
theorem walk (a0 : Option Addr) (len0 cap0 : Nat) (z0 : List ByteArray) (w : World) (w0 : IsStrs w a0 len0 z0) :
    Calls Try.prog 3 #[.slice a0 len0 cap0] w fun e w' => e = .returned (.bool true) ∧ Below w.heap.size w w' := by
  have hm0 := w0.max
  have HN := Lib.hid w0.len
  have HS := Lib.hid w0.at_
  obtain ⟨o, ho⟩ : ∃ o, nestO z0 = o := ⟨_, rfl⟩
  obtain ⟨t, ht⟩ : ∃ t, o.getD { data := #[] } = t := ⟨_, rfl⟩
  obtain ⟨b, hb⟩ : ∃ b, o.isSome = b := ⟨_, rfl⟩
  have HO := Lib.hid ho
  have HT := Lib.hid ht
  have HB := Lib.hid hb
  have hbb : (b != b) = false := by cases b <;> rfl
  clear w0 ho ht hb
  go_enter Try.func3, Try.ntmps3
  go_wp2_with fail
  refine (szStringS_any a0 cap0 len0 1048576 z0 w HN.out hm0 HS.out (by omega)).mono ?_
  rintro e W0 ⟨⟨k, rfl, hk⟩, rfl⟩
  by_cases hk0 : k < 0
  · clear hk
    go_wp2
    go_ret
    exact ⟨rfl, Below.refl _ _⟩
  · have hnl : len0 ≤ 1048576 := by rcases hk with h | ⟨_, h, _⟩ <;> omega
    clear hk
    go_wp2_with fail
    refine (toStringS_any a0 cap0 len0 z0 _ HN.out hnl HS.out).mono ?_
    rintro e W1 ⟨rfl, hr1, hb1⟩
    have HR1 := Lib.hid (strsAt_of_owns HN.out hr1 HS.out.small)
    have HB1 := Lib.hid hb1
    clear hr1 hb1
    go_wp2_with fail
    refine (sNestOf_any _ _ len0 z0 o _ HN.out HR1.out.1 HO.out).mono ?_
    rw [HT.out, HB.out]
    rintro e W2 ⟨rfl, hb2⟩
    have HB2 := Lib.hid (HB1.out.trans (hb2.mono HB1.out.size))
    clear hb2
    go_wp2_with fail
    refine (toStringS_any a0 cap0 len0 z0 _ HN.out hnl (HS.out.below HB2.out)).mono ?_
    rintro e W3 ⟨rfl, hr3, hb3⟩
    have HR3 := Lib.hid (strsAt_of_owns HN.out hr3 HS.out.small)
    have HB3 := Lib.hid (HB2.out.trans (hb3.mono HB2.out.size))
    clear hr3 hb3
    go_wp2_with fail
    refine (iNestOf_any _ _ len0 z0 o _ HN.out (Nat.le_refl _) HR3.out.1 HO.out).mono ?_
    rw [HT.out, HB.out]
    rintro e W4 ⟨rfl, hb4⟩
    have HB4 := Lib.hid (HB3.out.trans (hb4.mono HB3.out.size))
    have HX := Lib.hid (HR3.out.1.below hb4)
    clear hb4
    go_wp2_with fail
    refine (toStringS_any a0 cap0 len0 z0 _ HN.out hnl (HS.out.below HB4.out)).mono ?_
    rintro e W5 ⟨rfl, hr5, hb5⟩
    have HR5 := Lib.hid (strsAt_of_owns HN.out hr5 HS.out.small)
    have HB5 := Lib.hid (HB4.out.trans (hb5.mono HB4.out.size))
    have HX5 := Lib.hid (HX.out.below hb5)
    clear hr5 hb5
    go_wp2_with fail
    refine (eqStringS_yes _ _ _ _ len0 z0 _ HN.out hm0 HX5.out HR5.out.1).mono ?_
    rintro e W6 ⟨rfl, hb6⟩
    have HB6 := Lib.hid (HB5.out.trans (hb6.mono HB5.out.size))
    clear hb6
    go_wp2
    go_ret
    exact ⟨rfl, HB6.out⟩

set_option maxRecDepth 100000 in
theorem lifted (os : Os) (started : os.Started) (H : Type) (enc : TypeId × Value → H) :
    ReturnsInHanded {} Try.checked os 3 .any (Rows.fnExactNestOfSpec.pre6 enc Try.prog Try.f3 Rows.fnExactNestOfRow.domain false) (Rows.fnExactNestOfSpec.post enc Try.prog Try.f3 false true false false) := by
  refine returnsInHanded_of_change (C := Try.checked) own started (by kernel_rfl) Try.func3
    (ChangeSpec.witness6 (enc := enc) (C := Try.checked) false ⟨#[], #[.slice none 0 0], []⟩ 8 (by kernel_rfl) (by kernel_rfl) (by kernel_rfl) (by kernel_rfl)) ?_
  intro W base args ds gs before hval0 hW hcnd _
  have hval : ∀ (j : Nat) t v, Try.f3.params[j]? = some t → args[j]? = some v → Value.okWide Try.prog W .any base t v := hval0
  have hW' := hW
  obtain ⟨p, q, hA0, hV, rfl, hfz, hnd⟩ := hW
  have hA : DataW.TrodAll enc Try.prog W 0 (fun _ => true) true Try.f3.params.toList args.toList ds p := hA0
  rw [Try.params3] at hA hval
  obtain ⟨v0, vs0, d0, ds0, p0, q0, hargs, rfl, rfl, h0, r0⟩ := trodAll_cons hA
  obtain ⟨rfl, rfl, rfl⟩ := trodAll_nil r0
  obtain rfl : args = #[v0] := by cases args; simp_all
  obtain ⟨rfl, rfl⟩ := trodVars_none hV
  obtain ⟨a0, len0, cap0, rfl⟩ := okWide_slice Try.underlying22 (hval 0 22 v0 rfl rfl)
  have k0 := h0
  have lt0 : ∀ x ∈ p0, x.block < W.heap.size := by obtain ⟨m, hm⟩ := k0; exact DataW.trod_lt m _ _ _ hm
  obtain ⟨z0, w0⟩ : ∃ zs, IsStrs W a0 len0 zs := by
    obtain ⟨fuel, hf⟩ := h0
    rcases open_strings Try.underlying22 Try.underlying9 (by kernel_rfl) hf with ⟨hcs, _⟩ | ⟨x, l, c, zs, hcs, _, hl, hm, hz, _, hcell, hws⟩
    · simp [Value.cells] at hcs
      obtain ⟨rfl, rfl, rfl⟩ := hcs
      exact ⟨[], rfl, Nat.zero_le _, fun h => absurd h (Nat.lt_irrefl _), fun s h => by cases h⟩
    · simp [Value.cells] at hcs
      obtain ⟨rfl, rfl, rfl⟩ := hcs
      have hlz : len0 ≤ zs.length := by rw [hz]; split <;> omega
      exact ⟨zs.take len0, by rw [List.length_take]; omega, by omega, strsAt_new _ _ _ zs x rfl hlz hcell hws⟩
  clear hA0 hval0
  refine (walk a0 len0 cap0 z0 W w0).mono fun e W' ⟨he, bel⟩ => ?_
  subst he
  exact ⟨_, rfl, _, _, _, [], _, [], hW', trodAll_mk1 (shut_bool Try.underlying4 _), (trodAll_cons_mk (Below.trod laidOut (by kernel_rfl) (of_decide_eq_true (by kernel_rfl)) k0 bel lt0) trodAll_mk0), rfl, bel.frame _, fun h => by cases h⟩

theorem over : Rows.fnExactNestOfRow.holds Try.pinned (OpenSpec.ofChange Rows.fnExactNestOfSpec) :=
  OpenClaim.holds_of_wide 3 Try.f3 rfl rfl rfl rfl rfl rfl rfl ⟨rfl, rfl, rfl, rfl, rfl⟩ rfl rfl rfl rfl rfl (by kernel_rfl) Try.func3 (by kernel_rfl)
    (of_decide_eq_true (by kernel_rfl)) (by unfold Func.isWrapper; first | (rw [if_pos (by decide +kernel)]; kernel_rfl) | (rw [if_neg (by decide +kernel)]; exact ⟨rfl, rfl⟩))
    (fun os started H enc _ => lifted os started H enc)

theorem proved : Rows.FnExactNestOfSaid := over
#print axioms proved
end Go.Proofs.Ytdhmicpoigoleaa.LNestOf

/-
  Proves 'Rows.FnCoreSaid': for every list of bytes, the core of the word that the model draws from it is its own core, is a word, is not longer, and has the same sums of letters.
  Conditions: none beyond the row's own.
-/
import Derived.Test.YtjmjkfoibmbnhaaRows
import Derived.WalkKit
import Derived.ProofKit
import Derived.OpenShut
import Derived.ShutString
import Derived.ChangeOld
import Derived.Below
import Derived.Test.YtjmjkfoibmbnhaaBa
import Derived.Test.YtjmjkfoibmbnhaaBb
import Derived.Test.YtjmjkfoibmbnhaaBc

namespace Go.Proofs.Ytjmjkfoibmbnhaa.LCore
open Go.ChangeShapes Go.WideShapes Go.ChangeAt Go.RowKit
open Go.ChangeMaps (open_string shut_string)
set_option linter.unusedVariables false

theorem own : ownKnob Try.prog.godebug = none := by kernel_rfl
theorem laidOut : laidOutB Try.prog = true := by kernel_rfl

set_option maxRecDepth 100000 in
set_option maxHeartbeats 3000000 in
theorem walk (a0 : Option Addr) (len0 cap0 : Nat) (z0 : List Int) (w : World) (w0 : BsAt w.heap.size w a0 len0 cap0 z0) :
    Calls Try.prog 12 #[.slice a0 len0 cap0] w fun e w' => e = .returned (.bool true) ∧ Below w.heap.size w w' := by
  have HDr := Lib.hid (drawWordCore_any a0 len0 cap0 z0 w w0)
  have hfit := w0.fit
  unfold maxLen at hfit
  clear w0
  by_cases hlong : ¬ len0 ≤ 1048576
  · have hd : decide ((1048576 : Int) < (len0 : Int)) = true := decide_eq_true (by omega)
    go_enter Try.func12, Try.ntmps12
    go_wp2_with fail
    go_ret
    exact ⟨rfl, Below.refl _ _⟩
  have hd : decide ((1048576 : Int) < (len0 : Int)) = false := decide_eq_false (by omega)
  go_enter Try.func12, Try.ntmps12
  go_wp2_with fail
  refine HDr.out.mono ?_
  rintro e w1 ⟨⟨s, rfl, hs⟩, hb1⟩
  have HB1 := Lib.hid hb1
  have hsm : s.size ≤ maxLen := by unfold maxLen; omega
  clear hb1
  cases hw : wordB s.data.toList with
  | false =>
    have HW := Lib.hid hw
    clear hw
    go_wp2_with fail
    refine (iWordCore_no s _ hsm HW.out).mono ?_
    rintro e w2 ⟨rfl, hb2⟩
    have HB2 := Lib.hid (HB1.out.trans (hb2.mono HB1.out.size))
    clear hb2
    go_wp2_with fail
    refine (sWordCore_no s _ hsm HW.out).mono ?_
    rintro e w3 ⟨rfl, hb3⟩
    have HB3 := Lib.hid (HB2.out.trans (hb3.mono HB2.out.size))
    clear hb3
    go_wp2
    go_ret
    exact ⟨rfl, HB3.out⟩
  | true =>
    obtain ⟨h1, h2, h3⟩ := (wordB_iff _).1 hw
    obtain ⟨x, hx⟩ := is_of (coreL s.data.toList)
    have hxs := hx.size
    have hcl := core_le s.data.toList
    have hns := toList_size s
    have hcw := core_word hw
    have hx2 : Is x (coreL x.data.toList) := by unfold Is at *; rw [hx, core_core]
    have hxw : wordB x.data.toList = true := by unfold Is at hx; rw [hx]; exact hcw
    obtain ⟨_, hxl, hxr⟩ := (wordB_iff _).1 hxw
    have hsu : sumsL x.data.toList = sumsL s.data.toList := by
      unfold Is at hx
      rw [hx]; rw [hx] at hxl; exact sums_core h2 hxl
    have hpw : Is x (redL [] (powL 1 x.data.toList)) := by
      unfold Is powL
      rw [if_neg (by omega), show (1 : Int).natAbs = 1 from rfl, repL_one, hxr]
    have HX := Lib.hid hx
    have HX2 := Lib.hid hx2
    have HW := Lib.hid hw
    have HXW := Lib.hid hxw
    have HSU := Lib.hid hsu
    have HP := Lib.hid hpw
    have hle : (x.size : Int) ≤ (s.size : Int) := by omega
    have hx60 : x.size ≤ 60 := by omega
    clear hw h1 h2 h3 hx hxs hcl hns hcw hx2 hxw hxl hxr hsu hpw
    go_wp2_with fail
    refine (iCore_t HW.out HX.out _).mono ?_
    rintro e w2 ⟨rfl, hb2⟩
    have HB2 := Lib.hid (HB1.out.trans (hb2.mono HB1.out.size))
    clear hb2
    go_wp2_with fail
    refine (sCore_t HW.out HX.out _).mono ?_
    rintro e w3 ⟨rfl, hb3⟩
    have HB3 := Lib.hid (HB2.out.trans (hb3.mono HB2.out.size))
    clear hb3
    go_wp2_with fail
    refine (iCore_t HXW.out HX2.out _).mono ?_
    rintro e w4 ⟨rfl, hb4⟩
    have HB4 := Lib.hid (HB3.out.trans (hb4.mono HB3.out.size))
    clear hb4
    go_wp2_with fail
    refine (iSums_t HXW.out _).mono ?_
    rw [HSU.out]
    rintro e w5 ⟨⟨au, cu, rfl, hu⟩, hb5⟩
    have HU := Lib.hid hu
    have HB5 := Lib.hid (HB4.out.trans (hb5.mono HB4.out.size))
    clear hu hb5
    go_wp2_with fail
    refine (iSums_t HW.out _).mono ?_
    rintro e w6 ⟨⟨av, cv, rfl, hv⟩, hb6⟩
    have HU6 := Lib.hid (HU.out.below hb6)
    have HV := Lib.hid hv
    have HB6 := Lib.hid (HB5.out.trans (hb6.mono HB5.out.size))
    clear hv hb6
    go_wp2_with fail
    refine (iPower_t HXW.out (by omega) (by omega) HP.out hx60 _).mono ?_
    rintro e w7 ⟨rfl, hb7⟩
    have HU7 := Lib.hid (HU6.out.below hb7)
    have HV7 := Lib.hid (HV.out.below hb7)
    have HB7 := Lib.hid (HB6.out.trans (hb7.mono HB6.out.size))
    clear hb7
    go_wp2_with fail
    refine (sameInts_yes au av cu cv 4 _ _ HU7.out HV7.out).mono ?_
    rintro e w8 ⟨rfl, hb8⟩
    have HB8 := Lib.hid (HB7.out.trans (hb8.mono HB7.out.size))
    clear hb8
    go_wp2
    go_ret
    exact ⟨rfl, HB8.out⟩

set_option maxRecDepth 100000 in
theorem lifted (os : Os) (started : os.Started) (H : Type) (enc : TypeId × Value → H) :
    ReturnsInHanded {} Try.checked os 12 .any (Rows.fnCoreSpec.pre6 enc Try.prog Try.f12 Rows.fnCoreRow.domain false) (Rows.fnCoreSpec.post enc Try.prog Try.f12 false true false false) := by
  refine returnsInHanded_of_change (C := Try.checked) own started (by kernel_rfl) Try.func12
    (ChangeSpec.witness6 (enc := enc) (C := Try.checked) false ⟨#[], #[.slice none 0 0], []⟩ 8 (by kernel_rfl) (by kernel_rfl) (by kernel_rfl) (by kernel_rfl)) ?_
  intro W base args ds gs before hval0 hW hcnd _
  have hval : ∀ (j : Nat) t v, Try.f12.params[j]? = some t → args[j]? = some v → Value.okWide Try.prog W .any base t v := hval0
  have hW' := hW
  obtain ⟨p, q, hA0, hV, rfl, hfz, hnd⟩ := hW
  have hA : DataW.TrodAll enc Try.prog W 0 (fun _ => true) true Try.f12.params.toList args.toList ds p := hA0
  rw [Try.params12] at hA hval
  obtain ⟨v0, vs0, d0, ds0, p0, q0, hargs, rfl, rfl, h0, r0⟩ := trodAll_cons hA
  obtain ⟨rfl, rfl, rfl⟩ := trodAll_nil r0
  obtain rfl : args = #[v0] := by cases args; simp_all
  obtain ⟨rfl, rfl⟩ := trodVars_none hV
  obtain ⟨a0, len0, cap0, rfl⟩ := okWide_slice Try.underlying22 (hval 0 22 v0 rfl rfl)
  have k0 := h0
  have lt0 : ∀ x ∈ p0, x.block < W.heap.size := by obtain ⟨m, hm⟩ := k0; exact DataW.trod_lt m _ _ _ hm
  obtain ⟨z0, w0⟩ : ∃ zs, BsAt W.heap.size W a0 len0 cap0 zs := by
    obtain ⟨fuel, hf⟩ := h0
    exact bs_of hf
  clear hA0 hval0
  refine (walk a0 len0 cap0 z0 W w0).mono fun e W' ⟨he, bel⟩ => ?_
  subst he
  exact ⟨_, rfl, _, _, _, [], _, [], hW', trodAll_mk1 (shut_bool Try.underlying4 _), (trodAll_cons_mk (Below.trod laidOut (by kernel_rfl) (of_decide_eq_true (by kernel_rfl)) k0 bel lt0) trodAll_mk0), rfl, bel.frame _, fun h => by cases h⟩

theorem over : Rows.fnCoreRow.holds Try.pinned (OpenSpec.ofChange Rows.fnCoreSpec) :=
  OpenClaim.holds_of_wide 12 Try.f12 rfl rfl rfl rfl rfl rfl rfl ⟨rfl, rfl, rfl, rfl, rfl⟩ rfl rfl rfl rfl rfl (by kernel_rfl) Try.func12 (by kernel_rfl)
    (of_decide_eq_true (by kernel_rfl)) (by unfold Func.isWrapper; first | (rw [if_pos (by decide +kernel)]; kernel_rfl) | (rw [if_neg (by decide +kernel)]; exact ⟨rfl, rfl⟩))
    (fun os started H enc _ => lifted os started H enc)

theorem proved : Rows.FnCoreSaid := over
#print axioms proved
end Go.Proofs.Ytjmjkfoibmbnhaa.LCore

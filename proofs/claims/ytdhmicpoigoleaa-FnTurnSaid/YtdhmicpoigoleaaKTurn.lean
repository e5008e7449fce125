/-
  Proves 'Rows.FnTurnSaid': for every list of bytes, the least turn of the text that the model draws from it is as long, is not greater, and is the same for the text with its first letter put behind.
  Conditions: none beyond the row's own.
-/
import Derived.Test.YtdhmicpoigoleaaRows
import Derived.WalkKit
import Derived.ProofKit
import Derived.OpenShut
import Derived.ShutString
import Derived.ChangeOld
import Derived.Below
import Derived.Test.YtdhmicpoigoleaaBa
import Derived.Test.YtdhmicpoigoleaaBb
import Derived.Test.YtdhmicpoigoleaaBc

namespace Go.Proofs.Ytdhmicpoigoleaa.LTurn
open Go.ChangeShapes Go.WideShapes Go.ChangeAt Go.RowKit
open Go.ChangeMaps (open_string shut_string)
set_option linter.unusedVariables false

theorem own : ownKnob Try.prog.godebug = none := by kernel_rfl
theorem laidOut : laidOutB Try.prog = true := by kernel_rfl

set_option maxRecDepth 100000 in
set_option maxHeartbeats 4000000 in
theorem walk (a0 : Option Addr) (len0 cap0 : Nat) (z0 : List Int) (w : World) (w0 : BsAt w.heap.size w a0 len0 cap0 z0) :
    Calls Try.prog 16 #[.slice a0 len0 cap0] w fun e w' => e = .returned (.bool true) ∧ Below w.heap.size w w' := by
  have HDr := Lib.hid (drawLyndonTurn_any a0 len0 cap0 z0 w w0)
  have hfit := w0.fit
  unfold maxLen at hfit
  clear w0
  by_cases hlong : ¬ len0 ≤ 1048576
  · have hd : decide ((1048576 : Int) < (len0 : Int)) = true := decide_eq_true (by omega)
    go_enter Try.func16, Try.ntmps16
    go_wp2_with fail
    go_ret
    exact ⟨rfl, Below.refl _ _⟩
  have hd : decide ((1048576 : Int) < (len0 : Int)) = false := decide_eq_false (by omega)
  go_enter Try.func16, Try.ntmps16
  go_wp2_with fail
  refine HDr.out.mono ?_
  rintro e w1 ⟨⟨s, rfl, hs⟩, hb1⟩
  have HB1 := Lib.hid hb1
  have hsm : s.size ≤ maxLen := by unfold maxLen; omega
  clear hb1
  cases hb : turn12 s with
  | false =>
    have HX : Hid (cond (turn12 s) (turnN s (s.size - 1)) { data := #[] } = { data := #[] }) := Lib.hid (by rw [hb]; rfl)
    have HS := Lib.hid hb
    clear hb
    go_wp2_with fail
    refine (iLyndonTurn_law hsm HX.out HS.out).mono ?_
    rintro e w2 ⟨rfl, hb2⟩
    have HB2 := Lib.hid (HB1.out.trans (hb2.mono HB1.out.size))
    clear hb2
    go_wp2_with fail
    refine (sLyndonTurn_law hsm HX.out HS.out).mono ?_
    rintro e w3 ⟨rfl, hb3⟩
    have HB3 := Lib.hid (HB2.out.trans (hb3.mono HB2.out.size))
    clear hb3
    go_wp2
    go_ret
    exact ⟨rfl, HB3.out⟩
  | true =>
    have h0 : 0 < s.size := by
      have hb2 := hb
      unfold turn12 at hb2
      simp only [Bool.and_eq_true, Bool.not_eq_true', decide_eq_false_iff_not] at hb2
      omega
    have hmx : Try.prog.follows .mixedOrders = true := by kernel_rfl
    obtain ⟨t, ht⟩ : ∃ t, turnN s (s.size - 1) = t := ⟨_, rfl⟩
    obtain ⟨x, hx⟩ : ∃ x, s.extract 1 s.size = x := ⟨_, rfl⟩
    obtain ⟨y, hy⟩ : ∃ y, s.extract 0 1 = y := ⟨_, rfl⟩
    obtain ⟨q, hq⟩ : ∃ q, x ++ y = q := ⟨_, rfl⟩
    obtain ⟨p1, p2, p3, p4, p5⟩ := turn_all hb ht hx hy hq
    have HX : Hid (cond (turn12 s) (turnN s (s.size - 1)) { data := #[] } = t) := Lib.hid (by rw [hb]; exact ht)
    have HS := Lib.hid hb
    have HX2 : Hid (cond (turn12 q) (turnN q (q.size - 1)) { data := #[] } = t) := Lib.hid (by rw [p1]; exact p2)
    have HS2 := Lib.hid p1
    have hxy : x.size + y.size = s.size := by rw [← ByteArray.size_append, hq, p3]
    have hnot : ¬ 9223372036854775807 < x.size + y.size := by omega
    have hqm : q.size ≤ maxLen := by unfold maxLen; omega
    have h1i : (1 : Int) ≤ s.size := by omega
    have h1n : 1 ≤ s.size := by omega
    have hle : (Op.bytesLess t.toList s.toList || t.toList == s.toList) = true := p4
    have hse : ((t.size : Int) == (s.size : Int)) = true := by rw [p5]; simp
    have HC : Hid (∀ W, Calls Try.prog 37 #[.string q] W fun e w' => e = .returned (.tuple #[.string t, .bool true]) ∧ Below W.heap.size W w') := Lib.hid fun W => iLyndonTurn_law hqm HX2.out HS2.out
    clear hb ht p1 p2 p3 p4 hxy
    go_wp2_with fail
    refine (iLyndonTurn_law hsm HX.out HS.out).mono ?_
    rintro e w2 ⟨rfl, hb2⟩
    have HB2 := Lib.hid (HB1.out.trans (hb2.mono HB1.out.size))
    clear hb2
    go_wp2_with fail
    refine (sLyndonTurn_law hsm HX.out HS.out).mono ?_
    rintro e w3 ⟨rfl, hb3⟩
    have HB3 := Lib.hid (HB2.out.trans (hb3.mono HB2.out.size))
    clear hb3
    go_wp2
    refine wp_region_below hmx (by kernel_rfl) ?_
    repeat (((with_reducible refine wpQuiet_step (fun K hK => ?_)); go_simp; first | ((with_reducible refine hK _ ?_); clear hK K) | (refine (if_neg (by decide)).mpr ?_; (with_reducible refine hK _ ?_); clear hK K) | (apply Exists.intro; (with_reducible refine ⟨fun _ => ?_, hK _ ?_⟩); (go_at_call 37; exact Calls.bel (HC.out _)); clear hK K)))
    with_reducible refine wpQuiet_nil ?_
    rintro W ⟨⟨W, hW⟩, rfl⟩
    have HB4 := Lib.hid (HB3.out.trans (hW.mono HB3.out.size))
    change Exit.then _ _ _ _ W
    go_wp2
    go_ret
    exact ⟨rfl, HB4.out⟩

set_option maxRecDepth 100000 in
theorem lifted (os : Os) (started : os.Started) (H : Type) (enc : TypeId × Value → H) :
    ReturnsInHanded {} Try.checked os 16 .any (Rows.fnTurnSpec.pre6 enc Try.prog Try.f16 Rows.fnTurnRow.domain false) (Rows.fnTurnSpec.post enc Try.prog Try.f16 false true false false) := by
  refine returnsInHanded_of_change (C := Try.checked) own started (by kernel_rfl) Try.func16
    (ChangeSpec.witness6 (enc := enc) (C := Try.checked) false ⟨#[], #[.slice none 0 0], []⟩ 8 (by kernel_rfl) (by kernel_rfl) (by kernel_rfl) (by kernel_rfl)) ?_
  intro W base args ds gs before hval0 hW hcnd _
  have hval : ∀ (j : Nat) t v, Try.f16.params[j]? = some t → args[j]? = some v → Value.okWide Try.prog W .any base t v := hval0
  have hW' := hW
  obtain ⟨p, q, hA0, hV, rfl, hfz, hnd⟩ := hW
  have hA : DataW.TrodAll enc Try.prog W 0 (fun _ => true) true Try.f16.params.toList args.toList ds p := hA0
  rw [Try.params16] at hA hval
  obtain ⟨v0, vs0, d0, ds0, p0, q0, hargs, rfl, rfl, h0, r0⟩ := trodAll_cons hA
  obtain ⟨rfl, rfl, rfl⟩ := trodAll_nil r0
  obtain rfl : args = #[v0] := by cases args; simp_all
  obtain ⟨rfl, rfl⟩ := trodVars_none hV
  obtain ⟨a0, len0, cap0, rfl⟩ := okWide_slice Try.underlying39 (hval 0 39 v0 rfl rfl)
  have k0 := h0
  have lt0 : ∀ x ∈ p0, x.block < W.heap.size := by obtain ⟨m, hm⟩ := k0; exact DataW.trod_lt m _ _ _ hm
  obtain ⟨z0, w0⟩ : ∃ zs, BsAt W.heap.size W a0 len0 cap0 zs := by
    obtain ⟨fuel, hf⟩ := h0
    exact bs_of hf
  clear hA0 hval0
  refine (walk a0 len0 cap0 z0 W w0).mono fun e W' ⟨he, bel⟩ => ?_
  subst he
  exact ⟨_, rfl, _, _, _, [], _, [], hW', trodAll_mk1 (shut_bool Try.underlying4 _), (trodAll_cons_mk (Below.trod laidOut (by kernel_rfl) (of_decide_eq_true (by kernel_rfl)) k0 bel lt0) trodAll_mk0), rfl, bel.frame _, fun h => by cases h⟩

theorem over : Rows.fnTurnRow.holds Try.pinned (OpenSpec.ofChange Rows.fnTurnSpec) :=
  OpenClaim.holds_of_wide 16 Try.f16 rfl rfl rfl rfl rfl rfl rfl ⟨rfl, rfl, rfl, rfl, rfl⟩ rfl rfl rfl rfl rfl (by kernel_rfl) Try.func16 (by kernel_rfl)
    (of_decide_eq_true (by kernel_rfl)) (by unfold Func.isWrapper; first | (rw [if_pos (by decide +kernel)]; kernel_rfl) | (rw [if_neg (by decide +kernel)]; exact ⟨rfl, rfl⟩))
    (fun os started H enc _ => lifted os started H enc)

theorem proved : Rows.FnTurnSaid := over
#print axioms proved
end Go.Proofs.Ytdhmicpoigoleaa.LTurn

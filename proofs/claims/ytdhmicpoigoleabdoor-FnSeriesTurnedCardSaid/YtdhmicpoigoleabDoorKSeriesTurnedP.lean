/-
  Proves 'Rows.FnSeriesTurnedCardSaid': for every list of bytes, the products of the series that the model draws from it and its turned series, on both sides, are 1.
  Conditions: the row's own: the library's variable errors.errorType reads as its text lays it, which the card ties to the program's text.
-/
import Derived.Test.YtdhmicpoigoleabDoorRows
import Derived.Test.YtdhmicpoigoleabDoorCards
import Derived.Test.YtdhmicpoigoleabDoorTie
import Derived.WalkKit
import Derived.ProofKit
import Derived.OpenShut
import Derived.ShutString
import Derived.ChangeOld
import Derived.ChangeSame
import Derived.ChangeVars
import Derived.JoinedOf
import Derived.RowKitTokens
import Derived.LaidLaws
import Derived.LaidHandle
import Derived.Stop.Joined
import Derived.SevenTiedAt
import Derived.Below
import Derived.Test.YtdhmicpoigoleabDoorBa
import Derived.Test.YtdhmicpoigoleabDoorBb
import Derived.Test.YtdhmicpoigoleabDoorBc

namespace Go.Proofs.YtdhmicpoigoleabDoor.LSeriesTurnedP
open Go.ChangeShapes Go.WideShapes Go.ChangeAt Go.RowKit
open Go.ChangeMaps (open_string shut_string)
set_option linter.unusedVariables false

theorem own : ownKnob Tryd.prog.godebug = none := by kernel_rfl
theorem laidOut : laidOutB Tryd.prog = true := by kernel_rfl

theorem et : Tryd.prog.globalNamed "errors.errorType" = some 0 := by kernel_rfl
theorem rt : (Tryd.prog.cutTypes.find? (·.1 == "internal/reflectlite.rtype")).map (·.2) = some 83 := by kernel_rfl
theorem oneRow : ((List.range Tryd.prog.types.size).filter fun t => Tryd.prog.rowNamed t [101, 114, 114, 111, 114]) = [39] := by kernel_rfl
abbrev laidL {H : Type} : List (String × DataW H) := [("errors.errorType", Rows.laid_errors_errorType)]
/-- What the condition gives a walk: the variable's one cell. -/
theorem handle_of_laid {W : World} (h : laidMetH Tryd.prog laidL W) : LaidE W := by
  have h' : laidMet Tryd.prog [] W ∧ handlesMet Tryd.prog laidL W := h
  obtain ⟨name, u, ty, e1, e2, e3, e4, e5⟩ := h'.2 _ (List.mem_singleton.2 rfl)
  have en : name = [101, 114, 114, 111, 114] := (Option.some.inj e1).symm
  subst en
  obtain rfl := Option.some.inj (rt.symm.trans e2)
  have hm : ty ∈ (List.range Tryd.prog.types.size).filter fun t => Tryd.prog.rowNamed t [101, 114, 114, 111, 114] := List.mem_filter.2 ⟨List.mem_range.2 e3, e4⟩
  rw [oneRow] at hm
  obtain rfl := List.mem_singleton.1 hm
  have hh : typeHandle Tryd.prog 39 = .pointer (some ⟨2, 39, none⟩) := by kernel_rfl
  rw [hh] at e5
  unfold LaidE
  simpa using World.var?_cell et e5 0
/-- A world that meets the condition. -/
noncomputable def laidWorld (os : Os) : World :=
  let w0 := World.holding Tryd.prog os ⟨#[], #[], []⟩
  { w0 with heap := w0.heap.modify 0 fun
      | .cells _ t frozen => .cells #[.iface 83 (.agg #[.pointer (some ⟨2, 39, none⟩)])] t frozen
      | o => o }
theorem laidWorld_met (os : Os) (args : Array Value) : laidMetH Tryd.prog laidL ((laidWorld os).forCall (fun _ _ => 0) ⟨#[], args, []⟩).memory :=
  laidMetH_of_parts (laidMet_nil _ _) (by kernel_rfl)

set_option maxRecDepth 100000 in
set_option maxHeartbeats 4000000 in
theorem walk (a0 : Option Addr) (len0 cap0 : Nat) (z0 : List Int) (w : World) (hl : LaidE w) (w0 : BsAt w.heap.size w a0 len0 cap0 z0) :
    Calls Tryd.prog 3 #[.slice a0 len0 cap0] w fun e w' => e = .returned (.bool true) ∧ Below w.heap.size w w' := by
  have HLW := Lib.hid hl
  clear hl
  have HDr := Lib.hid (drawSeriesTurned_any a0 len0 cap0 z0 w w0)
  have hfit := w0.fit
  unfold maxLen at hfit
  clear w0
  by_cases hlong : ¬ len0 ≤ 1048576
  · have hd : decide ((1048576 : Int) < (len0 : Int)) = true := decide_eq_true (by omega)
    go_enter Tryd.func3, Tryd.ntmps3
    go_wp2_with fail
    go_ret
    exact ⟨rfl, Below.refl _ _⟩
  have hd : decide ((1048576 : Int) < (len0 : Int)) = false := decide_eq_false (by omega)
  go_enter Tryd.func3, Tryd.ntmps3
  go_wp2_with fail
  refine HDr.out.mono ?_
  rintro e w1 ⟨⟨v, rfl, g, c, n, x, rfl, hg, hx⟩, hb1⟩
  have HX := Lib.hid hx
  have HB1 := Lib.hid hb1
  have HL1 := Lib.hid (HLW.out.below hb1 HLW.out.lt)
  clear hx hb1
  cases hb : serTurnB x with
  | false =>
    have HS := Lib.hid hb
    have HU : Hid (cond false (canonT (outL x 5)) [] = ([] : List Tm)) := Lib.hid rfl
    have HN : Hid (([] : List Tm).length = 0) := Lib.hid rfl
    clear hb
    go_wp2_with fail
    refine (iSeriesTurned_t HL1.out HX.out HS.out HU.out HN.out).mono ?_
    rintro e w2 ⟨⟨a2, c2, rfl, h2⟩, hb2⟩
    have HX := Lib.hid (HX.out.below hb2)
    have H2 := Lib.hid h2
    have HB2 := Lib.hid (HB1.out.trans (hb2.mono HB1.out.size))
    clear h2 hb2
    go_wp2_with fail
    refine (sSeriesTurned_t HX.out HS.out HU.out HN.out).mono ?_
    rintro e w3 ⟨⟨a3, c3, rfl, h3⟩, hb3⟩
    have H2 := Lib.hid (H2.out.below hb3)
    have H3 := Lib.hid h3
    have HB3 := Lib.hid (HB2.out.trans (hb3.mono HB2.out.size))
    clear h3 hb3
    go_wp2_with fail
    refine (sameSum_t H2.out H3.out).mono ?_
    rintro e w4 ⟨rfl, hb4⟩
    have HB4 := Lib.hid (HB3.out.trans (hb4.mono HB3.out.size))
    have H2 := Lib.hid (H2.out.below hb4)
    have H3 := Lib.hid (H3.out.below hb4)
    clear hb4
    go_wp2_with fail
    refine (sameSum_t H2.out H3.out).mono ?_
    rintro e w5 ⟨rfl, hb5⟩
    have HB5 := Lib.hid (HB4.out.trans (hb5.mono HB4.out.size))
    clear hb5
    go_wp2
    go_ret
    exact ⟨rfl, HB5.out⟩
  | true =>
    obtain ⟨hs, hh, ho⟩ := turn_parts hb
    have hr := turn_right hs hh
    have hll := turn_left hs hh
    obtain ⟨us, hus⟩ : ∃ us, canonT (outL x 5) = us := ⟨_, rfl⟩
    obtain ⟨k, hk⟩ : ∃ k, us.length = k := ⟨_, rfl⟩
    rw [hus] at hr hll ho
    have HS := Lib.hid hb
    have HU : Hid (cond true (canonT (outL x 5)) [] = us) := Lib.hid hus
    have HN := Lib.hid hk
    have h1 : twS oneT = true := tw_ser ser_one
    have HP : Hid (serProdB x us = true) := Lib.hid (serProdB_iff.2 ⟨hs, ho, by rw [hll]; exact h1⟩)
    have HQ : Hid (serProdB us x = true) := Lib.hid (serProdB_iff.2 ⟨ho, hs, by rw [hr]; exact h1⟩)
    have HPU : Hid (cond true (canonT (pairsS x us)) [] = oneS noS) := Lib.hid hll
    have HQU : Hid (cond true (canonT (pairsS us x)) [] = oneS noS) := Lib.hid hr
    have HO1 : Hid ((oneS noS).length = 1) := Lib.hid rfl
    clear hb hs hh ho hr hll hus hk h1
    go_wp2_with fail
    refine (iSeriesTurned_t HL1.out HX.out HS.out HU.out HN.out).mono ?_
    rintro e w2 ⟨⟨a2, c2, rfl, h2⟩, hb2⟩
    have HX := Lib.hid (HX.out.below hb2)
    have H2 := Lib.hid h2
    have HB2 := Lib.hid (HB1.out.trans (hb2.mono HB1.out.size))
    clear h2 hb2
    go_wp2_with fail
    refine (sSeriesTurned_t HX.out HS.out HU.out HN.out).mono ?_
    rintro e w3 ⟨⟨a3, c3, rfl, h3⟩, hb3⟩
    have HX := Lib.hid (HX.out.below hb3)
    have H2 := Lib.hid (H2.out.below hb3)
    have H3 := Lib.hid h3
    have HB3 := Lib.hid (HB2.out.trans (hb3.mono HB2.out.size))
    clear h3 hb3
    go_wp2_with fail
    refine (sameSum_t H2.out H3.out).mono ?_
    rintro e w4 ⟨rfl, hb4⟩
    have HB4 := Lib.hid (HB3.out.trans (hb4.mono HB3.out.size))
    have HX := Lib.hid (HX.out.below hb4)
    have H2 := Lib.hid (H2.out.below hb4)
    clear hb4
    go_wp2_with fail
    refine (iSeriesTimes_t HX.out H2.out HP.out HPU.out HO1.out).mono ?_
    rintro e w5 ⟨⟨a5, c5, rfl, h5⟩, hb5⟩
    have HX := Lib.hid (HX.out.below hb5)
    have H2 := Lib.hid (H2.out.below hb5)
    have H5 := Lib.hid h5
    have HB5 := Lib.hid (HB4.out.trans (hb5.mono HB4.out.size))
    clear h5 hb5
    go_wp2_with fail
    refine (iSeriesTimes_t H2.out HX.out HQ.out HQU.out HO1.out).mono ?_
    rintro e w6 ⟨⟨a6, c6, rfl, h6⟩, hb6⟩
    have H5 := Lib.hid (H5.out.below hb6)
    have H6 := Lib.hid h6
    have HB6 := Lib.hid (HB5.out.trans (hb6.mono HB5.out.size))
    clear h6 hb6
    go_wp2_with fail
    refine (one_any noS _).mono ?_
    rintro e w7 ⟨rfl, hb7, h7⟩
    have H5 := Lib.hid (H5.out.below hb7)
    have H6 := Lib.hid (H6.out.below hb7)
    have H7 := Lib.hid (h7 (by decide))
    have HB7 := Lib.hid (HB6.out.trans (hb7.mono HB6.out.size))
    clear hb7 h7
    go_wp2_with fail
    refine (sameSum_t H5.out H7.out).mono ?_
    rintro e w8 ⟨rfl, hb8⟩
    have HB8 := Lib.hid (HB7.out.trans (hb8.mono HB7.out.size))
    have H6 := Lib.hid (H6.out.below hb8)
    clear hb8
    go_wp2_with fail
    refine (one_any noS _).mono ?_
    rintro e w9 ⟨rfl, hb9, h9⟩
    have H6 := Lib.hid (H6.out.below hb9)
    have H9 := Lib.hid (h9 (by decide))
    have HB9 := Lib.hid (HB8.out.trans (hb9.mono HB8.out.size))
    clear hb9 h9
    go_wp2_with fail
    refine (sameSum_t H6.out H9.out).mono ?_
    rintro e w10 ⟨rfl, hb10⟩
    have HB10 := Lib.hid (HB9.out.trans (hb10.mono HB9.out.size))
    clear hb10
    go_wp2
    go_ret
    exact ⟨rfl, HB10.out⟩

set_option maxRecDepth 100000 in
theorem lifted (os : Os) (started : os.Started) (H : Type) (enc : TypeId × Value → H) :
    ReturnsInHanded {} Tryd.checked os 3 .any (fun w args => (Rows.fnSeriesTurnedSpec.pre enc Tryd.prog Tryd.f3 [] false w args ∧ laidMetH Tryd.prog laidL w) ∧ sizedMet enc Tryd.prog Tryd.f3 (OpenSpec.ofChange Rows.fnSeriesTurnedSpec) false w args)
      (Rows.fnSeriesTurnedSpec.post enc Tryd.prog Tryd.f3 false true false false) := by
  refine returnsInHanded_of_change_and (C := Tryd.checked) (X := fun w _ => laidMetH Tryd.prog laidL w) (fun _ _ _ hh h => h.of_heap hh) own started (by kernel_rfl) Tryd.func3
    (ChangeSpec.witness_at (enc := enc) (C := Tryd.checked) (os := os) (X := fun w _ => laidMetH Tryd.prog laidL w) false (laidWorld os) #[.slice none 0 0] 8 rfl (by kernel_rfl) (by kernel_rfl) (by kernel_rfl) (by kernel_rfl) (by kernel_rfl) (laidWorld_met os _)) ?_
  intro W base args ds gs before hval0 hW _ _ hLd _
  have hval : ∀ (j : Nat) t v, Tryd.f3.params[j]? = some t → args[j]? = some v → Value.okWide Tryd.prog W .any base t v := hval0
  have hW' := hW
  obtain ⟨p, q, hA0, hV, rfl, hfz, hnd⟩ := hW
  have hA : DataW.TrodAll enc Tryd.prog W 0 (fun _ => true) true Tryd.f3.params.toList args.toList ds p := hA0
  rw [Tryd.params3] at hA hval
  obtain ⟨v0, vs0, d0, ds0, p0, q0, hargs, rfl, rfl, h0, r0⟩ := trodAll_cons hA
  obtain ⟨rfl, rfl, rfl⟩ := trodAll_nil r0
  obtain rfl : args = #[v0] := by cases args; simp_all
  obtain ⟨rfl, rfl⟩ := trodVars_none hV
  obtain ⟨a0, len0, cap0, rfl⟩ := okWide_slice Tryd.underlying22 (hval 0 22 v0 rfl rfl)
  have k0 := h0
  have lt0 : ∀ x ∈ p0, x.block < W.heap.size := by obtain ⟨m, hm⟩ := k0; exact DataW.trod_lt m _ _ _ hm
  obtain ⟨z0, w0⟩ : ∃ zs, BsAt W.heap.size W a0 len0 cap0 zs := by
    obtain ⟨fuel, hf⟩ := h0
    exact bs_of hf
  clear hA0 hval0
  refine (walk a0 len0 cap0 z0 W (handle_of_laid hLd) w0).mono fun e W' ⟨he, bel⟩ => ?_
  subst he
  exact ⟨_, rfl, _, _, _, [], _, [], hW', trodAll_mk1 (shut_bool Tryd.underlying4 _), (trodAll_cons_mk (Below.trod laidOut (by kernel_rfl) (of_decide_eq_true (by kernel_rfl)) k0 bel lt0) trodAll_mk0), rfl, bel.frame _, fun h => by cases h⟩

theorem over : Rows.fnSeriesTurnedRow.holds Tryd.pinned (OpenSpec.ofChange Rows.fnSeriesTurnedSpec) :=
  OpenClaim.holds_of_wide 3 Tryd.f3 rfl rfl rfl rfl rfl rfl rfl ⟨rfl, rfl, rfl, rfl, rfl⟩ rfl rfl rfl rfl rfl (by kernel_rfl) Tryd.func3 (by kernel_rfl)
    (of_decide_eq_true (by kernel_rfl)) (by unfold Func.isWrapper; first | (rw [if_pos (by decide +kernel)]; kernel_rfl) | (rw [if_neg (by decide +kernel)]; exact ⟨rfl, rfl⟩))
    (fun os started H enc _ => lifted os started H enc)

theorem card_holds : Claim7.holds Tryd.pinned (.plain (OpenSpec.ofChange Rows.fnSeriesTurnedSpec)) Rows.fnSeriesTurnedCard :=
  Claim7.holds_tied_plain_at .later [] [.handle] true Rows.fnSeriesTurnedCard.stood.harness true
    over (fun _ h => by cases h) (by kernel_rfl) (fun _ h => by cases h) fnSeriesTurned_row_tie rfl ⟨rfl, rfl⟩ (by kernel_rfl) rfl
    (fun f fn hf hfn => by
      obtain rfl : f = 3 := Option.some.inj ((show Tryd.prog.funcNamed "loop.example/foxcalculus/laws.FnSeriesTurned" = some 3 by kernel_rfl).symm.trans hf) |>.symm
      obtain rfl : fn = Tryd.f3 := (Option.some.inj (Tryd.func3.symm.trans hfn)).symm
      exact ⟨by kernel_rfl, fun j t ht => by
        rw [Tryd.params3] at ht
        have h3 : t = 22 := by
          rcases j with _ | j
          · simpa using ht.symm
          · simp at ht
        subst h3
        exact (show Tryd.prog.wantsStandIn 22 = false by kernel_rfl)⟩)
    (by kernel_rfl)

theorem proved : Rows.FnSeriesTurnedCardSaid := card_holds
#print axioms proved
end Go.Proofs.YtdhmicpoigoleabDoor.LSeriesTurnedP

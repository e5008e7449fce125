/-
  Proves 'Rows.FnExactSeriesTurnedCardSaid': for every list of terms, the program's SeriesTurned answers as the model's SeriesTurned, leaves the list alone, and its answer shares no memory with it nor with the answer of another call.
  Conditions: the row's own: the library's variable errors.errorType reads as its text lays it, which the card ties to the program's text.
-/
import Derived.Test.YtmbffbjopehllaaDoorRows
import Derived.Test.YtmbffbjopehllaaDoorCards
import Derived.Test.YtmbffbjopehllaaDoorTie
import Derived.WalkKit
import Derived.ProofKit
import Derived.OpenShut
import Derived.ShutString
import Derived.ChangeOld
import Derived.ChangeSame
import Derived.ChangeVars
import Derived.JoinedOf
import Derived.RowKitTokens
import Derived.LaidLaws
import Derived.LaidHandle
import Derived.Stop.Joined
import Derived.SevenTiedAt
import Derived.Below
import Derived.Test.YtmbffbjopehllaaDoorBa
import Derived.Test.YtmbffbjopehllaaDoorBb

namespace Go.Proofs.YtmbffbjopehllaaDoor.LSeriesTurned
open Go.ChangeShapes Go.WideShapes Go.ChangeAt Go.RowKit
open Go.ChangeMaps (open_string shut_string)
set_option linter.unusedVariables false

theorem own : ownKnob Tryd.prog.godebug = none := by kernel_rfl
theorem laidOut : laidOutB Tryd.prog = true := by kernel_rfl

theorem et : Tryd.prog.globalNamed "errors.errorType" = some 0 := by kernel_rfl
theorem rt : (Tryd.prog.cutTypes.find? (·.1 == "internal/reflectlite.rtype")).map (·.2) = some 79 := by kernel_rfl
theorem oneRow : ((List.range 157).filter fun t => Tryd.prog.rowNamed t [101, 114, 114, 111, 114]) = [44] := by kernel_rfl
theorem size : Tryd.prog.types.size = 157 := by kernel_rfl
abbrev laidL {H : Type} : List (String × DataW H) := [("errors.errorType", Rows.laid_errors_errorType)]
/-- What the condition gives a walk: the variable's one cell. -/
theorem handle_of_laid {W : World} (h : laidMetH Tryd.prog laidL W) : LaidE W := by
  have h' : laidMet Tryd.prog [] W ∧ handlesMet Tryd.prog laidL W := h
  obtain ⟨name, u, ty, e1, e2, e3, e4, e5⟩ := h'.2 _ (List.mem_singleton.2 rfl)
  have en : name = [101, 114, 114, 111, 114] := (Option.some.inj e1).symm
  subst en
  obtain rfl := Option.some.inj (rt.symm.trans e2)
  have hm : ty ∈ (List.range 157).filter fun t => Tryd.prog.rowNamed t [101, 114, 114, 111, 114] := List.mem_filter.2 ⟨List.mem_range.2 (by rw [← size]; exact e3), e4⟩
  rw [oneRow] at hm
  obtain rfl := List.mem_singleton.1 hm
  have hh : typeHandle Tryd.prog 44 = .pointer (some ⟨2, 44, none⟩) := by kernel_rfl
  rw [hh] at e5
  unfold LaidE
  simpa using World.var?_cell et e5 0
/-- A world that meets the condition. -/
noncomputable def laidWorld (os : Os) : World :=
  let w0 := World.holding Tryd.prog os ⟨#[], #[], []⟩
  { w0 with heap := w0.heap.modify 0 fun
      | .cells _ t frozen => .cells #[.iface 79 (.agg #[.pointer (some ⟨2, 44, none⟩)])] t frozen
      | o => o }
theorem laidWorld_met (os : Os) (args : Array Value) : laidMetH Tryd.prog laidL ((laidWorld os).forCall (fun _ _ => 0) ⟨#[], args, []⟩).memory :=
  laidMetH_of_parts (laidMet_nil _ _) (by kernel_rfl)

set_option maxRecDepth 100000 in
set_option maxHeartbeats 8000000 in
theorem walk (a0 : Option Addr) (len0 cap0 : Nat) (z0 : List Tm) (w : World) (hL : LaidE w) (w0 : IsTerms w a0 len0 z0) :
    Calls Tryd.prog 3 #[.slice a0 len0 cap0] w fun e w' => e = .returned (.bool true) ∧ Below w.heap.size w w' := by
  have HS0 := Lib.hid w0
  have HLE := Lib.hid hL
  obtain ⟨b, hb⟩ : ∃ b, serTurnB z0 = b := ⟨_, rfl⟩
  obtain ⟨L0, hL0⟩ : ∃ L0, canonT (outL z0 5) = L0 := ⟨_, rfl⟩
  obtain ⟨us, hus⟩ : ∃ us, cond b L0 [] = us := ⟨_, rfl⟩
  obtain ⟨hsu, hl⟩ := told_smallS (by rw [← hL0]; exact serTurnB_tw hb) hus
  obtain ⟨L, hL⟩ : ∃ L, us.length = L := ⟨_, rfl⟩
  rw [hL] at hl
  have HB := Lib.hid hb
  have HL0 := Lib.hid hL0
  have HUS := Lib.hid hus
  have HSU := Lib.hid hsu
  have HL := Lib.hid hL
  have hbb : (b != b) = false := by cases b <;> rfl
  clear hL
  clear w0 hb hL0 hus hsu hL
  go_enter Tryd.func3, Tryd.ntmps3
  go_wp2_with fail
  refine (szTermS_any a0 cap0 len0 1048576 z0 _ HS0.out (by omega)).mono ?_
  rintro e W1 ⟨⟨k, rfl, hk⟩, hb1⟩
  have HB1 := Lib.hid hb1
  clear hb1
  by_cases hk0 : k < 0
  · clear hk
    go_wp2
    go_ret
    exact ⟨rfl, HB1.out⟩
  obtain ⟨hn0, q0, rfl, hq0⟩ : len0 ≤ 1048576 ∧ ∃ q : Nat, k = (q : Int) ∧ q ≤ 1048576 := by
    rcases hk with h | ⟨h1, h2, h3, _⟩
    · omega
    · exact ⟨by omega, k.toNat, by omega, by omega⟩
  clear hk hk0
  go_wp2_with fail
  refine (toTermS_any a0 cap0 len0 z0 _ (HS0.out.below HB1.out) hn0).mono ?_
  rintro e W2 ⟨g2, rfl, hr2, hb2⟩
  have HR2 := Lib.hid (isTerms_owns HS0.out hr2)
  have HB2 := Lib.hid (HB1.out.trans (hb2.mono HB1.out.size))
  have hs2 := hb2.size
  clear hb2
  clear hr2
  go_wp2_with fail
  with_reducible refine (sSeriesTurned_law HR2.out HB.out).mono ?_
  rw [HL0.out]
  rintro e W0 ⟨⟨vw, rfl, how⟩, hb3⟩
  rw [HUS.out] at how
  obtain ⟨aw, cw, rfl, hIw⟩ := how.own.isTerms HSU.out
  rw [HL.out] at hIw ⊢
  have HW := Lib.hid hIw
  have hB2 : Below w.heap.size w W0 := HB2.out.trans (hb3.mono HB2.out.size)
  have HLW := Lib.hid (HLE.out.below hB2 HLE.out.lt)
  clear how hIw hb3
  have HBz := Lib.hid (Below.refl W0.heap.size W0)
  go_wp2_with fail
  refine (toTermS_any a0 cap0 len0 z0 _ (HS0.out.below (hB2.trans (HBz.out.mono hB2.size))) hn0).mono ?_
  rintro e W4 ⟨g4, rfl, hr4, hb4⟩
  have HR4 := Lib.hid (isTerms_owns HS0.out hr4)
  have lo4 : W0.heap.size ≤ g4 := ownLow hr4 g4 rfl
  have hi4 : g4 < W4.heap.size := (ownsRow_cap hr4).2.2.2
  have HX4 : Hid (OwnT W0.heap.size W4 (.slice (some ⟨g4, 0, none⟩) len0 len0) z0) := Lib.hid (by unfold OwnT; rw [HS0.out.len]; exact ownsRow_base hr4 (by omega))
  have HB4 := Lib.hid (HBz.out.trans (hb4.mono HBz.out.size))
  have hs4 := hb4.size
  clear hb4
  clear hr4
  go_wp2_with fail
  with_reducible refine (iSeriesTurned_law (HLW.out.below HB4.out HLW.out.lt) HR4.out HB.out).mono ?_
  rw [HL0.out]
  rintro e W5 ⟨⟨vg, rfl, hog⟩, hb5⟩
  rw [HUS.out] at hog
  obtain ⟨ag, cg, rfl, hIg⟩ := hog.isTerms HSU.out
  rw [HL.out] at hog ⊢
  have HG := Lib.hid hog
  have hlg : ∀ j, (Value.slice ag L cg).ownBlock = some j → W4.heap.size ≤ j := ownLow hog
  have HLG := Lib.hid hlg
  clear hlg hIg hog
  have HB5 := Lib.hid (HB4.out.trans (hb5.mono HB4.out.size))
  have hs5 := hb5.size
  have HX4_5 := Lib.hid (HX4.out.below hb5)
  clear hb5
  go_wp2_with fail
  refine (eqTermS_yes _ _ _ _ L us _ (ownIsTerms HG.out HSU.out) (HW.out.below HB5.out)).mono ?_
  rintro e W6 ⟨rfl, hb6⟩
  have HB6 := Lib.hid (HB5.out.trans (hb6.mono HB5.out.size))
  have hs6 := hb6.size
  have HX4_6 := Lib.hid (HX4_5.out.below hb6)
  have HG_6 := Lib.hid (HG.out.below hb6)
  clear hb6
  go_wp2_with fail
  refine (toTermS_any a0 cap0 len0 z0 _ (HS0.out.below (hB2.trans (HB6.out.mono hB2.size))) hn0).mono ?_
  rintro e W7 ⟨g7, rfl, hr7, hb7⟩
  have HR7 := Lib.hid (isTerms_owns HS0.out hr7)
  have HB7 := Lib.hid (HB6.out.trans (hb7.mono HB6.out.size))
  have hs7 := hb7.size
  have HX4_7 := Lib.hid (HX4_6.out.below hb7)
  have HG_7 := Lib.hid (HG_6.out.below hb7)
  clear hb7
  clear hr7
  go_wp2_with fail
  refine (eqTermS_yes _ _ _ _ len0 z0 _ (ownIsTerms HX4_7.out HS0.out.smallT) HR7.out).mono ?_
  rintro e W8 ⟨rfl, hb8⟩
  have HB8 := Lib.hid (HB7.out.trans (hb8.mono HB7.out.size))
  have hs8 := hb8.size
  have HX4_8 := Lib.hid (HX4_7.out.below hb8)
  have HG_8 := Lib.hid (HG_7.out.below hb8)
  clear hb8
  obtain ⟨K0, hK0⟩ : ∃ K, 1 + 2 * z0.length = K := ⟨_, rfl⟩
  have hK0b : 0 < K0 ∧ K0 ≤ 1 + 2097152 := by have := HS0.out.len; omega
  have HMK0 := Lib.hid (markTermS_any W0.heap.size 1 _ z0 _ HX4_8.out (by rw [HS0.out.len]; exact hn0) (by omega) (by omega))
  rw [hK0] at HMK0
  clear hK0
  have hK0n : decide ((K0 : Int) < 0) = false := decide_eq_false (by omega)
  have hK0l : ¬ (K0 : Int) < 0 := by omega
  go_wp2_with fail
  refine HMK0.out.mono ?_
  rintro e W9 ⟨rfl, _, hgr⟩
  have hbk9 : Below W0.heap.size W8 W9 := (Below.refl _ _).grown hgr (HB8.out.size) (fun j ej => by
    have e : g4 = j := by simpa [Value.ownBlock] using ej
    omega)
  have HG_9 := Lib.hid (HG_8.out.keptBy hgr (fun e => by
    have := HLG.out g4 (by rw [e]; rfl)
    omega))
  have HB9 := Lib.hid (HB8.out.trans hbk9)
  have hs9 := hgr.size
  clear hgr hbk9 HMK0
  go_wp2_with fail
  refine (eqTermS_yes _ _ _ _ L us _ (ownIsTerms HG_9.out HSU.out) (HW.out.below HB9.out)).mono ?_
  rintro e W11 ⟨rfl, hb11⟩
  have HB11 := Lib.hid (HB9.out.trans (hb11.mono HB9.out.size))
  have hs11 := hb11.size
  have HG_11 := Lib.hid (HG_9.out.below hb11)
  clear hb11
  obtain ⟨M, hM⟩ : ∃ M, 1 + 2 * L = M := ⟨_, rfl⟩
  have hMn : decide ((M : Int) < 0) = false := decide_eq_false (by omega)
  have hMl : ¬ (M : Int) < 0 := by omega
  have hMe : ((M : Int) != (M : Int)) = false := by simp
  have HMG := Lib.hid (markTermS_any W4.heap.size 1 _ us _ HG_11.out (by rw [HL.out]; omega) (by omega) (by omega))
  rw [HL.out, hM] at HMG
  go_wp2_with fail
  refine HMG.out.mono ?_
  rintro e W12 ⟨rfl, hm, hgr⟩
  have hbk12 : Below W0.heap.size W11 W12 := (Below.refl _ _).grown hgr (HB11.out.size) (fun j ej => by
    have := HLG.out j ej
    omega)
  have HB12 := Lib.hid (HB11.out.trans hbk12)
  have HM := Lib.hid hm
  clear hgr hbk12 hm HMG
  have HH13 := Lib.hid (heldTermS_any 1 ag cg L _ (ownIsTerms HM.out (marksT_small 1 L (by omega) (by omega))) (by omega) (by omega) (by omega))
  rw [hM] at HH13
  go_wp2_with fail
  refine HH13.out.mono ?_
  rintro e W13 ⟨rfl, hb13⟩
  have HB13 := Lib.hid (HB12.out.trans (hb13.mono HB12.out.size))
  have hs13 := hb13.size
  have HM_13 := Lib.hid (HM.out.below hb13)
  clear hb13
  go_wp2_with fail
  refine (toTermS_any a0 cap0 len0 z0 _ (HS0.out.below (hB2.trans (HB13.out.mono hB2.size))) hn0).mono ?_
  rintro e W14 ⟨g14, rfl, hr14, hb14⟩
  have HR14 := Lib.hid (isTerms_owns HS0.out hr14)
  have HB14 := Lib.hid (HB13.out.trans (hb14.mono HB13.out.size))
  have hs14 := hb14.size
  have HM_14 := Lib.hid (HM_13.out.below hb14)
  clear hb14
  clear hr14
  go_wp2_with fail
  with_reducible refine (iSeriesTurned_law (HLW.out.below HB14.out HLW.out.lt) HR14.out HB.out).mono ?_
  rw [HL0.out]
  rintro e W15 ⟨⟨vh, rfl, hoh⟩, hb15⟩
  rw [HUS.out] at hoh
  obtain ⟨ah, ch, rfl, hIh⟩ := hoh.isTerms HSU.out
  rw [HL.out] at hIh ⊢
  have HIH := Lib.hid hIh
  clear hoh hIh
  have HB15 := Lib.hid (HB14.out.trans (hb15.mono HB14.out.size))
  have hs15 := hb15.size
  have HM_15 := Lib.hid (HM_14.out.below hb15)
  clear hb15
  go_wp2_with fail
  refine (eqTermS_yes ah aw ch cw L us _ HIH.out (HW.out.below HB15.out)).mono ?_
  rintro e W16 ⟨rfl, hb16⟩
  have HB16 := Lib.hid (HB15.out.trans (hb16.mono HB15.out.size))
  have hs16 := hb16.size
  have HM_16 := Lib.hid (HM_15.out.below hb16)
  clear hb16
  have HH17 := Lib.hid (heldTermS_any 1 ag cg L _ (ownIsTerms HM_16.out (marksT_small 1 L (by omega) (by omega))) (by omega) (by omega) (by omega))
  rw [hM] at HH17
  go_wp2_with fail
  refine HH17.out.mono ?_
  rintro e W17 ⟨rfl, hb17⟩
  have HB17 := Lib.hid (HB16.out.trans (hb17.mono HB16.out.size))
  have hs17 := hb17.size
  have HM_17 := Lib.hid (HM_16.out.below hb17)
  clear hb17
  go_wp2
  go_ret
  exact ⟨rfl, hB2.trans (HB17.out.mono hB2.size)⟩

set_option maxRecDepth 100000 in
theorem lifted (os : Os) (started : os.Started) (H : Type) (enc : TypeId × Value → H) :
    ReturnsInHanded {} Tryd.checked os 3 .any (fun w args => (Rows.fnExactSeriesTurnedSpec.pre enc Tryd.prog Tryd.f3 [] false w args ∧ laidMetH Tryd.prog laidL w) ∧ sizedMet enc Tryd.prog Tryd.f3 (OpenSpec.ofChange Rows.fnExactSeriesTurnedSpec) false w args)
      (Rows.fnExactSeriesTurnedSpec.post enc Tryd.prog Tryd.f3 false true false false) := by
  refine returnsInHanded_of_change_and (C := Tryd.checked) (X := fun w _ => laidMetH Tryd.prog laidL w) (fun _ _ _ hh h => h.of_heap hh) own started (by kernel_rfl) Tryd.func3
    (ChangeSpec.witness_at (enc := enc) (C := Tryd.checked) (os := os) (X := fun w _ => laidMetH Tryd.prog laidL w) false (laidWorld os) #[.slice none 0 0] 8 rfl (by kernel_rfl) (by kernel_rfl) (by kernel_rfl) (by kernel_rfl) (by kernel_rfl) (laidWorld_met os _)) ?_
  intro W base args ds gs before hval0 hW _ _ hLd _
  have hval : ∀ (j : Nat) t v, Tryd.f3.params[j]? = some t → args[j]? = some v → Value.okWide Tryd.prog W .any base t v := hval0
  have hW' := hW
  obtain ⟨p, q, hA0, hV, rfl, hfz, hnd⟩ := hW
  have hA : DataW.TrodAll enc Tryd.prog W 0 (fun _ => true) true Tryd.f3.params.toList args.toList ds p := hA0
  rw [Tryd.params3] at hA hval
  obtain ⟨v0, vs0, d0, ds0, p0, q0, hargs, rfl, rfl, h0, r0⟩ := trodAll_cons hA
  obtain ⟨rfl, rfl, rfl⟩ := trodAll_nil r0
  obtain rfl : args = #[v0] := by cases args; simp_all
  obtain ⟨rfl, rfl⟩ := trodVars_none hV
  obtain ⟨a0, len0, cap0, rfl⟩ := okWide_slice Tryd.underlying22 (hval 0 22 v0 rfl rfl)
  have k0 := h0
  have lt0 : ∀ x ∈ p0, x.block < W.heap.size := by obtain ⟨m, hm⟩ := k0; exact DataW.trod_lt m _ _ _ hm
  obtain ⟨z0, w0⟩ : ∃ zs, IsTerms W a0 len0 zs := by
    obtain ⟨fuel, hf⟩ := h0
    exact isTerms_of hf
  clear hA0 hval0
  refine (walk a0 len0 cap0 z0 W (handle_of_laid hLd) w0).mono fun e W' ⟨he, bel⟩ => ?_
  subst he
  exact ⟨_, rfl, _, _, _, [], _, [], hW', trodAll_mk1 (shut_bool Tryd.underlying4 _), (trodAll_cons_mk (Below.trod laidOut (by kernel_rfl) (of_decide_eq_true (by kernel_rfl)) k0 bel lt0) trodAll_mk0), rfl, bel.frame _, fun h => by cases h⟩

theorem over : Rows.fnExactSeriesTurnedRow.holds Tryd.pinned (OpenSpec.ofChange Rows.fnExactSeriesTurnedSpec) :=
  OpenClaim.holds_of_wide 3 Tryd.f3 rfl rfl rfl rfl rfl rfl rfl ⟨rfl, rfl, rfl, rfl, rfl⟩ rfl rfl rfl rfl rfl (by kernel_rfl) Tryd.func3 (by kernel_rfl)
    (of_decide_eq_true (by kernel_rfl)) (by unfold Func.isWrapper; first | (rw [if_pos (by decide +kernel)]; kernel_rfl) | (rw [if_neg (by decide +kernel)]; exact ⟨rfl, rfl⟩))
    (fun os started H enc _ => lifted os started H enc)

theorem card_holds : Claim7.holds Tryd.pinned (.plain (OpenSpec.ofChange Rows.fnExactSeriesTurnedSpec)) Rows.fnExactSeriesTurnedCard :=
  Claim7.holds_tied_plain_at .later [] [.handle] true (true, "2c715b7ca0ff8ff2d0c49b323dca1acfbb0df5fadf0e34a10a8ea0e77397b7a7") true
    over (fun _ h => by cases h) (by kernel_rfl) (fun _ h => by cases h) fnExactSeriesTurned_row_tie rfl ⟨rfl, rfl⟩ (by kernel_rfl) rfl
    (fun f fn hf hfn => by
      obtain rfl : f = 3 := Option.some.inj ((show Tryd.prog.funcNamed "loop.example/foxcalculus/laws.FnExactSeriesTurned" = some 3 by kernel_rfl).symm.trans hf) |>.symm
      obtain rfl : fn = Tryd.f3 := (Option.some.inj (Tryd.func3.symm.trans hfn)).symm
      exact ⟨by kernel_rfl, fun j t ht => by
        rw [Tryd.params3] at ht
        have h3 : t = 22 := by
          rcases j with _ | j
          · simpa using ht.symm
          · simp at ht
        subst h3
        exact (show Tryd.prog.wantsStandIn 22 = false by kernel_rfl)⟩)
    (by kernel_rfl)

theorem proved : Rows.FnExactSeriesTurnedCardSaid := card_holds
#print axioms proved
end Go.Proofs.YtmbffbjopehllaaDoor.LSeriesTurned

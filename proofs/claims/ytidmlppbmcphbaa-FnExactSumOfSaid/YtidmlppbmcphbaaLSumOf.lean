/-
  Proves 'Rows.FnExactSumOfSaid': for every list of terms, the program's SumOf answers as the model's SumOf, leaves the list alone, and its answer shares no memory with the list nor with the answer of another call.
  Conditions: none beyond the row's own.
-/
import Derived.Test.YtidmlppbmcphbaaRows
import Derived.Test.YtidmlppbmcphbaaTz
import Derived.Test.YtidmlppbmcphbaaJd
import Derived.WalkKit
import Derived.ProofKit
import Derived.OpenShut
import Derived.ShutString
import Derived.ChangeOld
import Derived.Below
namespace Go.Proofs.Ytidmlppbmcphbaa.LSumOf
open Go.ChangeShapes Go.WideShapes Go.ChangeAt Go.RowKit
open Go.ChangeMaps (open_string shut_string)
set_option linter.unusedVariables false

theorem own : ownKnob Try.prog.godebug = none := by kernel_rfl
theorem laidOut : laidOutB Try.prog = true := by kernel_rfl

theorem isTerms_owns {w : World} {base g cap n : Nat} {a : Option Addr} {w0 : World} {ts : List Tm} (h0 : IsTerms w0 a n ts) (h : w.ownsRow base TI 2 (.slice (some ⟨g, 0, none⟩) n cap) n (termsV ts)) : IsTerms w (some ⟨g, 0, none⟩) n ts :=
  ⟨h0.len, h0.max, fun _ => ⟨_, rfl, termsAt_of_owns h0.len h⟩, h0.small⟩
theorem ofB_small {ts us : List Tm} {b : Bool} (hb : ofB ts = b) (hus : cond b (canonT ts) [] = us) : SmallT us ∧ us.length ≤ 300 := by
  cases b with
  | false => subst hus; exact ⟨⟨Nat.zero_le _, fun t h => by cases h⟩, Nat.zero_le _⟩
  | true =>
    have hus : canonT ts = us := hus
    subst hus
    unfold ofB at hb
    rw [sumB_canon (canon_of ts), Bool.and_eq_true] at hb
    obtain ⟨h1, h2⟩ := canon_len_words hb.2
    refine ⟨⟨by unfold maxLen; omega, fun t ht => ?_⟩, h1⟩
    have := termB_iff (h2 t ht)
    unfold maxLen
    omega
theorem ownIsTerms {base : Nat} {w : World} {a : Option Addr} {n c : Nat} {ts : List Tm} (h : OwnT base w (.slice a n c) ts) (hs : SmallT ts) : IsTerms w a n ts := by
  obtain ⟨a', c', e, hI⟩ := h.isTerms hs
  simp only [Value.slice.injEq] at e
  obtain ⟨rfl, rfl, rfl⟩ := e
  exact hI

set_option maxHeartbeats 4000000 in
theorem walk (a0 : Option Addr) (len0 cap0 : Nat) (z0 : List Tm) (w : World) (w0 : IsTerms w a0 len0 z0) :
    Calls Try.prog 4 #[.slice a0 len0 cap0] w fun e w' => e = .returned (.bool true) ∧ Below w.heap.size w w' := by
  have HS := Lib.hid w0
  obtain ⟨b, hb⟩ : ∃ b, ofB z0 = b := ⟨_, rfl⟩
  obtain ⟨us, hus⟩ : ∃ us, cond b (canonT z0) [] = us := ⟨_, rfl⟩
  obtain ⟨hsu, hl⟩ := ofB_small hb hus
  obtain ⟨L, hL⟩ : ∃ L, us.length = L := ⟨_, rfl⟩
  rw [hL] at hl
  have HB := Lib.hid hb
  have HUS := Lib.hid hus
  have HSU := Lib.hid hsu
  have HL := Lib.hid hL
  have hbb : (b != b) = false := by cases b <;> rfl
  clear w0 hb hus hsu hL
  go_enter Try.func4, Try.ntmps4
  go_wp2_with fail
  refine (szTermS_any a0 cap0 len0 1048576 z0 w HS.out (by omega)).mono ?_
  rintro e W0 ⟨⟨k, rfl, hk⟩, hb0⟩
  by_cases hk0 : k < 0
  · clear hk
    go_wp2
    go_ret
    exact ⟨rfl, hb0⟩
  · have hnl : len0 ≤ 1048576 := by rcases hk with h | ⟨_, _, h, _⟩ <;> omega
    clear hk
    -- the model's answer
    go_wp2_with fail
    refine (toTermS_any a0 cap0 len0 z0 W0 (HS.out.below hb0) hnl).mono ?_
    rintro e W1 ⟨g1, rfl, hr1, hb1⟩
    have HR1 := Lib.hid (isTerms_owns HS.out hr1)
    have hB1 : Below w.heap.size w W1 := hb0.trans (hb1.mono hb0.size)
    clear hr1
    go_wp2_with fail
    refine (sSumOf_any _ _ len0 z0 b W1 HR1.out HB.out).mono ?_
    rintro e W2 ⟨⟨vw, rfl, how⟩, hb2⟩
    rw [HUS.out] at how
    obtain ⟨aw, cw, rfl, hIw⟩ := how.own.isTerms HSU.out
    rw [HL.out] at hIw ⊢
    have HW := Lib.hid hIw
    have hB2 : Below w.heap.size w W2 := hB1.trans (hb2.mono hB1.size)
    clear how hIw hb2
    -- the program's answer
    go_wp2_with fail
    refine (toTermS_any a0 cap0 len0 z0 W2 (HS.out.below hB2) hnl).mono ?_
    rintro e W3 ⟨g3, rfl, hr3, hb3⟩
    have hg3 : W2.heap.size ≤ g3 := ownLow hr3 g3 rfl
    have hg3' : g3 < W3.heap.size := (ownsRow_cap hr3).2.2.2
    have HX3 := Lib.hid hr3
    have HR3 := Lib.hid (isTerms_owns HS.out hr3)
    have HB3 := Lib.hid hb3
    clear hr3 hb3
    go_wp2_with fail
    refine (iSumOf_any _ _ len0 z0 b W3 HR3.out HB.out).mono ?_
    rintro e W4 ⟨⟨vg, rfl, hog⟩, hb4⟩
    rw [HUS.out] at hog
    obtain ⟨ag, cg, rfl, hIg⟩ := hog.isTerms HSU.out
    rw [HL.out] at hog hIg ⊢
    have HG := Lib.hid hog
    have HIG := Lib.hid hIg
    have HB4 := Lib.hid (HB3.out.trans (hb4.mono HB3.out.size))
    have HX4 := Lib.hid (ownsRow_past HX3.out hb4)
    have hs34 := hb4.size
    clear hog hIg hb4
    go_wp2_with fail
    refine (eqTermS_yes ag aw cg cw L us W4 HIG.out (HW.out.below HB4.out)).mono ?_
    rintro e W5 ⟨rfl, hb5⟩
    have HB5 := Lib.hid (HB4.out.trans (hb5.mono HB4.out.size))
    have HX5 := Lib.hid (ownsRow_past HX4.out hb5)
    have HG5 := Lib.hid (HG.out.below hb5)
    have hs45 := hb5.size
    clear hb5
    go_wp2_with fail
    refine (toTermS_any a0 cap0 len0 z0 W5 (HS.out.below (hB2.trans (HB5.out.mono hB2.size))) hnl).mono ?_
    rintro e W6 ⟨g6, rfl, hr6, hb6⟩
    have HR6 := Lib.hid (isTerms_owns HS.out hr6)
    have HB6 := Lib.hid (HB5.out.trans (hb6.mono HB5.out.size))
    have HX6 := Lib.hid (ownsRow_past HX5.out hb6)
    have HG6 := Lib.hid (HG5.out.below hb6)
    have hs56 := hb6.size
    clear hr6 hb6
    go_wp2_with fail
    refine (eqTermS_yes _ _ _ _ len0 z0 W6 (isTerms_owns HS.out HX6.out) HR6.out).mono ?_
    rintro e W7 ⟨rfl, hb7⟩
    have HB7 := Lib.hid (HB6.out.trans (hb7.mono HB6.out.size))
    have HX7 : Hid (OwnT W2.heap.size W7 (.slice (some ⟨g3, 0, none⟩) len0 len0) z0) := Lib.hid (by unfold OwnT; rw [HS.out.len]; exact ownsRow_past HX6.out hb7)
    have HG7 := Lib.hid (HG6.out.below hb7)
    have hs67 := hb7.size
    clear hb7
    -- the argument's memory is marked
    obtain ⟨K, hK⟩ : ∃ K, 1 + 2 * z0.length = K := ⟨_, rfl⟩
    have hKn : decide ((K : Int) < 0) = false := decide_eq_false (by omega)
    have hKl : ¬ (K : Int) < 0 := by omega
    have HMK := Lib.hid (markTermS_any W2.heap.size 1 _ z0 W7 HX7.out (by rw [HS.out.len]; exact hnl) (by omega) (by omega))
    rw [hK] at HMK
    clear hK
    go_wp2_with fail
    refine HMK.out.mono ?_
    rintro e W8 ⟨rfl, _, hgr⟩
    have hneg : ∀ j, (Value.slice ag L cg).ownBlock = some j → W3.heap.size ≤ j := ownLow HG7.out
    have HG8 : Hid (OwnT W3.heap.size W8 (.slice ag L cg) us) := Lib.hid (HG7.out.kept hgr (.inr (fun e => by
      have := hneg g3 (by rw [e]; rfl)
      omega)))
    have hb78 : Below W2.heap.size W7 W8 := (Below.refl _ _).grown hgr (HB7.out.size) (fun j ej => by
      have e : g3 = j := by simpa [Value.ownBlock] using ej
      omega)
    have HB8 := Lib.hid (HB7.out.trans hb78)
    have hs78 := hgr.size
    clear hgr hneg hb78
    go_wp2_with fail
    refine (eqTermS_yes ag aw cg cw L us W8 (ownIsTerms HG8.out HSU.out) (HW.out.below HB8.out)).mono ?_
    rintro e W9 ⟨rfl, hb9⟩
    have HB9 := Lib.hid (HB8.out.trans (hb9.mono HB8.out.size))
    have HG9 := Lib.hid (HG8.out.below hb9)
    have hs89 := hb9.size
    clear hb9
    -- the answer's memory is marked
    obtain ⟨M, hM⟩ : ∃ M, 1 + 2 * L = M := ⟨_, rfl⟩
    have hMn : decide ((M : Int) < 0) = false := decide_eq_false (by omega)
    have hMl : ¬ (M : Int) < 0 := by omega
    have hMe : ((M : Int) != (M : Int)) = false := by simp
    have HMG := Lib.hid (markTermS_any W3.heap.size 1 _ us W9 HG9.out (by rw [HL.out]; omega) (by omega) (by omega))
    rw [HL.out, hM] at HMG
    go_wp2_with fail
    refine HMG.out.mono ?_
    rintro e W10 ⟨rfl, hm10, hgr⟩
    have hlow : ∀ j, (Value.slice ag L cg).ownBlock = some j → W3.heap.size ≤ j := ownLow HG9.out
    have hb910 : Below W2.heap.size W9 W10 := (Below.refl _ _).grown hgr (HB9.out.size) (fun j ej => by
      have := hlow j ej
      have := HB3.out.size
      omega)
    have HB10 := Lib.hid (HB9.out.trans hb910)
    have HM10 := Lib.hid hm10
    clear hgr hlow hb910 hm10
    have HH11 := Lib.hid (heldTermS_any 1 ag cg L W10 (ownIsTerms HM10.out (marksT_small 1 L (by omega) (by omega))) (by omega) (by omega) (by omega))
    rw [hM] at HH11
    go_wp2_with fail
    refine HH11.out.mono ?_
    rintro e W11 ⟨rfl, hb11⟩
    have HB11 := Lib.hid (HB10.out.trans (hb11.mono HB10.out.size))
    have HM11 := Lib.hid (HM10.out.below hb11)
    clear hb11
    -- another call
    go_wp2_with fail
    refine (toTermS_any a0 cap0 len0 z0 W11 (HS.out.below (hB2.trans (HB11.out.mono hB2.size))) hnl).mono ?_
    rintro e W12 ⟨g12, rfl, hr12, hb12⟩
    have HR12 := Lib.hid (isTerms_owns HS.out hr12)
    have HB12 := Lib.hid (HB11.out.trans (hb12.mono HB11.out.size))
    have HM12 := Lib.hid (HM11.out.below hb12)
    clear hr12 hb12
    go_wp2_with fail
    refine (iSumOf_any _ _ len0 z0 b W12 HR12.out HB.out).mono ?_
    rintro e W13 ⟨⟨vh, rfl, hoh⟩, hb13⟩
    rw [HUS.out] at hoh
    obtain ⟨ah, ch, rfl, hIh⟩ := hoh.isTerms HSU.out
    rw [HL.out] at hIh ⊢
    have HIH := Lib.hid hIh
    have HB13 := Lib.hid (HB12.out.trans (hb13.mono HB12.out.size))
    have HM13 := Lib.hid (HM12.out.below hb13)
    clear hoh hIh hb13
    go_wp2_with fail
    refine (eqTermS_yes ah aw ch cw L us W13 HIH.out (HW.out.below HB13.out)).mono ?_
    rintro e W14 ⟨rfl, hb14⟩
    have HB14 := Lib.hid (HB13.out.trans (hb14.mono HB13.out.size))
    have HM14 := Lib.hid (HM13.out.below hb14)
    clear hb14
    have HH15 := Lib.hid (heldTermS_any 1 ag cg L W14 (ownIsTerms HM14.out (marksT_small 1 L (by omega) (by omega))) (by omega) (by omega) (by omega))
    rw [hM] at HH15
    go_wp2_with fail
    refine HH15.out.mono ?_
    rintro e W15 ⟨rfl, hb15⟩
    have HB15 := Lib.hid (HB14.out.trans (hb15.mono HB14.out.size))
    clear hb15
    go_wp2
    go_ret
    exact ⟨rfl, hB2.trans (HB15.out.mono hB2.size)⟩

set_option maxRecDepth 100000 in
theorem lifted (os : Os) (started : os.Started) (H : Type) (enc : TypeId × Value → H) :
    ReturnsInHanded {} Try.checked os 4 .any (Rows.fnExactSumOfSpec.pre6 enc Try.prog Try.f4 Rows.fnExactSumOfRow.domain false) (Rows.fnExactSumOfSpec.post enc Try.prog Try.f4 false true false false) := by
  refine returnsInHanded_of_change (C := Try.checked) own started (by kernel_rfl) Try.func4
    (ChangeSpec.witness6 (enc := enc) (C := Try.checked) false ⟨#[], #[.slice none 0 0], []⟩ 8 (by kernel_rfl) (by kernel_rfl) (by kernel_rfl) (by kernel_rfl)) ?_
  intro W base args ds gs before hval0 hW hcnd _
  have hval : ∀ (j : Nat) t v, Try.f4.params[j]? = some t → args[j]? = some v → Value.okWide Try.prog W .any base t v := hval0
  have hW' := hW
  obtain ⟨p, q, hA0, hV, rfl, hfz, hnd⟩ := hW
  have hA : DataW.TrodAll enc Try.prog W 0 (fun _ => true) true Try.f4.params.toList args.toList ds p := hA0
  rw [Try.params4] at hA hval
  obtain ⟨v0, vs0, d0, ds0, p0, q0, hargs, rfl, rfl, h0, r0⟩ := trodAll_cons hA
  obtain ⟨rfl, rfl, rfl⟩ := trodAll_nil r0
  obtain rfl : args = #[v0] := by cases args; simp_all
  obtain ⟨rfl, rfl⟩ := trodVars_none hV
  obtain ⟨a0, len0, cap0, rfl⟩ := okWide_slice Try.underlying22 (hval 0 22 v0 rfl rfl)
  have k0 := h0
  have lt0 : ∀ x ∈ p0, x.block < W.heap.size := by obtain ⟨m, hm⟩ := k0; exact DataW.trod_lt m _ _ _ hm
  obtain ⟨z0, w0⟩ : ∃ zs, IsTerms W a0 len0 zs := by
    obtain ⟨fuel, hf⟩ := h0
    exact isTerms_of hf
  clear hA0 hval0
  refine (walk a0 len0 cap0 z0 W w0).mono fun e W' ⟨he, bel⟩ => ?_
  subst he
  exact ⟨_, rfl, _, _, _, [], _, [], hW', trodAll_mk1 (shut_bool Try.underlying4 _), (trodAll_cons_mk (Below.trod laidOut (by kernel_rfl) (of_decide_eq_true (by kernel_rfl)) k0 bel lt0) trodAll_mk0), rfl, bel.frame _, fun h => by cases h⟩

theorem over : Rows.fnExactSumOfRow.holds Try.pinned (OpenSpec.ofChange Rows.fnExactSumOfSpec) :=
  OpenClaim.holds_of_wide 4 Try.f4 rfl rfl rfl rfl rfl rfl rfl ⟨rfl, rfl, rfl, rfl, rfl⟩ rfl rfl rfl rfl rfl (by kernel_rfl) Try.func4 (by kernel_rfl)
    (of_decide_eq_true (by kernel_rfl)) (by unfold Func.isWrapper; first | (rw [if_pos (by decide +kernel)]; kernel_rfl) | (rw [if_neg (by decide +kernel)]; exact ⟨rfl, rfl⟩))
    (fun os started H enc _ => lifted os started H enc)

theorem proved : Rows.FnExactSumOfSaid := over
#print axioms proved
end Go.Proofs.Ytidmlppbmcphbaa.LSumOf

/-
  Proves 'Rows.FnFactorsSaid': for every list of bytes, the factors of the text that the model draws from it are Lyndon words that do not rise, and make the text.
  Conditions: none beyond the row's own.
-/
import Derived.Test.YtdhmicpoigoleaaRows
import Derived.WalkKit
import Derived.ProofKit
import Derived.OpenShut
import Derived.ShutString
import Derived.ChangeOld
import Derived.Below
import Derived.Test.YtdhmicpoigoleaaBa
import Derived.Test.YtdhmicpoigoleaaBb
import Derived.Test.YtdhmicpoigoleaaBc

namespace Go.Proofs.Ytdhmicpoigoleaa.LFactors
open Go.ChangeShapes Go.WideShapes Go.ChangeAt Go.RowKit
open Go.ChangeMaps (open_string shut_string)
set_option linter.unusedVariables false

theorem own : ownKnob Try.prog.godebug = none := by kernel_rfl
theorem laidOut : laidOutB Try.prog = true := by kernel_rfl

set_option maxRecDepth 100000 in
set_option maxHeartbeats 8000000 in
theorem walk (a0 : Option Addr) (len0 cap0 : Nat) (z0 : List Int) (w : World) (w0 : BsAt w.heap.size w a0 len0 cap0 z0) :
    Calls Try.prog 15 #[.slice a0 len0 cap0] w fun e w' => e = .returned (.bool true) ∧ Below w.heap.size w w' := by
  have HDr := Lib.hid (drawLyndonFactors_any a0 len0 cap0 z0 w w0)
  have hfit := w0.fit
  unfold maxLen at hfit
  clear w0
  by_cases hlong : ¬ len0 ≤ 1048576
  · have hd : decide ((1048576 : Int) < (len0 : Int)) = true := decide_eq_true (by omega)
    go_enter Try.func15, Try.ntmps15
    go_wp2_with fail
    go_ret
    exact ⟨rfl, Below.refl _ _⟩
  have hd : decide ((1048576 : Int) < (len0 : Int)) = false := decide_eq_false (by omega)
  go_enter Try.func15, Try.ntmps15
  go_wp2_with fail
  refine HDr.out.mono ?_
  rintro e w1 ⟨⟨s, rfl, hs⟩, hb1⟩
  have HB1 := Lib.hid hb1
  have hsm : s.size ≤ maxLen := by unfold maxLen; omega
  obtain ⟨b, hb⟩ : ∃ b, text12 s = b := ⟨_, rfl⟩
  obtain ⟨L0, hL0⟩ : ∃ L0, factL s = L0 := ⟨_, rfl⟩
  obtain ⟨us, hus⟩ : ∃ us, cond b L0 [] = us := ⟨_, rfl⟩
  have hl := fact_len hL0 hus
  have hsmU := fact_small hsm hL0 hus
  obtain ⟨L, hL⟩ : ∃ L, us.length = L := ⟨_, rfl⟩
  rw [hL] at hl
  have HB := Lib.hid hb
  have HL0 := Lib.hid hL0
  have HUS := Lib.hid hus
  have HSM := Lib.hid hsmU
  have HL := Lib.hid hL
  have hmx : Try.prog.follows .mixedOrders = true := by kernel_rfl
  have hbb : (b != b) = false := by cases b <;> rfl
  clear hb1 hb hL0 hus hsmU hL
  go_wp2_with fail
  refine (iLyndonFactors_law hsm HL0.out HB.out).mono ?_
  rintro e w2 ⟨⟨vg, rfl, hog⟩, hb2⟩
  rw [HUS.out] at hog
  obtain ⟨ag, cg, rfl, hIg⟩ := hog.strs HSM.out
  rw [HL.out]
  have HG := Lib.hid hIg
  have HB2 := Lib.hid (HB1.out.trans (hb2.mono HB1.out.size))
  clear hog hIg hb2
  go_wp2_with fail
  refine (sLyndonFactors_law hsm HL0.out HB.out).mono ?_
  rintro e w3 ⟨⟨vw, rfl, how⟩, hb3⟩
  rw [HUS.out] at how
  obtain ⟨aw, cw, rfl, hIw⟩ := how.strs HSM.out
  rw [HL.out]
  have HW := Lib.hid hIw
  have HG3 := Lib.hid (HG.out.below hb3)
  have HB3 := Lib.hid (HB2.out.trans (hb3.mono HB2.out.size))
  clear how hIw hb3
  go_wp2_with fail
  refine (sameTexts_yes _ _ _ _ L us _ HL.out (by unfold maxLen; omega) HG3.out HW.out).mono ?_
  rintro e w4 ⟨rfl, hb4⟩
  have HB4 := Lib.hid (HB3.out.trans (hb4.mono HB3.out.size))
  have HG3 := Lib.hid (HG3.out.below hb4)
  have HW := Lib.hid (HW.out.below hb4)
  clear hb4
  cases b with
  | false =>
    go_wp2_with fail
    refine (sameTexts_yes _ _ _ _ L us _ HL.out (by unfold maxLen; omega) HG3.out HW.out).mono ?_
    rintro e w5 ⟨rfl, hb5⟩
    have HB5 := Lib.hid (HB4.out.trans (hb5.mono HB4.out.size))
    clear hb5
    go_wp2
    go_ret
    exact ⟨rfl, HB5.out⟩
  | true =>
    obtain rfl : L0 = us := HUS.out
    obtain ⟨hA, hF, hC⟩ := fact_walk HB.out HL0.out
    rw [HL.out] at hC
    have HA := Lib.hid hA
    have HF := Lib.hid hF
    have HC := Lib.hid hC
    have HCS := Lib.hid (catB_size L0 fun z hz => (hA z hz).2)
    clear hA hF hC
    go_wp2
    go_loopw [8, 9] (fun t i wr => ∃ k : Nat, k ≤ L ∧ i = .int .i64 (k : Int) ∧ t = .string (catB L0 k) ∧ Hid (StrsAt wr ag L0) ∧ Below w.heap.size w wr) (fun _ i _ => L - (intOf i).toNat)
    case atStart => exact ⟨0, Nat.zero_le _, rfl, rfl, HG3, HB4.out⟩
    case round =>
      obtain ⟨k, hk, rfl, rfl, HS, hB⟩ := hrel
      by_cases hlt : k < L
      · have hkz : k < L0.length := by rw [HL.out]; exact hlt
        obtain ⟨x, rfl, hxb, hxc⟩ := HS.out.cells (by omega)
        obtain ⟨y, hy⟩ : ∃ y, L0[k] = y := ⟨_, rfl⟩
        obtain ⟨t, ht⟩ : ∃ t, catB L0 k = t := ⟨_, rfl⟩
        obtain ⟨q, hq⟩ : ∃ q, t ++ y = q := ⟨_, rfl⟩
        have hcq : catB L0 (k + 1) = q := by rw [catB, List.getD_eq_getElem?_getD, List.getElem?_eq_getElem hkz, ht, ← hq, ← hy]; rfl
        have hts := HCS.out k (by omega)
        rw [ht] at hts
        obtain ⟨hyl, hy12⟩ := HA.out y (by rw [← hy]; exact List.getElem_mem hkz)
        have hnot : ¬ 9223372036854775807 < t.size + y.size := by omega
        have HT : Hid (∀ W, Calls Try.prog 23 #[.string y] W fun e w' => e = .returned (.bool true) ∧ Below W.heap.size W w') := Lib.hid fun W => iLyndonIn_law (by unfold maxLen; omega) hyl
        have HQ := Lib.hid hcq
        have hck := hxc k hkz
        rw [hy] at hck
        rw [ht]
        have HXC := Lib.hid hxc
        clear hcq hyl hxc
        cases k with
        | zero =>
          rw [show x.add 0 = x by unfold Addr.add; simp] at hck
          have v0 := hck
          have v1 := BelowBy.cell (w := wr) hxb hck
          clear hy ht
          go_wp2
          refine wp_region_below hmx (by kernel_rfl) ?_
          repeat (((with_reducible refine wpQuiet_step (fun K hK => ?_)); go_simp; first | ((with_reducible refine hK _ ?_); clear hK K) | (refine (if_neg (by decide)).mpr ?_; (with_reducible refine hK _ ?_); clear hK K) | (apply Exists.intro; (with_reducible refine ⟨fun _ => ?_, hK _ ?_⟩); (go_at_call 23; exact Calls.bel (HT.out _)); clear hK K)))
          with_reducible refine wpQuiet_nil ?_
          rintro W ⟨⟨W, hW⟩, rfl⟩
          have hBW : Below w.heap.size w W := hB.trans (hW.mono hB.size)
          have HSW := Lib.hid (HS.out.below hW)
          clear v0 v1
          change Exit.then _ _ _ _ W
          go_wp2
          go_roundw
          case rel => exact ⟨1, by omega, by go_num, by rw [HQ.out], HSW, hBW⟩
          case measure => simp [intOf]; omega
        | succ j =>
          obtain ⟨z, hz⟩ : ∃ z, L0[j] = z := ⟨_, rfl⟩
          have hcj := HXC.out j (by omega)
          rw [hz] at hcj
          have hle := HF.out j hkz
          rw [hy, hz] at hle
          have hjw : IntKind.i64.wrap (((j : Int) + 1) - 1) = (j : Int) := by rw [IntWalk.i64_in _ (by omega)]; omega
          have hjw2 : IntKind.i64.wrap (j : Int) = (j : Int) := IntWalk.i64_in _ (by omega)
          have v0 := BelowBy.cell (w := wr) (by show (x.add j).block < _; rw [addr_add_block]; exact hxb) hcj
          rw [show x.add (j + 1) = ⟨x.block, x.off + (j + 1), none⟩ by unfold Addr.add; simp] at hck
          have v1 := BelowBy.cell (w := wr) (show (⟨x.block, x.off + (j + 1), none⟩ : Addr).block < wr.heap.size from hxb) hck
          have hlti : (j : Int) + 1 < (L : Int) := by omega
          have hge1 : (0 : Int) ≤ (j : Int) + 1 := by omega
          have hlj : j < L := by omega
          clear hy ht hz hcj
          go_wp2
          refine wp_region_below hmx (by kernel_rfl) ?_
          repeat (((with_reducible refine wpQuiet_step (fun K hK => ?_)); go_simp; first | ((with_reducible refine hK _ ?_); clear hK K) | (refine (if_neg (by decide)).mpr ?_; (with_reducible refine hK _ ?_); clear hK K) | (apply Exists.intro; (with_reducible refine ⟨fun _ => ?_, hK _ ?_⟩); (go_at_call 23; exact Calls.bel (HT.out _)); clear hK K)))
          with_reducible refine wpQuiet_nil ?_
          rintro W ⟨⟨W, hW⟩, rfl⟩
          have hBW : Below w.heap.size w W := hB.trans (hW.mono hB.size)
          have HSW := Lib.hid (HS.out.below hW)
          clear v0 v1
          change Exit.then _ _ _ _ W
          go_wp2
          go_roundw
          case rel => exact ⟨j + 2, by omega, by go_num, by rw [HQ.out], HSW, hBW⟩
          case measure => simp [intOf]; omega
      · obtain rfl : k = L := by omega
        rw [HC.out]
        go_wp2
        go_ret
        exact ⟨rfl, hB⟩

set_option maxRecDepth 100000 in
theorem lifted (os : Os) (started : os.Started) (H : Type) (enc : TypeId × Value → H) :
    ReturnsInHanded {} Try.checked os 15 .any (Rows.fnFactorsSpec.pre6 enc Try.prog Try.f15 Rows.fnFactorsRow.domain false) (Rows.fnFactorsSpec.post enc Try.prog Try.f15 false true false false) := by
  refine returnsInHanded_of_change (C := Try.checked) own started (by kernel_rfl) Try.func15
    (ChangeSpec.witness6 (enc := enc) (C := Try.checked) false ⟨#[], #[.slice none 0 0], []⟩ 8 (by kernel_rfl) (by kernel_rfl) (by kernel_rfl) (by kernel_rfl)) ?_
  intro W base args ds gs before hval0 hW hcnd _
  have hval : ∀ (j : Nat) t v, Try.f15.params[j]? = some t → args[j]? = some v → Value.okWide Try.prog W .any base t v := hval0
  have hW' := hW
  obtain ⟨p, q, hA0, hV, rfl, hfz, hnd⟩ := hW
  have hA : DataW.TrodAll enc Try.prog W 0 (fun _ => true) true Try.f15.params.toList args.toList ds p := hA0
  rw [Try.params15] at hA hval
  obtain ⟨v0, vs0, d0, ds0, p0, q0, hargs, rfl, rfl, h0, r0⟩ := trodAll_cons hA
  obtain ⟨rfl, rfl, rfl⟩ := trodAll_nil r0
  obtain rfl : args = #[v0] := by cases args; simp_all
  obtain ⟨rfl, rfl⟩ := trodVars_none hV
  obtain ⟨a0, len0, cap0, rfl⟩ := okWide_slice Try.underlying39 (hval 0 39 v0 rfl rfl)
  have k0 := h0
  have lt0 : ∀ x ∈ p0, x.block < W.heap.size := by obtain ⟨m, hm⟩ := k0; exact DataW.trod_lt m _ _ _ hm
  obtain ⟨z0, w0⟩ : ∃ zs, BsAt W.heap.size W a0 len0 cap0 zs := by
    obtain ⟨fuel, hf⟩ := h0
    exact bs_of hf
  clear hA0 hval0
  refine (walk a0 len0 cap0 z0 W w0).mono fun e W' ⟨he, bel⟩ => ?_
  subst he
  exact ⟨_, rfl, _, _, _, [], _, [], hW', trodAll_mk1 (shut_bool Try.underlying4 _), (trodAll_cons_mk (Below.trod laidOut (by kernel_rfl) (of_decide_eq_true (by kernel_rfl)) k0 bel lt0) trodAll_mk0), rfl, bel.frame _, fun h => by cases h⟩

theorem over : Rows.fnFactorsRow.holds Try.pinned (OpenSpec.ofChange Rows.fnFactorsSpec) :=
  OpenClaim.holds_of_wide 15 Try.f15 rfl rfl rfl rfl rfl rfl rfl ⟨rfl, rfl, rfl, rfl, rfl⟩ rfl rfl rfl rfl rfl (by kernel_rfl) Try.func15 (by kernel_rfl)
    (of_decide_eq_true (by kernel_rfl)) (by unfold Func.isWrapper; first | (rw [if_pos (by decide +kernel)]; kernel_rfl) | (rw [if_neg (by decide +kernel)]; exact ⟨rfl, rfl⟩))
    (fun os started H enc _ => lifted os started H enc)

theorem proved : Rows.FnFactorsSaid := over
#print axioms proved
end Go.Proofs.Ytdhmicpoigoleaa.LFactors

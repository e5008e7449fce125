/-
  Proves 'Rows.FnShuffleSaid': for every list of bytes, the texts that the model draws from it have as many shuffles as there are choices, all of the two texts' lengths together, and the same ones when the texts are changed.
  Conditions: none beyond the row's own.
-/
import Derived.Test.YtmbffbjopehllaaRows
import Derived.WalkKit
import Derived.ProofKit
import Derived.OpenShut
import Derived.ShutString
import Derived.ChangeOld
import Derived.Below
import Derived.Test.YtmbffbjopehllaaBa
import Derived.Test.YtmbffbjopehllaaBb
import Derived.Test.YtmbffbjopehllaaBc

namespace Go.Proofs.Ytmbffbjopehllaa.LShuffle
open Go.ChangeShapes Go.WideShapes Go.ChangeAt Go.RowKit
open Go.ChangeMaps (open_string shut_string)
set_option linter.unusedVariables false

theorem own : ownKnob Try.prog.godebug = none := by kernel_rfl
theorem laidOut : laidOutB Try.prog = true := by kernel_rfl

set_option maxRecDepth 100000 in
set_option maxHeartbeats 1500000 in
theorem walk (a0 : Option Addr) (len0 cap0 : Nat) (z0 : List Int) (w : World) (w0 : BsAt w.heap.size w a0 len0 cap0 z0) :
    Calls Try.prog 9 #[.slice a0 len0 cap0] w fun e w' => e = .returned (.bool true) ∧ Below w.heap.size w w' := by
  have HDr := Lib.hid (drawShuffle_any a0 len0 cap0 z0 w w0)
  have hfit := w0.fit
  unfold maxLen at hfit
  clear w0
  by_cases hlong : ¬ len0 ≤ 1048576
  · have hd : decide ((1048576 : Int) < (len0 : Int)) = true := decide_eq_true (by omega)
    go_enter Try.func9, Try.ntmps9
    go_wp2_with fail
    go_ret
    exact ⟨rfl, Below.refl _ _⟩
  have hd : decide ((1048576 : Int) < (len0 : Int)) = false := decide_eq_false (by omega)
  go_enter Try.func9, Try.ntmps9
  go_wp2_with fail
  refine HDr.out.mono ?_
  rintro e w1 ⟨⟨s, t, rfl, hs, ht⟩, hb1⟩
  have HB1 := Lib.hid hb1
  have hs1 := hb1.size
  clear hb1
  obtain ⟨b, hb⟩ : ∃ b, shufB s t = b := ⟨_, rfl⟩
  have HBE := Lib.hid hb
  have HBS : Hid (shufB t s = b) := Lib.hid (by rw [shufB_swap]; exact hb)
  clear hb
  cases b with
  | false =>
    go_wp2_with fail
    refine (iSeriesShuffle_any s t false _ (by omega) (by omega) HBE.out).mono ?_
    rintro e w2 ⟨⟨vg, rfl, hog⟩, hb2⟩
    have hog : OwnT w1.heap.size w2 vg [] := hog
    obtain ⟨ag, cg, rfl, hIg⟩ := hog.isTerms ⟨Nat.zero_le _, fun u hu => by cases hu⟩
    have HI2 := Lib.hid hIg
    have HB2 := Lib.hid (HB1.out.trans (hb2.mono hs1))
    clear hog hIg hb2
    go_wp2_with fail
    refine (sSeriesShuffle_any s t false _ (by omega) (by omega) HBE.out).mono ?_
    rintro e w3 ⟨⟨vw, rfl, how⟩, hb3⟩
    have how : OwnTerms w2.heap.size w3 vw [] := how
    obtain ⟨aw, cw, rfl, hIw⟩ := how.own.isTerms ⟨Nat.zero_le _, fun u hu => by cases hu⟩
    have HI3 := Lib.hid (HI2.out.below hb3)
    have HW3 := Lib.hid hIw
    have HB3 := Lib.hid (HB2.out.trans (hb3.mono HB2.out.size))
    clear how hIw hb3
    go_wp2_with fail
    refine (sameSum_yes ag aw cg cw 0 [] w3 HI3.out HW3.out).mono ?_
    rintro e w4 ⟨rfl, hb4⟩
    have HI4 := Lib.hid (HI3.out.below hb4)
    have HW4 := Lib.hid (HW3.out.below hb4)
    have HB4 := Lib.hid (HB3.out.trans (hb4.mono HB3.out.size))
    clear hb4
    go_wp2_with fail
    refine (sameSum_yes ag aw cg cw 0 [] w4 HI4.out HW4.out).mono ?_
    rintro e w5 ⟨rfl, hb5⟩
    have HB5 := Lib.hid (HB4.out.trans (hb5.mono HB4.out.size))
    clear hb5
    go_wp2
    go_ret
    exact ⟨rfl, HB5.out⟩
  | true =>
    have hB := HBE.out
    unfold shufB at hB
    simp only [Bool.and_eq_true, decide_eq_true_eq] at hB
    have h4 := hB.2.2
    have htw := twS_parts (shuf_tw HBE.out)
    obtain ⟨us, hus⟩ : ∃ us, canonT (shufT 4 { data := #[] } s t) = us := ⟨_, rfl⟩
    have hus2 : canonT (shufT 4 { data := #[] } t s) = us := by rw [shuf_other h4]; exact hus
    have hsum : sumC us = (wayN t.size s.size : Int) := by
      rw [← hus, ways_is h4]
      unfold sumC
      rw [linT_canon]
      exact shufT_sum 4 _ s t
    have hsz : ∀ u ∈ us, u.s.size = s.size + t.size := fun u hu => by
      rw [← hus] at hu
      obtain ⟨v, hv, e⟩ := canon_words hu
      rw [← e, shufT_size 4 _ s t v hv]
      show 0 + s.size + t.size = _
      omega
    rw [hus] at htw
    have hsm : SmallT us := ⟨by unfold maxLen; omega, fun u hu => by have := htw.2 u hu; have := mono_size this.2; unfold maxLen; omega⟩
    obtain ⟨N, hN⟩ : ∃ N, us.length = N := ⟨_, rfl⟩
    have hN4 : N ≤ 400 := by rw [← hN]; exact htw.1
    have HTW := Lib.hid htw.2
    have HUS := Lib.hid hus
    have HUS2 := Lib.hid hus2
    have HSum := Lib.hid hsum
    have HSz := Lib.hid hsz
    have HSM := Lib.hid hsm
    have HN := Lib.hid hN
    clear htw hus hus2 hsum hsz hsm hN hB
    go_wp2_with fail
    refine (iSeriesShuffle_any s t true _ (by omega) (by omega) HBE.out).mono ?_
    rintro e w2 ⟨⟨vg, rfl, hog⟩, hb2⟩
    have hog : OwnT w1.heap.size w2 vg (canonT (shufT 4 { data := #[] } s t)) := hog
    rw [HUS.out] at hog
    obtain ⟨ag, cg, rfl, hIg⟩ := hog.isTerms HSM.out
    rw [HN.out] at hIg ⊢
    have HI2 := Lib.hid hIg
    have HB2 := Lib.hid (HB1.out.trans (hb2.mono hs1))
    clear hog hIg hb2
    go_wp2_with fail
    refine (sSeriesShuffle_any s t true _ (by omega) (by omega) HBE.out).mono ?_
    rintro e w3 ⟨⟨vw, rfl, how⟩, hb3⟩
    have how : OwnTerms w2.heap.size w3 vw (canonT (shufT 4 { data := #[] } s t)) := how
    rw [HUS.out] at how
    obtain ⟨aw, cw, rfl, hIw⟩ := how.own.isTerms HSM.out
    rw [HN.out] at hIw ⊢
    have HI3 := Lib.hid (HI2.out.below hb3)
    have HW3 := Lib.hid hIw
    have HB3 := Lib.hid (HB2.out.trans (hb3.mono HB2.out.size))
    clear how hIw hb3
    go_wp2_with fail
    refine (sameSum_yes ag aw cg cw N us w3 HI3.out HW3.out).mono ?_
    rintro e w4 ⟨rfl, hb4⟩
    have HI4 := Lib.hid (HI3.out.below hb4)
    have HB4 := Lib.hid (HB3.out.trans (hb4.mono HB3.out.size))
    clear hb4
    go_wp2_with fail
    go_loopw [9, 10] (fun v i wr => ∃ k : Nat, k ≤ N ∧ v = .int .i64 (sumC (us.take k)) ∧ i = .int .i64 k ∧ w4 = wr) (fun _ i _ => N - (intOf i).toNat)
    case atStart => exact ⟨0, Nat.zero_le _, rfl, rfl, rfl⟩
    case round =>
      obtain ⟨k, hk, rfl, rfl, rfl⟩ := hrel
      by_cases hlt : k < N
      · have hkz : k < us.length := by rw [HN.out]; exact hlt
        obtain ⟨x, rfl, hx⟩ := HI4.out.at_ (by omega)
        obtain ⟨u, hu⟩ : ∃ u, us[k] = u := ⟨_, rfl⟩
        have hc := hx.2 k hkz
        rw [hu, addr_next] at hc
        obtain ⟨c0, d1⟩ := hc
        have hum : u ∈ us := by rw [← hu]; exact List.getElem_mem hkz
        have hst := sumC_take hkz
        rw [hu] at hst
        have hbd := sumC_bnd (ts := us.take (k + 1)) fun v hv => (HTW.out v (List.mem_of_mem_take hv)).1
        have hlk : (us.take (k + 1)).length ≤ 400 := by rw [List.length_take]; omega
        obtain ⟨z, hz⟩ : ∃ z, sumC (us.take k) = z := ⟨_, rfl⟩
        rw [hz] at hst ⊢
        have hadd : IntKind.i64.wrap (z + u.c) = z + u.c := IntWalk.i64_in _ (by omega)
        have hus := HSz.out u hum
        have hadd2 : IntKind.i64.wrap ((s.size : Int) + (t.size : Int)) = (s.size : Int) + (t.size : Int) := IntWalk.i64_in _ (by omega)
        have hlen : (u.s.size : Int) = (s.size : Int) + (t.size : Int) := by omega
        have hki : (k : Int) < (N : Int) := by omega
        have HST := Lib.hid hst
        have HZ := Lib.hid hz
        clear hx hu hum hst hbd hlk hz hus
        go_wp2
        go_roundw
        case rel => exact ⟨k + 1, by omega, by rw [HST.out], by go_num, trivial⟩
        case measure => simp [intOf]; omega
      · obtain rfl : N = k := by omega
        rw [List.take_of_length_le (by rw [HN.out]; exact Nat.le_refl _), HSum.out]
        go_wp2_with fail
        go_loopw [11, 12] (fun v i wr => ∃ k j : Nat, k ≤ s.size ∧ j = k + 1 ∧ v = .int .i64 (wayN t.size k : Nat) ∧ i = .int .i64 j ∧ w4 = wr) (fun _ i _ => s.size + 1 - (intOf i).toNat)
        case atStart => exact ⟨0, 1, Nat.zero_le _, rfl, rfl, rfl, rfl⟩
        case round =>
          obtain ⟨k, j, hks, hj, rfl, rfl, rfl⟩ := hrel
          by_cases hlt2 : k < s.size
          · have hji : (j : Int) ≤ (s.size : Int) := by omega
            have hway : wayN t.size j = wayN t.size k * (t.size + j) / j := by rw [hj]; rfl
            have hsm1 := wayN_le (i := k) (j := t.size) (by omega) (by omega)
            have hsm2 := wayN_le (i := j) (j := t.size) (by omega) (by omega)
            obtain ⟨W0, hW0⟩ : ∃ W0, wayN t.size k = W0 := ⟨_, rfl⟩
            obtain ⟨W1, hW1⟩ : ∃ W1, wayN t.size j = W1 := ⟨_, rfl⟩
            rw [hW0] at hway hsm1 ⊢
            rw [hW1] at hway hsm2
            obtain ⟨M, hM⟩ : ∃ M, W0 * (t.size + j) = M := ⟨_, rfl⟩
            have hMb : M ≤ 10000 := by
              rw [← hM]
              exact Nat.le_trans (Nat.mul_le_mul hsm1 (show t.size + j ≤ 10 by omega)) (by omega)
            rw [hM] at hway
            have e1 : IntKind.i64.wrap ((t.size : Int) + (j : Int)) = (t.size : Int) + (j : Int) := IntWalk.i64_in _ (by omega)
            have e2 : IntKind.i64.wrap ((W0 : Int) * ((t.size : Int) + (j : Int))) = (M : Int) := by
              have e0 : (W0 : Int) * ((t.size : Int) + (j : Int)) = (M : Int) := by rw [← hM]; push_cast; rfl
              rw [e0]
              exact IntWalk.i64_in _ (by omega)
            have e3 : (M : Int).tdiv (j : Int) = (W1 : Int) := by rw [Int.tdiv_eq_ediv_of_nonneg (by omega), hway]; rfl
            have e4 : IntKind.i64.wrap (W1 : Int) = (W1 : Int) := IntWalk.i64_in _ (by omega)
            have hj0 : ¬ (j : Int) = 0 := by omega
            have hje : ((j : Int) == 0) = false := by simpa using hj0
            have HW1 := Lib.hid hW1
            have HJ := Lib.hid hj
            clear hway hsm1 hsm2 hW0 hW1 hM hMb hj
            go_wp2
            go_roundw
            case rel => exact ⟨k + 1, j + 1, by omega, by have := HJ.out; omega, by rw [← HJ.out, HW1.out], by go_num, trivial⟩
            case measure => have := HJ.out; simp [intOf]; omega
          · obtain rfl : k = s.size := by omega
            have hji : ¬ (j : Int) ≤ (s.size : Int) := by omega
            go_wp2_with fail
            refine (iSeriesShuffle_any t s true _ (by omega) (by omega) HBS.out).mono ?_
            rintro e w7 ⟨⟨vh, rfl, hoh⟩, hb7⟩
            have hoh : OwnT w4.heap.size w7 vh (canonT (shufT 4 { data := #[] } t s)) := hoh
            rw [HUS2.out] at hoh
            obtain ⟨ah, ch, rfl, hIh⟩ := hoh.isTerms HSM.out
            rw [HN.out] at hIh ⊢
            have HI7 := Lib.hid (HI4.out.below hb7)
            have HH7 := Lib.hid hIh
            have HB7 := Lib.hid (HB4.out.trans (hb7.mono HB4.out.size))
            clear hoh hIh hb7
            go_wp2_with fail
            refine (sameSum_yes ah ag ch cg N us w7 HH7.out HI7.out).mono ?_
            rintro e w8 ⟨rfl, hb8⟩
            have HB8 := Lib.hid (HB7.out.trans (hb8.mono HB7.out.size))
            clear hb8
            go_wp2
            go_ret
            exact ⟨rfl, HB8.out⟩

set_option maxRecDepth 100000 in
theorem lifted (os : Os) (started : os.Started) (H : Type) (enc : TypeId × Value → H) :
    ReturnsInHanded {} Try.checked os 9 .any (Rows.fnShuffleSpec.pre6 enc Try.prog Try.f9 Rows.fnShuffleRow.domain false) (Rows.fnShuffleSpec.post enc Try.prog Try.f9 false true false false) := by
  refine returnsInHanded_of_change (C := Try.checked) own started (by kernel_rfl) Try.func9
    (ChangeSpec.witness6 (enc := enc) (C := Try.checked) false ⟨#[], #[.slice none 0 0], []⟩ 8 (by kernel_rfl) (by kernel_rfl) (by kernel_rfl) (by kernel_rfl)) ?_
  intro W base args ds gs before hval0 hW hcnd _
  have hval : ∀ (j : Nat) t v, Try.f9.params[j]? = some t → args[j]? = some v → Value.okWide Try.prog W .any base t v := hval0
  have hW' := hW
  obtain ⟨p, q, hA0, hV, rfl, hfz, hnd⟩ := hW
  have hA : DataW.TrodAll enc Try.prog W 0 (fun _ => true) true Try.f9.params.toList args.toList ds p := hA0
  rw [Try.params9] at hA hval
  obtain ⟨v0, vs0, d0, ds0, p0, q0, hargs, rfl, rfl, h0, r0⟩ := trodAll_cons hA
  obtain ⟨rfl, rfl, rfl⟩ := trodAll_nil r0
  obtain rfl : args = #[v0] := by cases args; simp_all
  obtain ⟨rfl, rfl⟩ := trodVars_none hV
  obtain ⟨a0, len0, cap0, rfl⟩ := okWide_slice Try.underlying40 (hval 0 40 v0 rfl rfl)
  have k0 := h0
  have lt0 : ∀ x ∈ p0, x.block < W.heap.size := by obtain ⟨m, hm⟩ := k0; exact DataW.trod_lt m _ _ _ hm
  obtain ⟨z0, w0⟩ : ∃ zs, BsAt W.heap.size W a0 len0 cap0 zs := by
    obtain ⟨fuel, hf⟩ := h0
    exact bs_of hf
  clear hA0 hval0
  refine (walk a0 len0 cap0 z0 W w0).mono fun e W' ⟨he, bel⟩ => ?_
  subst he
  exact ⟨_, rfl, _, _, _, [], _, [], hW', trodAll_mk1 (shut_bool Try.underlying4 _), (trodAll_cons_mk (Below.trod laidOut (by kernel_rfl) (of_decide_eq_true (by kernel_rfl)) k0 bel lt0) trodAll_mk0), rfl, bel.frame _, fun h => by cases h⟩

theorem over : Rows.fnShuffleRow.holds Try.pinned (OpenSpec.ofChange Rows.fnShuffleSpec) :=
  OpenClaim.holds_of_wide 9 Try.f9 rfl rfl rfl rfl rfl rfl rfl ⟨rfl, rfl, rfl, rfl, rfl⟩ rfl rfl rfl rfl rfl (by kernel_rfl) Try.func9 (by kernel_rfl)
    (of_decide_eq_true (by kernel_rfl)) (by unfold Func.isWrapper; first | (rw [if_pos (by decide +kernel)]; kernel_rfl) | (rw [if_neg (by decide +kernel)]; exact ⟨rfl, rfl⟩))
    (fun os started H enc _ => lifted os started H enc)

theorem proved : Rows.FnShuffleSaid := over
#print axioms proved
end Go.Proofs.Ytmbffbjopehllaa.LShuffle

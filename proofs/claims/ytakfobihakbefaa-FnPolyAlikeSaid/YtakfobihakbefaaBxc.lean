/- What the laws' proofs stand on, part 3 of 3. -/
import Derived.IntWalk
import Derived.RangeFuncBox
import Derived.Laws.BitsAllLaws
import Derived.Deep.QuietTactic
import Derived.BigQuiet
import Derived.ChangeSlices
import Derived.Laws.AppendOwnNone
import Derived.Lib.AppendZerosOnto
import Derived.Lib.SliceRun
import Derived.Deep.AppendLies
import Derived.Deep.RegionHeld3
import Derived.Laws.AppendOwn
import Derived.Test.YtakfobihakbefaaBxa
import Derived.Test.YtakfobihakbefaaBxb

/- Being alike: slices.Equal at ints, the model's PolyAlike. -/

namespace Go.Proofs.Ytakfobihakbefaa
open Go.RowKit

set_option maxRecDepth 100000 in
set_option maxHeartbeats 4000000 in
theorem equalI_any (x y : List Int) (a1 a2 : Option Addr) (c1 c2 n1 n2 : Nat) (b : Bool) (w : World) (h1 : Ints w a1 n1 x) (h2 : Ints w a2 n2 y) (hb : decide (x = y) = b) :
    Calls Try.prog 79 #[.slice a1 n1 c1, .slice a2 n2 c2] w fun e w' => e = .returned (.bool b) ∧ Below w.heap.size w w' := by
  have hm := h1.max
  unfold maxLen at hm
  have H1 := Lib.hid h1
  have H2 := Lib.hid h2
  have HB := Lib.hid hb
  have HN1 := Lib.hid h1.len
  have HN2 := Lib.hid h2.len
  clear hb h1 h2
  go_enter Try.func79, Try.ntmps79
  by_cases hn : n1 = n2
  · subst hn
    have hnn : ((n1 : Int) != (n1 : Int)) = false := by simp
    go_wp2_with fail
    go_loopw [5, 13] (fun _ i wr => ∃ k : Nat, k ≤ n1 ∧ i = .int .i64 (k : Int) ∧ Hid (∀ i, i < k → x.getD i 0 = y.getD i 0) ∧ Below w.heap.size w wr) (fun _ i _ => n1 - (intOf i).toNat)
    case atStart => exact ⟨0, Nat.zero_le _, rfl, Lib.hid fun i h => absurd h (Nat.not_lt_zero _), Below.refl _ _⟩
    case round =>
      obtain ⟨k, hk, rfl, HK, hB⟩ := hrel
      have hki : (0 : Int) ≤ (k : Int) := Int.natCast_nonneg _
      by_cases hlt : k < n1
      · have hlti : (k : Int) < (n1 : Int) := by omega
        obtain ⟨z1, rfl, hb1, hc1⟩ := (H1.out.below hB).at_ (by omega)
        obtain ⟨z2, rfl, hb2, hc2⟩ := (H2.out.below hB).at_ (by omega)
        have hkx : k < x.length := by rw [HN1.out]; exact hlt
        have hky : k < y.length := by rw [HN2.out]; exact hlt
        obtain ⟨u, hu⟩ : ∃ u, x[k] = u := ⟨_, rfl⟩
        obtain ⟨v, hv⟩ : ∃ v, y[k] = v := ⟨_, rfl⟩
        have e1 := hc1 k hkx
        have e2 := hc2 k hky
        rw [hu] at e1
        rw [hv] at e2
        have hgu : x.getD k 0 = u := by rw [List.getD_eq_getElem?_getD, List.getElem?_eq_getElem hkx, hu]; rfl
        have hgv : y.getD k 0 = v := by rw [List.getD_eq_getElem?_getD, List.getElem?_eq_getElem hky, hv]; rfl
        have HGU := Lib.hid hgu
        have HGV := Lib.hid hgv
        clear hu hv hc1 hc2 hgu hgv
        by_cases huv : u = v
        · subst huv
          have hne : (u != u) = false := by simp
          go_wp2
          go_quiet (fail)
          go_wp2
          go_roundw
          case rel => exact ⟨k + 1, by omega, by go_num, Lib.hid fun i h => by
            by_cases e : i = k
            · rw [e, HGU.out, HGV.out]
            · exact HK.out i (by omega), below_drewN hB _⟩
          case measure => simp [intOf]; omega
        · have hne : (u != v) = true := by simpa using huv
          have hbf : b = false := by
            rw [← HB.out]
            refine decide_eq_false fun h => huv ?_
            rw [← HGU.out, ← HGV.out, h]
          subst hbf
          go_wp2
          go_quiet (fail)
          go_wp2
          go_ret
          exact ⟨rfl, below_drewN hB _⟩
      · obtain rfl : k = n1 := by omega
        have hbt : b = true := by
          rw [← HB.out]
          have e := eq_getD (x := x) (y := y) (by rw [HN1.out, HN2.out]) (fun i hi => HK.out i (by rw [← HN1.out]; exact hi))
          exact decide_eq_true e
        subst hbt
        go_wp2
        go_ret
        exact ⟨rfl, hB⟩
  · have hbf : b = false := by
      rw [← HB.out]
      exact decide_eq_false fun h => hn (by rw [← HN1.out, ← HN2.out, h])
    subst hbf
    have hni : ¬ (n1 : Int) = (n2 : Int) := by omega
    have hnn : ((n1 : Int) != (n2 : Int)) = true := by simpa using hni
    go_wp2
    go_ret
    exact ⟨rfl, Below.refl _ _⟩

theorem doneP_mem {b : Bool} {q p : Pl} (hb : b = true → polyB q = true) (hp : doneP b q = p) : ∀ z ∈ p.cs, -9223372036854775808 ≤ z ∧ z ≤ 9223372036854775807 := fun z hz => by
  subst hp
  cases b with
  | false => cases hz
  | true =>
    have := coefIn_yes (polyB_coef (hb rfl) z hz)
    omega
/-- Whether two polynomials differ by a unit only. -/
def alikeB (a b : Pl) : Bool := polyB a && (polyB b && decide ((plainP a).cs = (plainP b).cs))
theorem plain_zero {p : Pl} (h : polyB p = true) : (plainP p).low = 0 := by
  by_cases h0 : 0 < p.cs.length
  · exact plain_low h0
  · unfold plainP
    rw [if_pos (by omega)]
    rcases (polyB_trim h).1 with ⟨_, h⟩ | ⟨h, _⟩
    · exact h
    · exact absurd (List.length_eq_zero_iff.1 (by omega)) h

set_option maxRecDepth 100000 in
set_option maxHeartbeats 4000000 in
theorem sPolyAlike_any (l1 l2 : Int) (x y : List Int) (a1 a2 : Option Addr) (c1 c2 n1 n2 : Nat) (ba bb t : Bool) (w : World) (h1 : Ints w a1 n1 x) (h2 : Ints w a2 n2 y)
    (hba : polyB ⟨l1, x⟩ = ba) (hbb : polyB ⟨l2, y⟩ = bb) (ht : (ba && (bb && decide ((plainP ⟨l1, x⟩).cs = (plainP ⟨l2, y⟩).cs))) = t) :
    Calls Try.prog 30 #[plV l1 (.slice a1 n1 c1), plV l2 (.slice a2 n2 c2)] w fun e w' => e = .returned (.bool t) ∧ Below w.heap.size w w' := by
  have hmx : Try.prog.follows .mixedOrders = true := by kernel_rfl
  obtain ⟨W, hW⟩ : ∃ W, (w.alloc (.cells #[.int .i64 l1, .slice a1 n1 c1] 25)).alloc (.cells #[.int .i64 l2, .slice a2 n2 c2] 25) = W := ⟨_, rfl⟩
  have hsz : W.heap.size = w.heap.size + 2 := by rw [← hW]; simp
  have hbW : Below w.heap.size w W := by rw [← hW]; exact ((Below.refl _ w).alloc (Nat.le_refl _) _).alloc (by simp) _
  have HC : Hid (∀ w1, Below W.heap.size W w1 → _) := Lib.hid fun w1 (hg : Below W.heap.size W w1) => twoCells hW hg
  have H1 := Lib.hid (h1.below hbW)
  have H2 := Lib.hid (h2.below hbW)
  have HBA := Lib.hid hba
  have HBB := Lib.hid hbb
  have HN1 := Lib.hid h1.len
  have HN2 := Lib.hid h2.len
  have HBW := Lib.hid hbW
  have HT := Lib.hid ht
  have v0 : ∀ p : BelowBy W, p.world.cell? ⟨w.heap.size, 0, none⟩ = some (.int .i64 l1) := fun p => (HC.out _ p.below).1
  have v1 : ∀ p : BelowBy W, p.world.cell? ⟨w.heap.size, 1, none⟩ = some (.slice a1 n1 c1) := fun p => (HC.out _ p.below).2.1
  have v2 : ∀ p : BelowBy W, p.world.cell? ⟨w.heap.size + 1, 0, none⟩ = some (.int .i64 l2) := fun p => (HC.out _ p.below).2.2.1
  have v3 : ∀ p : BelowBy W, p.world.cell? ⟨w.heap.size + 1, 1, none⟩ = some (.slice a2 n2 c2) := fun p => (HC.out _ p.below).2.2.2
  have HA : Hid (∀ p : BelowBy W, Calls Try.prog 74 #[plV l1 (.slice a1 n1 c1)] p.world fun e w' => e = .returned (.bool ba) ∧ Below p.world.heap.size p.world w') := Lib.hid fun p => sPolyIn_any l1 x a1 c1 n1 ba _ (H1.out.below p.below) HBA.out
  have HD : Hid (∀ p : BelowBy W, Calls Try.prog 74 #[plV l2 (.slice a2 n2 c2)] p.world fun e w' => e = .returned (.bool bb) ∧ Below p.world.heap.size p.world w') := Lib.hid fun p => sPolyIn_any l2 y a2 c2 n2 bb _ (H2.out.below p.below) HBB.out
  have HW := Lib.hid hW
  clear hW hbW h1 h2 hba hbb hsz ht
  go_enter Try.func30, Try.ntmps30
  go_upto_region 1 with fail
  rw [HW.out]
  cases ba with
  | false =>
    obtain rfl : t = false := by rw [← HT.out]; rfl
    refine wp_region_below hmx (by kernel_rfl) ?_
    repeat (((with_reducible refine wpQuiet_step (fun K hK => ?_)); go_simp; first | ((with_reducible refine hK _ ?_); clear hK K) | (refine (if_neg (by decide)).mpr ?_; (with_reducible refine hK _ ?_); clear hK K) | (apply Exists.intro; (with_reducible refine ⟨fun _ => ?_, hK _ ?_⟩); (go_at_call 74; exact Calls.bel (HA.out _)); clear hK K)))
    with_reducible refine wpQuiet_nil ?_
    rintro _ ⟨⟨V, hV⟩, rfl⟩
    clear v0 v1 v2 v3
    go_wp2
    go_ret
    exact ⟨rfl, HBW.out.trans (hV.mono HBW.out.size)⟩
  | true =>
    cases bb with
    | false =>
      obtain rfl : t = false := by rw [← HT.out]; rfl
      refine wp_region_below hmx (by kernel_rfl) ?_
      repeat (((with_reducible refine wpQuiet_step (fun K hK => ?_)); go_simp; first | ((with_reducible refine hK _ ?_); clear hK K) | (refine (if_neg (by decide)).mpr ?_; (with_reducible refine hK _ ?_); clear hK K) | (apply Exists.intro; (with_reducible refine ⟨fun _ => ?_, hK _ ?_⟩); (go_at_call 74; first | with_reducible exact Calls.bel (HA.out _) | with_reducible exact Calls.bel (HD.out _)); clear hK K) | (refine (if_pos (by decide)).mpr ?_; apply Exists.intro; (with_reducible refine ⟨fun _ => ?_, hK _ ?_⟩); (go_at_call 74; first | with_reducible exact Calls.bel (HA.out _) | with_reducible exact Calls.bel (HD.out _)); clear hK K)))
      with_reducible refine wpQuiet_nil ?_
      rintro _ ⟨⟨V, hV⟩, rfl⟩
      clear v0 v1 v2 v3
      go_wp2
      go_ret
      exact ⟨rfl, HBW.out.trans (hV.mono HBW.out.size)⟩
    | true =>
      clear v0 v1 v2 v3
      have hz1 := plain_zero HBA.out
      have hz2 := plain_zero HBB.out
      obtain ⟨_, hx200, _, _, hxc⟩ := polyB_trim HBA.out
      obtain ⟨_, hy200, _, _, hyc⟩ := polyB_trim HBB.out
      have hx200 : x.length ≤ 200 := hx200
      have hy200 : y.length ≤ 200 := hy200
      have hxc : ∀ i, -1000000000 ≤ x.getD i 0 ∧ x.getD i 0 ≤ 1000000000 := hxc
      have hyc : ∀ i, -1000000000 ≤ y.getD i 0 ∧ y.getD i 0 ≤ 1000000000 := hyc
      have HXC := Lib.hid hxc
      have HYC := Lib.hid hyc
      rw [HN1.out] at hx200
      rw [HN2.out] at hy200
      have hlx := plain_len ⟨l1, x⟩
      have hly := plain_len ⟨l2, y⟩
      obtain ⟨p1, hp1⟩ : ∃ p, (plainP ⟨l1, x⟩).cs = p := ⟨_, rfl⟩
      obtain ⟨p2, hp2⟩ : ∃ p, (plainP ⟨l2, y⟩).cs = p := ⟨_, rfl⟩
      rw [hp1] at hlx
      rw [hp2] at hly
      have htt := HT.out
      rw [hp1, hp2, Bool.true_and, Bool.true_and] at htt
      have HTT : Hid (decide (p1 = p2) = t) := Lib.hid htt
      have HP1 : Hid (∀ V, Below W.heap.size W V → Calls Try.prog 77 #[plV l1 (.slice a1 n1 c1)] V fun e w' => (∃ a cap, e = .returned (plV 0 (.slice a n1 cap)) ∧ Ints w' a n1 p1) ∧ Below V.heap.size V w') := Lib.hid fun V hV => by
        have h := l6pPlain_any l1 x a1 c1 n1 V (H1.out.below hV) (by omega) HXC.out
        rw [hz1, hp1] at h
        exact h
      have HP2 : Hid (∀ V, Below W.heap.size W V → Calls Try.prog 77 #[plV l2 (.slice a2 n2 c2)] V fun e w' => (∃ a cap, e = .returned (plV 0 (.slice a n2 cap)) ∧ Ints w' a n2 p2) ∧ Below V.heap.size V w') := Lib.hid fun V hV => by
        have h := l6pPlain_any l2 y a2 c2 n2 V (H2.out.below hV) (by omega) HYC.out
        rw [hz2, hp2] at h
        exact h
      clear hz1 hz2 hp1 hp2 hxc hyc hlx hly htt
      obtain ⟨k0, k1, k2, k3⟩ := HC.out W (Below.refl _ _)
      have HBk : Hid (Below W.heap.size W W) := Lib.hid (Below.refl _ _)
      go_region_held3 (fun w' : World => w'.cell? ⟨w.heap.size, 0, none⟩ = some (.int .i64 l1) ∧ w'.cell? ⟨w.heap.size, 1, none⟩ = some (.slice a1 n1 c1) ∧ w'.cell? ⟨w.heap.size + 1, 0, none⟩ = some (.int .i64 l2) ∧ w'.cell? ⟨w.heap.size + 1, 1, none⟩ = some (.slice a2 n2 c2)) (first | go_keep | exact ⟨k0, k1, k2, k3⟩)
        (first
          | (go_at_call 74
             first
             | with_reducible refine (sPolyIn_any l1 x a1 c1 n1 true _ (H1.out.below (by first | exact HBk.out | exact HBk.out.drew)) HBA.out).mono ?_
             | with_reducible refine (sPolyIn_any l2 y a2 c2 n2 true _ (H2.out.below (by first | exact HBk.out | exact HBk.out.drew)) HBB.out).mono ?_
             rintro e V ⟨rfl, hbv⟩
             have hbn : Below W.heap.size W V := by
               first
               | exact HBk.out.trans (hbv.mono HBk.out.size)
               | exact HBk.out.drew.trans (hbv.mono HBk.out.size)
             clear HBk
             have HBk := Lib.hid hbn
             obtain ⟨k0, k1, k2, k3⟩ := HC.out V hbn
             clear hbv hbn)
          | (go_at_call 77
             with_reducible refine (HP1.out _ HBk.out).mono ?_
             rintro e V ⟨⟨g1, d1, rfl, hi⟩, hbv⟩
             have HI1 := Lib.hid hi
             have hbn : Below W.heap.size W V := HBk.out.trans (hbv.mono HBk.out.size)
             clear HBk
             have HBk := Lib.hid hbn
             obtain ⟨k0, k1, k2, k3⟩ := HC.out V hbn
             clear hbv hbn hi)
          | (go_at_call 77
             with_reducible refine (HP2.out _ HBk.out).mono ?_
             rintro e V ⟨⟨g2, d2, rfl, hi⟩, hbv⟩
             have HI1' := Lib.hid (HI1.out.below hbv)
             clear HI1
             have HI1 := HI1'
             clear HI1'
             have HI2 := Lib.hid hi
             have hbn : Below W.heap.size W V := HBk.out.trans (hbv.mono HBk.out.size)
             clear HBk
             have HBk := Lib.hid hbn
             obtain ⟨k0, k1, k2, k3⟩ := HC.out V hbn
             clear hbv hbn hi)
          | (go_at_call 81
             refine (l6pSame_any 0 0 p1 p2 g1 g2 d1 d2 n1 n2 t _ HI1.out HI2.out (by rw [← HTT.out]; simp)).mono ?_
             rintro e V ⟨rfl, hbv⟩
             have hbn : Below W.heap.size W V := HBk.out.trans (hbv.mono HBk.out.size)
             clear HBk
             have HBk := Lib.hid hbn
             obtain ⟨k0, k1, k2, k3⟩ := HC.out V hbn
             clear hbv hbn))
      go_wp2
      go_ret
      exact ⟨ret_bool (by cases t <;> rfl), HBW.out.trans (HBk.out.mono HBW.out.size)⟩

end Go.Proofs.Ytakfobihakbefaa

/- The program's PolyAlike; both sides as the law wants them. -/

namespace Go.Proofs.Ytakfobihakbefaa
open Go.RowKit

set_option maxRecDepth 100000 in
set_option maxHeartbeats 4000000 in
theorem iPolyAlike_any (l1 l2 : Int) (x y : List Int) (a1 a2 : Option Addr) (c1 c2 n1 n2 : Nat) (ba bb t : Bool) (w : World) (h1 : Ints w a1 n1 x) (h2 : Ints w a2 n2 y) (hc1 : n1 ≤ c1) (hc2 : n2 ≤ c2)
    (hba : polyB ⟨l1, x⟩ = ba) (hbb : polyB ⟨l2, y⟩ = bb) (ht : (ba && (bb && decide ((plainP ⟨l1, x⟩).cs = (plainP ⟨l2, y⟩).cs))) = t) :
    Calls Try.prog 28 #[plV l1 (.slice a1 n1 c1), plV l2 (.slice a2 n2 c2)] w fun e w' => e = .returned (.bool t) ∧ Below w.heap.size w w' := by
  obtain ⟨W, hW⟩ : ∃ W, (w.alloc (.cells #[.int .i64 l1, .slice a1 n1 c1] 25)).alloc (.cells #[.int .i64 l2, .slice a2 n2 c2] 25) = W := ⟨_, rfl⟩
  have hbW : Below w.heap.size w W := by rw [← hW]; exact ((Below.refl _ w).alloc (Nat.le_refl _) _).alloc (by simp) _
  have HC : Hid (∀ w1, Below W.heap.size W w1 → _) := Lib.hid fun w1 (hg : Below W.heap.size W w1) => twoCells hW hg
  have hC := twoCells hW (Below.refl _ _)
  rw [← hW] at hC
  obtain ⟨q0, q1, q2, q3⟩ := hC
  have H1 := Lib.hid (h1.below hbW)
  have H2 := Lib.hid (h2.below hbW)
  have HBA := Lib.hid hba
  have HBB := Lib.hid hbb
  have HBW := Lib.hid hbW
  have HT := Lib.hid ht
  have HW := Lib.hid hW
  clear hW hbW h1 h2 hba hbb ht
  obtain ⟨p1, hp1⟩ : ∃ p, doneP ba (plainP ⟨l1, x⟩) = p := ⟨_, rfl⟩
  obtain ⟨p2, hp2⟩ : ∃ p, doneP bb (plainP ⟨l2, y⟩) = p := ⟨_, rfl⟩
  have hm1 : ∀ z ∈ p1.cs, -9223372036854775808 ≤ z ∧ z ≤ 9223372036854775807 := doneP_mem (fun e => plain_polyB (HBA.out.trans e)) hp1
  have hm2 : ∀ z ∈ p2.cs, -9223372036854775808 ≤ z ∧ z ≤ 9223372036854775807 := doneP_mem (fun e => plain_polyB (HBB.out.trans e)) hp2
  have HM1 := Lib.hid hm1
  have HM2 := Lib.hid hm2
  have HA := Lib.hid (iPolyPlain_any l1 x a1 c1 n1 ba W H1.out hc1 HBA.out)
  rw [hp1] at HA
  have HD : Hid (∀ V, Below W.heap.size W V → Calls Try.prog 25 #[plV l2 (.slice a2 n2 c2)] V fun e w' => (∃ v, e = .returned (.tuple #[plV p2.low v, .bool bb]) ∧ IntRow V.heap.size w' v p2.cs) ∧ Below V.heap.size V w') := Lib.hid fun V hV => by
    have h := iPolyPlain_any l2 y a2 c2 n2 bb V (H2.out.below hV) hc2 HBB.out
    rwa [hp2] at h
  have htt : (ba && (bb && decide (p1.cs = p2.cs))) = t := by
    rw [← HT.out, ← hp1, ← hp2]
    cases ba with
    | false => rfl
    | true =>
      cases bb with
      | false => rfl
      | true => rfl
  have HTT := Lib.hid htt
  clear hm1 hm2 hp1 hp2 htt
  go_enter Try.func28, Try.ntmps28
  go_wp2_with fail
  rw [HW.out]
  clear q0 q1 q2 q3
  refine HA.out.mono ?_
  rintro e w1 ⟨⟨v, rfl, hr⟩, hb1⟩
  obtain ⟨g1, d1, rfl, hd1, hi1⟩ := hr.readc HM1.out
  obtain ⟨m1, hm1⟩ : ∃ m, p1.cs.length = m := ⟨_, rfl⟩
  rw [hm1] at hi1 hd1 ⊢
  have hs1 := hb1.size
  obtain ⟨V, hV⟩ : ∃ V, w1.alloc (.cells #[.int .i64 p1.low, .slice g1 m1 d1] 25) = V := ⟨_, rfl⟩
  have hbV : Below w1.heap.size w1 V := by rw [← hV]; exact (Below.refl _ _).alloc (Nat.le_refl _) _
  have HE : Hid (∀ w2, Below V.heap.size V w2 → _) := Lib.hid fun w2 (hg : Below V.heap.size V w2) => oneBox hV hg
  have HBV := Lib.hid (hb1.trans (hbV.mono hs1))
  have hsV := HBV.out.size
  have HI1 := Lib.hid (hi1.below hbV)
  have hp := HC.out V HBV.out
  rw [← hV] at hp
  obtain ⟨q0, q1, q2, q3⟩ := hp
  have HV := Lib.hid hV
  clear hr hb1 hi1 hm1 hV hbV
  cases ba with
  | false =>
    obtain rfl : t = false := by rw [← HT.out]; rfl
    go_wp2
    go_ret
    rw [HV.out]
    exact ⟨rfl, HBW.out.trans (HBV.out.mono HBW.out.size)⟩
  | true =>
    go_wp2_with fail
    rw [HV.out]
    clear q0 q1 q2 q3
    refine (HD.out V HBV.out).mono ?_
    rintro e w2 ⟨⟨v, rfl, hr⟩, hb2⟩
    obtain ⟨g2, d2, rfl, hd2, hi2⟩ := hr.readc HM2.out
    obtain ⟨m2, hm2⟩ : ∃ m, p2.cs.length = m := ⟨_, rfl⟩
    rw [hm2] at hi2 hd2 ⊢
    obtain ⟨U, hU⟩ : ∃ U, w2.alloc (.cells #[.int .i64 p2.low, .slice g2 m2 d2] 25) = U := ⟨_, rfl⟩
    have hbU : Below w2.heap.size w2 U := by rw [← hU]; exact (Below.refl _ _).alloc (Nat.le_refl _) _
    have hVU : Below V.heap.size V U := hb2.trans (hbU.mono hb2.size)
    have hq := HE.out U hVU
    have hq2 := oneBox hU (Below.refl _ _)
    rw [← hU] at hq hq2
    obtain ⟨q0, q1⟩ := hq
    obtain ⟨q2, q3⟩ := hq2
    have HBU := Lib.hid (HBW.out.trans ((HBV.out.trans (hVU.mono hsV)).mono HBW.out.size))
    have HI1U := Lib.hid (HI1.out.below hVU)
    have HI2U := Lib.hid (hi2.below hbU)
    have HU := Lib.hid hU
    clear hr hb2 hi2 hm2 hU hbU hVU
    cases bb with
    | false =>
      obtain rfl : t = false := by rw [← HT.out]; rfl
      go_wp2
      go_ret
      rw [HU.out]
      exact ⟨rfl, HBU.out⟩
    | true =>
      have hte : decide (p1.cs = p2.cs) = t := by have := HTT.out; rwa [Bool.true_and, Bool.true_and] at this
      have HEQ := Lib.hid (equalI_any p1.cs p2.cs g1 g2 d1 d2 m1 m2 t U HI1U.out HI2U.out hte)
      clear hte
      go_wp2_with fail
      rw [HU.out]
      refine HEQ.out.mono ?_
      rintro e w3 ⟨rfl, hb3⟩
      have HB3 := Lib.hid (HBU.out.trans (hb3.mono HBU.out.size))
      clear hb3 q0 q1 q2 q3
      go_wp2
      go_ret
      exact ⟨ret_bool (by cases t <;> rfl), HB3.out⟩

/-! ### As the law wants them -/
theorem sPolyAlike_law {l1 l2 : Int} {x y : List Int} {a1 a2 : Option Addr} {n1 n2 : Nat} {b : Bool} {w : World} (h1 : Ints w a1 n1 x) (h2 : Ints w a2 n2 y) (hb : alikeB ⟨l1, x⟩ ⟨l2, y⟩ = b) :
    Calls Try.prog 30 #[plV l1 (.slice a1 n1 n1), plV l2 (.slice a2 n2 n2)] w fun e w' => e = .returned (.bool b) ∧ Below w.heap.size w w' :=
  sPolyAlike_any l1 l2 x y a1 a2 n1 n2 n1 n2 _ _ b w h1 h2 rfl rfl hb
theorem iPolyAlike_law {l1 l2 : Int} {x y : List Int} {a1 a2 : Option Addr} {n1 n2 : Nat} {b : Bool} {w : World} (h1 : Ints w a1 n1 x) (h2 : Ints w a2 n2 y) (hb : alikeB ⟨l1, x⟩ ⟨l2, y⟩ = b) :
    Calls Try.prog 28 #[plV l1 (.slice a1 n1 n1), plV l2 (.slice a2 n2 n2)] w fun e w' => e = .returned (.bool b) ∧ Below w.heap.size w w' :=
  iPolyAlike_any l1 l2 x y a1 a2 n1 n2 n1 n2 _ _ b w h1 h2 (Nat.le_refl _) (Nat.le_refl _) rfl rfl hb

end Go.Proofs.Ytakfobihakbefaa

/- The program's takeOut. -/

namespace Go.Proofs.Ytakfobihakbefaa
open Go.RowKit

theorem boxKept {w w1 W : World} {t : TypeId} {x y : Value} {g : Nat} (hW : w.alloc (.cells #[x, y] t) = W) (hg : W.grownBy w1 (some g)) (hgl : g < w.heap.size) : w1.cell? ⟨w.heap.size, 0, none⟩ = some x ∧ w1.cell? ⟨w.heap.size, 1, none⟩ = some y := by
  have hsz : W.heap.size = w.heap.size + 1 := by rw [← hW]; simp
  have e0 := hg.block w.heap.size (by omega) (by simp; omega)
  rw [← hW, World.alloc_heap_new] at e0
  exact ⟨by simp [World.cell?, e0], by simp [World.cell?, e0]⟩
/-- Ints that lie in another block than the one that is written. -/
theorem Ints.keptBut {w W w1 : World} {a : Option Addr} {n g : Nat} {zs : List Int} (h : Ints w a n zs) (hbW : Below w.heap.size w W) (hg : W.grownBy w1 (some g)) (hne : n = 0 ∨ ∀ x, a = some x → x.block ≠ g) : ∀ k, k < n → ∀ x, a = some x → ∀ z, zs.getD k 0 = z → w1.cell? (x.add k) = some (.int .i64 z) := fun k hk x hx z hz => by
  obtain ⟨x', e, hb, hc⟩ := h.at_ (by omega)
  obtain rfl : x = x' := by rw [hx] at e; simpa using e
  have hl := h.len
  have hne' : (x.add k).block ≠ g := by rw [addr_add_block]; exact (hne.resolve_left (by omega)) x hx
  have hbk := hbW.cell (p := x.add k) (by rw [addr_add_block]; exact hb)
  have hbl : (x.add k).block < W.heap.size := by rw [addr_add_block]; have := hbW.size; omega
  have e1 := hg.block (x.add k).block hbl (by simp; exact hne')
  have e2 : w1.cell? (x.add k) = W.cell? (x.add k) := by unfold World.cell?; rw [e1]
  rw [e2, hbk, hc k (by omega), ← hz, List.getD_eq_getElem?_getD, List.getElem?_eq_getElem (by omega)]
  rfl
theorem mul_in {q b : Int} (h1 : -1000000000 ≤ q ∧ q ≤ 1000000000) (h2 : -1000000000 ≤ b ∧ b ≤ 1000000000) : -1000000000000000000 ≤ q * b ∧ q * b ≤ 1000000000000000000 := by
  have h := conv_bound (x := [q]) (y := [b]) (fun i => by cases i with | zero => exact h1 | succ i => simp) (fun i => by cases i with | zero => exact h2 | succ i => simp) 0 0
  exact h

/-- What takeOut comes to: the number that it tells, and the row. -/
def Taken (base g n1 capN i : Nat) (bs left : List Int) (s : Bool) (e : Ending) (w' : World) : Prop :=
  (s = true ∧ e = .returned (.tuple #[.int .i64 (stepQ bs left), .bool true]) ∧ w'.ownsRow base 3 1 (.slice (some ⟨g, 0, none⟩) n1 capN) n1 (intsV (listN (rowG (i + 1) (subQ (stepQ bs left) bs left).tail) n1))) ∨ (s = false ∧ e = .returned (.tuple #[.int .i64 0, .bool false]))

end Go.Proofs.Ytakfobihakbefaa

/- The program's over. -/

namespace Go.Proofs.Ytakfobihakbefaa
open Go.RowKit

def sliceLen : Value → Nat
  | .slice _ n _ => n
  | _ => 0
theorem drop_row {i m n : Nat} {left : List Int} (h : i + m = n) (hl : left.length = m) : ((listN (rowG i left) n).drop i).take m = left := by
  refine eq_getD (by rw [List.length_take, List.length_drop, listN_len]; omega) fun k hk => ?_
  rw [List.length_take, List.length_drop, listN_len] at hk
  rw [List.getD_eq_getElem?_getD, List.getElem?_take_of_lt (by omega), List.getElem?_drop, ← List.getD_eq_getElem?_getD, listN_get (by omega), rowG_at]
theorem any_zero (l : List Int) : (l.any fun z => !decide (z = 0)) = !zeroL l := by
  unfold zeroL
  rw [List.not_all_eq_any_not]
theorem rowG_in {i n : Nat} {left : List Int} (hl : LeftOK left) : ∀ z ∈ listN (rowG i left) n, -9223372036854775808 ≤ z ∧ z ≤ 9223372036854775807 := fun z hz => by
  unfold listN at hz
  obtain ⟨j, _, rfl⟩ := List.mem_map.1 hz
  unfold rowG
  split
  · omega
  · have := hl (j - i)
    omega
theorem coefs_in {qs : List Int} (h : ∀ z ∈ qs, coefIn z = true) : ∀ z ∈ qs, -9223372036854775808 ≤ z ∧ z ≤ 9223372036854775807 := fun z hz => by
  have := coefIn_yes (h z hz)
  omega

end Go.Proofs.Ytakfobihakbefaa

/- The program's PolyOver. -/

namespace Go.Proofs.Ytakfobihakbefaa
open Go.RowKit

theorem over_done {a b : Pl} {t : Bool} (h : overB a b = t) : doneP t (overP a b) = overP a b := by
  cases t with
  | true => rfl
  | false =>
    cases e : overQ a b with
    | none => rw [(over_none e).2]; rfl
    | some p =>
      obtain ⟨h1, h2⟩ := over_some e
      rw [h2, ← h1, h]
      rfl
theorem divided_over {a b : Pl} {t : Bool} (h : dividedB a b = t) (ha : polyB a = true) (hb : polyB b = true) (h0 : 0 < b.cs.length) : overB a b = t ∧ dividedP a b = overP a b := by
  have e : overB a b = t := by
    rw [← h]
    unfold dividedB
    rw [ha, hb, decide_eq_true h0]
    rfl
  refine ⟨e, ?_⟩
  unfold dividedP
  rw [h]
  exact over_done e
theorem divided_no {a b : Pl} {t : Bool} (h : dividedB a b = t) (h0 : polyB a = false ∨ polyB b = false ∨ b.cs.length = 0) : t = false ∧ dividedP a b = ⟨0, []⟩ := by
  have e : dividedB a b = false := by
    unfold dividedB
    rcases h0 with h0 | h0 | h0
    · rw [h0]; rfl
    · rw [h0, Bool.false_and, Bool.and_false]
    · rw [decide_eq_false (by omega), Bool.false_and, Bool.and_false, Bool.and_false]
  refine ⟨h.symm.trans e, ?_⟩
  unfold dividedP
  rw [e]
  rfl
theorem divided_zero {a b : Pl} {t : Bool} (h : dividedB a b = t) (ha : polyB a = true) (hb : polyB b = true) (h0 : 0 < b.cs.length) (h1 : a.cs.length = 0) : t = true ∧ dividedP a b = ⟨0, []⟩ := by
  have ea : a = ⟨0, []⟩ := trim_unique (polyB_trim ha).1 (.inl ⟨rfl, rfl⟩) fun k => by rw [pat_none h1, pat_nil]
  obtain ⟨e1, e2⟩ := divided_over h ha hb h0
  have e : overQ a b = some a := by unfold overQ; rw [if_pos h1]
  obtain ⟨e3, e4⟩ := over_some e
  refine ⟨by rw [← e1, e3, ha], ?_⟩
  rw [e2, e4, ha, ea]
  rfl

end Go.Proofs.Ytakfobihakbefaa

/- The model's PolyOver. -/

namespace Go.Proofs.Ytakfobihakbefaa
open Go.RowKit

end Go.Proofs.Ytakfobihakbefaa

/- The model's PolyOver whatever comes in; both sides as the law wants them. -/

namespace Go.Proofs.Ytakfobihakbefaa
open Go.RowKit

end Go.Proofs.Ytakfobihakbefaa

/- The contracts of both sides' functions on polynomials, the answer under a name of its own. -/

namespace Go.Proofs.Ytakfobihakbefaa
open Go.RowKit

/-- Coefficients that came in or were answered. -/
structure PIn (w : World) (a : Option Addr) (n c : Nat) (zs : List Int) : Prop where
  is : Ints w a n zs
  le : n ≤ c
theorem PIn.below {w w' : World} {a : Option Addr} {n c : Nat} {zs : List Int} (h : PIn w a n c zs) (hb : Below w.heap.size w w') : PIn w' a n c zs := ⟨h.is.below hb, h.le⟩
theorem PIn.len {w : World} {a : Option Addr} {n c : Nat} {zs : List Int} (h : PIn w a n c zs) : zs.length = n := h.is.len
/-- What a function that tells a polynomial comes to. -/
def PolyT (W : World) (b : Bool) (l : Int) (n : Nat) (zs : List Int) (e : Ending) (w' : World) : Prop := (∃ a c, e = .returned (.tuple #[plV l (.slice a n c), .bool b]) ∧ PIn w' a n c zs) ∧ Below W.heap.size W w'
theorem PolyT.of {W w' : World} {b t : Bool} {q : Pl} {l : Int} {zs : List Int} {n : Nat} {e : Ending} (h : (∃ v, e = .returned (.tuple #[plV l v, .bool b]) ∧ IntRow W.heap.size w' v zs) ∧ Below W.heap.size W w') (hb : t = true → polyB q = true) (hp : doneP t q = ⟨l, zs⟩) (hn : zs.length = n) : PolyT W b l n zs e w' := by
  subst hn
  obtain ⟨⟨v, rfl, hr⟩, hB⟩ := h
  obtain ⟨a, c, rfl, hc, hi⟩ := hr.readc (doneP_mem hb hp)
  exact ⟨⟨a, c, rfl, hi, hc⟩, hB⟩

theorem divided_in {a b : Pl} (h : dividedB a b = true) : polyB (overP a b) = true := by
  unfold dividedB at h
  simp only [Bool.and_eq_true] at h
  have h := h.2.2.2
  cases e : overQ a b with
  | none => rw [(over_none e).1] at h; exact absurd h (by decide)
  | some q =>
    obtain ⟨h1, h2⟩ := over_some e
    rw [h1] at h
    rw [h2, h]
    exact h

section
variable {W : World} {a a2 : Option Addr} {n c m c2 k : Nat} {x y pc : List Int} {b : Bool} {l l2 pl : Int}
theorem sPolyIn_t (h : PIn W a n c x) (hb : polyB ⟨l, x⟩ = b) : Calls Try.prog 74 #[plV l (.slice a n c)] W fun e w' => e = .returned (.bool b) ∧ Below W.heap.size W w' := sPolyIn_any l x a c n b W h.is hb
theorem sPolyPlain_t (h : PIn W a n c x) (hb : polyB ⟨l, x⟩ = b) (hp : plainedP ⟨l, x⟩ = ⟨pl, pc⟩) (hk : pc.length = k) : Calls Try.prog 26 #[plV l (.slice a n c)] W (PolyT W b pl k pc) := by
  refine (sPolyPlain_any l x a c n b W h.is hb).mono fun e w' hh => ?_
  rw [show doneP b (plainP ⟨l, x⟩) = ⟨pl, pc⟩ by rw [← hb]; exact hp] at hh
  exact PolyT.of hh plain_polyB hp hk
theorem sPolyAdd_t (h : PIn W a n c x) (h2 : PIn W a2 m c2 y) (hb : addPB ⟨l, x⟩ ⟨l2, y⟩ = b) (hp : addP ⟨l, x⟩ ⟨l2, y⟩ = ⟨pl, pc⟩) (hk : pc.length = k) : Calls Try.prog 110 #[plV l (.slice a n c), plV l2 (.slice a2 m c2)] W (PolyT W b pl k pc) := by
  refine (sPolyAdd_any l l2 x y a a2 c c2 n m _ _ b W h.is h2.is h.le rfl rfl hb).mono fun e w' hh => ?_
  rw [show doneP b (sumP ⟨l, x⟩ 1 ⟨l2, y⟩) = ⟨pl, pc⟩ by rw [← hb]; exact hp] at hh
  exact PolyT.of hh (fun e => by unfold addPB at e; simp only [Bool.and_eq_true] at e; exact e.2.2) hp hk
theorem sPolyTimes_t (h : PIn W a n c x) (h2 : PIn W a2 m c2 y) (hb : timesPB ⟨l, x⟩ ⟨l2, y⟩ = b) (hp : timesP ⟨l, x⟩ ⟨l2, y⟩ = ⟨pl, pc⟩) (hk : pc.length = k) : Calls Try.prog 128 #[plV l (.slice a n c), plV l2 (.slice a2 m c2)] W (PolyT W b pl k pc) := by
  refine (sPolyTimes_any l l2 x y a a2 c c2 n m _ _ b W h.is h2.is rfl rfl hb).mono fun e w' hh => ?_
  rw [show doneP b (prodP ⟨l, x⟩ ⟨l2, y⟩) = ⟨pl, pc⟩ by rw [← hb]; exact hp] at hh
  exact PolyT.of hh (fun e => by unfold timesPB at e; simp only [Bool.and_eq_true] at e; exact e.2.2) hp hk
theorem iPolyIn_t (h : PIn W a n c x) (hb : polyB ⟨l, x⟩ = b) : Calls Try.prog 70 #[plV l (.slice a n c)] W fun e w' => e = .returned (.bool b) ∧ Below W.heap.size W w' := iPolyIn_any l x a c n b W h.is h.le hb
theorem iPolyPlain_t (h : PIn W a n c x) (hb : polyB ⟨l, x⟩ = b) (hp : plainedP ⟨l, x⟩ = ⟨pl, pc⟩) (hk : pc.length = k) : Calls Try.prog 25 #[plV l (.slice a n c)] W (PolyT W b pl k pc) := by
  refine (iPolyPlain_any l x a c n b W h.is h.le hb).mono fun e w' hh => ?_
  rw [show doneP b (plainP ⟨l, x⟩) = ⟨pl, pc⟩ by rw [← hb]; exact hp] at hh
  exact PolyT.of hh plain_polyB hp hk
theorem iPolyAdd_t (h : PIn W a n c x) (h2 : PIn W a2 m c2 y) (hb : addPB ⟨l, x⟩ ⟨l2, y⟩ = b) (hp : addP ⟨l, x⟩ ⟨l2, y⟩ = ⟨pl, pc⟩) (hk : pc.length = k) : Calls Try.prog 48 #[plV l (.slice a n c), plV l2 (.slice a2 m c2)] W (PolyT W b pl k pc) := by
  refine (iPolyAdd_any l l2 x y a a2 c c2 n m _ _ b W h.is h2.is h.le h2.le rfl rfl hb).mono fun e w' hh => ?_
  rw [show doneP b (sumP ⟨l, x⟩ 1 ⟨l2, y⟩) = ⟨pl, pc⟩ by rw [← hb]; exact hp] at hh
  exact PolyT.of hh (fun e => by unfold addPB at e; simp only [Bool.and_eq_true] at e; exact e.2.2) hp hk
theorem iPolyTimes_t (h : PIn W a n c x) (h2 : PIn W a2 m c2 y) (hb : timesPB ⟨l, x⟩ ⟨l2, y⟩ = b) (hp : timesP ⟨l, x⟩ ⟨l2, y⟩ = ⟨pl, pc⟩) (hk : pc.length = k) : Calls Try.prog 44 #[plV l (.slice a n c), plV l2 (.slice a2 m c2)] W (PolyT W b pl k pc) := by
  refine (iPolyTimes_any l l2 x y a a2 c c2 n m _ _ b W h.is h2.is h.le h2.le rfl rfl hb).mono fun e w' hh => ?_
  rw [show doneP b (prodP ⟨l, x⟩ ⟨l2, y⟩) = ⟨pl, pc⟩ by rw [← hb]; exact hp] at hh
  exact PolyT.of hh (fun e => by unfold timesPB at e; simp only [Bool.and_eq_true] at e; exact e.2.2) hp hk
theorem sPolyAlike_t (h : PIn W a n c x) (h2 : PIn W a2 m c2 y) (hb : alikeB ⟨l, x⟩ ⟨l2, y⟩ = b) : Calls Try.prog 30 #[plV l (.slice a n c), plV l2 (.slice a2 m c2)] W fun e w' => e = .returned (.bool b) ∧ Below W.heap.size W w' := sPolyAlike_any l l2 x y a a2 c c2 n m _ _ b W h.is h2.is rfl rfl hb
theorem iPolyAlike_t (h : PIn W a n c x) (h2 : PIn W a2 m c2 y) (hb : alikeB ⟨l, x⟩ ⟨l2, y⟩ = b) : Calls Try.prog 28 #[plV l (.slice a n c), plV l2 (.slice a2 m c2)] W fun e w' => e = .returned (.bool b) ∧ Below W.heap.size W w' := iPolyAlike_any l l2 x y a a2 c c2 n m _ _ b W h.is h2.is h.le h2.le rfl rfl hb
end

end Go.Proofs.Ytakfobihakbefaa

/- The laws' samePoly; boxes that may be written. -/

namespace Go.Proofs.Ytakfobihakbefaa
open Go.RowKit

/-- A box of a polynomial that may be written. -/
def BoxF (w : World) (j : Nat) (x y : Value) : Prop := j < w.heap.size ∧ w.cell? ⟨j, 0, none⟩ = some x ∧ w.cell? ⟨j, 1, none⟩ = some y ∧ w.frozen? ⟨j, 0, none⟩ = false ∧ w.frozen? ⟨j, 1, none⟩ = false
theorem BoxF.below {w w' : World} {j : Nat} {x y : Value} (h : BoxF w j x y) (hb : Below w.heap.size w w') : BoxF w' j x y := by
  have e := hb.block j h.1
  refine ⟨Nat.lt_of_lt_of_le h.1 hb.size, ?_, ?_, ?_, ?_⟩
  · rw [← h.2.1]; simp [World.cell?, e]
  · rw [← h.2.2.1]; simp [World.cell?, e]
  · rw [← h.2.2.2.1]; simp [World.frozen?, e]
  · rw [← h.2.2.2.2]; simp [World.frozen?, e]
theorem BoxF.grown {w w' : World} {j : Nat} {x y : Value} {row : Option Nat} (h : BoxF w j x y) (hg : w.grownBy w' row) (hne : some j ≠ row) : BoxF w' j x y := by
  have e := hg.block j h.1 hne
  refine ⟨Nat.lt_of_lt_of_le h.1 hg.size, ?_, ?_, ?_, ?_⟩
  · rw [← h.2.1]; simp [World.cell?, e]
  · rw [← h.2.2.1]; simp [World.cell?, e]
  · rw [← h.2.2.2.1]; simp [World.frozen?, e]
  · rw [← h.2.2.2.2]; simp [World.frozen?, e]
theorem BoxF.new {w W : World} {t : TypeId} {x y : Value} (hW : w.alloc (.cells #[x, y] t) = W) : BoxF W w.heap.size x y := by
  have e : W.heap[w.heap.size]? = some (.cells #[x, y] t (0, 0)) := by rw [← hW]; exact World.alloc_heap_new w _
  refine ⟨by rw [← hW]; simp, ?_, ?_, ?_, ?_⟩ <;> simp [World.cell?, World.frozen?, e]
theorem BoxF.fill {w : World} {j : Nat} {x y : Value} (u v : Value) (h : BoxF w j x y) : BoxF ((w.setCell ⟨j, 0, none⟩ u).setCell ⟨j, 1, none⟩ v) j u v := by
  obtain ⟨h0, h1, h2, h3, h4⟩ := h
  refine ⟨by simp; exact h0, ?_, ?_, ?_, ?_⟩
  · go_simp
  · go_simp
  · rw [World.frozen?_setCell, World.frozen?_setCell]; exact h3
  · rw [World.frozen?_setCell, World.frozen?_setCell]; exact h4
theorem grown_cell (w : World) (b o : Nat) (v : Value) : w.grownBy (w.setCell ⟨b, o, none⟩ v) (some b) :=
  ⟨((Below.refl 0 w).setCell (p := ⟨b, o, none⟩) (Nat.zero_le _) v).os, ((Below.refl 0 w).setCell (p := ⟨b, o, none⟩) (Nat.zero_le _) v).tape, ((Below.refl 0 w).setCell (p := ⟨b, o, none⟩) (Nat.zero_le _) v).output, ((Below.refl 0 w).setCell (p := ⟨b, o, none⟩) (Nat.zero_le _) v).size, fun i _ hne => Below.heap_setCell w ⟨b, o, none⟩ v i (fun e => hne (by rw [e]))⟩
theorem grown_cells (w : World) (b : Nat) (u v : Value) : w.grownBy ((w.setCell ⟨b, 0, none⟩ u).setCell ⟨b, 1, none⟩ v) (some b) := grownTrans (grown_cell w b 0 u) (grown_cell _ b 1 v)
theorem BoxF.other {w : World} {j B : Nat} {x y : Value} (u v : Value) (h : BoxF w j x y) (hne : j ≠ B) : BoxF ((w.setCell ⟨B, 0, none⟩ u).setCell ⟨B, 1, none⟩ v) j x y := h.grown (grown_cells w B u v) (fun e => hne (by simpa using e))
theorem row_others {w : World} {base B : Nat} {v x y : Value} {zs : List Int} (h : IntRow base w v zs) (hne : ∀ j, v.ownBlock = some j → j ≠ B) : IntRow base ((w.setCell ⟨B, 0, none⟩ x).setCell ⟨B, 1, none⟩ y) v zs := by
  unfold IntRow at h ⊢
  refine h.kept (grown_cells w B x y) ?_
  cases e : v.ownBlock with
  | none => exact .inl rfl
  | some j => exact .inr fun e2 => hne j e (by simpa using e2)

set_option maxRecDepth 100000 in
set_option maxHeartbeats 1000000 in
theorem sameIntsI_yes (a1 a2 : Option Addr) (c1 c2 n : Nat) (zs : List Int) (w : World) (h1 : Ints w a1 n zs) (h2 : Ints w a2 n zs) :
    Calls Try.prog 78 #[.slice a1 n c1, .slice a2 n c2] w fun e w' => e = .returned (.bool true) ∧ Below w.heap.size w w' := by
  have hm := h1.max
  unfold maxLen at hm
  have H1 := Lib.hid h1
  have H2 := Lib.hid h2
  clear h1 h2
  go_enter Try.func78, Try.ntmps78
  go_wp2
  go_loopw [5] (fun i wr => ∃ k : Nat, k ≤ n ∧ i = .int .i64 k ∧ Below w.heap.size w wr) (fun i _ => n - (intOf i).toNat)
  case atStart => exact ⟨0, Nat.zero_le _, rfl, Below.refl _ _⟩
  case round =>
    obtain ⟨k, hk, rfl, hB⟩ := hrel
    by_cases hlt : k < n
    · obtain ⟨z1, rfl, hb1, hc1⟩ := (H1.out.below hB).at_ (by omega)
      obtain ⟨z2, rfl, hb2, hc2⟩ := (H2.out.below hB).at_ (by omega)
      have hkz : k < zs.length := by rw [H1.out.len]; exact hlt
      obtain ⟨z, hz⟩ : ∃ z, zs[k] = z := ⟨_, rfl⟩
      have d1 := hc1 k hkz
      have d2 := hc2 k hkz
      rw [hz] at d1 d2
      clear hz hkz hc1 hc2
      go_wp2
      go_quiet (fail)
      go_wp2
      go_roundw
      case rel => exact ⟨k + 1, by omega, by go_num, below_drewN hB _⟩
      case measure => simp [intOf]; omega
    · go_wp2
      go_ret
      exact ⟨rfl, hB⟩

set_option maxRecDepth 100000 in
set_option maxHeartbeats 1000000 in
theorem samePoly_t {W : World} {a a2 : Option Addr} {n c c2 : Nat} {l : Int} {zs : List Int} (h : PIn W a n c zs) (h2 : PIn W a2 n c2 zs) :
    Calls Try.prog 27 #[plV l (.slice a n c), plV l (.slice a2 n c2)] W fun e w' => e = .returned (.bool true) ∧ Below W.heap.size W w' := by
  obtain ⟨V, hV⟩ : ∃ V, (W.alloc (.cells #[.int .i64 l, .slice a n c] 25)).alloc (.cells #[.int .i64 l, .slice a2 n c2] 25) = V := ⟨_, rfl⟩
  have hbV : Below W.heap.size W V := by rw [← hV]; exact ((Below.refl _ W).alloc (Nat.le_refl _) _).alloc (by simp) _
  have hC := twoCells hV (Below.refl _ _)
  rw [← hV] at hC
  obtain ⟨q0, q1, q2, q3⟩ := hC
  have HS := Lib.hid (sameIntsI_yes a a2 c c2 n zs V (h.is.below hbV) (h2.is.below hbV))
  have HB := Lib.hid hbV
  have HV := Lib.hid hV
  clear hV hbV h h2
  go_enter Try.func27, Try.ntmps27
  go_wp2_with fail
  rw [HV.out]
  refine HS.out.mono ?_
  rintro e w1 ⟨rfl, hb1⟩
  have HB1 := Lib.hid (HB.out.trans (hb1.mono HB.out.size))
  clear hb1 q0 q1 q2 q3
  go_wp2
  go_ret
  exact ⟨rfl, HB1.out⟩

end Go.Proofs.Ytakfobihakbefaa

/- The contracts of the model's reader of drawn inputs: 'l6Open', 'pick', 'of'. -/

namespace Go.Proofs.Ytakfobihakbefaa
open Go.RowKit Go.Shelf

theorem i64_xor (a b : Nat) (ha : a < 2 ^ 63) (hb : b < 2 ^ 63) : bits .xor .i64 (a : Int) (b : Int) = ((a ^^^ b : Nat) : Int) := by
  show IntKind.i64.wrap ((BitVec.ofInt 64 (a : Int) ^^^ BitVec.ofInt 64 (b : Int)).toNat : Int) = _
  rw [BitVec.toNat_xor, ofInt_u64 a (by omega), ofInt_u64 b (by omega)]
  have : a ^^^ b < 2 ^ 63 := Nat.xor_lt_two_pow ha hb
  exact IntWalk.i64_in _ (by omega)

abbrev RdT : TypeId := 114
/-- A slice of bytes, as numbers, in a block below base. -/
structure BsAt (base : Nat) (w : World) (a : Option Addr) (n cap : Nat) (zs : List Int) : Prop where
  len : zs.length = n
  fit : n ≤ cap ∧ cap ≤ maxLen
  at_ : 0 < n → ∃ x, a = some x ∧ x.block < base ∧ ∀ j (h : j < zs.length), w.cell? (x.add j) = some (.int .u8 zs[j])
  byte : ∀ z ∈ zs, 0 ≤ z ∧ z ≤ 255
theorem BsAt.below {base : Nat} {w w' : World} {a : Option Addr} {n cap : Nat} {zs : List Int} (h : BsAt base w a n cap zs) (hb : Below base w w') : BsAt base w' a n cap zs :=
  ⟨h.len, h.fit, fun h0 => by obtain ⟨x, e, hx, hc⟩ := h.at_ h0; exact ⟨x, e, hx, fun j hj => (hb.cell (p := x.add j) (by show (x.add j).block < _; rw [addr_add_block]; exact hx)).trans (hc j hj)⟩, h.byte⟩
theorem bs_of {H : Type} {enc : TypeId × Value → H} {W : World} {base : Nat} {spare : Nat → Bool} {held : Bool} {fuel : Nat} {a : Option Addr} {len cap : Nat} {x : DataW H × List MemPlace}
    (h : DataW.trod enc Try.prog W base spare held fuel 22 [.slice a len cap] = some x) : ∃ zs, BsAt W.heap.size W a len cap zs := by
  rcases Go.ChangeShapes.open_ints Try.underlying22 Try.underlying5 (by kernel_rfl) h with ⟨hcs, _⟩ | ⟨y, l, c, zs, hcs, hb, hl, hm, hz, _, hx, hwf⟩
  · simp at hcs
    obtain ⟨rfl, rfl, rfl⟩ := hcs
    exact ⟨[], rfl, ⟨Nat.le_refl _, Nat.zero_le _⟩, fun h => absurd h (Nat.lt_irrefl _), fun z h => by cases h⟩
  · simp at hcs
    obtain ⟨rfl, rfl, rfl⟩ := hcs
    have hlz : len ≤ zs.length := by rw [hz]; split <;> omega
    refine ⟨zs.take len, by rw [List.length_take]; omega, ⟨hl, hm⟩, fun h0 => ⟨y, rfl, ?_, fun j hj => ?_⟩, fun z hzm => ?_⟩
    · have := World.block_lt_of_cell? _ _ (hx 0 (by omega))
      rwa [addr_add_block] at this
    · rw [List.length_take] at hj
      rw [hx j (by omega), List.getD_eq_getElem?_getD, List.getElem?_eq_getElem (by omega), List.getElem_take]; rfl
    · have h2 := hwf z (List.mem_of_mem_take hzm)
      simp only [Lit.wf, Bool.and_eq_true, decide_eq_true_eq] at h2
      have e1 : IntKind.u8.min = 0 := by decide
      have e2 : IntKind.u8.max = 255 := by decide
      omega
/-- A reader and how far it is. -/
structure Rd (base : Nat) (w : World) (rb : Nat) (a : Option Addr) (n cap : Nat) (zs : List Int) (p : Nat) : Prop where
  lo : base ≤ rb
  box : w.heap[rb]? = some (.cells #[.slice a n cap, .int .i64 p] RdT (0, 0))
  data : BsAt base w a n cap zs
  short : n ≤ 2000
theorem Rd.lt {base : Nat} {w : World} {rb : Nat} {a : Option Addr} {n cap : Nat} {zs : List Int} {p : Nat} (h : Rd base w rb a n cap zs p) : rb < w.heap.size := (Array.getElem?_eq_some_iff.1 h.box).1
theorem Rd.c0 {base : Nat} {w : World} {rb : Nat} {a : Option Addr} {n cap : Nat} {zs : List Int} {p : Nat} (h : Rd base w rb a n cap zs p) : w.cell? ⟨rb, 0, none⟩ = some (.slice a n cap) := by simp [World.cell?, h.box]
theorem Rd.c1 {base : Nat} {w : World} {rb : Nat} {a : Option Addr} {n cap : Nat} {zs : List Int} {p : Nat} (h : Rd base w rb a n cap zs p) : w.cell? ⟨rb, 1, none⟩ = some (.int .i64 p) := by simp [World.cell?, h.box]
theorem Rd.fr {base : Nat} {w : World} {rb : Nat} {a : Option Addr} {n cap : Nat} {zs : List Int} {p : Nat} (h : Rd base w rb a n cap zs p) : w.frozen? ⟨rb, 1, none⟩ = false := by simp [World.frozen?, h.box]
theorem Rd.below {base : Nat} {w w' : World} {rb : Nat} {a : Option Addr} {n cap : Nat} {zs : List Int} {p : Nat} (h : Rd base w rb a n cap zs p) (hb : Below w.heap.size w w') : Rd base w' rb a n cap zs p :=
  ⟨h.lo, (hb.block rb h.lt).trans h.box, h.data.below (hb.mono (Nat.le_of_lt (Nat.lt_of_le_of_lt h.lo h.lt))), h.short⟩
theorem Rd.set {base : Nat} {w : World} {rb : Nat} {a : Option Addr} {n cap : Nat} {zs : List Int} {p : Nat} (h : Rd base w rb a n cap zs p) (q : Nat) : Rd base (w.setCell ⟨rb, 1, none⟩ (.int .i64 q)) rb a n cap zs q := by
  refine ⟨h.lo, ?_, h.data.below ((Below.refl _ w).setCell (p := ⟨rb, 1, none⟩) h.lo _), h.short⟩
  obtain ⟨hlt, hk⟩ := Array.getElem?_eq_some_iff.1 h.box
  show (w.heap.modify rb _)[rb]? = _
  rw [Array.getElem?_eq_getElem (by rw [Array.size_modify]; exact hlt), Array.getElem_modify_self, hk]
  rfl

theorem grown_set (w : World) (a : Addr) (v : Value) : w.grownBy (w.setCell a v) (some a.block) :=
  ⟨rfl, rfl, rfl, by show _ ≤ (w.heap.modify a.block _).size; rw [Array.size_modify]; exact Nat.le_refl _, fun k hk hne => by
    show (w.heap.modify a.block _)[k]? = _
    rw [Array.getElem?_modify, if_neg (fun e => hne (by rw [e]))]⟩

set_option maxRecDepth 100000 in
set_option maxHeartbeats 4000000 in
theorem pick_any (base rb : Nat) (a : Option Addr) (n cap : Nat) (zs : List Int) (p m : Nat) (w : World) (h : Rd base w rb a n cap zs p) (hp : p ≤ 100000) (hm : 1 ≤ m) (hm2 : m ≤ 1000) :
    Calls Try.prog 80 #[.pointer (some ⟨rb, 0, none⟩), .int .i64 m] w fun e w' => (∃ z : Nat, e = .returned (.int .i64 z) ∧ z < m) ∧ Rd base w' rb a n cap zs (p + 1) ∧ Below base w w' ∧ w.grownBy w' (some rb) := by
  have hlt := h.lt
  have hc0 := h.c0
  have hc1 := h.c1
  have hfr := h.fr
  have hsh := h.short
  have hw1 : IntKind.i64.wrap ((p : Int) + 1) = (p : Int) + 1 := IntWalk.i64_in _ (by omega)
  have ep : ((p + 1 : Nat) : Int) = (p : Int) + 1 := by push_cast; rfl
  have hR := h.set (p + 1)
  rw [ep] at hR
  have hB : Below base w (w.setCell ⟨rb, 1, none⟩ (.int .i64 ((p : Int) + 1))) := (Below.refl _ w).setCell (p := ⟨rb, 1, none⟩) h.lo _
  have hG := grown_set w ⟨rb, 1, none⟩ (.int .i64 ((p : Int) + 1))
  obtain ⟨V, hV⟩ : ∃ V, w.setCell ⟨rb, 1, none⟩ (.int .i64 ((p : Int) + 1)) = V := ⟨_, rfl⟩
  have HV := Lib.hid hV
  rw [hV] at hR hB hG
  have HG := Lib.hid hG
  have hd0 := hR.c0
  have hd1 := hR.c1
  rw [ep] at hd1
  have hml : decide ((m : Int) < 1) = false := decide_eq_false (by omega)
  have hml2 : ¬ (m : Int) < 1 := by omega
  have HR := Lib.hid hR
  have HB := Lib.hid hB
  have hmz : ¬ (m : Int) = 0 := by omega
  have HD := Lib.hid hR.data
  have hw2 : IntKind.i64.wrap ((p : Int) + 1 - 1) = (p : Int) := by rw [IntWalk.i64_in _ (by omega)]; omega
  have hrem : ∀ z : Int, 0 ≤ z → ∃ r : Nat, z.tmod (m : Int) = (r : Int) ∧ r < m := fun z hz => ⟨z.toNat % m, by
    rw [Int.tmod_eq_emod_of_nonneg hz, Int.natCast_emod, Int.toNat_of_nonneg hz], Nat.mod_lt _ (by omega)⟩
  have HREM := Lib.hid hrem
  clear h hR hB hV hrem hG
  by_cases hn : n = 0
  · subst hn
    go_enter Try.func80, Try.ntmps80
    go_wp2
    go_ret
    rw [HV.out]
    exact ⟨⟨0, rfl, by omega⟩, HR.out, HB.out, HG.out⟩
  · have hn0 : ¬ (n : Int) = 0 := by omega
    have hne : ((n : Int) == 0) = false := by simpa using hn0
    obtain ⟨x, rfl, hxb, hcx⟩ := HD.out.at_ (by omega)
    have hzl := HD.out.len
    by_cases hpn : p < n
    · have hpz : p < zs.length := by omega
      obtain ⟨z, hz⟩ : ∃ z, zs[p] = z := ⟨_, rfl⟩
      have hcp := hcx p hpz
      rw [hz, ← HV.out] at hcp
      have hzb := HD.out.byte z (by rw [← hz]; exact List.getElem_mem hpz)
      obtain ⟨r, hr, hrm⟩ := HREM.out z hzb.1
      have hwz : IntKind.i64.wrap z = z := IntWalk.i64_in _ (by omega)
      have hwr : IntKind.i64.wrap (r : Int) = (r : Int) := IntWalk.i64_in _ (by omega)
      have hpi : (p : Int) < (n : Int) := by omega
      go_enter Try.func80, Try.ntmps80
      go_wp2_with fail
      go_ret
      rw [HV.out]
      exact ⟨⟨r, rfl, hrm⟩, HR.out, HB.out, HG.out⟩
    · have hpi : ¬ (p : Int) < (n : Int) := by omega
      have hn1 : 0 < n := by omega
      obtain ⟨k1, hk1⟩ : ∃ k, p % n = k := ⟨_, rfl⟩
      obtain ⟨k2, hk2⟩ : ∃ k, (p * 7 + 3) % n = k := ⟨_, rfl⟩
      obtain ⟨d, hd⟩ : ∃ d, p / n = d := ⟨_, rfl⟩
      have hk1n : k1 < n := by rw [← hk1]; exact Nat.mod_lt _ hn1
      have hk2n : k2 < n := by rw [← hk2]; exact Nat.mod_lt _ hn1
      have hdp : d ≤ p := by rw [← hd]; exact Nat.div_le_self _ _
      have ht1 : (p : Int).tmod (n : Int) = (k1 : Int) := by rw [Int.tmod_eq_emod_of_nonneg (by omega), ← hk1]; rfl
      have ht2 : ((p : Int) * 7 + 3).tmod (n : Int) = (k2 : Int) := by rw [Int.tmod_eq_emod_of_nonneg (by omega), ← hk2]; push_cast; rfl
      have ht3 : (p : Int).tdiv (n : Int) = (d : Int) := by rw [Int.tdiv_eq_ediv_of_nonneg (by omega), ← hd]; rfl
      have hz1 : k1 < zs.length := by omega
      have hz2 : k2 < zs.length := by omega
      obtain ⟨q1, hq1⟩ : ∃ z, zs[k1] = z := ⟨_, rfl⟩
      obtain ⟨q2, hq2⟩ : ∃ z, zs[k2] = z := ⟨_, rfl⟩
      have hcp1 := hcx k1 hz1
      have hcp2 := hcx k2 hz2
      rw [hq1, ← HV.out] at hcp1
      rw [hq2, ← HV.out] at hcp2
      have hb1 := HD.out.byte q1 (by rw [← hq1]; exact List.getElem_mem hz1)
      have hb2 := HD.out.byte q2 (by rw [← hq2]; exact List.getElem_mem hz2)
      have hk1i : (k1 : Int) < (n : Int) := by omega
      have hk2i : (k2 : Int) < (n : Int) := by omega
      have a1 : IntKind.i64.wrap (k1 : Int) = (k1 : Int) := IntWalk.i64_in _ (by omega)
      have a2 : IntKind.i64.wrap (k2 : Int) = (k2 : Int) := IntWalk.i64_in _ (by omega)
      have a3 : IntKind.i64.wrap (d : Int) = (d : Int) := IntWalk.i64_in _ (by omega)
      have a4 : IntKind.i64.wrap q1 = q1 := IntWalk.i64_in _ (by omega)
      have a5 : IntKind.i64.wrap q2 = q2 := IntWalk.i64_in _ (by omega)
      have a6 : IntKind.i64.wrap (q1 * 131) = q1 * 131 := IntWalk.i64_in _ (by omega)
      have a7 : IntKind.i64.wrap (q2 * 1117) = q2 * 1117 := IntWalk.i64_in _ (by omega)
      have a8 : IntKind.i64.wrap ((p : Int) * 7) = (p : Int) * 7 := IntWalk.i64_in _ (by omega)
      have a9 : IntKind.i64.wrap ((p : Int) * 7 + 3) = (p : Int) * 7 + 3 := IntWalk.i64_in _ (by omega)
      have b1 : IntKind.i64.wrap (q1 * 131 + q2 * 1117) = q1 * 131 + q2 * 1117 := IntWalk.i64_in _ (by omega)
      have b2 : IntKind.i64.wrap ((p : Int) * 29) = (p : Int) * 29 := IntWalk.i64_in _ (by omega)
      have b3 : IntKind.i64.wrap (q1 * 131 + q2 * 1117 + (p : Int) * 29) = q1 * 131 + q2 * 1117 + (p : Int) * 29 := IntWalk.i64_in _ (by omega)
      have b4 : IntKind.i64.wrap ((d : Int) * 53) = (d : Int) * 53 := IntWalk.i64_in _ (by omega)
      obtain ⟨X, hX⟩ : ∃ X : Nat, q1 * 131 + q2 * 1117 + (p : Int) * 29 + (d : Int) * 53 = (X : Int) := ⟨(q1 * 131 + q2 * 1117 + (p : Int) * 29 + (d : Int) * 53).toNat, by omega⟩
      have hXb : X ≤ 10000000 := by omega
      have b5 : IntKind.i64.wrap (X : Int) = (X : Int) := IntWalk.i64_in _ (by omega)
      have ht4 : (X : Int).tdiv 64 = ((X / 64 : Nat) : Int) := by rw [Int.tdiv_eq_ediv_of_nonneg (by omega)]; rfl
      have hY : X / 64 ≤ X := Nat.div_le_self _ _
      obtain ⟨Y, hYe⟩ : ∃ Y, X / 64 = Y := ⟨_, rfl⟩
      rw [hYe] at ht4 hY
      have b6 : IntKind.i64.wrap (Y : Int) = (Y : Int) := IntWalk.i64_in _ (by omega)
      have hxor := i64_xor X Y (by omega) (by omega)
      obtain ⟨Z, hZ⟩ : ∃ Z, X ^^^ Y = Z := ⟨_, rfl⟩
      rw [hZ] at hxor
      obtain ⟨r, hr, hrm⟩ := HREM.out (Z : Int) (by omega)
      have b7 : IntKind.i64.wrap (r : Int) = (r : Int) := IntWalk.i64_in _ (by omega)
      have HRM := Lib.hid hrm
      clear hk1 hk2 hd hq1 hq2 hb1 hb2 hdp hXb hY hYe hZ hcx hrm hzl hz1 hz2
      go_enter Try.func80, Try.ntmps80
      go_wp2
      go_quiet (fail)
      go_wp2
      go_ret
      rw [HV.out]
      exact ⟨⟨r, rfl, HRM.out⟩, ⟨HR.out.lo, HR.out.box, ⟨HR.out.data.len, HR.out.data.fit, HR.out.data.at_, HR.out.data.byte⟩, HR.out.short⟩, ⟨HB.out.os, HB.out.tape, HB.out.output, HB.out.size, HB.out.block⟩, ⟨HG.out.os, HG.out.tape, HG.out.output, HG.out.size, HG.out.block⟩⟩

set_option maxHeartbeats 1000000 in
theorem open_any (a : Option Addr) (n cap : Nat) (zs : List Int) (w : World) (h : BsAt w.heap.size w a n cap zs) :
    Calls Try.prog 69 #[.slice a n cap] w fun e w' => ∃ n' zs', e = .returned (.pointer (some ⟨w.heap.size, 0, none⟩)) ∧ Rd w.heap.size w' w.heap.size a n' cap zs' 0 ∧ Below w.heap.size w w' := by
  have hf := h.fit
  have hl := h.len
  unfold maxLen at hf
  have hB : ∀ m : Nat, Below w.heap.size w (w.alloc (.cells #[.slice a m cap, .int .i64 0] RdT)) := fun m => (Below.refl _ w).alloc (Nat.le_refl _) _
  have hRd : ∀ (m : Nat) (ys : List Int), m ≤ 2000 → BsAt w.heap.size w a m cap ys → Rd w.heap.size (w.alloc (.cells #[.slice a m cap, .int .i64 0] RdT)) w.heap.size a m cap ys 0 := fun m ys hm hd => ⟨Nat.le_refl _, World.alloc_heap_new w _, hd.below (hB m), hm⟩
  have HRD := Lib.hid hRd
  have HBD := Lib.hid hB
  have H := Lib.hid h
  clear h hRd hB
  by_cases hn : n ≤ 2000
  · have hd : decide ((2000 : Int) < (n : Int)) = false := decide_eq_false (by omega)
    go_enter Try.func69, Try.ntmps69
    go_wp2
    go_ret
    exact ⟨n, zs, rfl, HRD.out n zs hn H.out, HBD.out n⟩
  · have hd : decide ((2000 : Int) < (n : Int)) = true := decide_eq_true (by omega)
    obtain ⟨x, rfl, hxb, hc⟩ := H.out.at_ (by omega)
    have hcap : (2000 : Int) ≤ (cap : Int) := by omega
    have hcap2 : 2000 ≤ cap := by omega
    have H2 : Hid (BsAt w.heap.size w (some x) 2000 cap (zs.take 2000)) := Lib.hid ⟨by rw [List.length_take]; omega, ⟨hcap2, H.out.fit.2⟩, fun _ => ⟨x, rfl, hxb, fun j hj => by rw [List.getElem_take]; exact hc j (by rw [List.length_take] at hj; omega)⟩, fun z hz => H.out.byte z (List.mem_of_mem_take hz)⟩
    clear hc
    go_enter Try.func69, Try.ntmps69
    go_wp2
    go_ret
    exact ⟨2000, zs.take 2000, rfl, HRD.out 2000 _ (Nat.le_refl _) H2.out, HBD.out 2000⟩

end Go.Proofs.Ytakfobihakbefaa

/- The contracts of the model's 'of', 'l91Mono' and 'DrawSeriesShuffle'. -/

namespace Go.Proofs.Ytakfobihakbefaa
open Go.RowKit Go.Shelf

def abL : List ByteArray := [{ data := #[97] }, { data := #[98] }]
theorem abL_size : ∀ s ∈ abL, s.size = 1 := by decide

end Go.Proofs.Ytakfobihakbefaa

/- The contracts of the model's sums of letters. -/

namespace Go.Proofs.Ytakfobihakbefaa
open Go.RowKit

end Go.Proofs.Ytakfobihakbefaa

/- The contracts of the model's 'l3Fox' and 'FoxOf'. -/

namespace Go.Proofs.Ytakfobihakbefaa
open Go.RowKit Go.Shelf

theorem extract_take (s : ByteArray) (k : Nat) : s.extract 0 k = bstr (s.data.toList.take k) := by
  apply bytes_ext
  rw [Lib.extract_data, bstr_toList]; simp

end Go.Proofs.Ytakfobihakbefaa

/- The contracts of the model's products and commutators of words. -/

namespace Go.Proofs.Ytakfobihakbefaa
open Go.RowKit

/-- What is told of letters. -/
def toldV (l : List UInt8) : Value := if l.length ≤ 60 then .tuple #[.string (bstr l), .bool true] else .tuple #[.string ByteArray.empty, .bool false]
theorem toldV_yes {l : List UInt8} (h : l.length ≤ 60) : toldV l = .tuple #[.string (bstr l), .bool true] := if_pos h
theorem toldV_no {l : List UInt8} (h : ¬ l.length ≤ 60) : toldV l = .tuple #[.string ByteArray.empty, .bool false] := if_neg h

theorem append_toList (a b : ByteArray) : (a ++ b).data.toList = a.data.toList ++ b.data.toList := by simp
theorem append_size (a b : ByteArray) : (a ++ b).size = a.size + b.size := by simp

/-- The letters of a commutator. -/
def commL (a b : List UInt8) : List UInt8 := a ++ b ++ backL a ++ backL b

end Go.Proofs.Ytakfobihakbefaa

/- The contracts of the model's 'l1Four', 'l1Put' and 'WordPut'. -/

namespace Go.Proofs.Ytakfobihakbefaa
open Go.RowKit

def wordsB (zs : List ByteArray) : Bool := zs.all fun s => wordB s.data.toList
/-- Are these four words? -/
def fourB (zs : List ByteArray) : Bool := wordsB zs && decide (zs.length = 4)

theorem wordsB_false (zs : List ByteArray) (k : Nat) (hk : k < zs.length) (h : wordB zs[k].data.toList = false) : wordsB zs = false :=
  List.all_eq_false.2 ⟨_, List.getElem_mem hk, by simp [h]⟩
theorem wordsB_of (zs : List ByteArray) (h : ∀ j (hj : j < zs.length), wordB zs[j].data.toList = true) : wordsB zs = true :=
  List.all_eq_true.2 fun s hs => by
    obtain ⟨j, hj, rfl⟩ := List.mem_iff_getElem.1 hs
    exact h j hj

/-- The image of a letter, and of a row of letters. -/
def imgL (zs : List ByteArray) (c : UInt8) : List UInt8 := if c.toNat < 97 then backL (zs.getD (idxB c) ByteArray.empty).data.toList else (zs.getD (idxB c) ByteArray.empty).data.toList
def putL (zs : List ByteArray) (l : List UInt8) : List UInt8 := (l.map (imgL zs)).flatten
theorem putL_snoc (zs : List ByteArray) (l : List UInt8) (c : UInt8) : putL zs (l ++ [c]) = putL zs l ++ imgL zs c := by simp [putL]
theorem imgL_len (zs : List ByteArray) (c : UInt8) (h : ∀ z ∈ zs, z.size ≤ 60) (hc : idxB c < zs.length) : (imgL zs c).length ≤ 60 := by
  have h1 : (zs.getD (idxB c) ByteArray.empty) ∈ zs := by
    rw [List.getD_eq_getElem?_getD, List.getElem?_eq_getElem hc]; exact List.getElem_mem hc
  have h2 := h _ h1
  unfold imgL
  split
  · rw [backL_length]; simpa using h2
  · simpa using h2

theorem fourB_iff (zs : List ByteArray) : fourB zs = true ↔ zs.length = 4 ∧ ∀ z ∈ zs, wordB z.data.toList = true := by
  unfold fourB wordsB
  rw [Bool.and_eq_true, List.all_eq_true, decide_eq_true_iff, and_comm]

end Go.Proofs.Ytakfobihakbefaa

/- The contracts of the model's 'SumTurned' and 'SumPut'. -/

namespace Go.Proofs.Ytakfobihakbefaa
open Go.RowKit Go.Shelf

/-- A term whose word is changed. -/
def mapT (f : List UInt8 → List UInt8) (t : Tm) : Tm := ⟨t.c, bstr (f t.s.data.toList)⟩
def fitB (ts : List Tm) : Bool := ts.all fun t => decide (t.s.size ≤ 60)
theorem fitB_at {ts : List Tm} {k : Nat} (hk : k < ts.length) (h : ¬ ts[k].s.size ≤ 60) : fitB ts = false :=
  List.all_eq_false.2 ⟨_, List.getElem_mem hk, by simpa using h⟩
theorem fitB_of {ts : List Tm} (h : ∀ j (hj : j < ts.length), ts[j].s.size ≤ 60) : fitB ts = true :=
  List.all_eq_true.2 fun t ht => by
    obtain ⟨j, hj, rfl⟩ := List.getElem_of_mem ht
    simpa using h j hj
theorem termB_word {t : Tm} (h : termB t = true) : wordB t.s.data.toList = true := by unfold termB at h; simp only [Bool.and_eq_true] at h; exact h.1

def putF (zs : List ByteArray) (l : List UInt8) : List UInt8 := redL [] (putL zs l)

end Go.Proofs.Ytakfobihakbefaa

/- The contracts of the model's 'l2Times' and 'SumTimes'. -/

namespace Go.Proofs.Ytakfobihakbefaa
open Go.RowKit Go.Shelf

/-- The product of two terms, and those of all pairs. -/
def pairT (t u : Tm) : Tm := ⟨t.c * u.c, bstr (redL [] (t.s.data.toList ++ u.s.data.toList))⟩
def pairsT (x y : List Tm) : List Tm := x.flatMap fun t => y.map (pairT t)
theorem pairs_succ (x y : List Tm) (k : Nat) (h : k < x.length) : pairsT (x.take (k + 1)) y = pairsT (x.take k) y ++ y.map (pairT x[k]) := by
  unfold pairsT
  rw [List.take_succ_eq_append_getElem h, List.flatMap_append]
  simp
theorem pairs_zero (y : List Tm) : pairsT [] y = [] := rfl
theorem pairs_len (x y : List Tm) : (pairsT x y).length = x.length * y.length := by
  unfold pairsT
  induction x with
  | nil => simp
  | cons t r ih => rw [List.flatMap_cons, List.length_append, ih, List.length_map, List.length_cons, Nat.succ_mul]; omega
theorem map_succ (f : Tm → Tm) (y : List Tm) (j : Nat) (h : j < y.length) : (y.take (j + 1)).map f = (y.take j).map f ++ [f y[j]] := by
  rw [List.take_succ_eq_append_getElem h, List.map_append]; rfl
theorem mul_bnd {a b : Int} (ha : -1000000 ≤ a ∧ a ≤ 1000000) (hb : -1000000 ≤ b ∧ b ≤ 1000000) : -1000000000000 ≤ a * b ∧ a * b ≤ 1000000000000 := by
  have h : (a * b).natAbs ≤ 1000000 * 1000000 := by
    rw [Int.natAbs_mul]
    exact Nat.mul_le_mul (by omega) (by omega)
  omega

def TimesNo (w : World) (e : Ending) (w' : World) : Prop := ∃ g n cap, e = .returned (.tuple #[.slice (some ⟨g, 0, none⟩) n cap, .bool false]) ∧ Below w.heap.size w w'
end Go.Proofs.Ytakfobihakbefaa

/- The contract of the model's 'FoxSum'. -/

namespace Go.Proofs.Ytakfobihakbefaa
open Go.RowKit Go.Shelf

theorem mul_bnd60 {a b : Int} (ha : -1000000 ≤ a ∧ a ≤ 1000000) (hb : -60 ≤ b ∧ b ≤ 60) : -60000000 ≤ a * b ∧ a * b ≤ 60000000 := by
  have h : (a * b).natAbs ≤ 1000000 * 60 := by
    rw [Int.natAbs_mul]
    exact Nat.mul_le_mul (by omega) (by omega)
  omega
theorem scale_succ (c : Int) (ds acc : List Tm) (j : Nat) (h : j < ds.length) : (scaleT c (ds.take (j + 1))).foldl addT acc = addT ((scaleT c (ds.take j)).foldl addT acc) ⟨c * ds[j].c, ds[j].s⟩ := by
  unfold scaleT
  rw [List.take_succ_eq_append_getElem h, List.map_append, List.foldl_append]; rfl

/-- What FoxSum answers. -/
def foxSumB (x : List Tm) (g : Int) : Bool := sumB x && (inR 0 3 g && twB (canonT (foxI g x)))

theorem foxSumB_tw {x : List Tm} {g : Int} {b : Bool} (h : foxSumB x g = b) : b = true → twB (canonT (foxI g x)) = true := by
  intro hb
  subst hb
  unfold foxSumB at h
  simp only [Bool.and_eq_true] at h
  exact h.2.2
end Go.Proofs.Ytakfobihakbefaa

/- The contracts of the model's 'l4Times', 'l4Done' and 'SeriesTimes'. -/

namespace Go.Proofs.Ytakfobihakbefaa
open Go.RowKit Go.Shelf

/-- The product of two terms whose words are put one behind the other; those of all pairs that are not too long. -/
def pairS (t u : Tm) : Tm := ⟨t.c * u.c, t.s ++ u.s⟩
def short (t : Tm) : Bool := decide (t.s.size ≤ 4)
def pairsS (x y : List Tm) : List Tm := x.flatMap fun t => (y.map (pairS t)).filter short
theorem pairsS_succ (x y : List Tm) (k : Nat) (h : k < x.length) : pairsS (x.take (k + 1)) y = pairsS (x.take k) y ++ (y.map (pairS x[k])).filter short := by
  unfold pairsS
  rw [List.take_succ_eq_append_getElem h, List.flatMap_append]
  simp
def rowS (t : Tm) (y : List Tm) : List Tm := (y.map (pairS t)).filter short
theorem rowS_succ (t : Tm) (y : List Tm) (j : Nat) (h : j < y.length) : rowS t (y.take (j + 1)) = rowS t (y.take j) ++ (if (t.s ++ y[j].s).size ≤ 4 then [pairS t y[j]] else []) := by
  unfold rowS
  rw [map_succ (pairS t) y j h, List.filter_append, List.filter_cons, List.filter_nil]
  congr 1
  by_cases hs : (t.s ++ y[j].s).size ≤ 4
  · rw [if_pos (show short (pairS t y[j]) = true from decide_eq_true hs), if_pos hs]
  · rw [if_neg (show ¬ short (pairS t y[j]) = true by unfold short pairS; simpa using hs), if_neg hs]

/-- What fits into the products of series. -/
def SerL (x : List Tm) : Prop := x.length ≤ 400 ∧ ∀ t ∈ x, t.s.size ≤ 4 ∧ -1000000 ≤ t.c ∧ t.c ≤ 1000000

theorem serB_is (ts : List Tm) : serB ts = ((List.range ts.length).all (serAt ts) && decide (ts.length ≤ 400)) := rfl
theorem serB_parts {ts : List Tm} (h : serB ts = true) : ts.length ≤ 400 ∧ (∀ t ∈ ts, t.c ≠ 0 ∧ (-1000000 ≤ t.c ∧ t.c ≤ 1000000) ∧ monoB t.s = true) ∧ Canon ts := by
  rw [serB_is] at h
  simp only [Bool.and_eq_true, decide_eq_true_eq] at h
  obtain ⟨h1, h2⟩ := h
  have hat : ∀ j (hj : j < ts.length), ts[j].c ≠ 0 ∧ (-1000000 ≤ ts[j].c ∧ ts[j].c ≤ 1000000) ∧ monoB ts[j].s = true ∧ (j = 0 ∨ lessW (ts.getD (j - 1) default).s (ts.getD j default).s = true) := fun j hj => by
    have h3 := List.all_eq_true.1 h1 j (List.mem_range.2 hj)
    have hg : ts.getD j default = ts[j] := by rw [List.getD_eq_getElem?_getD, List.getElem?_eq_getElem hj]; rfl
    unfold serAt inR at h3
    simp only [Bool.and_eq_true, bne_iff_ne, ne_eq, Bool.or_eq_true, decide_eq_true_eq] at h3
    rw [hg] at h3 ⊢
    exact ⟨h3.1.1.1, h3.1.1.2, h3.1.2, h3.2⟩
  refine ⟨h2, fun t ht => ?_, pairwise_lessW fun k hk hk0 => ?_, fun t ht => ?_⟩
  · obtain ⟨j, hj, rfl⟩ := List.getElem_of_mem ht
    exact ⟨(hat j hj).1, (hat j hj).2.1, (hat j hj).2.2.1⟩
  · rcases (hat k hk).2.2.2 with h | h
    · omega
    · exact h
  · obtain ⟨j, hj, rfl⟩ := List.getElem_of_mem ht
    exact (hat j hj).1
theorem mono_size {s : ByteArray} (h : monoB s = true) : s.size ≤ 4 := by
  unfold monoB at h
  simp only [Bool.and_eq_true, decide_eq_true_eq] at h
  exact h.2
theorem serL_of {ts : List Tm} (h : serB ts = true) : SerL ts := by
  obtain ⟨h1, h2, _⟩ := serB_parts h
  exact ⟨h1, fun t ht => ⟨mono_size (h2 t ht).2.2, (h2 t ht).2.1⟩⟩
/-- For canonical lists only the terms have to be looked at. -/
def twS (ts : List Tm) : Bool := decide (ts.length ≤ 400) && ts.all fun t => inR (-1000000) 1000000 t.c && monoB t.s
theorem serB_canon {ts : List Tm} (h : Canon ts) : serB ts = twS ts := by
  rw [serB_is, Bool.and_comm]
  unfold twS
  congr 1
  have hg : ∀ j (h : j < ts.length), ts.getD j default = ts[j] := fun j h => by rw [List.getD_eq_getElem?_getD, List.getElem?_eq_getElem h]; rfl
  rw [Bool.eq_iff_iff]
  simp only [List.all_eq_true, List.mem_range]
  constructor
  · intro h1 t ht
    obtain ⟨j, hj, rfl⟩ := List.getElem_of_mem ht
    have h3 := h1 j hj
    unfold serAt at h3
    rw [hg j hj] at h3
    simp only [Bool.and_eq_true] at h3 ⊢
    exact ⟨h3.1.1.2, h3.1.2⟩
  · intro h1 j hj
    have h3 := h1 _ (List.getElem_mem hj)
    simp only [Bool.and_eq_true] at h3
    unfold serAt
    rw [hg j hj, h3.1, h3.2]
    have h4 : (ts[j].c != 0) = true := by simpa using h.2 _ (List.getElem_mem hj)
    rw [h4]
    by_cases hj0 : j = 0
    · simp [hj0]
    · have h5 := List.pairwise_iff_getElem.1 h.1 (j - 1) j (by omega) hj (by omega)
      rw [hg (j - 1) (by omega), h5]
      simp
theorem twS_parts {ts : List Tm} (h : twS ts = true) : ts.length ≤ 400 ∧ ∀ t ∈ ts, (-1000000 ≤ t.c ∧ t.c ≤ 1000000) ∧ monoB t.s = true := by
  unfold twS inR at h
  simp only [Bool.and_eq_true, decide_eq_true_eq, List.all_eq_true] at h
  exact h
theorem told_smallS {b : Bool} {L us : List Tm} (h : b = true → twS L = true) (hus : cond b L [] = us) : SmallT us ∧ us.length ≤ 400 := by
  cases b with
  | false => subst hus; exact ⟨⟨Nat.zero_le _, fun t h => by cases h⟩, Nat.zero_le _⟩
  | true =>
    have hus : L = us := hus
    subst hus
    obtain ⟨h1, h2⟩ := twS_parts (h rfl)
    exact ⟨⟨by unfold maxLen; omega, fun t ht => by have := h2 t ht; have := mono_size this.2; unfold maxLen; omega⟩, h1⟩
/-- What SeriesTimes answers. -/
def serProdB (x y : List Tm) : Bool := serB x && (serB y && twS (canonT (pairsS x y)))
theorem serProdB_tw {x y : List Tm} {b : Bool} (h : serProdB x y = b) : b = true → twS (canonT (pairsS x y)) = true := by
  intro hb
  subst hb
  unfold serProdB at h
  simp only [Bool.and_eq_true] at h
  exact h.2.2

end Go.Proofs.Ytakfobihakbefaa

/- How great the coefficients of the series of a word get, and how many terms it has. -/

namespace Go.Proofs.Ytakfobihakbefaa
open Go.RowKit

/-- The sum of the sizes of the coefficients of degree d; of those up to degree d. -/
def nrm (d : Nat) : List Tm → Nat
  | [] => 0
  | t :: r => (if t.s.size = d then t.c.natAbs else 0) + nrm d r
def cum (d : Nat) : List Tm → Nat
  | [] => 0
  | t :: r => (if t.s.size ≤ d then t.c.natAbs else 0) + cum d r
theorem nrm_append (d : Nat) (a b : List Tm) : nrm d (a ++ b) = nrm d a + nrm d b := by
  induction a with
  | nil => simp [nrm]
  | cons t r ih => rw [List.cons_append, nrm, nrm, ih]; omega
theorem nrm_nz (d : Nat) (t : Tm) : nrm d (nz t) = if t.s.size = d then t.c.natAbs else 0 := by
  unfold nz
  by_cases h : t.c = 0
  · rw [if_pos h, h]; simp [nrm]
  · rw [if_neg h]; simp [nrm]
theorem nrm_add (d : Nat) (t : Tm) : ∀ ts, nrm d (addT ts t) ≤ nrm d ts + if t.s.size = d then t.c.natAbs else 0
  | [] => by rw [addT, nrm_nz, nrm]; omega
  | x :: r => by
    rw [addT]
    by_cases h : lessW x.s t.s = true
    · rw [if_pos h, nrm, nrm]
      have := nrm_add d t r
      omega
    · rw [if_neg h]
      by_cases h2 : x.s = t.s
      · rw [if_pos h2, nrm_append, nrm_nz, nrm, h2]
        by_cases h3 : t.s.size = d
        · simp only [h3, if_true]; omega
        · simp only [h3, if_false]; omega
      · rw [if_neg h2, nrm_append, nrm_nz]; omega
theorem nrm_fold (d : Nat) : ∀ (ts acc : List Tm), nrm d (ts.foldl addT acc) ≤ nrm d acc + nrm d ts
  | [], acc => by simp [nrm]
  | t :: r, acc => by
    have h1 := nrm_fold d r (addT acc t)
    have h2 := nrm_add d t acc
    rw [List.foldl_cons, nrm]
    omega
theorem nrm_canon (d : Nat) (ts : List Tm) : nrm d (canonT ts) ≤ nrm d ts := by
  have h := nrm_fold d ts []
  rw [show nrm d [] = 0 from rfl, Nat.zero_add] at h
  exact h
theorem cum_zero : ∀ ts, cum 0 ts = nrm 0 ts
  | [] => rfl
  | t :: r => by rw [cum, nrm, cum_zero r]; simp only [Nat.le_zero_eq]
theorem cum_succ (d : Nat) : ∀ ts, cum (d + 1) ts = cum d ts + nrm (d + 1) ts
  | [] => rfl
  | t :: r => by
    rw [cum, cum, nrm, cum_succ d r]
    by_cases h : t.s.size ≤ d
    · rw [if_pos (by omega), if_pos h, if_neg (by omega)]; omega
    · by_cases h2 : t.s.size = d + 1
      · rw [if_pos (by omega), if_neg h, if_pos h2]; omega
      · rw [if_neg (by omega), if_neg h, if_neg h2]; omega
theorem cum_le (d : Nat) : ∀ {ts : List Tm} {t : Tm}, t ∈ ts → t.s.size ≤ d → t.c.natAbs ≤ cum d ts
  | u :: r, t, h, hd => by
    rw [cum]
    rcases List.mem_cons.1 h with rfl | h
    · rw [if_pos hd]; omega
    · have := cum_le d h hd; omega
theorem nrm_row (d : Nat) (t : Tm) {y : List Tm} (hy : ∀ e, nrm e y ≤ 1) : nrm d (rowS t y) ≤ if t.s.size ≤ d then t.c.natAbs else 0 := by
  have key : ∀ z : List Tm, nrm d (rowS t z) ≤ if t.s.size ≤ d then t.c.natAbs * nrm (d - t.s.size) z else 0 := by
    intro z
    induction z with
    | nil => simp [rowS, nrm]
    | cons u r ih =>
      have e : rowS t (u :: r) = (if short (pairS t u) = true then [pairS t u] else []) ++ rowS t r := by
        unfold rowS
        rw [List.map_cons, List.filter_cons]
        split <;> simp
      have h1 : nrm d (if short (pairS t u) = true then [pairS t u] else []) ≤ if t.s.size + u.s.size = d then t.c.natAbs * u.c.natAbs else 0 := by
        have hs : (pairS t u).s.size = t.s.size + u.s.size := by unfold pairS; exact ByteArray.size_append
        split
        · rw [nrm, nrm, hs]
          split
          · unfold pairS; rw [Int.natAbs_mul]; omega
          · omega
        · simp [nrm]
      rw [e, nrm_append, nrm]
      by_cases h : t.s.size ≤ d
      · rw [if_pos h] at ih ⊢
        rw [Nat.mul_add]
        have h2 : (if t.s.size + u.s.size = d then t.c.natAbs * u.c.natAbs else 0) ≤ t.c.natAbs * (if u.s.size = d - t.s.size then u.c.natAbs else 0) := by
          by_cases h3 : t.s.size + u.s.size = d
          · rw [if_pos h3, if_pos (by omega)]; exact Nat.le_refl _
          · rw [if_neg h3]; exact Nat.zero_le _
        omega
      · rw [if_neg h] at ih ⊢
        have h3 : ¬ t.s.size + u.s.size = d := by omega
        rw [if_neg h3] at h1
        omega
  have h := key y
  by_cases hd : t.s.size ≤ d
  · rw [if_pos hd] at h ⊢
    have := Nat.mul_le_mul_left t.c.natAbs (hy (d - t.s.size))
    omega
  · rw [if_neg hd] at h ⊢; exact h
theorem nrm_pairs (d : Nat) {y : List Tm} (hy : ∀ e, nrm e y ≤ 1) : ∀ x, nrm d (pairsS x y) ≤ cum d x
  | [] => by simp [pairsS, nrm]
  | t :: r => by
    have h1 := nrm_pairs d hy r
    have h2 := nrm_row d t hy
    have e : pairsS (t :: r) y = rowS t y ++ pairsS r y := by unfold pairsS rowS; rw [List.flatMap_cons]
    rw [e, nrm_append, cum]
    omega

/-- How many ways there are to choose: of degree 0 to 4. -/
def stepW (p : Nat × Nat × Nat × Nat × Nat) : Nat × Nat × Nat × Nat × Nat := (p.1, p.1 + p.2.1, p.1 + p.2.1 + p.2.2.1, p.1 + p.2.1 + p.2.2.1 + p.2.2.2.1, p.1 + p.2.1 + p.2.2.1 + p.2.2.2.1 + p.2.2.2.2)
def waysT : Nat → Nat × Nat × Nat × Nat × Nat
  | 0 => (1, 1, 1, 1, 1)
  | k + 1 => stepW (waysT k)
theorem ways_le {k n : Nat} (h : k ≤ n) : (waysT k).2.2.2.2 ≤ (waysT n).2.2.2.2 := by
  induction h with
  | refl => exact Nat.le_refl _
  | step _ ih => exact Nat.le_trans ih (by rw [waysT, stepW]; simp only []; omega)
theorem ways_max : (waysT 60).2.2.2.2 = 635376 := by decide +kernel
def WaysIn (k : Nat) (x : List Tm) : Prop := cum 0 x ≤ (waysT k).1 ∧ cum 1 x ≤ (waysT k).2.1 ∧ cum 2 x ≤ (waysT k).2.2.1 ∧ cum 3 x ≤ (waysT k).2.2.2.1 ∧ cum 4 x ≤ (waysT k).2.2.2.2
theorem ways_step {k : Nat} {x y : List Tm} (hy : ∀ e, nrm e y ≤ 1) (h : WaysIn k x) : WaysIn (k + 1) (canonT (pairsS x y)) := by
  obtain ⟨h0, h1, h2, h3, h4⟩ := h
  have hn : ∀ d, nrm d (canonT (pairsS x y)) ≤ cum d x := fun d => Nat.le_trans (nrm_canon d _) (nrm_pairs d hy x)
  have n0 := hn 0
  have n1 := hn 1
  have n2 := hn 2
  have n3 := hn 3
  have n4 := hn 4
  have e0 := cum_zero (canonT (pairsS x y))
  have e1 := cum_succ 0 (canonT (pairsS x y))
  have e2 := cum_succ 1 (canonT (pairsS x y))
  have e3 := cum_succ 2 (canonT (pairsS x y))
  have e4 := cum_succ 3 (canonT (pairsS x y))
  simp only [Nat.zero_add, Nat.reduceAdd] at e1 e2 e3 e4
  unfold WaysIn
  rw [waysT, stepW]
  simp only []
  omega
theorem ways_coef {k : Nat} {x : List Tm} (h : WaysIn k x) (hk : k ≤ 60) {t : Tm} (ht : t ∈ x) (hs : t.s.size ≤ 4) : -1000000 ≤ t.c ∧ t.c ≤ 1000000 := by
  have h1 := cum_le 4 ht hs
  have h2 := h.2.2.2.2
  have h3 := ways_le hk
  rw [ways_max] at h3
  omega

/-! ### How many terms -/
theorem nodup_len {α : Type} [BEq α] [LawfulBEq α] : ∀ (l m : List α), l.Nodup → (∀ x ∈ l, x ∈ m) → l.length ≤ m.length
  | [], _, _, _ => Nat.zero_le _
  | x :: r, m, h, hs => by
    obtain ⟨h1, h2⟩ := List.nodup_cons.1 h
    have hx := hs x (by simp)
    have := nodup_len r (m.erase x) h2 fun y hy => (List.mem_erase_of_ne (fun e => h1 (by rw [← e]; exact hy))).2 (hs y (by simp [hy]))
    rw [List.length_erase_of_mem hx] at this
    have : 0 < m.length := List.length_pos_of_mem hx
    rw [List.length_cons]; omega
def monosN : Nat → List (List UInt8)
  | 0 => [[]]
  | n + 1 => (monosN n).flatMap fun l => [97 :: l, 98 :: l, 99 :: l, 100 :: l]
theorem mem_monos : ∀ (l : List UInt8), l.all genB = true → l ∈ monosN l.length
  | [], _ => by simp [monosN]
  | c :: r, h => by
    rw [List.all_cons, Bool.and_eq_true] at h
    obtain ⟨hc, hr⟩ := h
    have ih := mem_monos r hr
    have h4 : c = 97 ∨ c = 98 ∨ c = 99 ∨ c = 100 := by
      unfold genB at hc
      simp only [Bool.and_eq_true, decide_eq_true_eq] at hc
      have : c.toNat = 97 ∨ c.toNat = 98 ∨ c.toNat = 99 ∨ c.toNat = 100 := by omega
      rcases this with h | h | h | h
      · exact .inl (UInt8.toNat_inj.1 h)
      · exact .inr (.inl (UInt8.toNat_inj.1 h))
      · exact .inr (.inr (.inl (UInt8.toNat_inj.1 h)))
      · exact .inr (.inr (.inr (UInt8.toNat_inj.1 h)))
    rw [List.length_cons, monosN]
    refine List.mem_flatMap.2 ⟨r, ih, ?_⟩
    rcases h4 with rfl | rfl | rfl | rfl <;> simp
def monosAll : List (List UInt8) := (List.range 5).flatMap monosN
theorem monosAll_len : monosAll.length = 341 := by decide +kernel
theorem mono_mem {s : ByteArray} (h : monoB s = true) : s.data.toList ∈ monosAll := by
  unfold monoB at h
  simp only [Bool.and_eq_true, decide_eq_true_eq] at h
  have hl : s.data.toList.length ≤ 4 := by simpa using h.2
  exact List.mem_flatMap.2 ⟨_, List.mem_range.2 (by omega), mem_monos _ h.1⟩
theorem canon_len341 {ts : List Tm} (hc : Canon ts) (h : ∀ t ∈ ts, monoB t.s = true) : ts.length ≤ 341 := by
  have := nodup_len (ts.map fun t => t.s.data.toList) monosAll (by
    rw [List.nodup_iff_pairwise_ne, List.pairwise_map]
    exact hc.1.imp fun hl e => lessW_ne hl (bytes_ext e)) (fun l hl => by
    obtain ⟨t, ht, rfl⟩ := List.mem_map.1 hl
    exact mono_mem (h t ht))
  rwa [List.length_map, monosAll_len] at this
theorem mono_append {a b : ByteArray} (ha : monoB a = true) (hb : monoB b = true) (h : (a ++ b).size ≤ 4) : monoB (a ++ b) = true := by
  unfold monoB at *
  simp only [Bool.and_eq_true, decide_eq_true_eq] at *
  refine ⟨?_, h⟩
  rw [append_toList, List.all_append, ha.1, hb.1]; rfl
theorem pairsS_mono {x y : List Tm} (hx : ∀ t ∈ x, monoB t.s = true) (hy : ∀ t ∈ y, monoB t.s = true) : ∀ t ∈ pairsS x y, monoB t.s = true := fun t ht => by
  obtain ⟨u, hu, ht⟩ := List.mem_flatMap.1 ht
  obtain ⟨h1, h2⟩ := List.mem_filter.1 ht
  obtain ⟨v, hv, rfl⟩ := List.mem_map.1 h1
  exact mono_append (hx u hu) (hy v hv) (of_decide_eq_true h2)

end Go.Proofs.Ytakfobihakbefaa

/- The contracts of the model's powers of words. -/

namespace Go.Proofs.Ytakfobihakbefaa
open Go.RowKit

theorem l6In_same (k lo hi : Int) (b : Bool) (w : World) (h : (decide (lo ≤ k) && decide (k ≤ hi)) = b) :
    Calls Try.prog 84 #[.int .i64 k, .int .i64 lo, .int .i64 hi] w fun e w' => e = .returned (.bool b) ∧ w = w' := by
  by_cases h1 : lo ≤ k
  · by_cases h2 : k ≤ hi
    · have H : Hid (b = true) := Lib.hid (by rw [← h, decide_eq_true h1, decide_eq_true h2]; rfl)
      clear h
      go_enter Try.func84, Try.ntmps84
      go_wp2
      go_ret
      exact ⟨ret_bool H.out.symm, rfl⟩
    · have H : Hid (b = false) := Lib.hid (by rw [← h, decide_eq_false h2, Bool.and_false])
      clear h
      have h3 : hi < k := by omega
      go_enter Try.func84, Try.ntmps84
      go_wp2
      go_ret
      exact ⟨ret_bool H.out.symm, rfl⟩
  · have H : Hid (b = false) := Lib.hid (by rw [← h, decide_eq_false h1]; rfl)
    clear h
    have h3 : k < lo := by omega
    go_enter Try.func84, Try.ntmps84
    go_wp2
    go_ret
    exact ⟨ret_bool H.out.symm, rfl⟩

end Go.Proofs.Ytakfobihakbefaa

/- The contracts of slices.Grow and slices.Concat at terms. -/

namespace Go.Proofs.Ytakfobihakbefaa
open Go.RowKit Go.Shelf

theorem ownsRow_low {W : World} {base : Nat} {e : TypeId} {size : Nat} {v : Value} {n : Nat} {xs : List Value} (h : W.ownsRow base e size v n xs) : ∀ j, v.ownBlock = some j → base ≤ j := fun j ej => (h.lt j ej).1

/-- A slice of terms that may be nil. -/
def PartT (w : World) (v : Value) (ts : List Tm) : Prop := (v = .slice none 0 0 ∧ ts = []) ∨ ∃ x cap, v = .slice (some x) ts.length cap ∧ ∀ j u, (termsV ts)[j]? = some u → w.cell? (x.add j) = some u ∧ x.block < w.heap.size
theorem PartT.below {w w' : World} {v : Value} {ts : List Tm} (h : PartT w v ts) (hb : Below w.heap.size w w') : PartT w' v ts := by
  rcases h with h | ⟨x, cap, e, h⟩
  · exact .inl h
  · exact .inr ⟨x, cap, e, fun j u hu => by
      obtain ⟨h1, h2⟩ := h j u hu
      exact ⟨(hb.cell (p := x.add j) (by rw [addr_add_block]; exact h2)).trans h1, Nat.lt_of_lt_of_le h2 hb.size⟩⟩
theorem partT_of {w : World} {ad : Addr} {n cap : Nat} {ts : List Tm} (h : IsTerms w (some ad) n ts) : PartT w (.slice (some ad) n cap) ts := by
  refine .inr ⟨ad, cap, by rw [h.len], fun j u hu => ?_⟩
  rcases Nat.eq_zero_or_pos n with h0 | h0
  · have : ts = [] := List.length_eq_zero_iff.1 (h.len.trans h0)
    subst this
    simp [termsV] at hu
  · obtain ⟨z, e, h2⟩ := h.at_ h0
    cases e
    exact ⟨h2.cells j u hu, h2.1⟩
theorem PartT.len {w : World} {v : Value} {ts : List Tm} (h : PartT w v ts) : ∃ a cap, v = .slice a ts.length cap := by
  rcases h with ⟨rfl, rfl⟩ | ⟨x, cap, e, _⟩
  · exact ⟨_, _, rfl⟩
  · exact ⟨_, _, e⟩

def lens (ps : List (Value × List Tm)) : Nat := (ps.map fun p => p.2.length).sum
def flatT (ps : List (Value × List Tm)) : List Tm := (ps.map Prod.snd).flatten
theorem lens_succ (ps : List (Value × List Tm)) (k : Nat) (h : k < ps.length) : lens (ps.take (k + 1)) = lens (ps.take k) + ps[k].2.length := by
  unfold lens
  rw [List.take_succ_eq_append_getElem h, List.map_append, List.sum_append]; simp
theorem flatT_succ (ps : List (Value × List Tm)) (k : Nat) (h : k < ps.length) : flatT (ps.take (k + 1)) = flatT (ps.take k) ++ ps[k].2 := by
  unfold flatT
  rw [List.take_succ_eq_append_getElem h, List.map_append, List.flatten_append]; simp
theorem flatT_len (ps : List (Value × List Tm)) : (flatT ps).length = lens ps := by
  unfold flatT lens
  rw [List.length_flatten, List.map_map]; rfl
theorem lens_take (ps : List (Value × List Tm)) (k : Nat) : lens (ps.take k) ≤ lens ps := by
  have h : lens ps = lens (ps.take k) + lens (ps.drop k) := by
    conv => lhs; rw [← List.take_append_drop k ps]
    unfold lens
    rw [List.map_append, List.sum_append]
  omega

end Go.Proofs.Ytakfobihakbefaa

/- The contracts of the model's 'l4Letter' and 'SeriesOf'. -/

namespace Go.Proofs.Ytakfobihakbefaa
open Go.RowKit Go.Shelf

def letX (c : UInt8) : List UInt8 := [UInt8.ofNat (97 + idxB c)]
/-- The sign of a power of an inverse letter. -/
def altZ (i : Nat) : Int := if i % 2 = 0 then 1 else -1
def powT (c : UInt8) (i : Nat) : Tm := ⟨altZ i, bstr (repL i (letX c))⟩
/-- The series of a letter. -/
def letS (c : UInt8) : List Tm := if 97 ≤ c.toNat then [⟨1, { data := #[] }⟩, ⟨1, bstr (letX c)⟩] else (List.range 5).map (powT c)
theorem let_cases {P : UInt8 → Prop} (h : ∀ n : Fin 8, P (UInt8.ofNat (if n.val < 4 then 97 + n.val else 61 + n.val))) {c : UInt8} (hc : letB c = true) : P c := by
  have h2 := (letB_iff c).1 hc
  have : ∃ n : Fin 8, c = UInt8.ofNat (if n.val < 4 then 97 + n.val else 61 + n.val) := by
    rcases h2 with h2 | h2
    · exact ⟨⟨c.toNat - 97, by omega⟩, UInt8.toNat_inj.1 (by rw [if_pos (by show c.toNat - 97 < 4; omega)]; rw [UInt8.toNat_ofNat', Nat.mod_eq_of_lt (by show 97 + (c.toNat - 97) < _; omega)]; show c.toNat = 97 + (c.toNat - 97); omega)⟩
    · exact ⟨⟨c.toNat - 61, by omega⟩, UInt8.toNat_inj.1 (by rw [if_neg (by show ¬ c.toNat - 61 < 4; omega)]; rw [UInt8.toNat_ofNat', Nat.mod_eq_of_lt (by show 61 + (c.toNat - 61) < _; omega)]; show c.toNat = 61 + (c.toNat - 61); omega)⟩
  obtain ⟨n, rfl⟩ := this
  exact h n
theorem letS_facts : ∀ n : Fin 8, (letS (UInt8.ofNat (if n.val < 4 then 97 + n.val else 61 + n.val))).all (fun t => monoB t.s && (inR (-1) 1 t.c)) = true ∧ (letS (UInt8.ofNat (if n.val < 4 then 97 + n.val else 61 + n.val))).length ≤ 5 ∧
    (List.range 5).all (fun e => decide (nrm e (letS (UInt8.ofNat (if n.val < 4 then 97 + n.val else 61 + n.val))) ≤ 1)) = true := by decide +kernel
theorem nrm_far {d : Nat} : ∀ {ts : List Tm}, (∀ t ∈ ts, t.s.size ≠ d) → nrm d ts = 0
  | [], _ => rfl
  | t :: r, h => by rw [nrm, if_neg (h t (by simp)), nrm_far fun u hu => h u (by simp [hu])]
theorem letS_ok {c : UInt8} (hc : letB c = true) : (∀ t ∈ letS c, monoB t.s = true ∧ -1 ≤ t.c ∧ t.c ≤ 1) ∧ (letS c).length ≤ 5 ∧ ∀ e, nrm e (letS c) ≤ 1 := by
  obtain ⟨h1, h2, h3⟩ := let_cases (P := fun c => (letS c).all (fun t => monoB t.s && (inR (-1) 1 t.c)) = true ∧ (letS c).length ≤ 5 ∧ (List.range 5).all (fun e => decide (nrm e (letS c) ≤ 1)) = true) letS_facts hc
  have h4 : ∀ t ∈ letS c, monoB t.s = true ∧ -1 ≤ t.c ∧ t.c ≤ 1 := fun t ht => by
    have := List.all_eq_true.1 h1 t ht
    unfold inR at this
    simp only [Bool.and_eq_true, decide_eq_true_eq] at this
    exact this
  refine ⟨h4, h2, fun e => ?_⟩
  by_cases he : e < 5
  · exact of_decide_eq_true (List.all_eq_true.1 h3 e (List.mem_range.2 he))
  · rw [nrm_far fun t ht => by have := mono_size (h4 t ht).1; omega]; omega
theorem letS_ser {c : UInt8} (hc : letB c = true) : SerL (letS c) := by
  obtain ⟨h1, h2, _⟩ := letS_ok hc
  exact ⟨by omega, fun t ht => by have := h1 t ht; have := mono_size this.1; omega⟩

/-- The series of a word. -/
def oneT : List Tm := [⟨1, { data := #[] }⟩]
def serW (l : List UInt8) : List Tm := l.foldl (fun out c => canonT (pairsS out (letS c))) oneT
theorem serW_snoc (l : List UInt8) (c : UInt8) : serW (l ++ [c]) = canonT (pairsS (serW l) (letS c)) := by unfold serW; rw [List.foldl_append]; rfl
structure SerOK (k : Nat) (x : List Tm) : Prop where
  ways : WaysIn k x
  canon : Canon x
  mono : ∀ t ∈ x, monoB t.s = true
theorem serOK_one : SerOK 0 oneT :=
  ⟨by unfold WaysIn; decide, ⟨by simp [oneT], fun t ht => by rw [List.mem_singleton.1 ht]; exact Int.one_ne_zero⟩, fun t ht => by rw [List.mem_singleton.1 ht]; decide⟩
theorem SerOK.step {k : Nat} {x : List Tm} {c : UInt8} (h : SerOK k x) (hc : letB c = true) : SerOK (k + 1) (canonT (pairsS x (letS c))) :=
  ⟨ways_step (letS_ok hc).2.2 h.ways, canon_of _, fun t ht => by
    obtain ⟨v, hv, e⟩ := canon_words ht
    rw [← e]
    exact pairsS_mono h.mono (fun u hu => ((letS_ok hc).1 u hu).1) v hv⟩
theorem SerOK.ser {k : Nat} {x : List Tm} (h : SerOK k x) (hk : k ≤ 60) : SerL x :=
  ⟨by have := canon_len341 h.canon h.mono; omega, fun t ht => by
    have h1 := mono_size (h.mono t ht)
    exact ⟨h1, ways_coef h.ways hk ht h1⟩⟩
theorem SerOK.told {k : Nat} {x : List Tm} (h : SerOK k x) (hk : k ≤ 60) : twS x = true := by
  obtain ⟨h1, h2⟩ := h.ser hk
  unfold twS inR
  rw [decide_eq_true h1, Bool.true_and]
  refine List.all_eq_true.2 fun t ht => ?_
  have := h2 t ht
  rw [h.mono t ht, decide_eq_true this.2.1, decide_eq_true this.2.2]; rfl
theorem serW_ok : ∀ (l : List UInt8), letL l = true → SerOK l.length (serW l) := by
  intro l
  generalize hn : l.length = n
  induction n generalizing l with
  | zero => intro _; rw [List.length_eq_zero_iff.1 hn]; exact serOK_one
  | succ n ih =>
    intro hl
    obtain ⟨p, c, rfl⟩ := last_split l (by omega)
    rw [letL_append, Bool.and_eq_true] at hl
    rw [serW_snoc]
    have hp : p.length = n := by rw [List.length_append] at hn; simp at hn; exact hn
    exact (ih p hp hl.1).step (by have := hl.2; simp [letL] at this; exact this)

theorem isTerms_ser {w : World} {ad : Option Addr} {n : Nat} {x : List Tm} (h : IsTerms w ad n x) : x.length = n := h.len

theorem serL_small {x : List Tm} (h : SerL x) : SmallT x := ⟨by have := h.1; unfold maxLen; omega, fun t ht => by have := h.2 t ht; unfold maxLen; omega⟩

theorem serW_tw {s : ByteArray} {b : Bool} (h : wordB s.data.toList = b) : b = true → twS (serW s.data.toList) = true := by
  intro hb
  subst hb
  obtain ⟨h1, h2, _⟩ := (wordB_iff _).1 h
  exact (serW_ok _ h2).told h1
end Go.Proofs.Ytakfobihakbefaa

/- The contracts of the model's 'l91Word', 'l91Two' and 'DrawWordComm'. -/

namespace Go.Proofs.Ytakfobihakbefaa
open Go.RowKit Go.Shelf

theorem conv_byte (c : UInt8) (v : Int) (hv : (c.toNat : Int) = v) (V : World) : (convert 22 9 (.slice (some ⟨V.heap.size, 0, none⟩) 1 1)).run Try.prog (V.alloc (.cells #[.int .u8 v] 5)) = .ok (.string (bstr [c])) (V.alloc (.cells #[.int .u8 v] 5)) := by
  have := run_convert_bytes_back (P := Try.prog) (V.alloc (.cells #[.int .u8 v] 5)) 22 9 5 ⟨V.heap.size, 0, none⟩ 1 [c] Try.underlying22 Try.underlying5 Try.underlying9 (fun j hj => by
    have hj0 : j = 0 := by simp at hj; exact hj
    subst hj0
    show (V.alloc _).cell? ((⟨V.heap.size, 0, none⟩ : Addr).add 0) = some (.int .u8 (c.toNat : Int))
    rw [hv]
    exact cell_one_new _ _ _ 0 _ rfl)
  exact this

theorem grownAny_of_below {w w' : World} (hb : Below w.heap.size w w') (row : Option Nat) : w.grownBy w' row := ⟨hb.os, hb.tape, hb.output, hb.size, fun j hj _ => hb.block j hj⟩

end Go.Proofs.Ytakfobihakbefaa

/- The contracts of the laws' own helpers that mark memory and look the marks up. -/

namespace Go.Proofs.Ytakfobihakbefaa
open Go.RowKit Go.Shelf

/-- A term is stored: its two cells. -/
theorem set_terms (us : List Tm) (i : Nat) (t : Tm) (hi : i < us.length) : ((termsV us).set (i * 2) (.int .i64 t.c)).set (i * 2 + 1) (.string t.s) = termsV (us.set i t) := by
  have e : us = us.take i ++ us[i] :: us.drop (i + 1) := by rw [List.getElem_cons_drop]; exact (List.take_append_drop i us).symm
  have hl : (termsV (us.take i)).length = i * 2 := by rw [termsV_len, List.length_take, Nat.min_eq_left (by omega)]
  have hset : us.set i t = us.take i ++ t :: us.drop (i + 1) := by rw [List.set_eq_take_append_cons_drop, if_pos hi]
  rw [hset]
  have e2 : termsV us = termsV (us.take i) ++ .int .i64 us[i].c :: .string us[i].s :: termsV (us.drop (i + 1)) := by
    rw [← termsV_cons, ← termsV_append, ← e]
  rw [e2, termsV_append, termsV_cons, List.set_append_right _ _ (by omega), List.set_append_right _ _ (by omega), hl, Nat.sub_self, show i * 2 + 1 - i * 2 = 1 by omega]
  rfl

/-- The text of a mark. -/
def mkB (m : Nat) (t : ByteArray) : ByteArray :=
  if _h : m = 0 then t else mkB (m / 10) (⟨#[UInt8.ofNat (48 + m % 10)]⟩ ++ t)
termination_by m
decreasing_by omega
theorem mkB_zero (t : ByteArray) : mkB 0 t = t := by rw [mkB]; simp
theorem mkB_step {m : Nat} (h : m ≠ 0) (t : ByteArray) : mkB (m / 10) (⟨#[UInt8.ofNat (48 + m % 10)]⟩ ++ t) = mkB m t := by conv => rhs; rw [mkB, dif_neg h]
def mkS (k : Nat) : ByteArray := ⟨#[109]⟩ ++ mkB k ⟨#[]⟩

end Go.Proofs.Ytakfobihakbefaa

/- The contracts of the laws' 'markTermS' and 'heldTermS'. -/

namespace Go.Proofs.Ytakfobihakbefaa
open Go.RowKit Go.Shelf

def markT (k i : Nat) : Tm := ⟨((k + 2 * i : Nat) : Int), mkS (k + 2 * i + 1)⟩
/-- The marks from k on. -/
def marksT (k n : Nat) : List Tm := (List.range n).map (markT k)
theorem marksT_len (k n : Nat) : (marksT k n).length = n := by simp [marksT]
theorem marksT_get (k n i : Nat) (h : i < (marksT k n).length) : (marksT k n)[i] = markT k i := by simp [marksT]
theorem marksT_set (k j n : Nat) (us : List Tm) (hl : us.length = n) (hj : j < n) : (marksT k j ++ us.drop j).set j (markT k j) = marksT k (j + 1) ++ us.drop (j + 1) := by
  rw [List.set_append_right _ _ (by rw [marksT_len]; exact Nat.le_refl _), marksT_len, Nat.sub_self, List.drop_eq_getElem_cons (by omega : j < us.length), List.set_cons_zero]
  unfold marksT
  rw [List.range_succ, List.map_append, List.append_assoc]
  rfl

theorem ownsRow_past {w w' : World} {base : Nat} {e : TypeId} {size : Nat} {v : Value} {n : Nat} {xs : List Value} (h : w.ownsRow base e size v n xs) (hb : Below w.heap.size w w') : w'.ownsRow base e size v n xs :=
  h.kept ⟨hb.os, hb.tape, hb.output, hb.size, fun j hj _ => hb.block j hj⟩ (row := none) (by
    rcases h.2 with ⟨rfl, _⟩ | ⟨g, cap, cur, rfl, _⟩
    · exact .inl rfl
    · exact .inr (by simp [Value.ownBlock]))
theorem marksT_row (k j n : Nat) (us : List Tm) (hl : us.length = n) (hj : j < n) :
    ((termsV (marksT k j ++ us.drop j)).set (j * 2) (.int .i64 ((k + 2 * j : Nat) : Int))).set (j * 2 + 1) (.string (mkS (k + 2 * j + 1))) = termsV (marksT k (j + 1) ++ us.drop (j + 1)) := by
  rw [← marksT_set k j n us hl hj]
  exact set_terms _ j (markT k j) (by rw [List.length_append, marksT_len, List.length_drop]; omega)

theorem grown_trans {a b c : World} {row : Option Nat} (h : a.grownBy b row) (k : b.grownBy c row) : a.grownBy c row :=
  ⟨k.os.trans h.os, k.tape.trans h.tape, k.output.trans h.output, Nat.le_trans h.size k.size, fun i hi hne => (k.block i (Nat.lt_of_lt_of_le hi h.size) hne).trans (h.block i hi hne)⟩
theorem grown_refl (a : World) (row : Option Nat) : a.grownBy a row := ⟨rfl, rfl, rfl, Nat.le_refl _, fun _ _ _ => rfl⟩
theorem grown_below {a b : World} (row : Option Nat) (h : Below a.heap.size a b) : a.grownBy b row := ⟨h.os, h.tape, h.output, h.size, fun i hi _ => h.block i hi⟩
theorem mkB_size : ∀ (m : Nat) (t : ByteArray), (mkB m t).size ≤ t.size + m := by
  intro m
  induction m using Nat.strongRecOn with
  | _ m ih =>
    intro t
    by_cases h : m = 0
    · subst h; rw [mkB_zero]; exact Nat.le_refl _
    · rw [← mkB_step h]
      have h1 := ih (m / 10) (by omega) (⟨#[UInt8.ofNat (48 + m % 10)]⟩ ++ t)
      have h2 : ((⟨#[UInt8.ofNat (48 + m % 10)]⟩ : ByteArray) ++ t).size = 1 + t.size := by simp [ByteArray.size_append]; rfl
      omega
theorem mkS_size (k : Nat) : (mkS k).size ≤ k + 1 := by
  have h := mkB_size k ⟨#[]⟩
  have h0 : (⟨#[]⟩ : ByteArray).size = 0 := rfl
  have h1 : (mkS k).size = 1 + (mkB k ⟨#[]⟩).size := by unfold mkS; simp [ByteArray.size_append]; rfl
  omega
theorem marksT_small (k n : Nat) (hk : k ≤ 1000000) (hn : n ≤ 1048576) : SmallT (marksT k n) :=
  ⟨by rw [marksT_len]; unfold maxLen; omega, fun t ht => by
    unfold marksT at ht
    obtain ⟨i, hi, rfl⟩ := List.mem_map.1 ht
    have hi := List.mem_range.1 hi
    have := mkS_size (k + 2 * i + 1)
    unfold markT maxLen
    dsimp only
    omega⟩

def marksS (k n : Nat) : List ByteArray := (List.range n).map fun i => mkS (k + i)
theorem marksS_len (k n : Nat) : (marksS k n).length = n := by simp [marksS]
theorem marksS_set (k j n : Nat) (us : List ByteArray) (hl : us.length = n) (hj : j < n) : (strsV (marksS k j ++ us.drop j)).set j (.string (mkS (k + j))) = strsV (marksS k (j + 1) ++ us.drop (j + 1)) := by
  have h1 : (marksS k j ++ us.drop j).set j (mkS (k + j)) = marksS k (j + 1) ++ us.drop (j + 1) := by
    rw [List.set_append_right _ _ (by rw [marksS_len]; exact Nat.le_refl _), marksS_len, Nat.sub_self, List.drop_eq_getElem_cons (by omega : j < us.length), List.set_cons_zero]
    unfold marksS
    rw [List.range_succ, List.map_append, List.append_assoc]
    rfl
  rw [← h1]
  unfold strsV
  rw [List.map_set]
def OwnS (base : Nat) (w : World) (v : Value) (zs : List ByteArray) : Prop := w.ownsRow base 9 1 v zs.length (strsV zs)
theorem OwnS.below {base : Nat} {w w' : World} {v : Value} {zs : List ByteArray} (h : OwnS base w v zs) (hb : Below w.heap.size w w') : OwnS base w' v zs := ownsRow_past h hb

end Go.Proofs.Ytakfobihakbefaa

/- The contract of the program's 'WordSums'. -/

namespace Go.Proofs.Ytakfobihakbefaa
open Go.RowKit Go.Shelf

attribute [local go_sem] Oper.semAt_some

theorem idx_tab : ((List.range 256).all fun n => !(decide ((97 ≤ n ∧ n ≤ 100) ∨ (65 ≤ n ∧ n ≤ 68))) || (decide (bits BinOp.or IntKind.u8 (n : Int) 32 = ((if 97 ≤ n then n - 97 else n - 65 : Nat) : Int) + 97) && decide (bits BinOp.and IntKind.u8 (n : Int) 32 = if 97 ≤ n then 32 else 0))) = true := by kernel_rfl
theorem idx_let (c : UInt8) (h : letB c = true) : bits BinOp.or IntKind.u8 (c.toNat : Int) 32 = (idxB c : Int) + 97 ∧ bits BinOp.and IntKind.u8 (c.toNat : Int) 32 = if 97 ≤ c.toNat then 32 else 0 := by
  have := List.all_eq_true.1 idx_tab c.toNat (List.mem_range.2 c.toNat_lt)
  simp only [Bool.or_eq_true, Bool.and_eq_true, Bool.not_eq_true', decide_eq_false_iff_not, decide_eq_true_eq] at this
  exact this.resolve_left (fun h2 => h2 ((letB_iff c).1 h))

end Go.Proofs.Ytakfobihakbefaa

/- The contracts of the program's 'WordTimes' and 'WordComm'. -/

namespace Go.Proofs.Ytakfobihakbefaa
open Go.RowKit Go.Shelf

/-- A word in a box, and the function that gives letters out of it. -/
structure Item where
  gf : Nat
  sv : Value
  L : List UInt8
  xs : List UInt8
def funcs : Nat → List Item → List Value
  | _, [] => []
  | k, it :: r => .func (.func it.gf) #[] #[.pointer (some ⟨k, 0, none⟩)] :: funcs (k + 1) r
def partsOf : Nat → List Item → List Part
  | _, [] => []
  | k, it :: r => ⟨it.gf, #[.pointer (some ⟨k, 0, none⟩)], it.xs⟩ :: partsOf (k + 1) r
theorem partsOf_len : ∀ (its : List Item) (k : Nat), (partsOf k its).length = its.length
  | [], _ => rfl
  | it :: r, k => by simp [partsOf, partsOf_len r]
theorem funcs_get : ∀ (its : List Item) (k i : Nat) (h : i < (partsOf k its).length), (funcs k its)[i]? = some (.func (.func (partsOf k its)[i].gf) #[] (partsOf k its)[i].lb)
  | [], _, _, h => by simp [partsOf] at h
  | it :: r, k, 0, _ => rfl
  | it :: r, k, i + 1, h => by
    simp only [partsOf, List.length_cons] at h
    simpa [partsOf, funcs] using funcs_get r (k + 1) i (by omega)
theorem cat_parts : ∀ (its : List Item) (k : Nat), cat (partsOf k its) = (its.map Item.xs).flatten
  | [], _ => rfl
  | it :: r, k => by
    have := cat_parts r (k + 1)
    simp only [cat] at this ⊢
    simp only [partsOf, List.map_cons, List.flatten_cons, this]
theorem cell_past {w : World} {p : Addr} {v : Value} (h : w.cell? p = some v) (o : Obj) : (w.alloc o).cell? p = some v := (World.cell?_alloc_lt w o p (World.block_lt_of_cell? w _ h)).trans h
theorem cell_drawn {w : World} {p : Addr} {v : Value} (h : w.cell? p = some v) : w.drew.cell? p = some v := h

end Go.Proofs.Ytakfobihakbefaa

/- A law for a region that draws its order, inside a fence, by what stands when some of its operations have come up: each operation is met once, in whatever order they come. -/

namespace Go.Proofs.Ytakfobihakbefaa
open Go.RowKit Go.Shelf

theorem count_set (l : List Bool) : ∀ i, l[i]? = some false → (l.set i true).count false + 1 = l.count false := by
  induction l with
  | nil => intro i h; simp at h
  | cons b r ih =>
    intro i h
    cases i with
    | zero => simp at h; subst h; simp
    | succ i =>
      simp only [List.getElem?_cons_succ] at h
      have := ih i h
      simp only [List.set_cons_succ, List.count_cons]
      omega
theorem listed_false {l : Array Bool} {i : Nat} (h : l.getD i true = false) : l.toList[i]? = some false := by
  rw [Array.getD_eq_getD_getElem?] at h
  rw [Array.getElem?_toList]
  cases e : l[i]? with
  | none => rw [e] at h; cases h
  | some b => rw [e] at h; simp at h; rw [h]

theorem wpAnyIn_inv {F : Fence} {n : Nat} {P : Program} {md : Region.Mode} {ops : Array Oper} {Q : Exit → Act → World → Prop} (Inv : Array Bool → Act → World → Prop)
    (hstep : ∀ listed a w i, Inv listed a w → listed.getD i true = false → (∀ o, ops[i]? = some o → ∀ e ∈ o.after, Region.binds md e = true → listed.getD e.on false = true) → i < ops.size →
      wpOpIn F n P ops Q i (fun a' w' => Inv (listed.setIfInBounds i true) a' w') a w)
    (hdone : ∀ listed a w, Inv listed a w → (∀ i o, ops[i]? = some o → (∀ e ∈ o.after, Region.binds md e = true → listed.getD e.on false = true) → listed.getD i true = true) → Q .normal a w) :
    ∀ (fuel : Nat) (listed : Array Bool) (a : Act) (w : World), listed.toList.count false ≤ fuel → Inv listed a w → wpAnyIn F n P md ops Q fuel listed a w := by
  have hd : ∀ listed a w, Inv listed a w → Region.ready md ops listed = [] → Q .normal a w := fun listed a w hI hr => hdone listed a w hI fun i o ho hall => by
    cases h : listed.getD i true with
    | true => rfl
    | false =>
      have : i ∈ Region.ready md ops listed := mem_ready.2 ⟨h, o, ho, hall⟩
      rw [hr] at this; cases this
  intro fuel
  induction fuel with
  | zero =>
    intro listed a w hc hI
    have hr : Region.ready md ops listed = [] := by
      rw [List.eq_nil_iff_forall_not_mem]
      intro j hj
      have h1 := listed_false (mem_ready.1 hj).1
      have := count_set _ _ h1
      omega
    exact ⟨hr, hd _ _ _ hI hr⟩
  | succ fuel ih =>
    intro listed a w hc hI
    refine ⟨fun h => hd _ _ _ hI h, fun i hi => ?_⟩
    obtain ⟨h1, o, ho, hall⟩ := mem_ready.1 hi
    refine wpOpIn_mono (fun a' w' h => ih _ a' w' ?_ h) (hstep listed a w i hI h1 (fun o' ho' => by rw [ho] at ho'; cases ho'; exact hall) (Array.getElem?_eq_some_iff.1 ho).1)
    have := count_set _ _ (listed_false h1)
    rw [Array.toList_setIfInBounds]
    omega

end Go.Proofs.Ytakfobihakbefaa

/- The contract of the program's 'WordPut'. -/

namespace Go.Proofs.Ytakfobihakbefaa
open Go.RowKit Go.Shelf

attribute [local go_sem] Oper.semAt_some

/-- What a round keeps, where the iterator is that of a word. -/
def KeepP (n₀ N : Nat) (W W' : World) : Prop := Below n₀ W W' ∧ KeepsFrom N W W'

def funcV (p : Part) : Value := .func (.func p.gf) #[] p.lb
/-- The letters of a letter's image, as its iterator gives them. -/
def imgX (zs : List ByteArray) (x : UInt8) : List UInt8 := if 97 ≤ x.toNat then (zs.getD (idxB x) ByteArray.empty).data.toList else (zs.getD (idxB x) ByteArray.empty).data.toList.reverse.map invB
/-- All images, one behind the other. -/
def putX (zs : List ByteArray) (L : List UInt8) : List UInt8 := (L.map (imgX zs)).flatten
theorem imgX_len (zs : List ByteArray) (hz : ∀ z ∈ zs, wordB z.data.toList = true) (x : UInt8) : (imgX zs x).length ≤ 60 := by
  have hz' : (zs.getD (idxB x) ByteArray.empty).data.toList.length ≤ 60 := by
    rw [List.getD_eq_getElem?_getD]
    cases h : zs[idxB x]? with
    | none => simp
    | some z => exact ((wordB_iff _).1 (hz z (List.mem_of_getElem? h))).1
  unfold imgX
  split
  · exact hz'
  · rw [List.length_map, List.length_reverse]; exact hz'
theorem putX_len (zs : List ByteArray) (L : List UInt8) (hz : ∀ z ∈ zs, wordB z.data.toList = true) : (putX zs L).length ≤ L.length * 60 := by
  unfold putX
  induction L with
  | nil => simp
  | cons x r ih =>
    rw [List.map_cons, List.flatten_cons, List.length_append, List.length_cons]
    have := imgX_len zs hz x
    omega
theorem imgX_eq (zs : List ByteArray) (hz : ∀ z ∈ zs, wordB z.data.toList = true) (x : UInt8) : imgX zs x = imgL zs x ∧ letL (imgL zs x) = true := by
  have hl : letL (zs.getD (idxB x) ByteArray.empty).data.toList = true := by
    rw [List.getD_eq_getElem?_getD]
    cases h : zs[idxB x]? with
    | none => rfl
    | some z => exact ((wordB_iff _).1 (hz z (List.mem_of_getElem? h))).2.1
  unfold imgX imgL
  by_cases h : 97 ≤ x.toNat
  · rw [if_pos h, if_neg (by omega)]; exact ⟨rfl, hl⟩
  · rw [if_neg h, if_pos (by omega)]; exact ⟨inv_back _ hl, letL_back _ hl⟩
theorem putX_eq (zs : List ByteArray) (L : List UInt8) (hz : ∀ z ∈ zs, wordB z.data.toList = true) : putX zs L = putL zs L ∧ letL (putL zs L) = true := by
  unfold putX putL
  induction L with
  | nil => exact ⟨rfl, rfl⟩
  | cons x r ih =>
    obtain ⟨h1, h2⟩ := imgX_eq zs hz x
    rw [List.map_cons, List.map_cons, List.flatten_cons, List.flatten_cons, h1, ih.1, letL_append, h2, ih.2]
    exact ⟨rfl, rfl⟩
theorem letL_putX (zs : List ByteArray) (L : List UInt8) (hz : ∀ z ∈ zs, wordB z.data.toList = true) : letL (putX zs L) = true := by
  rw [(putX_eq zs L hz).1]; exact (putX_eq zs L hz).2
/-- An append in whatever place of a region. -/
theorem wpIn_append_op {F : Fence} {n : Nat} {P : Program} (w : World) {o : Oper} {a : Act} {K : Act → World → Prop} {Q : Exit → Act → World → Prop}
    (s x : Operand) (t : TypeId) (hop : o.op = Op.call { callee := Callee.builtin Builtin.append, args := #[s, x], argTypes := #[t, t] })
    (base : Nat) (e : TypeId) (i : TypeInfo) (z : Value) (size bytes : Nat) (h1 : P.underlying t = some (.slice e)) (h2 : P.info? e = some i) (h3 : i.zero = some z) (h4 : i.size = size) (h5 : i.bytes = bytes) (h6 : z.cells.size = size) (h7 : 0 < size)
    (v : Value) (k : Nat) (xs : List Value) (hs : a.eval s = v) (hown : w.ownsRow base e size v k xs) (ad : Addr) (m c : Nat) (news : List Value) (hx : a.eval x = .slice (some ad) m c) (hn : news.length = m * size)
    (hc : ∀ j u, news[j]? = some u → w.cell? (ad.add j) = some u) (h1c : ∀ u ∈ news, u.oneCell' = true) (b1 : k + m ≤ maxLen) (b2 : (k + m) * bytes ≤ 140737488355328) (b3 : base ≤ w.heap.size)
    (hK : ∀ v' w', w'.ownsRow base e size v' (k + m) (xs ++ news) → w.grownBy w' v.ownBlock → True → K (a.put o.dst v') w') : o.wpIn F n P a w K Q := by
  obtain ⟨v', w', hrun, r1, r2, _⟩ := run_append_own (P := P) w base t o.type e i z size bytes h1 h2 h3 h4 h5 h6 h7 v k xs hown ad m c news hn hc h1c b1 b2 b3
  unfold Oper.wpIn
  refine ⟨by simp [Oper.about, hop, resolve, Target.leads, Sem.run_pure], ?_⟩
  rw [Oper.semAt_plain F _ _ (by rw [hop]; intro c hc'; cases hc')]
  simp [execOp, hop, resolve, invoke, builtin, hs, hx, hrun, Result.andThen]
  exact hK v' w' r1 r2 trivial

theorem owns_slice {W : World} {base : Nat} {e : TypeId} {v : Value} {n : Nat} {xs : List Value} (h : W.ownsRow base e 1 v n xs) (h0 : 0 < W.heap.size) :
    ∃ a cap b, v = .slice a n cap ∧ (0 < n → a = some ⟨b, 0, none⟩) ∧ b < W.heap.size ∧ ∀ i (h : i < xs.length), W.cell? ⟨b, i, none⟩ = some xs[i] := by
  have hl := h.1
  rw [Nat.mul_one] at hl
  have hc := fun g cap (e : v = .slice (some ⟨g, 0, none⟩) n cap) => e
  rcases h.2 with ⟨rfl, e⟩ | ⟨g, cap, cur, rfl, e2⟩
  · have e0 : n = 0 := e
    subst e0
    exact ⟨none, 0, 0, rfl, fun h => absurd h (Nat.lt_irrefl _), h0, fun i hi => absurd hi (by omega)⟩
  · refine ⟨_, cap, g, rfl, fun _ => rfl, (ownsRow_cap h).2.2.2, fun i hi => ?_⟩
    rw [h.cellAt i (by omega)]
    exact List.getElem?_eq_getElem hi

/-- Four words in memory. -/
def FourAt (gi : Nat) (lo : Nat) (w : World) (zs : List ByteArray) : Prop :=
  gi < w.heap.size ∧ ∀ j (h : j < zs.length), ∃ v, w.cell? ⟨gi, j, none⟩ = some v ∧ WordAt lo w v zs[j].data.toList
theorem FourAt.below {gi lo : Nat} {w w' : World} {zs : List ByteArray} (h : FourAt gi lo w zs) (hb : Below w.heap.size w w') : FourAt gi lo w' zs :=
  ⟨Nat.lt_of_lt_of_le h.1 hb.size, fun j hj => by
    obtain ⟨v, h1, h2⟩ := h.2 j hj
    exact ⟨v, (hb.cell (p := ⟨gi, j, none⟩) h.1).trans h1, h2.below hb⟩⟩

end Go.Proofs.Ytakfobihakbefaa

/- The contracts of the program's 'imagesOf' and 'WordPut'. -/

namespace Go.Proofs.Ytakfobihakbefaa
open Go.RowKit Go.Shelf

/-- A list of strings from a cell 0 on, as a law copies it. -/
structure StrsIn (w : World) (a : Option Addr) (g : Nat) (n : Nat) (zs : List ByteArray) : Prop where
  len : zs.length = n
  at0 : 0 < n → a = some ⟨g, 0, none⟩
  blk : g < w.heap.size
  cells : ∀ i (h : i < zs.length), w.cell? ⟨g, i, none⟩ = some (.string zs[i])
  small : ∀ s ∈ zs, s.size ≤ maxLen
theorem StrsIn.below {w w' : World} {a : Option Addr} {g n : Nat} {zs : List ByteArray} (h : StrsIn w a g n zs) (hb : Below w.heap.size w w') : StrsIn w' a g n zs :=
  ⟨h.len, h.at0, Nat.lt_of_lt_of_le h.blk hb.size, fun i hi => (hb.cell (p := ⟨g, i, none⟩) h.blk).trans (h.cells i hi), h.small⟩

end Go.Proofs.Ytakfobihakbefaa

/- Letters as a free group: reducing goes along, inverses cancel, sums of letters, powers, commutators, putting. -/

namespace Go.Proofs.Ytakfobihakbefaa
open Go.RowKit

theorem toList_size (s : ByteArray) : s.data.toList.length = s.size := by simp
theorem letL_step {l : List UInt8} {c : UInt8} (hl : letL l = true) (hc : letB c = true) : letL (redStep l c) = true := by
  unfold redStep
  split
  · exact letL_of_mem l _ hl fun _ h => List.dropLast_subset _ h
  · rw [letL_append, hl, letL_cons, hc]; rfl
theorem letL_red2 : ∀ (s acc : List UInt8), letL s = true → letL acc = true → letL (redL acc s) = true
  | [], _, _, h => h
  | c :: s, acc, h, ha => by
    rw [letL_cons, Bool.and_eq_true] at h
    exact letL_red2 s (redStep acc c) h.2 (letL_step ha h.1)
theorem step_cancel {l : List UInt8} (hn : noC l) {x : UInt8} (hx : letB x = true) : redStep (redStep l x) (turnB x) = l := by
  obtain ⟨ht, hx2⟩ := turn_turn x hx
  by_cases h : l.getLast? = some (turnB x)
  · obtain ⟨p, y, rfl⟩ := last_split l (by cases l with | nil => simp at h | cons a l => simp)
    have hy : y = turnB x := by simpa using h
    subst hy
    rw [redStep_pop p (turnB x) x rfl]
    by_cases h2 : p.getLast? = some (turnB (turnB x))
    · exfalso
      obtain ⟨q, z, rfl⟩ := last_split p (by cases p with | nil => simp at h2 | cons a l => simp)
      have hz : z = turnB (turnB x) := by simpa using h2
      exact hn q z (turnB x) [] (by simp) hz
    · unfold redStep; rw [if_neg h2]
  · have e : redStep l x = l ++ [x] := by unfold redStep; rw [if_neg h]
    rw [e, redStep_pop l x (turnB x) ht.symm]
theorem red_through : ∀ (y acc : List UInt8), noC acc → letL y = true → redL acc (redL [] y) = redL acc y := by
  intro y
  generalize hn : y.length = n
  induction n generalizing y with
  | zero => intro acc _ _; rw [List.length_eq_zero_iff.1 hn]; rfl
  | succ n ih =>
    intro acc ha hl
    obtain ⟨p, c, rfl⟩ := last_split y (by omega)
    have hp : p.length = n := by rw [List.length_append] at hn; simp at hn; exact hn
    rw [letL_append, Bool.and_eq_true] at hl
    have hc : letB c = true := by have := hl.2; simp [letL] at this; exact this
    have h1 := ih p hp acc ha hl.1
    rw [redL_snoc, redL_snoc]
    by_cases h : (redL [] p).getLast? = some (turnB c)
    · obtain ⟨q, z, hq⟩ := last_split (redL [] p) (by cases hr : redL [] p with | nil => rw [hr] at h; simp at h | cons a l => simp)
      rw [hq] at h h1 ⊢
      have hz : z = turnB c := by simpa using h
      subst hz
      rw [redStep_pop q (turnB c) c rfl, ← h1, redL_snoc]
      have := step_cancel (noC_red q acc ha) (turn_turn c hc).2
      rw [(turn_turn c hc).1] at this
      exact this.symm
    · have e : redStep (redL [] p) c = redL [] p ++ [c] := by unfold redStep; rw [if_neg h]
      rw [e, redL_snoc, h1]
/-- Reducing parts first. -/
theorem red_both {a b : List UInt8} (hb : letL b = true) : redL [] (redL [] a ++ redL [] b) = redL [] (a ++ b) := by
  rw [red_append, redL_append, redL_append, red_through b _ (noC_red a [] noC_nil) hb]
theorem red_right {a b : List UInt8} (hb : letL b = true) : redL [] (a ++ redL [] b) = redL [] (a ++ b) := by
  rw [redL_append, redL_append, red_through b _ (noC_red a [] noC_nil) hb]
/-- A word and its inverse. -/
theorem red_cancel : ∀ (s acc : List UInt8), noC acc → letL s = true → redL (redL acc s) (backL s) = acc := by
  intro s
  induction s with
  | nil => intro acc _ _; rfl
  | cons c s ih =>
    intro acc ha hl
    rw [letL_cons, Bool.and_eq_true] at hl
    have e : backL (c :: s) = backL s ++ [turnB c] := by simp [backL]
    have e2 : redL acc (c :: s) = redL (redStep acc c) s := rfl
    rw [e, redL_append, e2, ih _ (noC_step acc c ha) hl.2]
    exact step_cancel ha hl.1
theorem red_inv {s : List UInt8} (hl : letL s = true) (a : List UInt8) : redL [] (a ++ s ++ backL s) = redL [] a := by
  rw [redL_append, redL_append]
  exact red_cancel s _ (noC_red a [] noC_nil) hl
theorem red_inv2 {s : List UInt8} (hl : letL s = true) (a : List UInt8) : redL [] (a ++ backL s ++ s) = redL [] a := by
  have := red_inv (letL_back s hl) a
  rwa [back_back s hl] at this
/-- Words that are the same behind each other's inverse. -/
theorem red_unique {a b : List UInt8} (hb : letL b = true) (h : redL [] (a ++ backL b) = []) : redL [] a = redL [] b := by
  have h1 : redL [] (a ++ backL b ++ b) = redL [] a := red_inv2 hb a
  rw [← h1, redL_append, h]
theorem back_red {s : List UInt8} (hl : letL s = true) : backL (redL [] s) = redL [] (backL s) := by
  have hr := letL_red2 s [] hl rfl
  have h1 : redL [] (backL (redL [] s)) = backL (redL [] s) := red_back _ hr (red_red s)
  rw [← h1]
  refine red_unique (letL_back s hl) ?_
  rw [back_back s hl, ← red_right hl]
  have := red_inv2 hr []
  rw [List.nil_append] at this
  exact this
/-! ### Sums of letters -/
theorem sgnB_bnd2 (x : UInt8) : -1 ≤ sgnB x ∧ sgnB x ≤ 1 := by unfold sgnB; split <;> omega
def sgL (i : Nat) : List UInt8 → Int
  | [] => 0
  | c :: r => (if idxB c = i then sgnB c else 0) + sgL i r
theorem sgL_append (i : Nat) : ∀ a b : List UInt8, sgL i (a ++ b) = sgL i a + sgL i b
  | [], b => by simp [sgL]
  | c :: r, b => by rw [List.cons_append, sgL, sgL, sgL_append i r b]; omega
theorem sg_turn {c : UInt8} (hc : letB c = true) : idxB (turnB c) = idxB c ∧ sgnB (turnB c) = - sgnB c := by
  have h := (letB_iff c).1 hc
  unfold idxB sgnB
  rcases h with h | h
  · have := turnB_hi c h.1
    rw [if_neg (by omega), if_pos (by omega), if_neg (by omega), if_pos (by omega)]; omega
  · have := turnB_lo c (by omega)
    rw [if_pos (by omega), if_neg (by omega), if_pos (by omega), if_neg (by omega)]; omega
theorem sgL_turn (i : Nat) {c : UInt8} (hc : letB c = true) : sgL i [turnB c] = - sgL i [c] := by
  obtain ⟨h1, h2⟩ := sg_turn hc
  simp only [sgL]
  rw [h1, h2]; split <;> omega
theorem sgL_back (i : Nat) : ∀ s : List UInt8, letL s = true → sgL i (backL s) = - sgL i s
  | [], _ => by simp [sgL, backL]
  | c :: s, h => by
    rw [letL_cons, Bool.and_eq_true] at h
    have e : backL (c :: s) = backL s ++ [turnB c] := by simp [backL]
    rw [e, sgL_append, sgL_back i s h.2, sgL_turn i h.1, show c :: s = [c] ++ s from rfl, sgL_append]; omega
theorem sgL_step (i : Nat) {l : List UInt8} {c : UInt8} (hc : letB c = true) : sgL i (redStep l c) = sgL i l + sgL i [c] := by
  by_cases h : l.getLast? = some (turnB c)
  · obtain ⟨p, y, rfl⟩ := last_split l (by cases l with | nil => simp at h | cons a l => simp)
    have hy : y = turnB c := by simpa using h
    subst hy
    rw [redStep_pop p (turnB c) c rfl, sgL_append, sgL_turn i hc]; omega
  · have e : redStep l c = l ++ [c] := by unfold redStep; rw [if_neg h]
    rw [e, sgL_append]
theorem sgL_red (i : Nat) : ∀ (s acc : List UInt8), letL s = true → sgL i (redL acc s) = sgL i acc + sgL i s
  | [], acc, _ => by simp [redL_nil, sgL]
  | c :: s, acc, h => by
    rw [letL_cons, Bool.and_eq_true] at h
    have e : redL acc (c :: s) = redL (redStep acc c) s := rfl
    rw [e, sgL_red i s _ h.2, sgL_step i h.1, show c :: s = [c] ++ s from rfl, sgL_append]; omega
theorem sums_get : ∀ (s : List UInt8), letL s = true → ∀ i (h : i < (sumsL s).length), (sumsL s)[i] = sgL i s := by
  intro s
  generalize hn : s.length = n
  induction n generalizing s with
  | zero =>
    intro _ i h
    obtain rfl := List.length_eq_zero_iff.1 hn
    have h4 : i < 4 := h
    rcases (show i = 0 ∨ i = 1 ∨ i = 2 ∨ i = 3 by omega) with rfl | rfl | rfl | rfl <;> rfl
  | succ n ih =>
    intro hl i h
    obtain ⟨p, c, rfl⟩ := last_split s (by omega)
    have hp : p.length = n := by rw [List.length_append] at hn; simp at hn; exact hn
    rw [letL_append, Bool.and_eq_true] at hl
    have hc : letB c = true := by have := hl.2; simp [letL] at this; exact this
    have h4 := (sumsL_inv p hl.1).1
    have hi := idxB_lt c hc
    have h4s := (sumsL_inv (p ++ [c]) (by rw [letL_append, hl.1, hl.2]; rfl)).1
    have hi4 : i < (sumsL p).length := by omega
    have h1 := ih p hp hl.1 i hi4
    have e : sumsL (p ++ [c]) = (sumsL p).set (idxB c) ((sumsL p)[idxB c]?.getD 0 + sgnB c) := sumsL_snoc p c
    simp only [e]
    rw [List.getElem_set, sgL_append, ← h1]
    simp only [sgL]
    by_cases hic : idxB c = i
    · subst hic
      rw [if_pos rfl, if_pos rfl, List.getElem?_eq_getElem hi4]
      simp
    · rw [if_neg hic, if_neg hic]; omega
theorem sums_eq {s t : List UInt8} (hs : letL s = true) (ht : letL t = true) (h : ∀ i, i < 4 → sgL i s = sgL i t) : sumsL s = sumsL t := by
  have h1 := (sumsL_inv s hs).1
  have h2 := (sumsL_inv t ht).1
  refine List.ext_getElem (by omega) fun i hi hj => ?_
  rw [sums_get s hs, sums_get t ht]
  exact h i (by omega)
/-! ### Powers -/
theorem powL_next {s : List UInt8} (hl : letL s = true) (n : Int) : redL [] (powL (n + 1) s) = redL [] (powL n s ++ s) := by
  unfold powL
  by_cases h : n < 0
  · rw [if_pos h]
    obtain ⟨m, hm⟩ : ∃ m : Nat, n.natAbs = m + 1 := ⟨n.natAbs - 1, by omega⟩
    have e1 : repL n.natAbs (backL s) = repL m (backL s) ++ backL s := by rw [hm, ← repL_add m 1, repL_one]
    rw [e1, red_inv2 hl]
    by_cases h2 : n + 1 < 0
    · rw [if_pos h2, show (n + 1).natAbs = m by omega]
    · rw [if_neg h2, show (n + 1).natAbs = 0 by omega, show m = 0 by omega]; rfl
  · rw [if_neg h, if_neg (show ¬ n + 1 < 0 by omega), show (n + 1).natAbs = n.natAbs + 1 by omega, ← repL_add n.natAbs 1, repL_one]

end Go.Proofs.Ytakfobihakbefaa

/- Commutators, parity, cores and putting, over lists of letters. -/

namespace Go.Proofs.Ytakfobihakbefaa
open Go.RowKit

/-! ### Commutators -/
theorem comm_back {a b : List UInt8} (ha : letL a = true) (hb : letL b = true) : backL (commL a b) = commL b a := by
  unfold commL
  rw [backL_append, backL_append, backL_append, back_back a ha, back_back b hb]
  simp
theorem comm_let {a b : List UInt8} (ha : letL a = true) (hb : letL b = true) : letL (commL a b) = true := by
  unfold commL
  rw [letL_append, letL_append, letL_append, ha, hb, letL_back a ha, letL_back b hb]; rfl
theorem comm_sg (i : Nat) {a b : List UInt8} (ha : letL a = true) (hb : letL b = true) : sgL i (commL a b) = 0 := by
  unfold commL
  rw [sgL_append, sgL_append, sgL_append, sgL_back i a ha, sgL_back i b hb]; omega
/-- A commutator ahead of the product the other way. -/
theorem comm_times {a b : List UInt8} (ha : letL a = true) (hb : letL b = true) : redL [] (commL a b ++ (b ++ a)) = redL [] (a ++ b) := by
  unfold commL
  rw [show a ++ b ++ backL a ++ backL b ++ (b ++ a) = (a ++ b ++ backL a ++ backL b ++ b) ++ a by simp, redL_append, red_inv2 hb, ← redL_append, red_inv2 ha]
theorem sums_comm {a b : List UInt8} (ha : letL a = true) (hb : letL b = true) : sumsL (redL [] (commL a b)) = [0, 0, 0, 0] := by
  have hl := letL_red2 _ [] (comm_let ha hb) rfl
  have h4 := (sumsL_inv _ hl).1
  refine List.ext_getElem (by rw [h4]; rfl) fun i hi hj => ?_
  rw [sums_get _ hl, sgL_red i _ [] (comm_let ha hb), comm_sg i ha hb]
  have hj4 : i < 4 := hj
  rcases (show i = 0 ∨ i = 1 ∨ i = 2 ∨ i = 3 by omega) with rfl | rfl | rfl | rfl <;> rfl
/-! ### Parity -/
theorem step_parity (l : List UInt8) (c : UInt8) : ∃ k, (redStep l c).length + 2 * k = l.length + 1 := by
  unfold redStep
  split
  · refine ⟨1, ?_⟩
    rename_i h
    cases l with
    | nil => simp at h
    | cons a r => simp
  · exact ⟨0, by simp⟩
theorem red_parity : ∀ (s l : List UInt8), ∃ k, (redL l s).length + 2 * k = l.length + s.length
  | [], l => ⟨0, by simp [redL_nil]⟩
  | c :: s, l => by
    obtain ⟨k, hk⟩ := step_parity l c
    obtain ⟨j, hj⟩ := red_parity s (redStep l c)
    refine ⟨k + j, ?_⟩
    have e : redL l (c :: s) = redL (redStep l c) s := rfl
    rw [e, List.length_cons]; omega
/-! ### Cores -/
theorem coreF_core : ∀ (m : Nat) (l : List UInt8), l.length ≤ m → coreC (coreF m l) = false
  | 0, l, h => by
    have : l = [] := List.length_eq_zero_iff.1 (by omega)
    subst this
    rfl
  | m + 1, l, h => by
    rw [coreF]
    split
    · rename_i hc
      have h1 : 1 < l.length := by unfold coreC at hc; simp only [Bool.and_eq_true, decide_eq_true_eq] at hc; exact hc.1
      exact coreF_core m _ (by rw [core_len]; omega)
    · rename_i hc; simpa using hc
theorem core_core (l : List UInt8) : coreL (coreL l) = coreL l := coreF_false (coreF_core l.length l (Nat.le_refl _)) _
theorem core_le (l : List UInt8) : (coreL l).length ≤ l.length := coreF_len _ _
theorem core_ends {l : List UInt8} (hl : letL l = true) (hc : coreC l = true) : ∃ c, letB c = true ∧ l = [turnB c] ++ l.tail.dropLast ++ [c] := by
  have h1 : 1 < l.length := by unfold coreC at hc; simp only [Bool.and_eq_true, decide_eq_true_eq] at hc; exact hc.1
  obtain ⟨p, c, rfl⟩ := last_split l (by omega)
  cases p with
  | nil => simp at h1
  | cons x q =>
    have hx : x = turnB c := by
      unfold coreC at hc
      simp only [Bool.and_eq_true, decide_eq_true_eq] at hc
      have h2 := hc.2
      have e : (x :: q ++ [c]).getLast? = some c := List.getLast?_concat
      rw [e] at h2
      simpa using h2
    refine ⟨c, letL_get _ hl ((x :: q ++ [c]).length - 1) (by simp) |> fun h => by simpa using h, ?_⟩
    subst hx
    simp
theorem coreF_word : ∀ (m : Nat) (l : List UInt8), letL l = true → noC l → letL (coreF m l) = true ∧ noC (coreF m l)
  | 0, l, h1, h2 => ⟨h1, h2⟩
  | m + 1, l, h1, h2 => by
    rw [coreF]
    split
    · rename_i hc
      obtain ⟨c, _, e⟩ := core_ends h1 hc
      refine coreF_word m _ (letL_core l h1) ?_
      rw [e] at h2
      intro p x y q h3
      refine h2 (turnB c :: p) x y (q ++ [c]) ?_
      rw [h3]; simp
    · exact ⟨h1, h2⟩
theorem core_word {l : List UInt8} (h : wordB l = true) : wordB (coreL l) = true := by
  obtain ⟨h1, h2, h3⟩ := (wordB_iff _).1 h
  obtain ⟨h4, h5⟩ := coreF_word l.length l h2 ((red_iff _).1 h3)
  refine (wordB_iff _).2 ⟨by have := core_le l; omega, h4, (red_iff _).2 h5⟩
theorem coreF_sg (i : Nat) : ∀ (m : Nat) (l : List UInt8), letL l = true → sgL i (coreF m l) = sgL i l
  | 0, l, h1 => rfl
  | m + 1, l, h1 => by
    rw [coreF]
    split
    · rename_i hc
      obtain ⟨c, hcl, e⟩ := core_ends h1 hc
      have h2 := coreF_sg i m _ (letL_core l h1)
      rw [h2]
      have h3 : sgL i l = sgL i ([turnB c] ++ l.tail.dropLast ++ [c]) := congrArg _ e
      rw [sgL_append, sgL_append, sgL_turn i hcl] at h3
      omega
    · rfl
theorem sums_core {l : List UInt8} (h : letL l = true) (h2 : letL (coreL l) = true) : sumsL (coreL l) = sumsL l := sums_eq h2 h fun i _ => coreF_sg i _ l h
/-! ### Putting -/
theorem img_turn (zs : List ByteArray) (hz : ∀ z ∈ zs, wordB z.data.toList = true) {c : UInt8} (hc : letB c = true) : imgL zs (turnB c) = backL (imgL zs c) := by
  have hl : letL (zs.getD (idxB c) ByteArray.empty).data.toList = true := by
    rw [List.getD_eq_getElem?_getD]
    cases h : zs[idxB c]? with
    | none => rfl
    | some z => exact ((wordB_iff _).1 (hz z (List.mem_of_getElem? h))).2.1
  have hi := (sg_turn hc).1
  unfold imgL
  rw [hi]
  have h := (letB_iff c).1 hc
  rcases h with h | h
  · have := turnB_hi c h.1
    rw [if_pos (by omega), if_neg (by omega)]
  · have := turnB_lo c (by omega)
    rw [if_neg (by omega), if_pos (by omega), back_back _ hl]
theorem putL_append (zs : List ByteArray) (a b : List UInt8) : putL zs (a ++ b) = putL zs a ++ putL zs b := by simp [putL]
theorem put_back (zs : List ByteArray) (hz : ∀ z ∈ zs, wordB z.data.toList = true) : ∀ s : List UInt8, letL s = true → putL zs (backL s) = backL (putL zs s)
  | [], _ => rfl
  | c :: s, h => by
    rw [letL_cons, Bool.and_eq_true] at h
    have e : backL (c :: s) = backL s ++ [turnB c] := by simp [backL]
    have e1 : putL zs [turnB c] = imgL zs (turnB c) := by simp [putL]
    have e2 : putL zs (c :: s) = imgL zs c ++ putL zs s := by simp [putL]
    rw [e, putL_append, put_back zs hz s h.2, e1, img_turn zs hz h.1, e2, backL_append]
def abcd : List ByteArray := [{ data := #[97] }, { data := #[98] }, { data := #[99] }, { data := #[100] }]
theorem abcd_four : fourB abcd = true := by decide +kernel
theorem abcd_tab : ∀ n : Fin 256, letB (UInt8.ofNat n.val) = true → imgL abcd (UInt8.ofNat n.val) = [UInt8.ofNat n.val] := by decide +kernel
theorem abcd_img {c : UInt8} (h : letB c = true) : imgL abcd c = [c] := by
  have := abcd_tab ⟨c.toNat, c.toNat_lt⟩
  simp only [UInt8.ofNat_toNat] at this
  exact this h
theorem abcd_put : ∀ s : List UInt8, letL s = true → putL abcd s = s
  | [], _ => rfl
  | c :: s, h => by
    rw [letL_cons, Bool.and_eq_true] at h
    have e2 : putL abcd (c :: s) = imgL abcd c ++ putL abcd s := by simp [putL]
    rw [e2, abcd_img h.1, abcd_put s h.2]; rfl
theorem put_let (zs : List ByteArray) (hz : ∀ z ∈ zs, wordB z.data.toList = true) (s : List UInt8) : letL (putL zs s) = true := (putX_eq zs s hz).2

/-! ### Words of letters that reduce to few -/
theorem word_of_red {s : List UInt8} (hl : letL s = true) (h : (redL [] s).length ≤ 60) : wordB (redL [] s) = true := (wordB_iff _).2 ⟨h, letL_red2 s [] hl rfl, red_red s⟩
theorem word_back {s : List UInt8} (h : wordB s = true) : wordB (backL s) = true := by
  obtain ⟨h1, h2, h3⟩ := (wordB_iff _).1 h
  exact (wordB_iff _).2 ⟨by rw [backL_length]; exact h1, letL_back s h2, red_back s h2 h3⟩

end Go.Proofs.Ytakfobihakbefaa

/- The contracts of the model's 'l91Four' and 'DrawWordPut'. -/

namespace Go.Proofs.Ytakfobihakbefaa
open Go.RowKit Go.Shelf

theorem Rd.past {base N : Nat} {w w' : World} {rb : Nat} {a : Option Addr} {n cap : Nat} {zs : List Int} {p : Nat} (h : Rd base w rb a n cap zs p) (hb : Below N w w') (hN : rb < N) : Rd base w' rb a n cap zs p :=
  ⟨h.lo, (hb.block rb hN).trans h.box, h.data.below (hb.mono (Nat.le_of_lt (Nat.lt_of_le_of_lt h.lo hN))), h.short⟩
theorem ownS_made2 (w : World) : OwnS w.heap.size (w.alloc (.cells #[] 9)) (.slice (some ⟨w.heap.size, 0, none⟩) 0 0) [] :=
  World.ownsRow_made w #[] 0 (Nat.le_refl _) (Nat.zero_le _) rfl
theorem OwnS.kept {base : Nat} {w w' : World} {v : Value} {zs : List ByteArray} (h : OwnS base w v zs) {rb : Nat} (hg : w.grownBy w' (some rb)) (hr : rb < base) : OwnS base w' v zs :=
  World.ownsRow.kept h hg (by
    cases hv : v.ownBlock with
    | none => exact .inl rfl
    | some k => exact .inr fun e => by have := (h.lt k hv).1; cases e; omega)

theorem StrsIn.taken {w : World} {g n : Nat} {zs : List ByteArray} (h : StrsIn w (some ⟨g, 0, none⟩) g n zs) (k : Nat) (hk : k ≤ n) : StrsIn w (some ⟨g, 0, none⟩) g k (zs.take k) :=
  ⟨by rw [List.length_take, h.len]; omega, fun _ => rfl, h.blk, fun i hi => by rw [List.getElem_take]; exact h.cells i (by rw [List.length_take] at hi; omega), fun s hs => h.small s (List.mem_of_mem_take hs)⟩
theorem StrsIn.at_ {w : World} {g n : Nat} {zs : List ByteArray} (h : StrsIn w (some ⟨g, 0, none⟩) g n zs) : StrsAt w (some ⟨g, 0, none⟩) zs :=
  ⟨fun _ => ⟨_, rfl, h.blk, fun i hi => by
    have e : (⟨g, 0, none⟩ : Addr).add i = ⟨g, i, none⟩ := by unfold Addr.add; split <;> simp_all
    rw [e]; exact h.cells i hi⟩, h.small⟩
theorem strsIn_abcd (w : World) : StrsIn (w.alloc (.cells #[.string { data := #[97] }, .string { data := #[98] }, .string { data := #[99] }, .string { data := #[100] }] 9)) (some ⟨w.heap.size, 0, none⟩) w.heap.size 4 abcd :=
  ⟨rfl, fun _ => rfl, by simp, fun j hj => by
    have hj4 : j < 4 := hj
    rcases (show j = 0 ∨ j = 1 ∨ j = 2 ∨ j = 3 by omega) with rfl | rfl | rfl | rfl <;> exact (World.cell?_alloc_at _ _ _ _ (by simp)).trans rfl, by
    have : ∀ s ∈ abcd, s.size = 1 := by decide
    intro s hs
    rw [this s hs]; unfold maxLen; omega⟩

/-- Few texts that lie in a block of the call's own. -/
def FourS (base : Nat) (w' : World) (v : Value) : Prop := ∃ g c n zs, v = .slice (some ⟨g, 0, none⟩) n c ∧ base ≤ g ∧ StrsIn w' (some ⟨g, 0, none⟩) g n zs ∧ n ≤ 4 ∧ ∀ z ∈ zs, z.size ≤ 4

theorem _root_.Go.World.grownBy.past {w w1 w2 : World} {rb N : Nat} (hg : w.grownBy w1 (some rb)) (hb : Below N w1 w2) (hN : w.heap.size ≤ N := by omega) : w.grownBy w2 (some rb) :=
  ⟨hb.os.trans hg.os, hb.tape.trans hg.tape, hb.output.trans hg.output, Nat.le_trans hg.size hb.size, fun k hk hne => (hb.block k (by omega)).trans (hg.block k hk hne)⟩
theorem FourS.mono {b1 b2 : Nat} {w : World} {v : Value} (h : FourS b1 w v) (hb : b2 ≤ b1) : FourS b2 w v := by
  obtain ⟨g, c, n, ts, rfl, h1, h2⟩ := h
  exact ⟨g, c, n, ts, rfl, Nat.le_trans hb h1, h2⟩

end Go.Proofs.Ytakfobihakbefaa

/- The contracts of the model's draws of polynomials. -/

namespace Go.Proofs.Ytakfobihakbefaa
open Go.RowKit Go.Shelf

/-- A small polynomial of the draw's own, seldom none. -/
structure SmallP (base : Nat) (w : World) (low : Int) (v : Value) (zs : List Int) : Prop where
  row : IntRow base w v zs
  len : zs.length ≤ 4
  lo : -10 ≤ low ∧ low ≤ 10
  cs : ∀ i, -4 ≤ zs.getD i 0 ∧ zs.getD i 0 ≤ 4
theorem SmallP.below {base : Nat} {w w' : World} {low : Int} {v : Value} {zs : List Int} (h : SmallP base w low v zs) (hb : Below w.heap.size w w') : SmallP base w' low v zs := ⟨rowPast h.row hb, h.len, h.lo, h.cs⟩
theorem SmallP.grown {base B : Nat} {w w' : World} {low : Int} {v : Value} {zs : List Int} (h : SmallP base w low v zs) (hg : w.grownBy w' (some B)) (hB : B < base) : SmallP base w' low v zs := by
  refine ⟨?_, h.len, h.lo, h.cs⟩
  have hr := h.row
  unfold IntRow at hr ⊢
  refine hr.kept hg ?_
  cases e : v.ownBlock with
  | none => exact .inl rfl
  | some j => exact .inr fun e2 => by have := own_ge hr j e; simp only [Option.some.injEq] at e2; omega
theorem SmallP.mono {b1 b2 : Nat} {w : World} {low : Int} {v : Value} {zs : List Int} (h : SmallP b1 w low v zs) (hb : b2 ≤ b1) : SmallP b2 w low v zs := ⟨h.row.mono hb, h.len, h.lo, h.cs⟩
theorem SmallP.pin {base : Nat} {w : World} {low : Int} {v : Value} {zs : List Int} (h : SmallP base w low v zs) : ∃ a c, v = .slice a zs.length c ∧ PIn w a zs.length c zs := by
  obtain ⟨a, c, rfl, hc, hi⟩ := h.row.readc (fun z hz => by
    obtain ⟨i, hi, rfl⟩ := List.mem_iff_getElem.1 hz
    have := h.cs i
    rw [List.getD_eq_getElem?_getD, List.getElem?_eq_getElem hi] at this
    have : -4 ≤ zs[i] ∧ zs[i] ≤ 4 := this
    omega)
  exact ⟨a, c, rfl, hi, hc⟩
theorem tidy_small {low : Int} {l : List Int} (hl : l.length ≤ 4) (hlo : -3 ≤ low ∧ low ≤ 3) (hc : ∀ i, -4 ≤ l.getD i 0 ∧ l.getD i 0 ≤ 4) : (tidyP low l).cs.length ≤ 4 ∧ (-10 ≤ (tidyP low l).low ∧ (tidyP low l).low ≤ 10) ∧ ∀ i, -4 ≤ (tidyP low l).cs.getD i 0 ∧ (tidyP low l).cs.getD i 0 ≤ 4 := by
  have h1 := tidy_len low l
  have h2 := zfrom_le l
  refine ⟨by omega, ?_, fun i => ?_⟩
  · unfold tidyP
    split
    · show -10 ≤ (0 : Int) ∧ (0 : Int) ≤ 10; omega
    · show -10 ≤ low + (zfrom l : Int) ∧ low + (zfrom l : Int) ≤ 10; omega
  · rw [← pat_at (tidyP low l) i, tidy_pat]
    unfold pat
    split
    · exact hc _
    · omega
theorem snoc_small {l : List Int} {z : Int} (hc : ∀ i, -4 ≤ l.getD i 0 ∧ l.getD i 0 ≤ 4) (hz : -4 ≤ z ∧ z ≤ 4) : ∀ i, -4 ≤ (l ++ [z]).getD i 0 ∧ (l ++ [z]).getD i 0 ≤ 4 := fun i => by
  by_cases h : i < l.length
  · rw [List.getD_eq_getElem?_getD, List.getElem?_append_left h, ← List.getD_eq_getElem?_getD]; exact hc i
  · by_cases h2 : i = l.length
    · subst h2
      rw [List.getD_eq_getElem?_getD, List.getElem?_append_right (Nat.le_refl _), Nat.sub_self]
      exact hz
    · rw [getD_far (by simp; omega)]; omega
theorem set_small {l : List Int} (hc : ∀ i, -4 ≤ l.getD i 0 ∧ l.getD i 0 ≤ 4) : ∀ i, -4 ≤ (l.set 0 0).getD i 0 ∧ (l.set 0 0).getD i 0 ≤ 4 := fun i => by
  rw [List.getD_eq_getElem?_getD, List.getElem?_set]
  split
  · split
    · simp
    · simp
  · rw [← List.getD_eq_getElem?_getD]; exact hc i

theorem l92_close {base rb n cap p q b : Nat} {a : Option Addr} {zs : List Int} {w V : World} {ql : Int} {v : Value} {qc : List Int} (hrb : rb < w.heap.size) (hrow : IntRow b V v qc) (hb : w.heap.size < b) (hlo : base ≤ rb) (hlen : qc.length ≤ 4) (hl : -10 ≤ ql ∧ ql ≤ 10) (hc : ∀ i, -4 ≤ qc.getD i 0 ∧ qc.getD i 0 ≤ 4)
    (hR : Rd base V rb a n cap zs q) (hq : q ≤ p + 10) (hB : Below base w V) (hG : w.grownBy V (some rb)) :
    (∃ low v' cs, Ending.returned (plV ql v) = .returned (plV low v') ∧ SmallP w.heap.size ((V.setCell ⟨w.heap.size, 0, none⟩ (.int .i64 ql)).setCell ⟨w.heap.size, 1, none⟩ v) low v' cs) ∧ (∃ p', p' ≤ p + 10 ∧ Rd base ((V.setCell ⟨w.heap.size, 0, none⟩ (.int .i64 ql)).setCell ⟨w.heap.size, 1, none⟩ v) rb a n cap zs p') ∧ Below base w ((V.setCell ⟨w.heap.size, 0, none⟩ (.int .i64 ql)).setCell ⟨w.heap.size, 1, none⟩ v) ∧ w.grownBy ((V.setCell ⟨w.heap.size, 0, none⟩ (.int .i64 ql)).setCell ⟨w.heap.size, 1, none⟩ v) (some rb) := by
  have hs : Below w.heap.size V ((V.setCell ⟨w.heap.size, 0, none⟩ (.int .i64 ql)).setCell ⟨w.heap.size, 1, none⟩ v) := ((Below.refl w.heap.size V).setCell (p := ⟨w.heap.size, 0, none⟩) (Nat.le_refl _) _).setCell (p := ⟨w.heap.size, 1, none⟩) (Nat.le_refl _) _
  refine ⟨⟨ql, v, qc, rfl, (row_others hrow fun j e => ?_).mono (by omega), hlen, hl, hc⟩, ⟨q, hq, hR.past hs (by omega)⟩, hB.trans (hs.mono (by omega)), hG.past hs (Nat.le_refl _)⟩
  have := own_ge hrow j e
  omega

set_option maxRecDepth 100000 in
set_option maxHeartbeats 3000000 in
theorem l92Poly_any (base rb : Nat) (a : Option Addr) (n cap : Nat) (zs : List Int) (p : Nat) (w : World) (h : Rd base w rb a n cap zs p) (hp : p ≤ 80000) :
    Calls Try.prog 68 #[.pointer (some ⟨rb, 0, none⟩)] w fun e w' => (∃ low v cs, e = .returned (plV low v) ∧ SmallP w.heap.size w' low v cs) ∧ (∃ p', p' ≤ p + 10 ∧ Rd base w' rb a n cap zs p') ∧ Below base w w' ∧ w.grownBy w' (some rb) := by
  obtain ⟨i0, hi, hz0, hz1, hz2⟩ := info_parts infoInt
  have hlo := h.lo
  have hrl := h.lt
  obtain ⟨X1, hX1⟩ : ∃ X, w.alloc (.cells #[.int .i64 0, .slice none 0 0] 25) = X := ⟨_, rfl⟩
  obtain ⟨W, hW⟩ : ∃ X, X1.alloc (.cells #[] 3) = X := ⟨_, rfl⟩
  have s1 : X1.heap.size = w.heap.size + 1 := by rw [← hX1]; simp
  have s2 : W.heap.size = w.heap.size + 2 := by rw [← hW]; simp [s1]
  have b1 : Below w.heap.size w X1 := by rw [← hX1]; exact (Below.refl _ w).alloc (Nat.le_refl _) _
  have b2 : Below X1.heap.size X1 W := by rw [← hW]; exact (Below.refl _ _).alloc (Nat.le_refl _) _
  have bW : Below w.heap.size w W := b1.trans (b2.mono (by omega))
  have hF0 : BoxF W w.heap.size (.int .i64 0) (.slice none 0 0) := (BoxF.new hX1).below b2
  have hO0 : W.ownsRow (w.heap.size + 1) 3 1 (.slice (some ⟨w.heap.size + 1, 0, none⟩) 0 0) 0 (intsV []) := by
    have h := made_at X1 (w.heap.size + 1) s1 (w.heap.size + 1) (Nat.le_refl _)
    rwa [hW] at h
  have H := Lib.hid (h.below bW)
  have HBA := Lib.hid bW
  have HF0 := Lib.hid hF0
  have HO0 := Lib.hid hO0
  have hWW : (w.alloc (.cells #[.int .i64 0, .slice none 0 0] 25)).alloc (.cells #[] 3) = W := by rw [hX1, hW]
  have HWW := Lib.hid hWW
  have HS2 := Lib.hid s2
  clear h hX1 hW s1 b1 b2 bW hF0 hO0 hWW s2
  go_enter Try.func68, Try.ntmps68
  go_wp2_with fail
  rw [HWW.out]
  refine (pick_any base rb a n cap zs p 5 W H.out (by omega) (by omega) (by omega)).mono ?_
  rintro e w1 ⟨⟨N, rfl, hN⟩, hR1, hB1, hG1⟩
  have hs2 := HS2.out
  have HO1 : Hid (w1.ownsRow (w.heap.size + 1) 3 1 (.slice (some ⟨w.heap.size + 1, 0, none⟩) 0 0) 0 (intsV [])) := Lib.hid (HO0.out.kept hG1 (.inr (by simp [Value.ownBlock]; omega)))
  have HF1 := Lib.hid (HF0.out.grown hG1 (by simp; omega))
  have HR1 := Lib.hid hR1
  have HB1 := Lib.hid ((HBA.out.mono (by omega)).trans hB1)
  have HG1 := Lib.hid ((grownAny_of_below HBA.out (some rb)).trans hG1)
  have hs1 : w.heap.size + 1 < w1.heap.size := by have := hG1.size; omega
  clear hR1 hB1 hG1
  go_wp2_with fail
  go_loopw [3, 5] (fun v i wr => ∃ (k q : Nat) (cs : List Int), k ≤ N ∧ i = .int .i64 (k : Int) ∧ q ≤ p + 1 + k ∧ Hid (cs.length = k ∧ (∀ i, -4 ≤ cs.getD i 0 ∧ cs.getD i 0 ≤ 4) ∧ wr.ownsRow (w.heap.size + 1) 3 1 v k (intsV cs) ∧ BoxF wr w.heap.size (.int .i64 0) (.slice none 0 0) ∧ Rd base wr rb a n cap zs q ∧ Below base w wr ∧ w.grownBy wr (some rb)) ∧ w.heap.size + 1 < wr.heap.size) (fun _ i _ => N - (intOf i).toNat)
  case atStart => exact ⟨0, p + 1, [], Nat.zero_le _, rfl, by omega, Lib.hid ⟨rfl, fun i => by simp, HO1.out, HF1.out, HR1.out, HB1.out, HG1.out⟩, hs1⟩
  case round =>
    obtain ⟨k, q, cs, hk, rfl, hq, HH, hsz⟩ := hrel
    by_cases hlt : k < N
    · have hli : (k : Int) < (N : Int) := by omega
      go_wp2_with fail
      refine (pick_any base rb a n cap zs q 9 wr HH.out.2.2.2.2.1 (by omega) (by omega) (by omega)).mono ?_
      rintro e w4 ⟨⟨z, rfl, hz⟩, hR4, hB4, hG4⟩
      obtain ⟨h1, h2, h3, h4, h5, h6, h7⟩ := HH.out
      have ho4 : w4.ownsRow (w.heap.size + 1) 3 1 u3 k (intsV cs) := h3.kept hG4 (.inr fun e => by have := own_ge h3 rb e; omega)
      have HO4 := Lib.hid (ho4.alloc (.cells #[.int .i64 ((z : Int) - 4)] 3))
      have HOG := Lib.hid (own_ge ho4)
      have HF4 := Lib.hid (h4.grown hG4 (by simp; omega))
      have HR4 := Lib.hid hR4
      have HB4 := Lib.hid (h6.trans hB4)
      have HG4 := Lib.hid (h7.trans hG4)
      have hs4 := hG4.size
      have HL := Lib.hid h1
      have HC := Lib.hid h2
      have e1 : IntKind.i64.wrap ((z : Int) - 4) = (z : Int) - 4 := IntWalk.i64_in _ (by omega)
      have HNB := Lib.hid (World.news_of_block (cs := #[.int .i64 ((z : Int) - 4)]) (t := 3) (fr := (0, 0)) (World.alloc_heap_new w4 (.cells #[.int .i64 ((z : Int) - 4)] 3)))
      clear hR4 hB4 hG4 h1 h2 h3 h4 h5 h6 h7 ho4
      go_wp2_with (at_builtin; refine wpList_append_own _ rfl _ _ 23 rfl (w.heap.size + 1) 3 i0 (.int .i64 0) 1 8 Try.underlying23 hi hz0 hz1 hz2 rfl (by decide) _ k _ rfl HO4.out ⟨w4.heap.size, 0, none⟩ 1 1 [.int .i64 ((z : Int) - 4)] rfl rfl HNB.out (fun u hu => by simp at hu; rcases hu with rfl; rfl) (by unfold maxLen; omega) (by omega) (by simp; omega) ?_; intro v1 w7 hrow hgrow hnil)
      have hB57 : Below (w.heap.size + 1) w4 w7 := ((Below.refl (w.heap.size + 1) w4).alloc (by omega) _).grown hgrow (by simp; omega) (fun j e => HOG.out j e)
      have hs7 := hB57.size
      refine ⟨⟨k + 1, q + 1, cs ++ [(z : Int) - 4], by omega, by go_num, by omega, Lib.hid ⟨by rw [List.length_append, HL.out]; rfl, snoc_small HC.out (by omega), ?_, HF4.out.grown (grownTrans (World.grownBy_alloc w4 _ _) hgrow) (fun e => by have := HOG.out _ e.symm; omega), HR4.out.past hB57 (by omega), HB4.out.trans (hB57.mono (by omega)), HG4.out.past hB57⟩, by omega⟩, by simp [intOf]; omega⟩
      have h := hrow
      unfold intsV at h ⊢
      rw [List.map_append]
      exact h
    · obtain rfl : k = N := by omega
      go_wp2_with fail
      refine (pick_any base rb a n cap zs q 7 wr HH.out.2.2.2.2.1 (by omega) (by omega) (by omega)).mono ?_
      rintro e w4 ⟨⟨z, rfl, hz⟩, hR4, hB4, hG4⟩
      obtain ⟨h1, h2, h3, h4, h5, h6, h7⟩ := HH.out
      have ho4 : w4.ownsRow (w.heap.size + 1) 3 1 u3 k (intsV cs) := h3.kept hG4 (.inr fun e => by have := own_ge h3 rb e; omega)
      have hrow : IntRow (w.heap.size + 1) w4 u3 cs := rowI ho4 h1
      obtain ⟨a6, c6, rfl, hc6, hi6⟩ := hrow.readc (fun z hz => by
        obtain ⟨i, hi, rfl⟩ := List.mem_iff_getElem.1 hz
        have := h2 i
        rw [List.getD_eq_getElem?_getD, List.getElem?_eq_getElem hi] at this
        have : -4 ≤ cs[i] ∧ cs[i] ≤ 4 := this
        omega)
      rw [h1] at hi6 hc6 ⊢
      have HF4 := Lib.hid (h4.grown hG4 (by simp; omega))
      have HR4 := Lib.hid hR4
      have HB4 := Lib.hid (h6.trans hB4)
      have HG4 := Lib.hid (h7.trans hG4)
      have hs4 := hG4.size
      obtain ⟨t1, t2, t3⟩ := tidy_small (low := (z : Int) - 3) (l := cs) (by omega) (by omega) h2
      have e1 : IntKind.i64.wrap ((z : Int) - 3) = (z : Int) - 3 := IntWalk.i64_in _ (by omega)
      have HTI := Lib.hid (l6pTidy_any ((z : Int) - 3) cs a6 c6 k w4 hi6 hc6 (by omega) (by omega) (by omega))
      obtain ⟨Q, hQ⟩ : ∃ Q, tidyP ((z : Int) - 3) cs = Q := ⟨_, rfl⟩
      rw [hQ] at HTI t1 t2 t3
      have HT2 := Lib.hid t2
      have HT3 := Lib.hid t3
      clear hR4 hB4 hG4 h1 h2 h3 h4 h5 h6 h7 ho4 hrow hi6 hQ t2 t3
      go_wp2_with fail
      refine HTI.out.mono ?_
      rintro e w5 ⟨⟨v, rfl, hr5⟩, hb5⟩
      obtain ⟨ql, qc⟩ := Q
      obtain ⟨m, hm⟩ : ∃ m, qc.length = m := ⟨_, rfl⟩
      have hsh := hr5.shape
      obtain ⟨a7, g7, c7, rfl, hg7, _⟩ := hsh
      have hs5 := hb5.size
      rw [show (⟨ql, qc⟩ : Pl).low = ql from rfl, show (⟨ql, qc⟩ : Pl).cs.length = m from hm]
      have hg7 : 0 < m → a7 = some ⟨g7, 0, none⟩ ∧ w4.heap.size ≤ g7 ∧ g7 < w5.heap.size := fun h => hg7 (by show 0 < qc.length; rw [hm]; exact h)
      have hr5 : w5.ownsRow w4.heap.size 3 1 (.slice a7 m c7) m (intsV qc) := by
        have h := hr5
        unfold IntRow at h
        rw [show (⟨ql, qc⟩ : Pl).cs.length = m from hm] at h
        exact h
      obtain ⟨V, hV⟩ : ∃ V, w5.alloc (.cells #[.int .i64 ql, .slice a7 m c7] 25) = V := ⟨_, rfl⟩
      have hbV : Below w5.heap.size w5 V := by rw [← hV]; exact (Below.refl _ _).alloc (Nat.le_refl _) _
      have hb4V : Below w4.heap.size w4 V := hb5.trans (hbV.mono hs5)
      have HBX := Lib.hid (BoxF.new hV)
      have HRW := Lib.hid (rowPast hr5 hbV)
      have HFV := Lib.hid (HF4.out.below hb4V)
      have HRV := Lib.hid (HR4.out.below hb4V)
      have HBV := Lib.hid (HB4.out.trans (hb4V.mono (by omega)))
      have HGV := Lib.hid (HG4.out.trans (grownAny_of_below hb4V _))
      have hsV := hb4V.size
      have hp := HBX.out
      rw [← hV] at hp
      obtain ⟨_, q0, q1, _, _⟩ := hp
      have HV := Lib.hid hV
      have HM := Lib.hid hm
      have hm4 : m ≤ 4 := by rw [← hm]; exact t1
      have hw5 : w5.heap.size < V.heap.size := by rw [← hV]; simp
      clear hr5 hb5 hV hbV hb4V hm t1
      by_cases hm0 : m = 0
      · subst hm0
        have hd : decide ((0 : Int) < ((0 : Nat) : Int)) = false := rfl
        obtain ⟨_, e0, e1, f0, f1⟩ := HFV.out
        have d0 := e0
        have d1 := e1
        rw [← HV.out] at d0 d1 f0 f1
        clear hg7
        go_wp2_with fail
        rw [HV.out]
        clear d0 d1
        refine bodyPost_ret (v := plV ql (.slice a7 0 c7)) ?_ rfl (l92_close (b := w4.heap.size) hrl (rowI HRW.out HM.out) (by omega) hlo (by rw [HM.out]; omega) HT2.out HT3.out HRV.out (by omega) HBV.out HGV.out)
        simp [results, Try.results68, go_sem, e0, e1, plV]
      · have hd : decide ((0 : Int) < (m : Int)) = true := decide_eq_true (by omega)
        have hdi : (0 : Int) < (m : Int) := by omega
        obtain ⟨rfl, hga, hgb⟩ := hg7 (by omega)
        clear hg7
        go_wp2_with fail
        rw [HV.out]
        refine (pick_any base rb a n cap zs (q + 1) 30 V HRV.out (by omega) (by omega) (by omega)).mono ?_
        rintro e w6 ⟨⟨z3, rfl, hz3⟩, hR6, hB6, hG6⟩
        have HBX6 := Lib.hid (HBX.out.grown hG6 (by simp; omega))
        have HF6 := Lib.hid (HFV.out.grown hG6 (by simp; omega))
        have HRW6 := Lib.hid (HRW.out.kept hG6 (.inr fun e => by have := own_ge HRW.out rb e; omega))
        have HR6 := Lib.hid hR6
        have HB6 := Lib.hid (HBV.out.trans hB6)
        have HG6 := Lib.hid (HGV.out.trans hG6)
        have hs6 := hG6.size
        clear hR6 hB6 hG6 q0 q1
        obtain ⟨_, q0, q1, _, _⟩ := HBX6.out
        obtain ⟨_, e0, e1, f0, f1⟩ := HF6.out
        by_cases hz0 : z3 = 0
        · subst hz0
          obtain ⟨zc, hzc⟩ : ∃ z, qc[0]? = some z := by
            have : 0 < qc.length := by rw [HM.out]; omega
            exact ⟨_, List.getElem?_eq_getElem this⟩
          have ec : w6.cell? ⟨g7, 0, none⟩ = some (.int .i64 zc) := by
            rw [HRW6.out.cellAt 0 (by omega)]
            simp [intsV, hzc]
          have ef := HRW6.out.frozenAt 0
          have hst := (HRW6.out.stored 0 (.int .i64 0))
          obtain ⟨U, hU⟩ : ∃ U, w6.setCell ⟨g7, 0, none⟩ (.int .i64 0) = U := ⟨_, rfl⟩
          rw [hU] at hst
          obtain ⟨hs1', hs2'⟩ := hst
          have HRU : Hid (U.ownsRow w4.heap.size 3 1 (.slice (some ⟨g7, 0, none⟩) m c7) m (intsV (qc.set 0 0))) := Lib.hid (by
            have h := hs1'
            unfold intsV at h ⊢
            rw [List.map_set]
            exact h)
          have hbU : Below w4.heap.size w6 U := by rw [← hU]; exact (Below.refl w4.heap.size w6).setCell (p := ⟨g7, 0, none⟩) hga _
          have HFU := Lib.hid (HF6.out.grown hs2' (by simp; omega))
          have HBXU := Lib.hid (HBX6.out.grown hs2' (by simp; omega))
          have HRdU := Lib.hid (HR6.out.past hbU (by omega))
          have HBU := Lib.hid (HB6.out.trans (hbU.mono (by omega)))
          have HGU := Lib.hid (HG6.out.past hbU (by omega))
          obtain ⟨_, x0, x1, _, _⟩ := HBXU.out
          obtain ⟨_, y0, y1, y2, y3⟩ := HFU.out
          have z0 := y0
          have z1 := y1
          rw [← hU] at x0 x1 y0 y1 y2 y3
          have HU := Lib.hid hU
          clear hU hs1' hs2' hbU hzc e0 e1 f0 f1
          go_wp2_with fail
          rw [HU.out]
          clear y0 y1
          refine bodyPost_ret (v := plV ql (.slice (some ⟨g7, 0, none⟩) m c7)) ?_ rfl (l92_close (b := w4.heap.size) hrl (rowI HRU.out (by rw [List.length_set]; exact HM.out)) (by omega) hlo (by rw [List.length_set, HM.out]; omega) HT2.out (set_small HT3.out) HRdU.out (by omega) HBU.out HGU.out)
          simp [results, Try.results68, go_sem, z0, z1, plV]
        · have hzi : ((z3 : Int) == 0) = false := by simpa using hz0
          have hzn : ¬ (z3 : Int) = 0 := by omega
          go_wp2_with fail
          refine bodyPost_ret (v := plV ql (.slice (some ⟨g7, 0, none⟩) m c7)) ?_ rfl (l92_close (b := w4.heap.size) hrl (rowI HRW6.out HM.out) (by omega) hlo (by rw [HM.out]; omega) HT2.out HT3.out HR6.out (by omega) HB6.out HG6.out)
          simp [results, Try.results68, go_sem, e0, e1, plV]

end Go.Proofs.Ytakfobihakbefaa

/- The contracts of the model's draws of two polynomials. -/

namespace Go.Proofs.Ytakfobihakbefaa
open Go.RowKit Go.Shelf

theorem BsAt.more {b1 b2 : Nat} {w : World} {a : Option Addr} {n cap : Nat} {zs : List Int} (h : BsAt b1 w a n cap zs) (hb : b1 ≤ b2) : BsAt b2 w a n cap zs :=
  ⟨h.len, h.fit, fun h0 => by obtain ⟨x, e, hx, hc⟩ := h.at_ h0; exact ⟨x, e, by omega, hc⟩, h.byte⟩
theorem SmallP.others {b B : Nat} {w : World} {low : Int} {v : Value} {zs : List Int} (x y : Value) (h : SmallP b w low v zs) (hB : B < b) : SmallP b ((w.setCell ⟨B, 0, none⟩ x).setCell ⟨B, 1, none⟩ y) low v zs := h.grown (grown_cells w B x y) hB
/-- Two answers' cells. -/
theorem resTwo {w W w1 : World} (hW : (w.alloc (.cells #[.int .i64 0, .slice none 0 0] 25)).alloc (.cells #[.int .i64 0, .slice none 0 0] 25) = W) (hb : Below W.heap.size W w1) :
    BoxF w1 w.heap.size (.int .i64 0) (.slice none 0 0) ∧ BoxF w1 (w.heap.size + 1) (.int .i64 0) (.slice none 0 0) := by
  obtain ⟨X, hX⟩ : ∃ X, w.alloc (.cells #[.int .i64 0, .slice none 0 0] 25) = X := ⟨_, rfl⟩
  rw [hX] at hW
  have hs : X.heap.size = w.heap.size + 1 := by rw [← hX]; simp
  have h2 := BoxF.new hW
  rw [hs] at h2
  have hbX : Below X.heap.size X W := by rw [← hW]; exact (Below.refl _ _).alloc (Nat.le_refl _) _
  exact ⟨((BoxF.new hX).below hbX).below hb, h2.below hb⟩
theorem resTwoBelow {w W : World} (hW : (w.alloc (.cells #[.int .i64 0, .slice none 0 0] 25)).alloc (.cells #[.int .i64 0, .slice none 0 0] 25) = W) : Below w.heap.size w W ∧ W.heap.size = w.heap.size + 2 := by
  subst hW
  exact ⟨((Below.refl _ w).alloc (Nat.le_refl _) _).alloc (by simp) _, by simp⟩
theorem setTwoBelow {b r : Nat} {w w1 : World} (x y u v : Value) (h : Below b w w1) (hb : b ≤ r) : Below b w ((((w1.setCell ⟨r, 0, none⟩ x).setCell ⟨r, 1, none⟩ y).setCell ⟨r + 1, 0, none⟩ u).setCell ⟨r + 1, 1, none⟩ v) :=
  (((h.setCell (p := ⟨r, 0, none⟩) hb x).setCell (p := ⟨r, 1, none⟩) hb y).setCell (p := ⟨r + 1, 0, none⟩) (Nat.le_succ_of_le hb) u).setCell (p := ⟨r + 1, 1, none⟩) (Nat.le_succ_of_le hb) v
/-- What a draw of two polynomials comes to. -/
def TwoP (w : World) (e : Ending) (w' : World) : Prop := (∃ l1 v1 x l2 v2 y, e = .returned (.tuple #[plV l1 v1, plV l2 v2]) ∧ SmallP w.heap.size w' l1 v1 x ∧ SmallP w.heap.size w' l2 v2 y) ∧ Below w.heap.size w w'

end Go.Proofs.Ytakfobihakbefaa

/- The contracts of DrawPolyTimes and DrawPolyOver. -/

namespace Go.Proofs.Ytakfobihakbefaa
open Go.RowKit Go.Shelf

/-- A row of the draw's own. -/
structure AnyP (b : Nat) (w : World) (v : Value) (zs : List Int) : Prop where
  row : IntRow b w v zs
  wf : ∀ z ∈ zs, -9223372036854775808 ≤ z ∧ z ≤ 9223372036854775807
theorem SmallP.any {b : Nat} {w : World} {low : Int} {v : Value} {zs : List Int} (h : SmallP b w low v zs) : AnyP b w v zs := ⟨h.row, fun z hz => by
    obtain ⟨i, hi, rfl⟩ := List.mem_iff_getElem.1 hz
    have := h.cs i
    rw [List.getD_eq_getElem?_getD, List.getElem?_eq_getElem hi] at this
    have : -4 ≤ zs[i] ∧ zs[i] ≤ 4 := this
    omega⟩
theorem AnyP.below {b : Nat} {w w' : World} {v : Value} {zs : List Int} (h : AnyP b w v zs) (hb : Below w.heap.size w w') : AnyP b w' v zs := ⟨rowPast h.row hb, h.wf⟩
theorem AnyP.grown {b B : Nat} {w w' : World} {v : Value} {zs : List Int} (h : AnyP b w v zs) (hg : w.grownBy w' (some B)) (hB : B < b) : AnyP b w' v zs := by
  refine ⟨?_, h.wf⟩
  have hr := h.row
  unfold IntRow at hr ⊢
  refine hr.kept hg ?_
  cases e : v.ownBlock with
  | none => exact .inl rfl
  | some j => exact .inr fun e2 => by have := own_ge hr j e; simp only [Option.some.injEq] at e2; omega
theorem AnyP.others {b B : Nat} {w : World} {v : Value} {zs : List Int} (x y : Value) (h : AnyP b w v zs) (hB : B < b) : AnyP b ((w.setCell ⟨B, 0, none⟩ x).setCell ⟨B, 1, none⟩ y) v zs := h.grown (grown_cells w B x y) hB
theorem AnyP.pin {b : Nat} {w : World} {v : Value} {zs : List Int} (h : AnyP b w v zs) : ∃ a c, v = .slice a zs.length c ∧ PIn w a zs.length c zs := by
  obtain ⟨a, c, rfl, hc, hi⟩ := h.row.readc h.wf
  exact ⟨a, c, rfl, hi, hc⟩
theorem AnyP.pin_at {b m : Nat} {w : World} {a : Option Addr} {c : Nat} {zs : List Int} (h : AnyP b w (.slice a m c) zs) : PIn w a m c zs := by
  obtain ⟨a', c', e, hp⟩ := h.pin
  simp only [Value.slice.injEq] at e
  obtain ⟨rfl, rfl, rfl⟩ := e
  exact hp
/-- What a draw of two polynomials comes to, of whatever size. -/
def TwoAny (w : World) (e : Ending) (w' : World) : Prop := (∃ l1 a1 m1 d1 x l2 a2 m2 d2 y, e = .returned (.tuple #[plV l1 (.slice a1 m1 d1), plV l2 (.slice a2 m2 d2)]) ∧ PIn w' a1 m1 d1 x ∧ PIn w' a2 m2 d2 y) ∧ Below w.heap.size w w'

end Go.Proofs.Ytakfobihakbefaa

/- The contracts of the model's draws of one polynomial, and of DrawPolyAdd. -/

namespace Go.Proofs.Ytakfobihakbefaa
open Go.RowKit Go.Shelf

/-- What a draw of a polynomial comes to. -/
def OneP (w : World) (e : Ending) (w' : World) : Prop := (∃ l v x, e = .returned (plV l v) ∧ SmallP w.heap.size w' l v x) ∧ Below w.heap.size w w'

set_option maxRecDepth 100000 in
set_option maxHeartbeats 2000000 in
theorem drawPolyPlain_any (a : Option Addr) (n cap : Nat) (zs : List Int) (w : World) (h : BsAt w.heap.size w a n cap zs) :
    Calls Try.prog 24 #[.slice a n cap] w (OneP w) := by
  obtain ⟨W, hW⟩ : ∃ W, w.alloc (.cells #[.int .i64 0, .slice none 0 0] 25) = W := ⟨_, rfl⟩
  have hbW : Below w.heap.size w W := by rw [← hW]; exact (Below.refl _ w).alloc (Nat.le_refl _) _
  have hsz : W.heap.size = w.heap.size + 1 := by rw [← hW]; simp
  have HO := Lib.hid (open_any a n cap zs W ((h.below hbW).more hbW.size))
  have HF := Lib.hid (BoxF.new hW)
  have HBW := Lib.hid hbW
  have HW := Lib.hid hW
  have HSZ := Lib.hid hsz
  clear h hW hbW hsz
  go_enter Try.func24, Try.ntmps24
  go_wp2_with fail
  rw [HW.out]
  refine HO.out.mono ?_
  rintro e w1 ⟨n', zs', rfl, hR1, hB1⟩
  have HR1 := Lib.hid hR1
  have HB1 := Lib.hid hB1
  have hr1 := hR1.lt
  clear hR1 hB1
  go_wp2_with fail
  refine (l92Poly_any W.heap.size W.heap.size a n' cap zs' 0 w1 HR1.out (by omega)).mono ?_
  rintro e w2 ⟨⟨l1, v1, x, rfl, hS1⟩, _, hB2, _⟩
  obtain ⟨g1, d1, rfl, hi1⟩ := hS1.pin
  obtain ⟨m1, hm1⟩ : ∃ m, x.length = m := ⟨_, rfl⟩
  rw [hm1] at hS1 ⊢
  have HS1 := Lib.hid hS1
  have HB2 := Lib.hid (HB1.out.trans hB2)
  obtain ⟨_, d0, d1', f0, f1⟩ := HF.out.below HB2.out
  clear hS1 hi1 hm1 hB2
  go_wp2
  have hss := HSZ.out
  refine bodyPost_ret (v := plV l1 (.slice g1 m1 d1)) ?_ rfl ⟨⟨l1, _, x, rfl, (HS1.out.others (B := w.heap.size) _ _ (by omega)).mono (by omega)⟩, resBelow _ _ (HBW.out.trans (HB2.out.mono HBW.out.size))⟩
  simp [results, Try.results24, go_sem, d0, d1', plV]

end Go.Proofs.Ytakfobihakbefaa

/- The contract of DrawPolyAlike. -/

namespace Go.Proofs.Ytakfobihakbefaa
open Go.RowKit Go.Shelf

set_option maxRecDepth 100000 in
set_option maxHeartbeats 3000000 in
theorem drawPolyAlike_any (a : Option Addr) (n cap : Nat) (zs : List Int) (w : World) (h : BsAt w.heap.size w a n cap zs) :
    Calls Try.prog 29 #[.slice a n cap] w (TwoAny w) := by
  obtain ⟨W, hW⟩ : ∃ W, (w.alloc (.cells #[.int .i64 0, .slice none 0 0] 25)).alloc (.cells #[.int .i64 0, .slice none 0 0] 25) = W := ⟨_, rfl⟩
  obtain ⟨hbW, hsz⟩ := resTwoBelow hW
  have HO := Lib.hid (open_any a n cap zs W ((h.below hbW).more hbW.size))
  have HC : Hid (∀ w1, Below W.heap.size W w1 → _) := Lib.hid fun w1 (hg : Below W.heap.size W w1) => resTwo hW hg
  have HBW := Lib.hid hbW
  have HW := Lib.hid hW
  have HSZ := Lib.hid hsz
  clear h hW hbW hsz
  go_enter Try.func29, Try.ntmps29
  go_wp2_with fail
  rw [HW.out]
  refine HO.out.mono ?_
  rintro e w1 ⟨n', zs', rfl, hR1, hB1⟩
  have HR1 := Lib.hid hR1
  have HB1 := Lib.hid hB1
  have hs1 := hB1.size
  have hr1 := hR1.lt
  clear hR1 hB1
  go_wp2_with fail
  refine (l92Poly_any W.heap.size W.heap.size a n' cap zs' 0 w1 HR1.out (by omega)).mono ?_
  rintro e w2 ⟨⟨l1, v1, x, rfl, hS1⟩, ⟨p2, hp2, hR2⟩, hB2, hG2⟩
  obtain ⟨g1, d1, rfl, hi1⟩ := hS1.pin
  obtain ⟨m1, hm1⟩ : ∃ m, x.length = m := ⟨_, rfl⟩
  rw [hm1] at hS1 ⊢
  obtain ⟨V, hV⟩ : ∃ V, w2.alloc (.cells #[.int .i64 l1, .slice g1 m1 d1] 25) = V := ⟨_, rfl⟩
  have hbV : Below w2.heap.size w2 V := by rw [← hV]; exact (Below.refl _ _).alloc (Nat.le_refl _) _
  have hs2 := hG2.size
  have HX := Lib.hid (BoxF.new hV)
  have HSV := Lib.hid ((hS1.below hbV).any)
  have HRV := Lib.hid (hR2.below hbV)
  have HBV := Lib.hid ((HB1.out.trans hB2).trans (hbV.mono (by omega)))
  have hsV := hbV.size
  have hsV2 : V.heap.size = w2.heap.size + 1 := by rw [← hV]; simp
  have HSV2 := Lib.hid hsV2
  have hp := HX.out
  rw [← hV] at hp
  obtain ⟨_, k0, k1, _, _⟩ := hp
  have HV := Lib.hid hV
  obtain ⟨t, ht⟩ : ∃ t, polyB ⟨l1, x⟩ = t := ⟨_, rfl⟩
  obtain ⟨P, hP⟩ : ∃ P, doneP t (plainP ⟨l1, x⟩) = P := ⟨_, rfl⟩
  have hwf : ∀ z ∈ P.cs, -9223372036854775808 ≤ z ∧ z ≤ 9223372036854775807 := doneP_mem (fun e => plain_polyB (ht.trans e)) hP
  have hcall := sPolyPlain_any l1 x g1 d1 m1 t V HSV.out.pin_at.is ht
  rw [hP] at hcall
  have HCALL := Lib.hid hcall
  have HWF := Lib.hid hwf
  clear hS1 hi1 hm1 hR2 hB2 hG2 hbV hV hsV2 ht hP hwf hcall
  go_wp2_with fail
  rw [HV.out]
  clear k0 k1
  refine HCALL.out.mono ?_
  rintro e w4 ⟨⟨v, rfl, hr4⟩, hb4⟩
  have hA3 : AnyP V.heap.size w4 v P.cs := ⟨hr4, HWF.out⟩
  obtain ⟨g3, d3, rfl, hi3⟩ := hA3.pin
  obtain ⟨m3, hm3⟩ : ∃ m, P.cs.length = m := ⟨_, rfl⟩
  obtain ⟨pl, hpl⟩ : ∃ l, P.low = l := ⟨_, rfl⟩
  rw [hm3] at hA3 ⊢
  rw [hpl]
  obtain ⟨T, hT⟩ : ∃ T, w4.alloc (.cells #[.int .i64 pl, .slice g3 m3 d3] 25) = T := ⟨_, rfl⟩
  have hbT : Below w4.heap.size w4 T := by rw [← hT]; exact (Below.refl _ _).alloc (Nat.le_refl _) _
  have hb4T : Below V.heap.size V T := hb4.trans (hbT.mono hb4.size)
  have HY1 := Lib.hid (HX.out.below hb4T)
  have HY3 := Lib.hid (BoxF.new hT)
  have HD1 := Lib.hid (HSV.out.below hb4T)
  have HD3 := Lib.hid (hA3.below hbT)
  have HRT := Lib.hid (HRV.out.below hb4T)
  have hsU := HBV.out.size
  have HBT := Lib.hid (HBV.out.trans (hb4T.mono hsU))
  have hs4 := hb4.size
  have hsT := hbT.size
  have HT := Lib.hid hT
  clear hr4 hA3 hi3 hm3 hpl hbT hb4T hT hb4
  have hVs := HSV2.out
  have hWs := HSZ.out
  have hbig : w.heap.size + 1 < w2.heap.size := by omega
  have hbig4 : w.heap.size + 1 < w4.heap.size := by omega
  have hx2 : w2.heap.size < w4.heap.size := by omega
  clear hVs hWs
  obtain ⟨⟨_, r0, r1, f0, f1⟩, ⟨_, e0, e1, g0, g1'⟩⟩ := HC.out T HBT.out
  obtain ⟨_, k0, k1, _, _⟩ := HY1.out
  obtain ⟨_, k4, k5, _, _⟩ := HY3.out
  obtain ⟨n1, n2, n3, n4, n5, n6⟩ := two_ahead hbig
  obtain ⟨o1, o2, o3, o4, o5, o6⟩ := two_ahead hbig4
  cases t with
  | false =>
    rw [← HT.out] at k0 k1 k4 k5 r0 r1 f0 f1 e0 e1 g0 g1'
    go_upto_region 6 with fail
    rw [HT.out] at k0 k1 k4 k5 r0 r1 f0 f1 e0 e1 g0 g1' ⊢
    go_region_held3 (fun w' : World => w'.cell? ⟨w2.heap.size, 0, none⟩ = some (.int .i64 l1) ∧ w'.cell? ⟨w2.heap.size, 1, none⟩ = some (.slice g1 m1 d1)) (first | go_keep | exact ⟨k0, k1⟩)
      (first
        | (go_at_call 68
           refine (l92Poly_any W.heap.size W.heap.size a n' cap zs' p2 _ (HRT.out.below (Below.refl _ _).drew) (by omega)).mono ?_
           rintro e w3 ⟨⟨l2, v2, y, rfl, hS2⟩, _, hB3, hG3⟩
           obtain ⟨g2, d2, rfl, hi2⟩ := hS2.pin
           obtain ⟨m2, hm2⟩ : ∃ m, y.length = m := ⟨_, rfl⟩
           rw [hm2] at hS2 ⊢
           have hgV : T.grownBy w3 (some W.heap.size) := grownTrans (grownBelow _ (Below.refl T.heap.size T).drew) hG3
           have hS2 : SmallP T.heap.size w3 l2 (.slice g2 m2 d2) y := hS2
           have HS2 := Lib.hid hS2.any
           have HS1 := Lib.hid (HD1.out.grown hgV (by omega))
           have HB3 := Lib.hid (HBT.out.drew.trans hB3)
           have hs3 := hgV.size
           obtain ⟨_, k0, k1, _, _⟩ := HY1.out.grown hgV (by simp; omega)
           obtain ⟨⟨_, r0, r1, f0, f1⟩, ⟨_, e0, e1, g0, g1'⟩⟩ := HC.out w3 HB3.out
           clear hS2 hi2 hm2 hB3 hG3 hgV))
    all_goals
      go_wp2
      have hVs := HSV2.out
      have hWs := HSZ.out
      refine bodyPost_ret (v := .tuple #[plV l1 (.slice g1 m1 d1), plV l2 (.slice g2 m2 d2)]) ?_ rfl ⟨⟨l1, g1, m1, d1, x, l2, g2, m2, d2, y, rfl, ((HS1.out.others (B := w.heap.size) _ _ (by omega)).others (B := w.heap.size + 1) _ _ (by omega)).pin_at, ((HS2.out.others (B := w.heap.size) _ _ (by omega)).others (B := w.heap.size + 1) _ _ (by omega)).pin_at⟩, setTwoBelow _ _ _ _ (HBW.out.trans (HB3.out.mono HBW.out.size)) (Nat.le_refl _)⟩
      simp [results, Try.results29, go_sem, r0, r1, e0, e1, plV]
  | true =>
    rw [← HT.out] at k0 k1 k4 k5 r0 r1 f0 f1 e0 e1 g0 g1'
    go_wp2_with fail
    rw [HT.out]
    clear k0 k1 k4 k5 r0 r1 f0 f1 e0 e1 g0 g1'
    refine (pick_any W.heap.size W.heap.size a n' cap zs' p2 2 T HRT.out (by omega) (by omega) (by omega)).mono ?_
    rintro e w6 ⟨⟨z3, rfl, hz3⟩, hR6, hB6, hG6⟩
    have hVs := HSV2.out
    have hWs := HSZ.out
    have HZ1 := Lib.hid (HY1.out.grown hG6 (by simp; omega))
    have HZ3 := Lib.hid (HY3.out.grown hG6 (by simp; omega))
    have HE1 := Lib.hid (HD1.out.grown hG6 (by omega))
    have HE3 := Lib.hid (HD3.out.grown hG6 (by omega))
    have HB6 := Lib.hid (HBT.out.trans hB6)
    have HR6 := Lib.hid hR6
    have hs6 := hG6.size
    clear hB6 hG6 hVs hWs hR6
    obtain ⟨⟨_, r0, r1, f0, f1⟩, ⟨_, e0, e1, g0, g1'⟩⟩ := HC.out w6 HB6.out
    obtain ⟨_, k0, k1, _, _⟩ := HZ1.out
    obtain ⟨_, k4, k5, _, _⟩ := HZ3.out
    by_cases hz : z3 = 0
    · subst hz
      go_upto_region 5 with fail
      go_region_held3 (fun w' : World => w'.cell? ⟨w2.heap.size, 0, none⟩ = some (.int .i64 l1) ∧ w'.cell? ⟨w2.heap.size, 1, none⟩ = some (.slice g1 m1 d1) ∧ w'.cell? ⟨w4.heap.size, 0, none⟩ = some (.int .i64 pl) ∧ w'.cell? ⟨w4.heap.size, 1, none⟩ = some (.slice g3 m3 d3)) (first | go_keep | exact ⟨k0, k1, k4, k5⟩) (fail)
      all_goals
        go_wp2
        have hVs := HSV2.out
        have hWs := HSZ.out
        refine bodyPost_ret (v := .tuple #[plV l1 (.slice g1 m1 d1), plV pl (.slice g3 m3 d3)]) ?_ rfl ⟨⟨l1, g1, m1, d1, x, pl, g3, m3, d3, P.cs, rfl, ((HE1.out.others (B := w.heap.size) _ _ (by omega)).others (B := w.heap.size + 1) _ _ (by omega)).pin_at.below (Below.refl _ _).drew, ((HE3.out.others (B := w.heap.size) _ _ (by omega)).others (B := w.heap.size + 1) _ _ (by omega)).pin_at.below (Below.refl _ _).drew⟩, (setTwoBelow _ _ _ _ (HBW.out.trans (HB6.out.mono HBW.out.size)) (Nat.le_refl _)).drew⟩
        simp [results, Try.results29, go_sem, r0, r1, e0, e1, plV]
    · have hzi : ((z3 : Int) == 0) = false := by simpa using hz
      have hzn : ¬ (z3 : Int) = 0 := by omega
      go_upto_region 6 with fail
      go_region_held3 (fun w' : World => w'.cell? ⟨w2.heap.size, 0, none⟩ = some (.int .i64 l1) ∧ w'.cell? ⟨w2.heap.size, 1, none⟩ = some (.slice g1 m1 d1)) (first | go_keep | exact ⟨k0, k1⟩)
        (first
          | (go_at_call 68
             refine (l92Poly_any W.heap.size W.heap.size a n' cap zs' (p2 + 1) _ (HR6.out.below (Below.refl _ _).drew) (by omega)).mono ?_
             rintro e w3 ⟨⟨l2, v2, y, rfl, hS2⟩, _, hB3, hG3⟩
             obtain ⟨g2, d2, rfl, hi2⟩ := hS2.pin
             obtain ⟨m2, hm2⟩ : ∃ m, y.length = m := ⟨_, rfl⟩
             rw [hm2] at hS2 ⊢
             have hgV : w6.grownBy w3 (some W.heap.size) := grownTrans (grownBelow _ (Below.refl w6.heap.size w6).drew) hG3
             have hS2 : SmallP w6.heap.size w3 l2 (.slice g2 m2 d2) y := hS2
             have HS2 := Lib.hid hS2.any
             have HS1 := Lib.hid (HE1.out.grown hgV (by omega))
             have HB3 := Lib.hid (HB6.out.drew.trans hB3)
             have hs3 := hgV.size
             obtain ⟨_, k0, k1, _, _⟩ := HZ1.out.grown hgV (by simp; omega)
             obtain ⟨⟨_, r0, r1, f0, f1⟩, ⟨_, e0, e1, g0, g1'⟩⟩ := HC.out w3 HB3.out
             clear hS2 hi2 hm2 hB3 hG3 hgV))
      all_goals
        go_wp2
        have hVs := HSV2.out
        have hWs := HSZ.out
        refine bodyPost_ret (v := .tuple #[plV l1 (.slice g1 m1 d1), plV l2 (.slice g2 m2 d2)]) ?_ rfl ⟨⟨l1, g1, m1, d1, x, l2, g2, m2, d2, y, rfl, ((HS1.out.others (B := w.heap.size) _ _ (by omega)).others (B := w.heap.size + 1) _ _ (by omega)).pin_at, ((HS2.out.others (B := w.heap.size) _ _ (by omega)).others (B := w.heap.size + 1) _ _ (by omega)).pin_at⟩, setTwoBelow _ _ _ _ (HBW.out.trans (HB3.out.mono HBW.out.size)) (Nat.le_refl _)⟩
        simp [results, Try.results29, go_sem, r0, r1, e0, e1, plV]

end Go.Proofs.Ytakfobihakbefaa

/- Products and quotients as functions answer them (mathematics). -/

namespace Go.Proofs.Ytakfobihakbefaa
open Go.RowKit

theorem times_true {a b : Pl} (h : timesPB a b = true) : polyB a = true ∧ polyB b = true ∧ polyB (prodP a b) = true ∧ timesP a b = prodP a b := by
  have h' := h
  unfold timesPB at h
  simp only [Bool.and_eq_true] at h
  refine ⟨h.1, h.2.1, h.2.2, ?_⟩
  unfold timesP
  rw [h']
  rfl
theorem times_comm (a b : Pl) : timesPB b a = timesPB a b ∧ timesP b a = timesP a b := by
  have e : timesPB b a = timesPB a b := by
    unfold timesPB
    rw [prod_comm b a]
    cases polyB a <;> cases polyB b <;> rfl
  refine ⟨e, ?_⟩
  unfold timesP
  rw [e, prod_comm b a]
theorem over_times {a b : Pl} (h : timesPB a b = true) (h0 : 0 < b.cs.length) (hxa : ∀ i, -4 ≤ a.cs.getD i 0 ∧ a.cs.getD i 0 ≤ 4) (hxb : ∀ i, -4 ≤ b.cs.getD i 0 ∧ b.cs.getD i 0 ≤ 4) (hl : a.cs.length ≤ 1000) : dividedB (timesP a b) b = true ∧ dividedP (timesP a b) b = a := by
  obtain ⟨h1, h2, h3, h4⟩ := times_true h
  rw [h4]
  have e := over_prod (polyB_trim h1).1 (polyB_trim h2).1 h0 hxa hxb hl
  obtain ⟨e1, e2⟩ := over_some e
  have hb : dividedB (prodP a b) b = true := by
    unfold dividedB
    rw [h3, h2, decide_eq_true h0, e1, h1]
    rfl
  refine ⟨hb, ?_⟩
  rw [(divided_over hb h3 h2 h0).2, e2, h1]
  rfl
theorem times_over {a b : Pl} (h : dividedB a b = true) : timesPB (dividedP a b) b = true ∧ timesP (dividedP a b) b = a := by
  have h' := h
  unfold dividedB at h
  simp only [Bool.and_eq_true, decide_eq_true_eq] at h
  obtain ⟨h1, h2, h0, h3⟩ := h
  have hp : dividedP a b = overP a b := (divided_over h' h1 h2 h0).2
  cases e : overQ a b with
  | none => rw [(over_none e).1] at h3; exact absurd h3 (by decide)
  | some p =>
    obtain ⟨e1, e2⟩ := over_some e
    rw [e1] at h3
    have ep : dividedP a b = p := by rw [hp, e2, h3]; rfl
    have hm := over_back (polyB_trim h1).1 h0 e
    rw [ep]
    have hb : timesPB p b = true := by
      unfold timesPB
      rw [h3, h2, hm, h1]
      rfl
    exact ⟨hb, by rw [(times_true hb).2.2.2, hm]⟩

end Go.Proofs.Ytakfobihakbefaa

/- Values at 1; turned, plain ones and sums again (mathematics). -/

namespace Go.Proofs.Ytakfobihakbefaa
open Go.RowKit

/-- The value with 1 in the place of t. -/
def valP (p : Pl) : Int := oneP p.cs p.cs.length
theorem oneP_sumN (l : List Int) : ∀ k, oneP l k = sumN (fun i => l.getD i 0) k
  | 0 => rfl
  | k + 1 => by rw [oneP, sumN, oneP_sumN l k]
theorem sumN_split (f : Nat → Int) (a : Nat) : ∀ b, sumN f (a + b) = sumN f a + sumN (fun i => f (a + i)) b
  | 0 => by rw [Nat.add_zero, sumN, Int.add_zero]
  | b + 1 => by rw [← Nat.add_assoc, sumN, sumN, sumN_split f a b]; omega
/-- A window that holds all coefficients. -/
theorem val_window (p : Pl) {lo : Int} {n : Nat} (h1 : lo ≤ p.low) (h2 : p.low + p.cs.length ≤ lo + n) : sumN (fun i => pat p (lo + (i : Int))) n = valP p := by
  obtain ⟨a, ha⟩ : ∃ a : Nat, p.low = lo + (a : Int) := ⟨(p.low - lo).toNat, by omega⟩
  obtain ⟨b, hb⟩ : ∃ b : Nat, n = a + b := ⟨n - a, by omega⟩
  subst hb
  rw [sumN_split, sumN_none fun i hi => pat_low p (by omega), Int.zero_add, sumN_cut (m := p.cs.length) (by omega) fun i h3 _ => pat_high p (by omega)]
  unfold valP
  rw [oneP_sumN]
  refine sumN_congr fun i _ => ?_
  rw [show lo + ((a + i : Nat) : Int) = p.low + (i : Int) by omega, pat_at]
theorem val_pat {p q : Pl} (h : ∀ k, pat p k = pat q k) : valP p = valP q := by
  obtain ⟨lo, h1, h2⟩ : ∃ lo : Int, lo ≤ p.low ∧ lo ≤ q.low := ⟨if p.low ≤ q.low then p.low else q.low, by split <;> omega, by split <;> omega⟩
  obtain ⟨n, h3, h4⟩ : ∃ n : Nat, p.low + p.cs.length ≤ lo + n ∧ q.low + q.cs.length ≤ lo + n := ⟨(p.low - lo).toNat + (q.low - lo).toNat + p.cs.length + q.cs.length, by omega, by omega⟩
  rw [← val_window p h1 h3, ← val_window q h2 h4]
  exact sumN_congr fun i _ => h _
theorem val_tidy (low : Int) (l : List Int) : valP (tidyP low l) = oneP l l.length := val_pat (q := ⟨low, l⟩) fun k => tidy_pat low l k
theorem val_sum (a b : Pl) : valP (sumP a 1 b) = valP a + valP b := by
  obtain ⟨lo, h1, h2, h5⟩ : ∃ lo : Int, lo ≤ a.low ∧ lo ≤ b.low ∧ lo ≤ (sumP a 1 b).low := ⟨-(a.low.natAbs : Int) - b.low.natAbs - (sumP a 1 b).low.natAbs, by omega, by omega, by omega⟩
  obtain ⟨n, h3, h4, h6⟩ : ∃ n : Nat, a.low + a.cs.length ≤ lo + n ∧ b.low + b.cs.length ≤ lo + n ∧ (sumP a 1 b).low + (sumP a 1 b).cs.length ≤ lo + n := ⟨(a.low - lo).toNat + (b.low - lo).toNat + ((sumP a 1 b).low - lo).toNat + a.cs.length + b.cs.length + (sumP a 1 b).cs.length, by omega, by omega, by omega⟩
  rw [← val_window a h1 h3, ← val_window b h2 h4, ← val_window _ h5 h6, ← sumN_add]
  refine sumN_congr fun i _ => ?_
  rw [sum_pat, Int.one_mul]
theorem val_prod (a b : Pl) : valP (prodP a b) = valP a * valP b := by
  obtain ⟨lo, h1, h2⟩ : ∃ lo : Int, lo ≤ (prodP a b).low ∧ lo ≤ a.low + b.low := ⟨-((prodP a b).low.natAbs : Int) - (a.low + b.low).natAbs, by omega, by omega⟩
  obtain ⟨n, h3, h4⟩ : ∃ n : Nat, (prodP a b).low + (prodP a b).cs.length ≤ lo + n ∧ a.low + b.low + a.cs.length + b.cs.length ≤ lo + n := ⟨((prodP a b).low - lo).toNat + (a.low + b.low - lo).toNat + (prodP a b).cs.length + a.cs.length + b.cs.length, by omega, by omega⟩
  rw [← val_window _ h1 h3]
  have e1 : sumN (fun i => pat (prodP a b) (lo + (i : Int))) n = sumN (fun i => sumN (fun m => a.cs.getD m 0 * pat b (lo + (i : Int) - (a.low + (m : Int)))) a.cs.length) n := sumN_congr fun i _ => prod_pat a b _
  rw [e1, sumN_swap]
  have e2 : sumN (fun m => sumN (fun i => a.cs.getD m 0 * pat b (lo + (i : Int) - (a.low + (m : Int)))) n) a.cs.length = sumN (fun m => valP b * a.cs.getD m 0) a.cs.length := sumN_congr fun m hm => by
    rw [sumN_mul, Int.mul_comm (valP b)]
    congr 1
    rw [← val_window b (lo := lo - (a.low + (m : Int))) (n := n) (by omega) (by omega)]
    exact sumN_congr fun i _ => by rw [show lo + (i : Int) - (a.low + (m : Int)) = lo - (a.low + (m : Int)) + (i : Int) by omega]
  rw [e2, sumN_mul, Int.mul_comm]
  congr 1
  unfold valP
  rw [oneP_sumN]
theorem oneP_far (l : List Int) : ∀ m, oneP l (l.length + m) = oneP l l.length
  | 0 => rfl
  | m + 1 => by rw [← Nat.add_assoc, oneP, oneP_far l m, getD_far (by omega), Int.add_zero]
theorem sumN_back (f : Nat → Int) : ∀ n, sumN (fun i => f (n - 1 - i)) n = sumN f n
  | 0 => rfl
  | n + 1 => by
    have h := sumN_split (fun i => f (n + 1 - 1 - i)) 1 n
    rw [Nat.add_comm 1 n] at h
    rw [h, sumN, sumN, sumN, ← sumN_back f n, Int.zero_add, show n + 1 - 1 - 0 = n by omega, Int.add_comm]
    congr 1
    exact sumN_congr fun i _ => by rw [show n + 1 - 1 - (1 + i) = n - 1 - i by omega]
theorem val_turn (a : Pl) : valP (turnP a) = valP a := by
  unfold turnP
  rw [val_tidy, List.length_reverse, oneP_sumN]
  unfold valP
  rw [oneP_sumN, ← sumN_back (fun i => a.cs.getD i 0)]
  refine sumN_congr fun i hi => ?_
  rw [List.getD_eq_getElem?_getD, List.getElem?_reverse hi, ← List.getD_eq_getElem?_getD]
theorem turnP_turnP {a : Pl} (h : Trim a) : turnP (turnP a) = a := trim_unique (tidy_trim _ _) h fun k => by rw [turn_pat, turn_pat, Int.neg_neg]
theorem val_bound {p : Pl} (h : polyB p = true) : -200000000000 ≤ valP p ∧ valP p ≤ 200000000000 := by
  obtain ⟨_, h1, _, _, h2⟩ := polyB_trim h
  have := oneP_bound (l := p.cs) h2 p.cs.length
  unfold valP
  omega
theorem turned_true {a : Pl} (h : turnedPB a = true) : polyB a = true ∧ turnedP a = turnP a ∧ polyB (turnP a) = true ∧ turnedPB (turnP a) = true ∧ turnedP (turnP a) = a := by
  have h' := h
  unfold turnedPB at h
  simp only [Bool.and_eq_true] at h
  have e : turnedPB (turnP a) = true := by
    unfold turnedPB
    rw [h.2, turnP_turnP (polyB_trim h.1).1, h.1]
    rfl
  refine ⟨h.1, ?_, h.2, e, ?_⟩
  · unfold turnedP; rw [h']; rfl
  · unfold turnedP; rw [e, turnP_turnP (polyB_trim h.1).1]; rfl
theorem sum_comm {a b : Pl} (ha : Trim a) (hb : Trim b) : sumP b 1 a = sumP a 1 b := trim_unique (sum_trim _ _ hb) (sum_trim _ _ ha) fun k => by rw [sum_pat, sum_pat]; omega
theorem add_true {a b : Pl} (h : addPB a b = true) : polyB a = true ∧ polyB b = true ∧ polyB (sumP a 1 b) = true ∧ addP a b = sumP a 1 b ∧ addPB b a = true ∧ addP b a = sumP a 1 b := by
  have h' := h
  unfold addPB at h
  simp only [Bool.and_eq_true] at h
  have e : addPB b a = true := by
    unfold addPB
    rw [h.1, h.2.1, sum_comm (polyB_trim h.1).1 (polyB_trim h.2.1).1, h.2.2]
    rfl
  refine ⟨h.1, h.2.1, h.2.2, ?_, e, ?_⟩
  · unfold addP; rw [h']; rfl
  · unfold addP; rw [e, sum_comm (polyB_trim h.1).1 (polyB_trim h.2.1).1]; rfl
theorem plain_some {b : Pl} (h : ¬ b.cs.length = 0) : plainP b = ⟨0, b.cs.map fun z => (if b.cs.getD 0 0 < 0 then -1 else 1) * z⟩ := by unfold plainP; rw [if_neg h]
theorem plain_plain (a : Pl) : plainP (plainP a) = plainP a := by
  by_cases h0 : a.cs.length = 0
  · have e : plainP a = a := by unfold plainP; rw [if_pos h0]
    rw [e, e]
  · have hlen : (plainP a).cs.length = a.cs.length := plain_len a
    have hlow : (plainP a).low = 0 := plain_low (by omega)
    have e : (plainP a).cs = a.cs.map fun z => (if a.cs.getD 0 0 < 0 then -1 else 1) * z := by unfold plainP; rw [if_neg h0]
    have hz : (plainP a).cs.getD 0 0 = (if a.cs.getD 0 0 < 0 then -1 else 1) * a.cs.getD 0 0 := by
      rw [e, List.getD_eq_getElem?_getD, List.getElem?_map, List.getElem?_eq_getElem (by omega), List.getD_eq_getElem?_getD, List.getElem?_eq_getElem (by omega)]
      rfl
    have hn : ¬ (plainP a).cs.getD 0 0 < 0 := by
      rw [hz]
      split <;> omega
    have e2 : plainP (plainP a) = ⟨0, (plainP a).cs.map fun z => (if (plainP a).cs.getD 0 0 < 0 then -1 else 1) * z⟩ := plain_some (by rw [hlen]; exact h0)
    rw [e2, if_neg hn]
    have e3 : ((plainP a).cs.map fun z => 1 * z) = (plainP a).cs := by
      rw [show (fun z : Int => 1 * z) = id from funext fun z => Int.one_mul z, List.map_id]
    rw [e3]
    show (⟨0, (plainP a).cs⟩ : Pl) = plainP a
    rw [← hlow]

end Go.Proofs.Ytakfobihakbefaa

/- Polynomials of sums (mathematics). -/

namespace Go.Proofs.Ytakfobihakbefaa
open Go.RowKit

/-- The power of t that belongs to a word. -/
def pwL : List UInt8 → Int
  | [] => 0
  | c :: r => sgnB c + pwL r
theorem pwL_snoc (l : List UInt8) (c : UInt8) : pwL (l ++ [c]) = pwL l + sgnB c := by
  induction l with
  | nil => simp [pwL]
  | cons x r ih => rw [List.cons_append, pwL, pwL, ih]; omega
theorem sgnB_bound (c : UInt8) : -1 ≤ sgnB c ∧ sgnB c ≤ 1 := by unfold sgnB; split <;> omega
theorem pwL_bound : ∀ l : List UInt8, -(l.length : Int) ≤ pwL l ∧ pwL l ≤ (l.length : Int)
  | [] => by simp [pwL]
  | c :: r => by
    have h1 := pwL_bound r
    have h2 := sgnB_bound c
    rw [pwL, List.length_cons]
    omega
def four (z : List Int) : Int := z.getD 0 0 + z.getD 1 0 + z.getD 2 0 + z.getD 3 0
theorem four_step (z : List Int) (c : UInt8) (hz : z.length = 4) (hc : idxB c < 4) : four (sumsStep z c) = four z + sgnB c := by
  obtain ⟨j, hj⟩ : ∃ j, idxB c = j := ⟨_, rfl⟩
  obtain ⟨u, hu⟩ : ∃ u, sgnB c = u := ⟨_, rfl⟩
  unfold sumsStep
  rw [hj] at hc
  rw [hj, hu]
  match z, hz with
  | [z0, z1, z2, z3], _ =>
    have : j = 0 ∨ j = 1 ∨ j = 2 ∨ j = 3 := by omega
    rcases this with rfl | rfl | rfl | rfl <;> simp [four] <;> omega
theorem sums_power (l : List UInt8) (hl : letL l = true) : four (sumsL l) = pwL l := by
  have key : ∀ (n : Nat) (l : List UInt8), l.length = n → letL l = true → four (sumsL l) = pwL l := by
    intro n
    induction n with
    | zero =>
      intro l hl _
      obtain rfl := List.length_eq_zero_iff.1 hl
      rfl
    | succ n ih =>
      intro l hl hlet
      obtain ⟨p, c, rfl⟩ := last_split l (by omega)
      rw [letL_append, Bool.and_eq_true] at hlet
      have hp : p.length = n := by simp at hl; omega
      have hc : letB c = true := by
        have h := hlet.2
        unfold letL at h
        simpa using h
      rw [sumsL_snoc, pwL_snoc, four_step _ _ (sumsL_inv p hlet.1).1 (idxB_lt c hc), ih p hp hlet.1]
  exact key l.length l rfl hl

def pwT (t : Tm) : Int := pwL t.s.data.toList
/-- The coefficients of a list of terms. -/
def ofF : List Tm → Int → Int
  | [], _ => 0
  | t :: r, z => pat ⟨pwT t, [t.c]⟩ z + ofF r z
theorem ofF_snoc (l : List Tm) (t : Tm) (z : Int) : ofF (l ++ [t]) z = ofF l z + pat ⟨pwT t, [t.c]⟩ z := by
  induction l with
  | nil => simp [ofF]
  | cons x r ih => rw [List.cons_append, ofF, ofF, ih]; omega
theorem pat_one (low c z : Int) : pat ⟨low, [c]⟩ z = if z = low then c else 0 := by
  by_cases h : z = low
  · subst h
    have e := pat_at ⟨z, [c]⟩ 0
    rw [if_pos rfl]
    simpa using e
  · rw [if_neg h]
    by_cases h2 : z < low
    · exact pat_low _ h2
    · exact pat_high _ (by show low + ((1 : Nat) : Int) ≤ z; omega)
theorem pat_many (low c z : Int) : c * pat ⟨low, [1]⟩ z = pat ⟨low, [c]⟩ z := by
  rw [pat_one, pat_one]
  split
  · exact Int.mul_one c
  · exact Int.mul_zero c
/-- The sum of the powers, term for term. -/
def sumsP (ts : List Tm) : Pl := ts.foldl (fun p t => sumP p t.c ⟨pwT t, [1]⟩) ⟨0, []⟩
theorem sumsP_snoc (l : List Tm) (t : Tm) : sumsP (l ++ [t]) = sumP (sumsP l) t.c ⟨pwT t, [1]⟩ := by
  unfold sumsP
  rw [List.foldl_append]
  rfl
theorem sumsP_succ (x : List Tm) (k : Nat) (h : k < x.length) : sumsP (x.take (k + 1)) = sumP (sumsP (x.take k)) x[k].c ⟨pwT x[k], [1]⟩ := by
  rw [List.take_succ_eq_append_getElem h, sumsP_snoc]
theorem ofF_succ (x : List Tm) (k : Nat) (h : k < x.length) (z : Int) : ofF (x.take (k + 1)) z = ofF (x.take k) z + pat ⟨pwT x[k], [x[k].c]⟩ z := by
  rw [List.take_succ_eq_append_getElem h, ofF_snoc]
theorem sumsP_trim (x : List Tm) : ∀ k, k ≤ x.length → Trim (sumsP (x.take k))
  | 0, _ => .inl ⟨rfl, rfl⟩
  | k + 1, h => by
    rw [sumsP_succ x k h]
    exact sum_trim _ _ (sumsP_trim x k (by omega))
theorem sumsP_pat (x : List Tm) (z : Int) : ∀ k, k ≤ x.length → pat (sumsP (x.take k)) z = ofF (x.take k) z
  | 0, _ => pat_nil _ _
  | k + 1, h => by
    rw [sumsP_succ x k h, ofF_succ x k h, sum_pat, sumsP_pat x z k (by omega), pat_many]
theorem ofF_bound (x : List Tm) (hx : ∀ t ∈ x, -1000000 ≤ t.c ∧ t.c ≤ 1000000) (z : Int) : ∀ k : Nat, k ≤ x.length → -1000000 * (k : Int) ≤ ofF (x.take k) z ∧ ofF (x.take k) z ≤ 1000000 * (k : Int)
  | 0, _ => by simp [ofF]
  | k + 1, h => by
    have h1 := ofF_bound x hx z k (by omega)
    have h2 := hx x[k] (List.getElem_mem _)
    rw [ofF_succ x k h, pat_one]
    split <;> omega
theorem ofF_out (x : List Tm) (hx : ∀ t ∈ x, t.s.size ≤ 60) (z : Int) (hz : z < -60 ∨ 60 < z) : ∀ k : Nat, k ≤ x.length → ofF (x.take k) z = 0
  | 0, _ => rfl
  | k + 1, h => by
    have h1 := ofF_out x hx z hz k (by omega)
    have h2 := hx x[k] (List.getElem_mem _)
    have h3 := pwL_bound x[k].s.data.toList
    rw [show x[k].s.data.toList.length = x[k].s.size by simp] at h3
    rw [ofF_succ x k h, h1, pat_one, if_neg (by unfold pwT; omega)]
    rfl
/-- What a trimmed polynomial's powers and coefficients lie between. -/
theorem trim_within {p : Pl} {a b M : Int} (h : Trim p) (hab : a ≤ 0 ∧ 0 ≤ b) (_ : 0 ≤ M) (h0 : ∀ z, z < a ∨ b < z → pat p z = 0) (hm : ∀ z, -M ≤ pat p z ∧ pat p z ≤ M) :
    a ≤ p.low ∧ p.low ≤ b ∧ (p.cs.length : Int) ≤ b - a + 1 ∧ ∀ i, -M ≤ p.cs.getD i 0 ∧ p.cs.getD i 0 ≤ M := by
  have hc : ∀ i, -M ≤ p.cs.getD i 0 ∧ p.cs.getD i 0 ≤ M := fun i => by
    rw [← pat_at p i]
    exact hm _
  rcases h with ⟨h1, h2⟩ | ⟨h1, h2, h3⟩
  · rw [h1, h2]
    refine ⟨hab.1, hab.2, by simp; omega, ?_⟩
    rw [h1] at hc
    exact hc
  · have hl := List.length_pos_iff.2 h1
    have e1 := pat_at p 0
    have e2 := pat_at p (p.cs.length - 1)
    have c1 : ¬ (p.low + ((0 : Nat) : Int) < a ∨ b < p.low + ((0 : Nat) : Int)) := fun h => h2 (by rw [← e1]; exact h0 _ h)
    have c2 : ¬ (p.low + ((p.cs.length - 1 : Nat) : Int) < a ∨ b < p.low + ((p.cs.length - 1 : Nat) : Int)) := fun h => h3 (by rw [← e2]; exact h0 _ h)
    exact ⟨by omega, by omega, by omega, hc⟩
theorem sumsP_in (x : List Tm) (h1 : ∀ t ∈ x, -1000000 ≤ t.c ∧ t.c ≤ 1000000) (h2 : ∀ t ∈ x, t.s.size ≤ 60) (hl : x.length ≤ 300) (k : Nat) (hk : k ≤ x.length) :
    -60 ≤ (sumsP (x.take k)).low ∧ (sumsP (x.take k)).low ≤ 60 ∧ ((sumsP (x.take k)).cs.length : Int) ≤ 121 ∧ ∀ i, -300000000 ≤ (sumsP (x.take k)).cs.getD i 0 ∧ (sumsP (x.take k)).cs.getD i 0 ≤ 300000000 :=
  trim_within (p := sumsP (x.take k)) (a := -60) (b := 60) (M := 300000000) (sumsP_trim x k hk) (by omega) (by omega)
    (fun z hz => by rw [sumsP_pat x z k hk]; exact ofF_out x h2 z hz k hk)
    (fun z => by rw [sumsP_pat x z k hk]; have := ofF_bound x h1 z k hk; omega)
theorem sumsP_all (x : List Tm) : sumsP (x.take x.length) = sumsP x := by rw [List.take_length]

def ofSumB (ts : List Tm) : Bool := sumB ts && polyB (sumsP ts)
def ofSumP (ts : List Tm) : Pl := doneP (ofSumB ts) (sumsP ts)
theorem ofSum_len {ts : List Tm} {b : Bool} {p : Pl} (_ : ofSumB ts = b) (hp : ofSumP ts = p) : p.cs.length ≤ 200 := by
  unfold ofSumP at hp
  refine doneP_len (fun h => ?_) hp
  unfold ofSumB at h
  simp only [Bool.and_eq_true] at h
  exact h.2
theorem ofSum_fit {w : World} {a : Option Addr} {n : Nat} {ts : List Tm} {b : Bool} {p : Pl} (_ : IsTerms w a n ts) (hb : ofSumB ts = b) (hp : ofSumP ts = p) : p.cs.length ≤ 200 := ofSum_len hb hp

end Go.Proofs.Ytakfobihakbefaa

/- The program's power of a word. -/

namespace Go.Proofs.Ytakfobihakbefaa
open Go.RowKit Go.Shelf

attribute [local go_sem] Oper.semAt_some

end Go.Proofs.Ytakfobihakbefaa

/- The program's PolyOfSum. -/

namespace Go.Proofs.Ytakfobihakbefaa
open Go.RowKit

/-- A row of words, those of the terms. -/
def WordRow (w : World) (g : Nat) (ts : List Tm) : Prop :=
  g < w.heap.size ∧ ∀ j (h : j < ts.length), ∃ gw cap, w.cell? ⟨g, j, none⟩ = some (.slice (some ⟨gw, 0, none⟩) ts[j].s.size cap) ∧ IsWord w.heap.size w (.slice (some ⟨gw, 0, none⟩) ts[j].s.size cap) ts[j].s.data.toList
theorem WordRow.below {w w' : World} {g : Nat} {ts : List Tm} (h : WordRow w g ts) (hb : Below w.heap.size w w') : WordRow w' g ts :=
  ⟨Nat.lt_of_lt_of_le h.1 hb.size, fun j hj => by
    obtain ⟨gw, cap, h1, h2⟩ := h.2 j hj
    exact ⟨gw, cap, (hb.cell (p := ⟨g, j, none⟩) h.1).trans h1, (h2.below hb).mono hb.size⟩⟩
theorem tm_word {t : Tm} (h : termB t = true) : wordB t.s.data.toList = true ∧ t.s.size ≤ 60 ∧ -1000000 ≤ t.c ∧ t.c ≤ 1000000 := by
  unfold termB inR at h
  simp only [Bool.and_eq_true, decide_eq_true_eq] at h
  exact ⟨h.1, by have := ((wordB_iff _).1 h.1).1; simpa using this, h.2⟩

/-- An int that was laid in a block of its own. -/
def OneI (w : World) (j : Nat) (c : Int) : Prop := w.heap[j]? = some (.cells #[.int .i64 c] 3 (0, 0))
theorem OneI.new (w : World) (c : Int) : OneI (w.alloc (.cells #[.int .i64 c] 3)) w.heap.size c := World.alloc_heap_new w _
theorem OneI.below {w w' : World} {j : Nat} {c : Int} (h : OneI w j c) (hb : Below w.heap.size w w') : OneI w' j c :=
  (hb.block j (Array.getElem?_eq_some_iff.1 h).1).trans h
theorem OneI.of {w w' : World} {c : Int} (hb : Below (w.alloc (.cells #[.int .i64 c] 3)).heap.size (w.alloc (.cells #[.int .i64 c] 3)) w') : OneI w' w.heap.size c := (OneI.new w c).below hb
theorem OneI.ints {w : World} {j : Nat} {c : Int} (h : OneI w j c) (hc : -9223372036854775808 ≤ c ∧ c ≤ 9223372036854775807) : Ints w (some ⟨j, 0, none⟩) 1 [c] :=
  ⟨rfl, by unfold maxLen; omega, fun _ => ⟨_, rfl, (Array.getElem?_eq_some_iff.1 h).1, fun i hi => by
    have : i = 0 := by simpa using hi
    subst this
    rw [show (⟨j, 0, none⟩ : Addr).add 0 = ⟨j, 0, none⟩ by unfold Addr.add; simp]
    simp [World.cell?, show w.heap[j]? = _ from h]⟩, fun z hz => by rw [List.mem_singleton.1 hz]; exact hc⟩

end Go.Proofs.Ytakfobihakbefaa

/- Products share sums; polynomials times 1; plain ones are alike (mathematics). -/

namespace Go.Proofs.Ytakfobihakbefaa
open Go.RowKit

theorem mulF_one {a : Pl} (h : Trim a) (k : Int) : mulF a ⟨0, [1]⟩ k = pat a k := by rw [← prod_pat, prod_one h]
theorem shares {a b : Pl} (ha : Trim a) : prodP a (sumP b 1 ⟨0, [1]⟩) = sumP (prodP a b) 1 a := trim_unique (prod_trim _ _) (sum_trim _ _ (prod_trim _ _)) fun k => by
  rw [prod_pat, mulF_sum (b := b) (c := ⟨0, [1]⟩) (n := 1) (fun k => sum_pat b 1 ⟨0, [1]⟩ k), mulF_one ha, sum_pat, prod_pat]
theorem shares_all {a b m x y : Pl} (h : timesPB a b = true) (hm : addPB b ⟨0, [1]⟩ = true) (em : addP b ⟨0, [1]⟩ = m) (hx : timesPB a m = true) (ex : timesP a m = x) (hy : addPB (timesP a b) a = true) (ey : addP (timesP a b) a = y) : x = y := by
  have e1 := (add_true hm).2.2.2.1
  have e2 := (times_true hx).2.2.2
  have e3 := (add_true hy).2.2.2.1
  have e4 := times_true h
  rw [← ex, ← ey, e2, e3, ← em, e1, e4.2.2.2]
  exact shares (polyB_trim e4.1).1
theorem poly_one_is : polyB ⟨0, [1]⟩ = true := by decide
theorem times_one {a : Pl} (h : polyB a = true) : timesPB a ⟨0, [1]⟩ = true ∧ timesP a ⟨0, [1]⟩ = a := by
  have e := prod_one (polyB_trim h).1
  have hb : timesPB a ⟨0, [1]⟩ = true := by
    unfold timesPB
    rw [h, poly_one_is, e, h]
    rfl
  exact ⟨hb, by rw [(times_true hb).2.2.2, e]⟩
theorem of_itself {l : Int} {x : List Int} (h : polyB ⟨l, x⟩ = true) : polyOfB l x = true ∧ polyOfP l x = ⟨l, x⟩ := by
  obtain ⟨hT, h1, h2, h3, _⟩ := polyB_trim h
  have e : tidyP l x = ⟨l, x⟩ := tidy_self hT
  have hb : polyOfB l x = true := by
    unfold polyOfB inR
    rw [e, h, decide_eq_true h2, decide_eq_true h3, decide_eq_true h1]
    rfl
  refine ⟨hb, ?_⟩
  unfold polyOfP
  rw [hb, e]
  rfl
theorem alike_comm (a b : Pl) : alikeB b a = alikeB a b := by
  unfold alikeB
  rw [show decide ((plainP b).cs = (plainP a).cs) = decide ((plainP a).cs = (plainP b).cs) from decide_eq_decide.2 ⟨Eq.symm, Eq.symm⟩]
  cases polyB a <;> cases polyB b <;> rfl
theorem alike_len {a b : Pl} (h : alikeB a b = true) : a.cs.length = b.cs.length := by
  unfold alikeB at h
  simp only [Bool.and_eq_true, decide_eq_true_eq] at h
  rw [← plain_len a, ← plain_len b, h.2.2]
theorem plained_true {a : Pl} (h : polyB a = true) : plainedP a = plainP a ∧ polyB (plainP a) = true ∧ plainedP (plainP a) = plainP a ∧ alikeB a (plainP a) = true := by
  have h1 := plain_polyB h
  refine ⟨by unfold plainedP; rw [h]; rfl, h1, by unfold plainedP; rw [h1, plain_plain]; rfl, ?_⟩
  unfold alikeB
  rw [h, h1, plain_plain, decide_eq_true rfl]
  rfl
theorem plain_first {a : Pl} (h : polyB a = true) (h0 : 0 < (plainP a).cs.length) : (plainP a).low = 0 ∧ 0 < (plainP a).cs.getD 0 0 := by
  rw [plain_len] at h0
  obtain ⟨z0, _⟩ := trim_nonzero (polyB_trim h).1 h0
  refine ⟨plain_low h0, ?_⟩
  rw [plain_some (by omega)]
  show 0 < (a.cs.map fun z => (if a.cs.getD 0 0 < 0 then -1 else 1) * z).getD 0 0
  rw [List.getD_eq_getElem?_getD, List.getElem?_map]
  have e : a.cs[0]? = some (a.cs.getD 0 0) := by rw [List.getD_eq_getElem?_getD, List.getElem?_eq_getElem h0]; rfl
  rw [e]
  show 0 < (if a.cs.getD 0 0 < 0 then -1 else 1) * a.cs.getD 0 0
  split <;> omega

end Go.Proofs.Ytakfobihakbefaa

/- What the laws' proofs stand on, part 5 of 5. -/
import Derived.Deep.SlicePairs
import Derived.ChangeArms
import Derived.ProofKit
import Derived.OrdersHeld
import Derived.StillTail
import Derived.Deep.RegionHeld
import Derived.Test.YtocklmiappppgaaBa
import Derived.Test.YtocklmiappppgaaBb
import Derived.Test.YtocklmiappppgaaBc
import Derived.Test.YtocklmiappppgaaBd

/- Products share sums; polynomials times 1; plain ones are alike (mathematics). -/

namespace Go.Proofs.Ytocklmiappppgaa
open Go.RowKit

theorem mulF_one {a : Pl} (h : Trim a) (k : Int) : mulF a ⟨0, [1]⟩ k = pat a k := by rw [← prod_pat, prod_one h]
theorem shares {a b : Pl} (ha : Trim a) : prodP a (sumP b 1 ⟨0, [1]⟩) = sumP (prodP a b) 1 a := trim_unique (prod_trim _ _) (sum_trim _ _ (prod_trim _ _)) fun k => by
  rw [prod_pat, mulF_sum (b := b) (c := ⟨0, [1]⟩) (n := 1) (fun k => sum_pat b 1 ⟨0, [1]⟩ k), mulF_one ha, sum_pat, prod_pat]
theorem shares_all {a b m x y : Pl} (h : timesPB a b = true) (hm : addPB b ⟨0, [1]⟩ = true) (em : addP b ⟨0, [1]⟩ = m) (hx : timesPB a m = true) (ex : timesP a m = x) (hy : addPB (timesP a b) a = true) (ey : addP (timesP a b) a = y) : x = y := by
  have e1 := (add_true hm).2.2.2.1
  have e2 := (times_true hx).2.2.2
  have e3 := (add_true hy).2.2.2.1
  have e4 := times_true h
  rw [← ex, ← ey, e2, e3, ← em, e1, e4.2.2.2]
  exact shares (polyB_trim e4.1).1
theorem poly_one_is : polyB ⟨0, [1]⟩ = true := by decide
theorem times_one {a : Pl} (h : polyB a = true) : timesPB a ⟨0, [1]⟩ = true ∧ timesP a ⟨0, [1]⟩ = a := by
  have e := prod_one (polyB_trim h).1
  have hb : timesPB a ⟨0, [1]⟩ = true := by
    unfold timesPB
    rw [h, poly_one_is, e, h]
    rfl
  exact ⟨hb, by rw [(times_true hb).2.2.2, e]⟩
theorem of_itself {l : Int} {x : List Int} (h : polyB ⟨l, x⟩ = true) : polyOfB l x = true ∧ polyOfP l x = ⟨l, x⟩ := by
  obtain ⟨hT, h1, h2, h3, _⟩ := polyB_trim h
  have e : tidyP l x = ⟨l, x⟩ := tidy_self hT
  have hb : polyOfB l x = true := by
    unfold polyOfB inR
    rw [e, h, decide_eq_true h2, decide_eq_true h3, decide_eq_true h1]
    rfl
  refine ⟨hb, ?_⟩
  unfold polyOfP
  rw [hb, e]
  rfl
theorem alike_comm (a b : Pl) : alikeB b a = alikeB a b := by
  unfold alikeB
  rw [show decide ((plainP b).cs = (plainP a).cs) = decide ((plainP a).cs = (plainP b).cs) from decide_eq_decide.2 ⟨Eq.symm, Eq.symm⟩]
  cases polyB a <;> cases polyB b <;> rfl
theorem alike_len {a b : Pl} (h : alikeB a b = true) : a.cs.length = b.cs.length := by
  unfold alikeB at h
  simp only [Bool.and_eq_true, decide_eq_true_eq] at h
  rw [← plain_len a, ← plain_len b, h.2.2]
theorem plained_true {a : Pl} (h : polyB a = true) : plainedP a = plainP a ∧ polyB (plainP a) = true ∧ plainedP (plainP a) = plainP a ∧ alikeB a (plainP a) = true := by
  have h1 := plain_polyB h
  refine ⟨by unfold plainedP; rw [h]; rfl, h1, by unfold plainedP; rw [h1, plain_plain]; rfl, ?_⟩
  unfold alikeB
  rw [h, h1, plain_plain, decide_eq_true rfl]
  rfl
theorem plain_first {a : Pl} (h : polyB a = true) (h0 : 0 < (plainP a).cs.length) : (plainP a).low = 0 ∧ 0 < (plainP a).cs.getD 0 0 := by
  rw [plain_len] at h0
  obtain ⟨z0, _⟩ := trim_nonzero (polyB_trim h).1 h0
  refine ⟨plain_low h0, ?_⟩
  rw [plain_some (by omega)]
  show 0 < (a.cs.map fun z => (if a.cs.getD 0 0 < 0 then -1 else 1) * z).getD 0 0
  rw [List.getD_eq_getElem?_getD, List.getElem?_map]
  have e : a.cs[0]? = some (a.cs.getD 0 0) := by rw [List.getD_eq_getElem?_getD, List.getElem?_eq_getElem h0]; rfl
  rw [e]
  show 0 < (if a.cs.getD 0 0 < 0 then -1 else 1) * a.cs.getD 0 0
  split <;> omega

end Go.Proofs.Ytocklmiappppgaa

/- The contract of DrawPolyAlike. -/

namespace Go.Proofs.Ytocklmiappppgaa
open Go.RowKit Go.Shelf

set_option maxRecDepth 100000 in
set_option maxHeartbeats 3000000 in
theorem drawPolyAlike_any (a : Option Addr) (n cap : Nat) (zs : List Int) (w : World) (h : BsAt w.heap.size w a n cap zs) :
    Calls Try.prog 49 #[.slice a n cap] w (TwoAny w) := by
  obtain ⟨W, hW⟩ : ∃ W, (w.alloc (.cells #[.int .i64 0, .slice none 0 0] 25)).alloc (.cells #[.int .i64 0, .slice none 0 0] 25) = W := ⟨_, rfl⟩
  obtain ⟨hbW, hsz⟩ := resTwoBelow hW
  have HO := Lib.hid (open_any a n cap zs W ((h.below hbW).more hbW.size))
  have HC : Hid (∀ w1, Below W.heap.size W w1 → _) := Lib.hid fun w1 (hg : Below W.heap.size W w1) => resTwo hW hg
  have HBW := Lib.hid hbW
  have HW := Lib.hid hW
  have HSZ := Lib.hid hsz
  clear h hW hbW hsz
  go_enter Try.func49, Try.ntmps49
  go_wp2_with fail
  rw [HW.out]
  refine HO.out.mono ?_
  rintro e w1 ⟨n', zs', rfl, hR1, hB1⟩
  have HR1 := Lib.hid hR1
  have HB1 := Lib.hid hB1
  have hs1 := hB1.size
  have hr1 := hR1.lt
  clear hR1 hB1
  go_wp2_with fail
  refine (l92Poly_any W.heap.size W.heap.size a n' cap zs' 0 w1 HR1.out (by omega)).mono ?_
  rintro e w2 ⟨⟨l1, v1, x, rfl, hS1⟩, ⟨p2, hp2, hR2⟩, hB2, hG2⟩
  obtain ⟨g1, d1, rfl, hi1⟩ := hS1.pin
  obtain ⟨m1, hm1⟩ : ∃ m, x.length = m := ⟨_, rfl⟩
  rw [hm1] at hS1 ⊢
  obtain ⟨V, hV⟩ : ∃ V, w2.alloc (.cells #[.int .i64 l1, .slice g1 m1 d1] 25) = V := ⟨_, rfl⟩
  have hbV : Below w2.heap.size w2 V := by rw [← hV]; exact (Below.refl _ _).alloc (Nat.le_refl _) _
  have hs2 := hG2.size
  have HX := Lib.hid (BoxF.new hV)
  have HSV := Lib.hid ((hS1.below hbV).any)
  have HRV := Lib.hid (hR2.below hbV)
  have HBV := Lib.hid ((HB1.out.trans hB2).trans (hbV.mono (by omega)))
  have hsV := hbV.size
  have hsV2 : V.heap.size = w2.heap.size + 1 := by rw [← hV]; simp
  have HSV2 := Lib.hid hsV2
  have hp := HX.out
  rw [← hV] at hp
  obtain ⟨_, k0, k1, _, _⟩ := hp
  have HV := Lib.hid hV
  obtain ⟨t, ht⟩ : ∃ t, polyB ⟨l1, x⟩ = t := ⟨_, rfl⟩
  obtain ⟨P, hP⟩ : ∃ P, doneP t (plainP ⟨l1, x⟩) = P := ⟨_, rfl⟩
  have hwf : ∀ z ∈ P.cs, -9223372036854775808 ≤ z ∧ z ≤ 9223372036854775807 := doneP_mem (fun e => plain_polyB (ht.trans e)) hP
  have hcall := sPolyPlain_any l1 x g1 d1 m1 t V HSV.out.pin_at.is ht
  rw [hP] at hcall
  have HCALL := Lib.hid hcall
  have HWF := Lib.hid hwf
  clear hS1 hi1 hm1 hR2 hB2 hG2 hbV hV hsV2 ht hP hwf hcall
  go_wp2_with fail
  rw [HV.out]
  clear k0 k1
  refine HCALL.out.mono ?_
  rintro e w4 ⟨⟨v, rfl, hr4⟩, hb4⟩
  have hA3 : AnyP V.heap.size w4 v P.cs := ⟨hr4, HWF.out⟩
  obtain ⟨g3, d3, rfl, hi3⟩ := hA3.pin
  obtain ⟨m3, hm3⟩ : ∃ m, P.cs.length = m := ⟨_, rfl⟩
  obtain ⟨pl, hpl⟩ : ∃ l, P.low = l := ⟨_, rfl⟩
  rw [hm3] at hA3 ⊢
  rw [hpl]
  obtain ⟨T, hT⟩ : ∃ T, w4.alloc (.cells #[.int .i64 pl, .slice g3 m3 d3] 25) = T := ⟨_, rfl⟩
  have hbT : Below w4.heap.size w4 T := by rw [← hT]; exact (Below.refl _ _).alloc (Nat.le_refl _) _
  have hb4T : Below V.heap.size V T := hb4.trans (hbT.mono hb4.size)
  have HY1 := Lib.hid (HX.out.below hb4T)
  have HY3 := Lib.hid (BoxF.new hT)
  have HD1 := Lib.hid (HSV.out.below hb4T)
  have HD3 := Lib.hid (hA3.below hbT)
  have HRT := Lib.hid (HRV.out.below hb4T)
  have hsU := HBV.out.size
  have HBT := Lib.hid (HBV.out.trans (hb4T.mono hsU))
  have hs4 := hb4.size
  have hsT := hbT.size
  have HT := Lib.hid hT
  clear hr4 hA3 hi3 hm3 hpl hbT hb4T hT hb4
  have hVs := HSV2.out
  have hWs := HSZ.out
  have hbig : w.heap.size + 1 < w2.heap.size := by omega
  have hbig4 : w.heap.size + 1 < w4.heap.size := by omega
  have hx2 : w2.heap.size < w4.heap.size := by omega
  clear hVs hWs
  obtain ⟨⟨_, r0, r1, f0, f1⟩, ⟨_, e0, e1, g0, g1'⟩⟩ := HC.out T HBT.out
  obtain ⟨_, k0, k1, _, _⟩ := HY1.out
  obtain ⟨_, k4, k5, _, _⟩ := HY3.out
  obtain ⟨n1, n2, n3, n4, n5, n6⟩ := two_ahead hbig
  obtain ⟨o1, o2, o3, o4, o5, o6⟩ := two_ahead hbig4
  cases t with
  | false =>
    rw [← HT.out] at k0 k1 k4 k5 r0 r1 f0 f1 e0 e1 g0 g1'
    go_upto_region 6 with fail
    rw [HT.out] at k0 k1 k4 k5 r0 r1 f0 f1 e0 e1 g0 g1' ⊢
    go_region_held3 (fun w' : World => w'.cell? ⟨w2.heap.size, 0, none⟩ = some (.int .i64 l1) ∧ w'.cell? ⟨w2.heap.size, 1, none⟩ = some (.slice g1 m1 d1)) (first | go_keep | exact ⟨k0, k1⟩)
      (first
        | (go_at_call 65
           refine (l92Poly_any W.heap.size W.heap.size a n' cap zs' p2 _ (HRT.out.below (Below.refl _ _).drew) (by omega)).mono ?_
           rintro e w3 ⟨⟨l2, v2, y, rfl, hS2⟩, _, hB3, hG3⟩
           obtain ⟨g2, d2, rfl, hi2⟩ := hS2.pin
           obtain ⟨m2, hm2⟩ : ∃ m, y.length = m := ⟨_, rfl⟩
           rw [hm2] at hS2 ⊢
           have hgV : T.grownBy w3 (some W.heap.size) := grownTrans (grownBelow _ (Below.refl T.heap.size T).drew) hG3
           have hS2 : SmallP T.heap.size w3 l2 (.slice g2 m2 d2) y := hS2
           have HS2 := Lib.hid hS2.any
           have HS1 := Lib.hid (HD1.out.grown hgV (by omega))
           have HB3 := Lib.hid (HBT.out.drew.trans hB3)
           have hs3 := hgV.size
           obtain ⟨_, k0, k1, _, _⟩ := HY1.out.grown hgV (by simp; omega)
           obtain ⟨⟨_, r0, r1, f0, f1⟩, ⟨_, e0, e1, g0, g1'⟩⟩ := HC.out w3 HB3.out
           clear hS2 hi2 hm2 hB3 hG3 hgV))
    all_goals
      go_wp2
      have hVs := HSV2.out
      have hWs := HSZ.out
      refine bodyPost_ret (v := .tuple #[plV l1 (.slice g1 m1 d1), plV l2 (.slice g2 m2 d2)]) ?_ rfl ⟨⟨l1, g1, m1, d1, x, l2, g2, m2, d2, y, rfl, ((HS1.out.others (B := w.heap.size) _ _ (by omega)).others (B := w.heap.size + 1) _ _ (by omega)).pin_at, ((HS2.out.others (B := w.heap.size) _ _ (by omega)).others (B := w.heap.size + 1) _ _ (by omega)).pin_at⟩, setTwoBelow _ _ _ _ (HBW.out.trans (HB3.out.mono HBW.out.size)) (Nat.le_refl _)⟩
      simp [results, Try.results49, go_sem, r0, r1, e0, e1, plV]
  | true =>
    rw [← HT.out] at k0 k1 k4 k5 r0 r1 f0 f1 e0 e1 g0 g1'
    go_wp2_with fail
    rw [HT.out]
    clear k0 k1 k4 k5 r0 r1 f0 f1 e0 e1 g0 g1'
    refine (pick_any W.heap.size W.heap.size a n' cap zs' p2 2 T HRT.out (by omega) (by omega) (by omega)).mono ?_
    rintro e w6 ⟨⟨z3, rfl, hz3⟩, hR6, hB6, hG6⟩
    have hVs := HSV2.out
    have hWs := HSZ.out
    have HZ1 := Lib.hid (HY1.out.grown hG6 (by simp; omega))
    have HZ3 := Lib.hid (HY3.out.grown hG6 (by simp; omega))
    have HE1 := Lib.hid (HD1.out.grown hG6 (by omega))
    have HE3 := Lib.hid (HD3.out.grown hG6 (by omega))
    have HB6 := Lib.hid (HBT.out.trans hB6)
    have HR6 := Lib.hid hR6
    have hs6 := hG6.size
    clear hB6 hG6 hVs hWs hR6
    obtain ⟨⟨_, r0, r1, f0, f1⟩, ⟨_, e0, e1, g0, g1'⟩⟩ := HC.out w6 HB6.out
    obtain ⟨_, k0, k1, _, _⟩ := HZ1.out
    obtain ⟨_, k4, k5, _, _⟩ := HZ3.out
    by_cases hz : z3 = 0
    · subst hz
      go_upto_region 5 with fail
      go_region_held3 (fun w' : World => w'.cell? ⟨w2.heap.size, 0, none⟩ = some (.int .i64 l1) ∧ w'.cell? ⟨w2.heap.size, 1, none⟩ = some (.slice g1 m1 d1) ∧ w'.cell? ⟨w4.heap.size, 0, none⟩ = some (.int .i64 pl) ∧ w'.cell? ⟨w4.heap.size, 1, none⟩ = some (.slice g3 m3 d3)) (first | go_keep | exact ⟨k0, k1, k4, k5⟩) (fail)
      all_goals
        go_wp2
        have hVs := HSV2.out
        have hWs := HSZ.out
        refine bodyPost_ret (v := .tuple #[plV l1 (.slice g1 m1 d1), plV pl (.slice g3 m3 d3)]) ?_ rfl ⟨⟨l1, g1, m1, d1, x, pl, g3, m3, d3, P.cs, rfl, ((HE1.out.others (B := w.heap.size) _ _ (by omega)).others (B := w.heap.size + 1) _ _ (by omega)).pin_at.below (Below.refl _ _).drew, ((HE3.out.others (B := w.heap.size) _ _ (by omega)).others (B := w.heap.size + 1) _ _ (by omega)).pin_at.below (Below.refl _ _).drew⟩, (setTwoBelow _ _ _ _ (HBW.out.trans (HB6.out.mono HBW.out.size)) (Nat.le_refl _)).drew⟩
        simp [results, Try.results49, go_sem, r0, r1, e0, e1, plV]
    · have hzi : ((z3 : Int) == 0) = false := by simpa using hz
      have hzn : ¬ (z3 : Int) = 0 := by omega
      go_upto_region 6 with fail
      go_region_held3 (fun w' : World => w'.cell? ⟨w2.heap.size, 0, none⟩ = some (.int .i64 l1) ∧ w'.cell? ⟨w2.heap.size, 1, none⟩ = some (.slice g1 m1 d1)) (first | go_keep | exact ⟨k0, k1⟩)
        (first
          | (go_at_call 65
             refine (l92Poly_any W.heap.size W.heap.size a n' cap zs' (p2 + 1) _ (HR6.out.below (Below.refl _ _).drew) (by omega)).mono ?_
             rintro e w3 ⟨⟨l2, v2, y, rfl, hS2⟩, _, hB3, hG3⟩
             obtain ⟨g2, d2, rfl, hi2⟩ := hS2.pin
             obtain ⟨m2, hm2⟩ : ∃ m, y.length = m := ⟨_, rfl⟩
             rw [hm2] at hS2 ⊢
             have hgV : w6.grownBy w3 (some W.heap.size) := grownTrans (grownBelow _ (Below.refl w6.heap.size w6).drew) hG3
             have hS2 : SmallP w6.heap.size w3 l2 (.slice g2 m2 d2) y := hS2
             have HS2 := Lib.hid hS2.any
             have HS1 := Lib.hid (HE1.out.grown hgV (by omega))
             have HB3 := Lib.hid (HB6.out.drew.trans hB3)
             have hs3 := hgV.size
             obtain ⟨_, k0, k1, _, _⟩ := HZ1.out.grown hgV (by simp; omega)
             obtain ⟨⟨_, r0, r1, f0, f1⟩, ⟨_, e0, e1, g0, g1'⟩⟩ := HC.out w3 HB3.out
             clear hS2 hi2 hm2 hB3 hG3 hgV))
      all_goals
        go_wp2
        have hVs := HSV2.out
        have hWs := HSZ.out
        refine bodyPost_ret (v := .tuple #[plV l1 (.slice g1 m1 d1), plV l2 (.slice g2 m2 d2)]) ?_ rfl ⟨⟨l1, g1, m1, d1, x, l2, g2, m2, d2, y, rfl, ((HS1.out.others (B := w.heap.size) _ _ (by omega)).others (B := w.heap.size + 1) _ _ (by omega)).pin_at, ((HS2.out.others (B := w.heap.size) _ _ (by omega)).others (B := w.heap.size + 1) _ _ (by omega)).pin_at⟩, setTwoBelow _ _ _ _ (HBW.out.trans (HB3.out.mono HBW.out.size)) (Nat.le_refl _)⟩
        simp [results, Try.results49, go_sem, r0, r1, e0, e1, plV]

end Go.Proofs.Ytocklmiappppgaa

/- The contract of DrawPolyOf. -/

namespace Go.Proofs.Ytocklmiappppgaa
open Go.RowKit Go.Shelf

/-- What DrawPolyOf comes to. -/
def OfP (w : World) (e : Ending) (w' : World) : Prop := (∃ (low : Int) (g c : Nat) (x : List Int), e = .returned (.tuple #[.int .i64 low, .slice (some ⟨g, 0, none⟩) x.length c]) ∧ AnyP w.heap.size w' (.slice (some ⟨g, 0, none⟩) x.length c) x ∧ x.length ≤ 10 ∧ -1000 ≤ low ∧ low ≤ 1000) ∧ Below w.heap.size w w'
theorem snoc_wf {l : List Int} {z : Int} (hc : ∀ y ∈ l, -9223372036854775808 ≤ y ∧ y ≤ 9223372036854775807) (hz : -9223372036854775808 ≤ z ∧ z ≤ 9223372036854775807) : ∀ y ∈ l ++ [z], -9223372036854775808 ≤ y ∧ y ≤ 9223372036854775807 := fun y hy => by
  rcases List.mem_append.1 hy with h | h
  · exact hc y h
  · rw [List.mem_singleton.1 h]; exact hz

theorem tidy_snoc0 (low : Int) (l : List Int) : tidyP low (l ++ [0]) = tidyP low l := trim_unique (tidy_trim _ _) (tidy_trim _ _) fun k => by
  rw [tidy_pat, tidy_pat]
  unfold pat
  split
  · show (l ++ [0]).getD (k - low).toNat 0 = l.getD (k - low).toNat 0
    by_cases h : (k - low).toNat < l.length
    · rw [List.getD_eq_getElem?_getD, List.getElem?_append_left h, ← List.getD_eq_getElem?_getD]
    · rw [getD_far (l := l) (by omega)]
      by_cases h2 : (k - low).toNat = l.length
      · rw [h2, List.getD_eq_getElem?_getD, List.getElem?_append_right (Nat.le_refl _), Nat.sub_self]; rfl
      · exact getD_far (by simp; omega)
  · rfl
theorem of_snoc0 {low : Int} {l : List Int} (h : l.length ≤ 100) : polyOfB low (l ++ [0]) = polyOfB low l ∧ polyOfP low (l ++ [0]) = polyOfP low l := by
  have e : polyOfB low (l ++ [0]) = polyOfB low l := by
    have h1 : (l ++ [(0 : Int)]).length ≤ 200 := by simp; omega
    have h2 : l.length ≤ 200 := by omega
    unfold polyOfB
    rw [tidy_snoc0, decide_eq_true h1, decide_eq_true h2]
  refine ⟨e, ?_⟩
  unfold polyOfP
  rw [e, tidy_snoc0]
theorem of_in {low : Int} {l : List Int} (h : polyOfB low l = true) : polyB (polyOfP low l) = true := by
  have h' := h
  unfold polyOfB at h
  simp only [Bool.and_eq_true] at h
  unfold polyOfP
  rw [h']
  exact h.2.2
theorem Ints.news0 {w : World} {x : Addr} {n : Nat} {zs : List Int} (h : Ints w (some x) n zs) : ∀ j u, (intsV zs)[j]? = some u → w.cell? (x.add j) = some u := fun j u hu => by
  by_cases h0 : 0 < n
  · exact h.news h0 j u hu
  · have : zs = [] := List.length_eq_zero_iff.1 (by have := h.len; omega)
    subst this
    simp [intsV] at hu

set_option maxRecDepth 100000 in
set_option maxHeartbeats 2000000 in
theorem drawPolyOf_any (a : Option Addr) (n cap : Nat) (zs : List Int) (w : World) (h : BsAt w.heap.size w a n cap zs) :
    Calls Try.prog 29 #[.slice a n cap] w (OfP w) := by
  obtain ⟨i0, hi, hz0, hz1, hz2⟩ := info_parts infoInt
  have HO := Lib.hid (open_any a n cap zs w h)
  clear h
  go_enter Try.func29, Try.ntmps29
  go_wp2_with fail
  refine HO.out.mono ?_
  rintro e w1 ⟨n', zs', rfl, hR1, hB1⟩
  have HR1 := Lib.hid hR1
  have HB1 := Lib.hid hB1
  have hr1 := hR1.lt
  clear hR1 hB1
  go_wp2_with fail
  refine (pick_any w.heap.size w.heap.size a n' cap zs' 0 9 w1 HR1.out (by omega) (by omega) (by omega)).mono ?_
  rintro e w2 ⟨⟨z, rfl, hz⟩, hR2, hB2, hG2⟩
  have HR2 := Lib.hid hR2
  have HB2 := Lib.hid (HB1.out.trans hB2)
  have hs2 := hG2.size
  clear hR2 hB2 hG2
  have e1 : IntKind.i64.wrap ((z : Int) - 4) = (z : Int) - 4 := IntWalk.i64_in _ (by omega)
  go_wp2_with fail
  refine (pick_any w.heap.size w.heap.size a n' cap zs' (0 + 1) 20 w2 HR2.out (by omega) (by omega) (by omega)).mono ?_
  rintro e w3 ⟨⟨y, rfl, hy⟩, hR3, hB3, hG3⟩
  have HR3 := Lib.hid hR3
  have hB3' := HB2.out.trans hB3
  have hs3 := hG3.size
  have hrl3 := hR3.lt
  obtain ⟨t, ht⟩ : ∃ t, (y : Int).tdiv 19 = t := ⟨_, rfl⟩
  have htb := tdiv_size (z := (y : Int)) (b := 19)
  rw [ht] at htb
  have e2 : IntKind.i64.wrap t = t := IntWalk.i64_in _ (by omega)
  have e3 : IntKind.i64.wrap (t * 300) = t * 300 := IntWalk.i64_in _ (by omega)
  have e4 : IntKind.i64.wrap ((z : Int) - 4 + t * 300) = (z : Int) - 4 + t * 300 := IntWalk.i64_in _ (by omega)
  obtain ⟨W, hW⟩ : ∃ X, w3.alloc (.cells #[] 3) = X := ⟨_, rfl⟩
  have hbW : Below w3.heap.size w3 W := by rw [← hW]; exact (Below.refl _ _).alloc (Nat.le_refl _) _
  have HOW := Lib.hid (show W.ownsRow w3.heap.size 3 1 (.slice (some ⟨w3.heap.size, 0, none⟩) 0 0) 0 (intsV []) by rw [← hW]; exact made_at w3 w3.heap.size rfl w3.heap.size (Nat.le_refl _))
  have HRW := Lib.hid (hR3.below hbW)
  have HBW := Lib.hid (hB3'.trans (hbW.mono (by omega)))
  have hsW : W.heap.size = w3.heap.size + 1 := by rw [← hW]; simp
  have HSW := Lib.hid hsW
  have HW := Lib.hid hW
  clear hR3 hB3 hB3' hG3 hbW hW hsW htb
  go_wp2_with fail
  rw [HW.out]
  refine (pick_any w.heap.size w.heap.size a n' cap zs' (0 + 1 + 1) 6 W HRW.out (by omega) (by omega) (by omega)).mono ?_
  rintro e w4 ⟨⟨N, rfl, hN⟩, hR4, hB4, hG4⟩
  have hsw := HSW.out
  have HO1 : Hid (w4.ownsRow w3.heap.size 3 1 (.slice (some ⟨w3.heap.size, 0, none⟩) 0 0) 0 (intsV [])) := Lib.hid (HOW.out.kept hG4 (.inr (by simp [Value.ownBlock]; omega)))
  have HR4 := Lib.hid hR4
  have HB4 := Lib.hid (HBW.out.trans hB4)
  have hs4 := hG4.size
  have hs34 : w3.heap.size ≤ w4.heap.size := by omega
  obtain ⟨low, hlow⟩ : ∃ l, (z : Int) - 4 + t * 300 = l := ⟨_, rfl⟩
  have hlb : -1000 ≤ low ∧ low ≤ 1000 := by
    have h1 := tdiv_size (z := (y : Int)) (b := 19)
    rw [ht] at h1
    have h2 : t ≤ 1 := by rw [← ht, Int.tdiv_eq_ediv_of_nonneg (by omega)]; omega
    have h3 : 0 ≤ t := by rw [← ht, Int.tdiv_eq_ediv_of_nonneg (by omega)]; omega
    omega
  have HLB := Lib.hid hlb
  rw [hlow] at *
  clear hR4 hB4 hG4 hsw hlb ht e1 e2 e3 e4
  go_wp2_with fail
  go_loopw [6, 8] (fun v i wr => ∃ (k q g c : Nat) (cs : List Int), v = .slice (some ⟨g, 0, none⟩) k c ∧ k ≤ N ∧ i = .int .i64 (k : Int) ∧ q ≤ 3 + k ∧ Hid (cs.length = k ∧ (∀ y ∈ cs, -9223372036854775808 ≤ y ∧ y ≤ 9223372036854775807) ∧ wr.ownsRow w3.heap.size 3 1 v k (intsV cs) ∧ Rd w.heap.size wr w.heap.size a n' cap zs' q ∧ Below w.heap.size w wr) ∧ w3.heap.size ≤ wr.heap.size) (fun _ i _ => N - (intOf i).toNat)
  case atStart => exact ⟨0, 3, w3.heap.size, 0, [], rfl, Nat.zero_le _, rfl, by omega, Lib.hid ⟨rfl, fun y h => (by cases h), HO1.out, HR4.out, HB4.out⟩, hs34⟩
  case round =>
    obtain ⟨k, q, g, c, cs, rfl, hk, rfl, hq, HH, hsz⟩ := hrel
    by_cases hlt : k < N
    · have hli : (k : Int) < (N : Int) := by omega
      go_wp2_with fail
      refine (pick_any w.heap.size w.heap.size a n' cap zs' q 5 wr HH.out.2.2.2.1 (by omega) (by omega) (by omega)).mono ?_
      rintro e w5 ⟨⟨z5, rfl, hz5⟩, hR5, hB5, hG5⟩
      obtain ⟨h1, h2, h3, h4, h5⟩ := HH.out
      have ho5 : w5.ownsRow w3.heap.size 3 1 (.slice (some ⟨g, 0, none⟩) k c) k (intsV cs) := h3.kept hG5 (.inr fun e => by have := own_ge h3 w.heap.size e; omega)
      have HO5 := Lib.hid (ho5.alloc (.cells #[.int .i64 ((z5 : Int) - 2)] 3))
      have HOG := Lib.hid (own_ge ho5)
      have HR5 := Lib.hid hR5
      have HB5 := Lib.hid (h5.trans hB5)
      have hs5 := hG5.size
      have HL := Lib.hid h1
      have HC := Lib.hid h2
      have e1 : IntKind.i64.wrap ((z5 : Int) - 2) = (z5 : Int) - 2 := IntWalk.i64_in _ (by omega)
      have HNB := Lib.hid (World.news_of_block (cs := #[.int .i64 ((z5 : Int) - 2)]) (t := 3) (fr := (0, 0)) (World.alloc_heap_new w5 (.cells #[.int .i64 ((z5 : Int) - 2)] 3)))
      clear hR5 hB5 hG5 h1 h2 h3 h4 h5 ho5
      go_wp2_with (at_builtin; refine wpList_append_own _ rfl _ _ 23 rfl w3.heap.size 3 i0 (.int .i64 0) 1 8 Try.underlying23 hi hz0 hz1 hz2 rfl (by decide) _ k _ rfl HO5.out ⟨w5.heap.size, 0, none⟩ 1 1 [.int .i64 ((z5 : Int) - 2)] rfl rfl HNB.out (fun u hu => by simp at hu; rcases hu with rfl; rfl) (by unfold maxLen; omega) (by omega) (by simp; omega) ?_; intro v1 w7 hrow hgrow hnil)
      have hB57 : Below w3.heap.size w5 w7 := ((Below.refl w3.heap.size w5).alloc (by omega) _).grown hgrow (by simp; omega) (fun j e => HOG.out j e)
      have hs7 := hB57.size
      obtain ⟨g9, c9, rfl⟩ := Go.Joins.ownsRow_form hrow (by omega)
      refine ⟨⟨k + 1, q + 1, g9, c9, cs ++ [(z5 : Int) - 2], rfl, by omega, by go_num, by omega, Lib.hid ⟨by rw [List.length_append, HL.out]; rfl, snoc_wf HC.out (by omega), ?_, HR5.out.past hB57 (by omega), HB5.out.trans (hB57.mono (by omega))⟩, by omega⟩, by simp [intOf]; omega⟩
      have h := hrow
      unfold intsV at h ⊢
      rw [List.map_append]
      exact h
    · obtain rfl : k = N := by omega
      obtain ⟨h1, h2, h3, h4, h5⟩ := HH.out
      have HA := Lib.hid (show AnyP w.heap.size wr (.slice (some ⟨g, 0, none⟩) k c) cs from ⟨(rowI h3 h1).mono (by omega), h2⟩)
      have HL := Lib.hid h1
      have HB5 := Lib.hid h5
      clear h1 h2 h3 h4 h5
      go_wp2
      go_ret2
      exact ⟨⟨low, g, c, cs, by rw [HL.out]; rfl, by rw [HL.out]; exact HA.out, by rw [HL.out]; omega, HLB.out⟩, HB5.out⟩

end Go.Proofs.Ytocklmiappppgaa

/- A slice of terms that came in, opened. -/

namespace Go.Proofs.Ytocklmiappppgaa
open Go.RowKit Go.ChangeShapes Go.WideShapes

theorem isTerms_of {H : Type} {enc : TypeId × Value → H} {W : World} {base : Nat} {spare : Nat → Bool} {held : Bool} {fuel : Nat} {a : Option Addr} {len cap : Nat} {x : DataW H × List MemPlace}
    (h : DataW.trod enc Try.prog W base spare held fuel 50 [.slice a len cap] = some x) : ∃ ts, IsTerms W a len ts := by
  rcases Go.Deep.open_slice_pairs Try.underlying50 Try.underlying86 (by kernel_rfl) rfl rfl (by kernel_rfl) (by kernel_rfl) h with ⟨hcs, _⟩ | ⟨y, l, c, m, n, V0, V1, D0, D1, P0, P1, hcs, hb, hl, hm, hmm, _, hx⟩
  · simp at hcs
    obtain ⟨rfl, rfl, rfl⟩ := hcs
    exact ⟨[], rfl, Nat.zero_le _, fun h => absurd h (Nat.lt_irrefl _), fun t h => by cases h⟩
  · simp at hcs
    obtain ⟨rfl, rfl, rfl⟩ := hcs
    have hlm : len ≤ m := by rw [hmm]; split <;> omega
    have each : ∀ i, i < len → ∃ t : Tm, W.cell? (y.add (i * 2)) = some (.int .i64 t.c) ∧ W.cell? (y.add (i * 2 + 1)) = some (.string t.s) ∧ (t.s.size ≤ maxLen ∧ -9223372036854775808 ≤ t.c ∧ t.c ≤ 9223372036854775807) := fun i hi => by
      obtain ⟨h0, h1, h2, h3⟩ := hx i (by omega)
      obtain ⟨k, hk, _, hwf⟩ := DataW.trod_int Try.underlying3 h2
      obtain ⟨s, hs, _, hsm⟩ := DataW.trod_string Try.underlying9 h3
      simp at hk hs
      refine ⟨⟨k, s⟩, by rw [h0, hk], by rw [h1, hs], hsm, ?_⟩
      simp only [Lit.wf, Bool.and_eq_true, decide_eq_true_eq] at hwf
      exact ⟨hwf.1, hwf.2⟩
    obtain ⟨q, hq⟩ := Go.Deep.choose_lt each
    refine ⟨(List.range len).map q, by simp, by omega, fun h0 => ⟨y, rfl, ?_, fun i hi => ?_⟩, fun t ht => ?_⟩
    · have := (hq 0 h0).1
      have h := World.block_lt_of_cell? _ _ this
      rw [addr_add_block] at h
      exact h
    · simp only [List.length_map, List.length_range] at hi
      simp only [List.getElem_map, List.getElem_range]
      exact ⟨(hq i hi).1, (hq i hi).2.1⟩
    · obtain ⟨i, hi, rfl⟩ := List.mem_map.1 ht
      exact (hq i (List.mem_range.1 hi)).2.2

end Go.Proofs.Ytocklmiappppgaa

/- A drawn region whose last operation may break the condition that the ones ahead of it keep: the condition is asked only while something is still to come. -/

namespace Go.Proofs.Ytocklmiappppgaa
open Go.RowKit

section
variable {P : Program} {Q : Exit → Act → World → Prop} {md : Region.Mode} {S : World → Prop}

/-- Whatever order; behind each operation of the head (those ahead of number n) the condition holds. -/
def wpAnyG (P : Program) (md : Region.Mode) (ops : Array Oper) (Q : Exit → Act → World → Prop) (S : World → Prop) (n : Nat) : Nat → Array Bool → Act → World → Prop
  | 0, listed, a, w => Region.ready md ops listed = [] ∧ Q .normal a w
  | fuel + 1, listed, a, w => (Region.ready md ops listed = [] → Q .normal a w) ∧
    ∀ i ∈ Region.ready md ops listed, wpOp P ops Q i (fun a' w' => (i < n → S w') ∧ wpAnyG P md ops Q S n fuel (listed.setIfInBounds i true) a' w') a w

theorem wpAny_of_G {ops : Array Oper} {n : Nat} : ∀ (fuel : Nat) (listed : Array Bool) (a : Act) (w : World), wpAnyG P md ops Q S n fuel listed a w → wpAny P md ops Q fuel listed a w
  | 0, _, _, _, h => h
  | fuel + 1, _, _, _, h => ⟨h.1, fun i hi => wpOp_mono (fun a' w' h' => wpAny_of_G fuel _ a' w' h'.2) (h.2 i hi)⟩

theorem wpAnyG_first {ops : Array Oper} {i n : Nat} {oi : Oper} {v : Value} (hi : ops[i]? = some oi) (hsel : ∀ (j : Nat) (o : Oper) cs b, ops[j]? = some o → o.op ≠ .select cs b)
    (hs : Region.sinkB md ops n = true) (hc : Region.chainB md ops n = true) (hn : n < ops.size) (hin : i < n)
    (hQ : ∀ c a w, Q (.panic c) (a.put oi.dst v) w → Q (.panic c) a w) :
    ∀ (fuel : Nat) (listed : Array Bool) (a : Act) (w : World), HeadInv md ops n listed →
      (∀ j oj, ops[j]? = some oj → j ≠ i → listed.getD j true = false → (∀ e ∈ oj.after, Region.binds md e = true → e.on ≠ i) → oi.apart ops oj = true) →
      i ∈ Region.ready md ops listed → YieldsIf P ops S oi v a → S w →
      wpAnyG P md ops Q S n fuel (listed.setIfInBounds i true) (a.put oi.dst v) w → wpAnyG P md ops Q S n (fuel + 1) listed a w := by
  intro fuel
  induction fuel with
  | zero =>
    intro listed a w _ _ hr hy hS H
    refine ⟨fun h => (by rw [h] at hr; cases hr), fun j hj => ?_⟩
    by_cases hji : j = i
    · subst hji; exact hy.wpOp hi hS ⟨fun _ => hS, H⟩
    · have := ready_mono hj hji
      rw [H.1] at this
      cases this
  | succ fuel ih =>
    intro listed a w inv hfree hr hy hS H
    refine ⟨fun h => (by rw [h] at hr; cases hr), fun j hj => ?_⟩
    have hun := (mem_ready.1 hr).1
    have hjn : j < n := Nat.lt_of_not_le fun h => tail_waits hs hc hn inv _ i rfl hin hun j h hj
    by_cases hji : j = i
    · subst hji; exact hy.wpOp hi hS ⟨fun _ => hS, H⟩
    · have h1 := H.2 j (ready_mono hj hji)
      obtain ⟨hjun, oj, hoj, hall⟩ := mem_ready.1 hj
      have hnot : ∀ e ∈ oj.after, Region.binds md e = true → e.on ≠ i := fun e he hb heq => by
        have h1 := hall e he hb
        rw [heq, getD_both hun] at h1
        cases h1
      have h2 := wpOp_putIf hoj (hfree j oj hoj hji hjun hnot) (fun cs b => hsel i oi cs b hi) (fun cs b => hsel j oj cs b hoj) hQ hy h1
      have hfree' : ∀ k ok, ops[k]? = some ok → k ≠ i → (listed.setIfInBounds j true).getD k true = false →
          (∀ e ∈ ok.after, Region.binds md e = true → e.on ≠ i) → oi.apart ops ok = true := fun k ok hk hki hu hno => by
        refine hfree k ok hk hki ?_ hno
        by_cases hjk : j = k
        · subst hjk; exact hjun
        · rw [getD_set_ne true hjk] at hu; exact hu
      refine wpOp_mono (fun a' w' h3 => ⟨fun _ => h3.2.1 hjn, ih (listed.setIfInBounds j true) a' w' (inv.set hj hjn) hfree' (ready_mono hr (Ne.symm hji)) h3.1 (h3.2.1 hjn) ?_⟩) h2
      rw [Array.setIfInBounds_comm _ _ hji]
      exact h3.2.2

/-- The state of the walk: what has come up is closed below. -/
def walkG (P : Program) (l : List Oper) (Q : Exit → Act → World → Prop) (S : World → Prop) (n fuel : Nat) (listed : Array Bool) (a : Act) (w : World) : Prop :=
  HeadInv .any l.toArray n listed → wpAnyG P .any l.toArray Q S n fuel listed a w

theorem walkG_take {l : List Oper} {i n : Nat} {oi : Oper} {v : Value} {fuel : Nat} {listed : Array Bool} {a : Act} {w : World} (hi : l[i]? = some oi)
    (hb : (Region.noSelect l.toArray && Region.sinkB .any l.toArray n && Region.chainB .any l.toArray n && decide (n < l.length) && decide (i < n)) = true)
    (hf : Region.free .any l.toArray listed i = true) (hr : (Region.ready .any l.toArray listed).contains i = true)
    (hQ : ∀ c a w, Q (.panic c) (a.put oi.dst v) w → Q (.panic c) a w) (hy : YieldsIf P l.toArray S oi v a) (hS : S w)
    (h : walkG P l Q S n fuel (listed.setIfInBounds i true) (a.put oi.dst v) w) : walkG P l Q S n (fuel + 1) listed a w := fun inv => by
  simp only [Bool.and_eq_true, decide_eq_true_eq] at hb
  obtain ⟨⟨⟨⟨h1, h2⟩, h3⟩, h4⟩, h5⟩ := hb
  have hi' : l.toArray[i]? = some oi := by simpa using hi
  have hr' : i ∈ Region.ready .any l.toArray listed := by simpa using hr
  exact wpAnyG_first hi' (Region.noSelect_spec h1) h2 h3 (by simpa using h4) h5 hQ fuel listed a w inv (Region.free_spec hi' hf) hr' hy hS (h (inv.set hr' h5))

/-- One alone may come up. -/
theorem walkG_one {l : List Oper} {i n : Nat} {o : Oper} {fuel : Nat} {listed : Array Bool} {a : Act} {w : World} (hi : l[i]? = some o) (hin : i < n)
    (hr : Region.ready .any l.toArray listed = [i])
    (h : ∀ K' : Act → World → Prop, Shut (∀ a w, S w → (S w → walkG P l Q S n fuel (listed.setIfInBounds i true) a w) → K' a w) → if Region.wanted o (yielded l.toArray a.tmps) = true then Oper.wp P o a w K' Q else K' (a.put o.dst undef) w) :
    walkG P l Q S n (fuel + 1) listed a w := fun inv => by
  refine ⟨fun h0 => (by rw [hr] at h0; cases h0), fun j hj => ?_⟩
  rw [hr] at hj
  obtain rfl : j = i := by simpa using hj
  have hi' : l.toArray[j]? = some o := by simpa using hi
  exact wpOp_step hi' (fun K' hK => h K' (fun a w hS hW => hK a w ⟨fun _ => hS, hW hS (inv.set (by rw [hr]; simp) hin)⟩))

/-- The last one. -/
theorem walkG_last {l : List Oper} {n : Nat} {o : Oper} {listed : Array Bool} {a : Act} {w : World} (hi : l[n]? = some o)
    (hr : Region.ready .any l.toArray listed = [n]) (hr2 : Region.ready .any l.toArray (listed.setIfInBounds n true) = [])
    (h : ∀ K' : Act → World → Prop, Shut (∀ a w, Q .normal a w → K' a w) → if Region.wanted o (yielded l.toArray a.tmps) = true then Oper.wp P o a w K' Q else K' (a.put o.dst undef) w) (fuel : Nat) :
    walkG P l Q S n (fuel + 1) listed a w := fun inv => by
  refine ⟨fun h0 => (by rw [hr] at h0; cases h0), fun j hj => ?_⟩
  rw [hr] at hj
  obtain rfl : j = n := by simpa using hj
  have hi' : l.toArray[j]? = some o := by simpa using hi
  refine wpOp_step hi' (fun K' hK => h K' (fun a w hq => hK a w ⟨fun h => absurd h (Nat.lt_irrefl _), ?_⟩))
  cases fuel with
  | zero => exact ⟨hr2, hq⟩
  | succ f => exact ⟨fun _ => hq, (by rw [hr2]; simp)⟩

theorem wp_region_G {id : Nat} {l : List Oper} (n : Nat) (S : World → Prop) {a : Act} {w : World} (hm : P.follows .mixedOrders = true) (hS : S w.drew)
    (h : S w.drew → walkG P l Q S n l.length (List.replicate l.length false).toArray a w.drew) : (Code.region id l.toArray true).wp P Q a w := by
  refine wp_region_any hm ?_
  have e : (List.replicate l.length false).toArray = Array.replicate l.toArray.size false := by simp
  have h' := h hS
  rw [e] at h'
  have := wpAny_of_G _ _ _ _ (h' ⟨by simp, fun j oj _ hl => (by rw [getD_replicate_false] at hl; cases hl), fun t _ ht => getD_in (by simpa using ht) (getD_replicate_false _ _)⟩)
  simpa using this
end

end Go.Proofs.Ytocklmiappppgaa

/- The model's l6pOfSum. -/

namespace Go.Proofs.Ytocklmiappppgaa
open Go.RowKit

theorem OneI.newd (w : World) (c : Int) : OneI (w.alloc (.cells #[.int .i64 c] 3)).drew w.heap.size c := OneI.new w c

set_option maxRecDepth 100000 in
set_option maxHeartbeats 3000000 in
theorem l6pOfSum_any (a : Option Addr) (cap n : Nat) (x : List Tm) (w : World) (hx : IsTerms w a n x) (hn : n ≤ 300) (hwx : ∀ u ∈ x, wordB u.s.data.toList = true ∧ u.s.size ≤ 60 ∧ -1000000 ≤ u.c ∧ u.c ≤ 1000000) :
    Calls Try.prog 95 #[.slice a n cap] w fun e w' => (∃ v, e = .returned (plV (sumsP x).low v) ∧ Reads w' v (sumsP x).cs) ∧ Below w.heap.size w w' := by
  have hmx : Try.prog.follows .mixedOrders = true := by kernel_rfl
  obtain ⟨X1, hX1⟩ : ∃ X, w.alloc (.cells #[.int .i64 0, .slice none 0 0] 25) = X := ⟨_, rfl⟩
  obtain ⟨X2, hX2⟩ : ∃ X, X1.alloc (.cells #[] 3) = X := ⟨_, rfl⟩
  obtain ⟨W, hW⟩ : ∃ X, X2.alloc (.cells #[.int .i64 0, .slice (some ⟨w.heap.size + 1, 0, none⟩) 0 0] 25) = X := ⟨_, rfl⟩
  have s1 : X1.heap.size = w.heap.size + 1 := by rw [← hX1]; simp
  have s2 : X2.heap.size = w.heap.size + 2 := by rw [← hX2]; simp [s1]
  have s3 : W.heap.size = w.heap.size + 3 := by rw [← hW]; simp [s2]
  have b1 : Below w.heap.size w X1 := by rw [← hX1]; exact (Below.refl _ w).alloc (Nat.le_refl _) _
  have b2 : Below X1.heap.size X1 X2 := by rw [← hX2]; exact (Below.refl _ _).alloc (Nat.le_refl _) _
  have b3 : Below X2.heap.size X2 W := by rw [← hW]; exact (Below.refl _ _).alloc (Nat.le_refl _) _
  have bW : Below w.heap.size w W := (b1.trans (b2.mono (by omega))).trans (b3.mono (by omega))
  have hF0 : BoxF W w.heap.size (.int .i64 0) (.slice none 0 0) := ((BoxF.new hX1).below b2).below b3
  have hF1 : BoxF W (w.heap.size + 2) (.int .i64 0) (.slice (some ⟨w.heap.size + 1, 0, none⟩) 0 0) := by
    have h := BoxF.new hW
    rwa [s2] at h
  have hR0 : IntRow (w.heap.size + 1) W (.slice (some ⟨w.heap.size + 1, 0, none⟩) 0 0) [] := by
    have h := made_at X1 (w.heap.size + 1) s1 (w.heap.size + 1) (Nat.le_refl _)
    rw [hX2] at h
    exact rowPast h b3
  have HF0 := Lib.hid hF0
  have HF1 := Lib.hid hF1
  have HR0 := Lib.hid hR0
  have HX := Lib.hid hx
  have HN := Lib.hid hx.len
  have HWX := Lib.hid hwx
  have HBW := Lib.hid bW
  have HSS := Lib.hid s3
  have HIN := Lib.hid (sumsP_in x (fun u hu => (hwx u hu).2.2) (fun u hu => (hwx u hu).2.1) (by rw [hx.len]; exact hn))
  have hWW : ((w.alloc (.cells #[.int .i64 0, .slice none 0 0] 25)).alloc (.cells #[] 3)).alloc (.cells #[.int .i64 0, .slice (some ⟨w.heap.size + 1, 0, none⟩) 0 0] 25) = W := by rw [hX1, hX2, hW]
  have HWW := Lib.hid hWW
  clear hx hwx hX1 hX2 hW s1 s2 s3 b1 b2 b3 bW hF0 hF1 hR0 hWW
  go_enter Try.func95, Try.ntmps95
  go_wp2_with fail
  rw [HWW.out]
  go_loopw [4] (fun i wr => ∃ (k : Nat) (lo : Int) (v : Value), k ≤ n ∧ i = .int .i64 (k : Int) ∧ (sumsP (x.take k)).low = lo ∧ Hid (IntRow (w.heap.size + 1) wr v (sumsP (x.take k)).cs) ∧ Hid (∀ j, v.ownBlock = some j → j ≠ w.heap.size + 2) ∧ Hid (BoxF wr w.heap.size (.int .i64 0) (.slice none 0 0)) ∧ Hid (BoxF wr (w.heap.size + 2) (.int .i64 lo) v) ∧ Hid (Below w.heap.size w wr)) (fun i _ => n - (intOf i).toNat)
  case atStart => exact ⟨0, 0, _, Nat.zero_le _, rfl, rfl, HR0, Lib.hid (fun j e => by simp [Value.ownBlock] at e; omega), HF0, HF1, HBW⟩
  case round =>
    obtain ⟨k, lo, v, hk, rfl, hlo, HR, HO, HZ, HF, HB⟩ := hrel
    obtain ⟨_, d0, d1, f0, f1⟩ := HZ.out
    obtain ⟨_, q0, q1, g0, g1⟩ := HF.out
    by_cases hlt : k < n
    · have hki : (k : Int) < (n : Int) := by omega
      have hk0 : (0 : Int) ≤ (k : Int) := by omega
      have hkx : k < x.length := by rw [HN.out]; exact hlt
      obtain ⟨z, rfl, hz⟩ := HX.out.at_ (by omega)
      obtain ⟨u, hu⟩ : ∃ u, x[k] = u := ⟨_, rfl⟩
      obtain ⟨hub1, hub2, hub3, hub4⟩ := HWX.out _ (List.getElem_mem hkx)
      have hcc := (hz.below HB.out).2 k hkx
      rw [hu] at hub1 hub2 hub3 hub4 hcc
      obtain ⟨c0, c1⟩ := hcc
      rw [addr_next] at c1
      obtain ⟨c, hc⟩ : ∃ c, u.c = c := ⟨_, rfl⟩
      obtain ⟨s, hs⟩ : ∃ s, u.s = s := ⟨_, rfl⟩
      rw [hc] at c0 hub3 hub4
      rw [hs] at c1 hub1 hub2
      have hlet := ((wordB_iff _).1 hub1).2.1
      have hinv := sumsL_inv _ hlet
      have hpow := sums_power _ hlet
      obtain ⟨pw, hpw⟩ : ∃ p, pwL s.data.toList = p := ⟨_, rfl⟩
      rw [hpw] at hpow
      have hpb := pwL_bound s.data.toList
      rw [show s.data.toList.length = s.size by simp, hpw] at hpb
      obtain ⟨hpb1, hpb2⟩ := hpb
      have HSU : Hid (sumsP (x.take (k + 1)) = sumP (sumsP (x.take k)) c ⟨pw, [1]⟩) := Lib.hid (by
        rw [sumsP_succ x k hkx, hu, hc]
        unfold pwT
        rw [hs, hpw])
      have HL1 := Lib.hid (sSums_any s wr (by omega) hlet)
      obtain ⟨S, hS⟩ : ∃ S, sumsL s.data.toList = S := ⟨_, rfl⟩
      rw [hS] at HL1 hinv hpow
      clear hu hc hs hpw hub1 hlet hS
      go_wp2_with fail
      refine HL1.out.mono ?_
      rintro e w2 ⟨v5, rfl, hr5, hb5⟩
      unfold IntRow at hr5
      rw [hinv.1] at hr5
      obtain ⟨g5, cap5, rfl⟩ := Go.Joins.ownsRow_form hr5 (by omega)
      obtain ⟨hS4, hSb⟩ := hinv
      obtain ⟨s0, s1, s2, s3, rfl⟩ : ∃ s0 s1 s2 s3, S = [s0, s1, s2, s3] := by
        match S, hS4 with
        | [s0, s1, s2, s3], _ => exact ⟨s0, s1, s2, s3, rfl⟩
      have hb0 := hSb s0 (by simp)
      have hb1 := hSb s1 (by simp)
      have hb2 := hSb s2 (by simp)
      have hb3 := hSb s3 (by simp)
      rw [show s.data.toList.length = s.size by simp] at hb0 hb1 hb2 hb3
      have hpow : s0 + s1 + s2 + s3 = pw := hpow
      have hw1 : IntKind.i64.wrap (s0 + s1) = s0 + s1 := IntWalk.i64_in _ (by omega)
      have hw2 : IntKind.i64.wrap (s0 + s1 + s2) = s0 + s1 + s2 := IntWalk.i64_in _ (by omega)
      have hw3 : IntKind.i64.wrap (s0 + s1 + s2 + s3) = pw := by rw [hpow]; exact IntWalk.i64_in _ (by omega)
      have e0 : w2.cell? ⟨g5, 0, none⟩ = some (.int .i64 s0) := by rw [hr5.cellAt 0 (by omega)]; simp [intsV]
      have e1 : w2.cell? ⟨g5, 1, none⟩ = some (.int .i64 s1) := by rw [hr5.cellAt 1 (by omega)]; simp [intsV]
      have e2 : w2.cell? ⟨g5, 2, none⟩ = some (.int .i64 s2) := by rw [hr5.cellAt 2 (by omega)]; simp [intsV]
      have e3 : w2.cell? ⟨g5, 3, none⟩ = some (.int .i64 s3) := by rw [hr5.cellAt 3 (by omega)]; simp [intsV]
      have hg5 : g5 < w2.heap.size := own_lt hr5 _ rfl
      have hsb := HB.out.size
      have hs2 := hb5.size
      have HB2 := Lib.hid (HB.out.trans (hb5.mono hsb))
      have HF2 := Lib.hid (HF.out.below hb5)
      have HZ2 := Lib.hid (HZ.out.below hb5)
      have hr2 : IntRow (w.heap.size + 1) w2 v (sumsP (x.take k)).cs := rowPast HR.out hb5
      obtain ⟨i1, i2, i3, i4⟩ := HIN.out k (by rw [HN.out]; omega)
      rw [hlo] at i1 i2
      obtain ⟨a6, c6, rfl, hc6, hi6⟩ := hr2.readc (fun z hz => by
        obtain ⟨j, hj, rfl⟩ := List.mem_iff_getElem.1 hz
        have := i4 j
        rw [List.getD_eq_getElem?_getD, List.getElem?_eq_getElem hj] at this
        have : -300000000 ≤ (sumsP (x.take k)).cs[j] ∧ (sumsP (x.take k)).cs[j] ≤ 300000000 := this
        omega)
      obtain ⟨cs, hcs⟩ : ∃ cs, (sumsP (x.take k)).cs = cs := ⟨_, rfl⟩
      have hpk : sumsP (x.take k) = ⟨lo, cs⟩ := by rw [← hlo, ← hcs]
      obtain ⟨lo2, hlo2⟩ : ∃ l, (sumsP (x.take (k + 1))).low = l := ⟨_, rfl⟩
      obtain ⟨cs2, hcs2⟩ : ∃ cs, (sumsP (x.take (k + 1))).cs = cs := ⟨_, rfl⟩
      have hsum : sumP ⟨lo, cs⟩ c ⟨pw, [1]⟩ = ⟨lo2, cs2⟩ := by rw [← hpk, ← HSU.out, ← hlo2, ← hcs2]
      rw [hcs] at hi6 i3 i4 hc6
      have HI6 := Lib.hid hi6
      have HI4 := Lib.hid i4
      have hcz2 := hb5.cell (p := z.add (k * 2)) (by rw [addr_add_block]; exact Nat.lt_of_lt_of_le hz.1 HB.out.size)
      have k2 := hcz2.trans c0
      obtain ⟨m, hm⟩ : ∃ m, cs.length = m := ⟨_, rfl⟩
      rw [hm] at hi6 i3 hc6
      rw [show (sumsP (x.take k)).cs.length = m by rw [hcs, hm]] at HF2
      have HSUM : Hid (∀ V1 j, Below w2.heap.size w2 V1 → OneI V1 j 1 → Calls Try.prog 80 #[plV lo (.slice a6 m c6), .int .i64 c, plV pw (.slice (some ⟨j, 0, none⟩) 1 1)] V1 fun e w' => (∃ v, e = .returned (plV lo2 v) ∧ IntRow V1.heap.size w' v cs2) ∧ Below V1.heap.size V1 w') := Lib.hid fun V1 j hV1 hO => by
        have h := l6pSum_some lo pw c cs [1] a6 (some ⟨j, 0, none⟩) c6 1 m 1 V1 (hi6.below hV1) (hO.ints (by omega)) (by omega) (by omega) (by omega) (by omega) (by omega) (fun i => by have := HI4.out i; omega) (fun i => by
          cases i with
          | zero => show -4000000000000000000 ≤ c * 1 ∧ c * 1 ≤ 4000000000000000000; omega
          | succ i => simp)
        rw [hsum] at h
        exact h
      have HSL : Hid (sumsP (x.take (k + 1)) = ⟨lo2, cs2⟩) := Lib.hid (HSU.out.trans (by rw [hpk]; exact hsum))
      have HZG : Hid (∀ V1, Below w2.heap.size w2 V1 → V1.cell? (z.add (k * 2)) = some (.int .i64 c) ∧ V1.cell? ⟨g5, 0, none⟩ = some (.int .i64 s0) ∧ V1.cell? ⟨g5, 1, none⟩ = some (.int .i64 s1) ∧ V1.cell? ⟨g5, 2, none⟩ = some (.int .i64 s2) ∧ V1.cell? ⟨g5, 3, none⟩ = some (.int .i64 s3)) := Lib.hid fun V1 hV1 =>
        ⟨(hV1.cell (p := z.add (k * 2)) (by rw [addr_add_block]; have := hz.1; have := HB2.out.size; omega)).trans k2, (hV1.cell (p := ⟨g5, 0, none⟩) hg5).trans e0, (hV1.cell (p := ⟨g5, 1, none⟩) hg5).trans e1, (hV1.cell (p := ⟨g5, 2, none⟩) hg5).trans e2, (hV1.cell (p := ⟨g5, 3, none⟩) hg5).trans e3⟩
      have HBk : Hid (Below w2.heap.size w2 w2) := Lib.hid (Below.refl _ _)
      clear hpow hz c0 c1 d0 d1 f0 f1 q0 q1 g0 g1 hr5 hb5 hr2 hi6 hcz2 hsum hcs2 hlo2 hcs hpk hS4 hSb hb0 hb1 hb2 hb3 HL1
      obtain ⟨_, q0, q1, g0, g1⟩ := HF2.out
      go_upto_region 6 with fail
      refine wp_region_G 24 (fun w' : World => (w'.cell? ⟨w.heap.size + 2, 0, none⟩ = some (.int .i64 lo) ∧ w'.cell? ⟨w.heap.size + 2, 1, none⟩ = some (.slice a6 m c6)) ∧ w'.cell? (z.add (k * 2)) = some (.int .i64 c) ∧ w'.cell? ⟨g5, 0, none⟩ = some (.int .i64 s0) ∧ w'.cell? ⟨g5, 1, none⟩ = some (.int .i64 s1) ∧ w'.cell? ⟨g5, 2, none⟩ = some (.int .i64 s2) ∧ w'.cell? ⟨g5, 3, none⟩ = some (.int .i64 s3)) hmx ?hS0 ?hW0
      case hS0 => first | go_keep | exact ⟨⟨q0, q1⟩, k2, e0, e1, e2, e3⟩
      intro hHeld
      simp only [List.length_cons, List.length_nil, List.replicate]
      refine walkG_take (i := 0) (v := ?v0) rfl (by kernel_rfl) (by kernel_rfl) (by kernel_rfl) (fun _ _ _ h => h) (Or.inl ⟨by rfl, ?hy0⟩) (by assumption) ?rest0
      case hy0 =>
        intro w hSw
        (try dsimp only at hSw)
        go_simp
        (try with_reducible rfl)
      try simp only [Act.put, List.setIfInBounds_toArray, List.set_cons_zero, List.set_cons_succ]
      refine walkG_take (i := 1) (v := ?v1) rfl (by kernel_rfl) (by kernel_rfl) (by kernel_rfl) (fun _ _ _ h => h) (Or.inl ⟨by rfl, ?hy1⟩) (by assumption) ?rest1
      case hy1 =>
        intro w hSw
        (try dsimp only at hSw)
        go_simp
        (try with_reducible rfl)
      try simp only [Act.put, List.setIfInBounds_toArray, List.set_cons_zero, List.set_cons_succ]
      refine walkG_take (i := 2) (v := ?v2) rfl (by kernel_rfl) (by kernel_rfl) (by kernel_rfl) (fun _ _ _ h => h) (Or.inl ⟨by rfl, ?hy2⟩) (by assumption) ?rest2
      case hy2 =>
        intro w hSw
        (try dsimp only at hSw)
        go_simp
        (try with_reducible rfl)
      try simp only [Act.put, List.setIfInBounds_toArray, List.set_cons_zero, List.set_cons_succ]
      refine walkG_take (i := 3) (v := ?v3) rfl (by kernel_rfl) (by kernel_rfl) (by kernel_rfl) (fun _ _ _ h => h) (Or.inl ⟨by rfl, ?hy3⟩) (by assumption) ?rest3
      case hy3 =>
        intro w hSw
        (try dsimp only at hSw)
        go_simp
        (try with_reducible rfl)
      try simp only [Act.put, List.setIfInBounds_toArray, List.set_cons_zero, List.set_cons_succ]
      refine walkG_take (i := 4) (v := ?v4) rfl (by kernel_rfl) (by kernel_rfl) (by kernel_rfl) (fun _ _ _ h => h) (Or.inl ⟨by rfl, ?hy4⟩) (by assumption) ?rest4
      case hy4 =>
        intro w hSw
        (try dsimp only at hSw)
        go_simp
        (try with_reducible rfl)
      try simp only [Act.put, List.setIfInBounds_toArray, List.set_cons_zero, List.set_cons_succ]
      refine walkG_take (i := 5) (v := ?v5) rfl (by kernel_rfl) (by kernel_rfl) (by kernel_rfl) (fun _ _ _ h => h) (Or.inl ⟨by rfl, ?hy5⟩) (by assumption) ?rest5
      case hy5 =>
        intro w hSw
        (try dsimp only at hSw)
        go_simp
        (try with_reducible rfl)
      try simp only [Act.put, List.setIfInBounds_toArray, List.set_cons_zero, List.set_cons_succ]
      refine walkG_take (i := 6) (v := ?v6) rfl (by kernel_rfl) (by kernel_rfl) (by kernel_rfl) (fun _ _ _ h => h) (Or.inl ⟨by rfl, ?hy6⟩) (by assumption) ?rest6
      case hy6 =>
        intro w hSw
        (try dsimp only at hSw)
        go_simp
        (try with_reducible rfl)
      try simp only [Act.put, List.setIfInBounds_toArray, List.set_cons_zero, List.set_cons_succ]
      refine walkG_take (i := 7) (v := ?v7) rfl (by kernel_rfl) (by kernel_rfl) (by kernel_rfl) (fun _ _ _ h => h) (Or.inl ⟨by rfl, ?hy7⟩) (by assumption) ?rest7
      case hy7 =>
        intro w hSw
        (try dsimp only at hSw)
        go_simp
        (try with_reducible rfl)
      try simp only [Act.put, List.setIfInBounds_toArray, List.set_cons_zero, List.set_cons_succ]
      refine walkG_take (i := 8) (v := ?v8) rfl (by kernel_rfl) (by kernel_rfl) (by kernel_rfl) (fun _ _ _ h => h) (Or.inl ⟨by rfl, ?hy8⟩) (by assumption) ?rest8
      case hy8 =>
        intro w hSw
        (try dsimp only at hSw)
        go_simp
        (try with_reducible rfl)
      try simp only [Act.put, List.setIfInBounds_toArray, List.set_cons_zero, List.set_cons_succ]
      refine walkG_take (i := 9) (v := ?v9) rfl (by kernel_rfl) (by kernel_rfl) (by kernel_rfl) (fun _ _ _ h => h) (Or.inl ⟨by rfl, ?hy9⟩) (by assumption) ?rest9
      case hy9 =>
        intro w hSw
        (try dsimp only at hSw)
        go_simp
        (try with_reducible rfl)
      try simp only [Act.put, List.setIfInBounds_toArray, List.set_cons_zero, List.set_cons_succ]
      refine walkG_take (i := 10) (v := ?v10) rfl (by kernel_rfl) (by kernel_rfl) (by kernel_rfl) (fun _ _ _ h => h) (Or.inl ⟨by rfl, ?hy10⟩) (by assumption) ?rest10
      case hy10 =>
        intro w hSw
        (try dsimp only at hSw)
        go_simp
        (try with_reducible rfl)
      try simp only [Act.put, List.setIfInBounds_toArray, List.set_cons_zero, List.set_cons_succ]
      refine walkG_take (i := 11) (v := ?v11) rfl (by kernel_rfl) (by kernel_rfl) (by kernel_rfl) (fun _ _ _ h => h) (Or.inl ⟨by rfl, ?hy11⟩) (by assumption) ?rest11
      case hy11 =>
        intro w hSw
        (try dsimp only at hSw)
        go_simp
        (try with_reducible rfl)
      try simp only [Act.put, List.setIfInBounds_toArray, List.set_cons_zero, List.set_cons_succ]
      refine walkG_take (i := 12) (v := ?v12) rfl (by kernel_rfl) (by kernel_rfl) (by kernel_rfl) (fun _ _ _ h => h) (Or.inl ⟨by rfl, ?hy12⟩) (by assumption) ?rest12
      case hy12 =>
        intro w hSw
        (try dsimp only at hSw)
        go_simp
        (try with_reducible rfl)
      try simp only [Act.put, List.setIfInBounds_toArray, List.set_cons_zero, List.set_cons_succ]
      refine walkG_take (i := 13) (v := ?v13) rfl (by kernel_rfl) (by kernel_rfl) (by kernel_rfl) (fun _ _ _ h => h) (Or.inl ⟨by rfl, ?hy13⟩) (by assumption) ?rest13
      case hy13 =>
        intro w hSw
        (try dsimp only at hSw)
        go_simp
        (try with_reducible rfl)
      try simp only [Act.put, List.setIfInBounds_toArray, List.set_cons_zero, List.set_cons_succ]
      refine walkG_take (i := 14) (v := ?v14) rfl (by kernel_rfl) (by kernel_rfl) (by kernel_rfl) (fun _ _ _ h => h) (Or.inl ⟨by rfl, ?hy14⟩) (by assumption) ?rest14
      case hy14 =>
        intro w hSw
        (try dsimp only at hSw)
        go_simp
        (try with_reducible rfl)
      try simp only [Act.put, List.setIfInBounds_toArray, List.set_cons_zero, List.set_cons_succ]
      refine walkG_take (i := 15) (v := ?v15) rfl (by kernel_rfl) (by kernel_rfl) (by kernel_rfl) (fun _ _ _ h => h) (Or.inl ⟨by rfl, ?hy15⟩) (by assumption) ?rest15
      case hy15 =>
        intro w hSw
        (try dsimp only at hSw)
        go_simp
        (try with_reducible rfl)
      try simp only [Act.put, List.setIfInBounds_toArray, List.set_cons_zero, List.set_cons_succ]
      refine walkG_take (i := 16) (v := ?v16) rfl (by kernel_rfl) (by kernel_rfl) (by kernel_rfl) (fun _ _ _ h => h) (Or.inl ⟨by rfl, ?hy16⟩) (by assumption) ?rest16
      case hy16 =>
        intro w hSw
        (try dsimp only at hSw)
        go_simp
        (try with_reducible rfl)
      try simp only [Act.put, List.setIfInBounds_toArray, List.set_cons_zero, List.set_cons_succ]
      refine walkG_take (i := 17) (v := ?v17) rfl (by kernel_rfl) (by kernel_rfl) (by kernel_rfl) (fun _ _ _ h => h) (Or.inl ⟨by rfl, ?hy17⟩) (by assumption) ?rest17
      case hy17 =>
        intro w hSw
        (try dsimp only at hSw)
        go_simp
        (try with_reducible rfl)
      try simp only [Act.put, List.setIfInBounds_toArray, List.set_cons_zero, List.set_cons_succ]
      refine walkG_take (i := 18) (v := ?v18) rfl (by kernel_rfl) (by kernel_rfl) (by kernel_rfl) (fun _ _ _ h => h) (Or.inl ⟨by rfl, ?hy18⟩) (by assumption) ?rest18
      case hy18 =>
        intro w hSw
        (try dsimp only at hSw)
        go_simp
        (try with_reducible rfl)
      try simp only [Act.put, List.setIfInBounds_toArray, List.set_cons_zero, List.set_cons_succ]
      refine walkG_take (i := 19) (v := ?v19) rfl (by kernel_rfl) (by kernel_rfl) (by kernel_rfl) (fun _ _ _ h => h) (Or.inl ⟨by rfl, ?hy19⟩) (by assumption) ?rest19
      case hy19 =>
        intro w hSw
        (try dsimp only at hSw)
        go_simp
        (try with_reducible rfl)
      try simp only [Act.put, List.setIfInBounds_toArray, List.set_cons_zero, List.set_cons_succ]
      refine walkG_take (i := 20) (v := ?v20) rfl (by kernel_rfl) (by kernel_rfl) (by kernel_rfl) (fun _ _ _ h => h) (Or.inl ⟨by rfl, ?hy20⟩) (by assumption) ?rest20
      case hy20 =>
        intro w hSw
        (try dsimp only at hSw)
        go_simp
        (try with_reducible rfl)
      try simp only [Act.put, List.setIfInBounds_toArray, List.set_cons_zero, List.set_cons_succ]
      refine walkG_one (i := 21) rfl (by decide) (by kernel_rfl) (fun K hK => ?_)
      go_simp
      refine hK.out _ _ ?hS1 (fun hHeld1 => ?_)
      case hS1 => go_keep
      clear hK K hHeld
      try simp only [List.setIfInBounds_toArray, List.set_cons_zero, List.set_cons_succ]
      refine walkG_take (i := 22) (v := ?v22) rfl (by kernel_rfl) (by kernel_rfl) (by kernel_rfl) (fun _ _ _ h => h) (Or.inl ⟨by rfl, ?hy22⟩) (by assumption) ?rest22
      case hy22 =>
        intro w hSw
        (try dsimp only at hSw)
        go_simp
        (try with_reducible rfl)
      try simp only [Act.put, List.setIfInBounds_toArray, List.set_cons_zero, List.set_cons_succ]
      refine walkG_one (i := 23) rfl (by decide) (by kernel_rfl) (fun K hK => ?_)
      go_simp
      first
        | with_reducible refine (HSUM.out _ _ (HBk.out.drew.alloc HBk.out.size _) (OneI.new _ _)).mono ?_
        | with_reducible refine (HSUM.out _ _ (HBk.out.alloc HBk.out.size _).drew (OneI.newd _ _)).mono ?_
      rintro e V1 ⟨⟨vq, rfl, hrq⟩, hbv⟩
      have hbn : Below w2.heap.size w2 V1 := by
        first
          | exact below_alloc HBk.out HBk.out.size hbv
          | exact below_alloc HBk.out.drew HBk.out.size hbv
          | exact below_drewAlloc HBk.out HBk.out.size hbv
      obtain ⟨aq, _, cq, rfl, _⟩ := hrq.shape
      obtain ⟨mq, hmq⟩ : ∃ m, cs2.length = m := ⟨_, rfl⟩
      rw [hmq] at hrq ⊢
      have HMQ := Lib.hid hmq
      clear hmq
      have HRQ := Lib.hid hrq
      have HBQ := Lib.hid hbn
      clear q0 q1 g0 g1 k2 e0 e1 e2 e3 hHeld1
      obtain ⟨k2, e0, e1, e2, e3⟩ := HZG.out V1 hbn
      obtain ⟨_, q0, q1, g0, g1⟩ := HF2.out.below hbn
      clear hbv hbn hrq
      go_wp2_with fail
      refine hK.out _ _ ⟨⟨q0, q1⟩, k2, e0, e1, e2, e3⟩ (fun hHeld2 => ?_)
      clear hK K
      try simp only [List.setIfInBounds_toArray, List.set_cons_zero, List.set_cons_succ]
      refine walkG_last rfl (by kernel_rfl) (by kernel_rfl) (fun K hK => ?_) _
      go_simp
      refine hK.out _ _ ?_
      clear hK K hHeld2
      go_wp2
      go_roundw
      · have hlt2 := HF2.out.1
        have hge : ∀ j, (Value.slice aq mq cq).ownBlock = some j → w.heap.size + 2 < j := fun j e => by
          have := own_ge HRQ.out j e
          simp at this
          omega
        refine ⟨k + 1, lo2, .slice aq mq cq, hlt, by push_cast; rfl, by rw [HSL.out], Lib.hid ?_, Lib.hid fun j e => by have := hge j e; omega, Lib.hid ?_, Lib.hid ?_, Lib.hid ?_⟩
        · rw [HSL.out]
          exact row_others (ownsRow_base HRQ.out (by simp; omega)) (fun j e => by have := hge j e; omega)
        · exact (HZ2.out.below HBQ.out).other _ _ (by omega)
        · exact (HF2.out.below HBQ.out).fill _ _
        · exact ((HB2.out.trans (HBQ.out.mono HB2.out.size)).setCell (p := ⟨w.heap.size + 1 + 1, 0, none⟩) (by show w.heap.size ≤ w.heap.size + 1 + 1; omega) _).setCell (p := ⟨w.heap.size + 1 + 1, 1, none⟩) (by show w.heap.size ≤ w.heap.size + 1 + 1; omega) _
      · have : (intOf (Value.int IntKind.i64 ((k : Int) + 1))).toNat = k + 1 := by simp [intOf]
        have h2 : (intOf (Value.int IntKind.i64 (k : Int))).toNat = k := by simp [intOf]
        rw [this, h2]
        omega
    · obtain rfl : k = n := by omega
      obtain ⟨i1, i2, i3, i4⟩ := HIN.out k (by rw [HN.out]; exact Nat.le_refl _)
      have HM : Hid (∀ z ∈ (sumsP (x.take k)).cs, -9223372036854775808 ≤ z ∧ z ≤ 9223372036854775807) := Lib.hid fun z hz => by
        obtain ⟨j, hj, rfl⟩ := List.mem_iff_getElem.1 hz
        have := i4 j
        rw [List.getD_eq_getElem?_getD, List.getElem?_eq_getElem hj] at this
        have : -300000000 ≤ (sumsP (x.take k)).cs[j] ∧ (sumsP (x.take k)).cs[j] ≤ 300000000 := this
        omega
      have HTK : Hid (x.take k = x) := Lib.hid (by rw [← HN.out, List.take_length])
      have hlo' : (sumsP x).low = lo := by rw [← HTK.out]; exact hlo
      have HLO := Lib.hid hlo'
      clear i1 i2 i3 i4 hlo hlo'
      obtain ⟨a6, hg6, c6, rfl, _⟩ := HR.out.shape
      obtain ⟨m, hm⟩ : ∃ m, (sumsP (x.take k)).cs.length = m := ⟨_, rfl⟩
      rw [hm] at q1
      go_wp2
      have hrx : IntRow (w.heap.size + 1) ((wr.setCell ⟨w.heap.size, 0, none⟩ (.int .i64 lo)).setCell ⟨w.heap.size, 1, none⟩ (.slice a6 m c6)) (.slice a6 m c6) (sumsP (x.take k)).cs := by
        rw [← hm]
        exact row_others HR.out fun j e => by have := own_ge HR.out j e; omega
      have hrd := hrx.reads HM.out
      rw [HTK.out] at hrd
      refine bodyPost_ret (v := plV lo (.slice a6 m c6)) ?_ rfl ⟨⟨.slice a6 m c6, by rw [HLO.out], hrd⟩, resBelow (.int .i64 lo) (.slice a6 m c6) HB.out⟩
      simp [results, Try.results95, go_sem, d0, d1, plV]

end Go.Proofs.Ytocklmiappppgaa

/- The model's PolyOfSum. -/

namespace Go.Proofs.Ytocklmiappppgaa
open Go.RowKit

set_option maxRecDepth 100000 in
set_option maxHeartbeats 1500000 in
theorem sPolyOfSum_any (a : Option Addr) (cap n : Nat) (x : List Tm) (t : Bool) (P : Pl) (w : World) (hx : IsTerms w a n x) (ht : ofSumB x = t) (hp : ofSumP x = P) :
    Calls Try.prog 60 #[.slice a n cap] w fun e w' => (∃ v, e = .returned (.tuple #[plV P.low v, .bool t]) ∧ IntRow w.heap.size w' v P.cs) ∧ Below w.heap.size w w' := by
  obtain ⟨W, hW⟩ : ∃ W, w.alloc (.cells #[.int .i64 0, .slice none 0 0] 25) = W := ⟨_, rfl⟩
  have hsz : W.heap.size = w.heap.size + 1 := by rw [← hW]; simp
  have hbW : Below w.heap.size w W := by rw [← hW]; exact (Below.refl _ w).alloc (Nat.le_refl _) _
  have HC : Hid (∀ w1, Below W.heap.size W w1 → _) := Lib.hid fun w1 (hg : Below W.heap.size W w1) => resCells (w := w) rfl (by rw [hW, ← hsz]; exact hg)
  have HX := Lib.hid (hx.below hbW)
  have HN := Lib.hid hx.len
  have HT := Lib.hid ht
  have HP := Lib.hid hp
  have HBW := Lib.hid hbW
  have HW := Lib.hid hW
  have HSZ := Lib.hid hsz
  obtain ⟨sb, hsb⟩ : ∃ b, sumB x = b := ⟨_, rfl⟩
  have HSB := Lib.hid hsb
  have HSI := sSumIn_any a cap n x W (hx.below hbW)
  rw [hsb] at HSI
  have HSI' := Lib.hid HSI
  clear hW hbW hx ht hp hsb HSI hsz
  go_enter Try.func60, Try.ntmps60
  go_wp2_with fail
  rw [HW.out]
  refine HSI'.out.mono ?_
  rintro e w1 ⟨rfl, hb1⟩
  have HB1 := Lib.hid hb1
  have hs1 := hb1.size
  clear hb1
  cases sb with
  | false =>
    have hno : t = false ∧ P = ⟨0, []⟩ := by
      have e : ofSumB x = false := by unfold ofSumB; rw [HSB.out]; rfl
      refine ⟨HT.out.symm.trans e, HP.out.symm.trans ?_⟩
      unfold ofSumP
      rw [e]
      rfl
    obtain ⟨rfl, rfl⟩ := hno
    go_wp2_with fail
    refine (l6pNone_any _).mono ?_
    rintro e w2 ⟨⟨v, rfl, hr⟩, hb2⟩
    obtain ⟨d0, d1, f0, f1⟩ := HC.out w2 (HB1.out.trans (hb2.mono hs1))
    have HR := Lib.hid hr
    have HB2 := Lib.hid (HBW.out.trans ((HB1.out.trans (hb2.mono hs1)).mono HBW.out.size))
    have hss := HSZ.out
    obtain ⟨g1, gg, cap1, rfl, _⟩ := hr.shape
    clear hr hb2
    go_wp2
    refine bodyPost_ret (v := .tuple #[plV 0 (.slice g1 0 cap1), .bool false]) ?_ rfl ⟨⟨_, rfl, resRow (.int .i64 0) (.slice g1 0 cap1) HR.out (by omega)⟩, resBelow (.int .i64 0) (.slice g1 0 cap1) HB2.out⟩
    simp [results, Try.results60, go_sem, d0, d1, plV]
  | true =>
    obtain ⟨hlx, hwx⟩ := canon_len_words (sumB_parts HSB.out).1
    have HWX : Hid (∀ u ∈ x, wordB u.s.data.toList = true ∧ u.s.size ≤ 60 ∧ -1000000 ≤ u.c ∧ u.c ≤ 1000000) := Lib.hid fun u hu => tm_word (hwx u hu)
    have hn3 : n ≤ 300 := by rw [← HN.out]; exact hlx
    have HTP : Hid (polyB (sumsP x) = t) := Lib.hid (by
      have h := HT.out
      unfold ofSumB at h
      rw [HSB.out, Bool.true_and] at h
      exact h)
    have HPP : Hid (doneP t (sumsP x) = P) := Lib.hid (by
      have h := HP.out
      unfold ofSumP at h
      rw [HT.out] at h
      exact h)
    have HIN := Lib.hid (sumsP_in x (fun u hu => (HWX.out u hu).2.2) (fun u hu => (HWX.out u hu).2.1) hlx x.length (Nat.le_refl _))
    have HOS := Lib.hid (l6pOfSum_any a cap n x w1 (HX.out.below HB1.out) hn3 HWX.out)
    clear hlx hwx
    go_wp2_with fail
    refine HOS.out.mono ?_
    rintro e w2 ⟨⟨v, rfl, hr⟩, hb2⟩
    have HB2 := Lib.hid (HB1.out.trans (hb2.mono hs1))
    have hs2 := HB2.out.size
    clear hb2
    obtain ⟨lo, hlo⟩ : ∃ l, (sumsP x).low = l := ⟨_, rfl⟩
    obtain ⟨cs, hcs⟩ : ∃ cs, (sumsP x).cs = cs := ⟨_, rfl⟩
    have hpk : sumsP x = ⟨lo, cs⟩ := by rw [← hlo, ← hcs]
    have HPK := Lib.hid hpk
    rw [hcs] at hr
    rw [hlo]
    obtain ⟨a6, c6, rfl, hc6, hi6⟩ := hr
    have hlc : cs.length ≤ 121 := by
      have h := HIN.out
      rw [List.take_length, hpk] at h
      exact_mod_cast h.2.2.1
    have HD := l6pDone_any lo cs a6 c6 cs.length t w2 hi6 (by omega) (by rw [← hpk]; exact HTP.out)
    rw [← hpk, HPP.out] at HD
    have HD' := Lib.hid HD
    clear hi6 HD hpk hlo hcs
    go_wp2_with fail
    refine HD'.out.mono ?_
    rintro e w3 ⟨⟨v, rfl, hr⟩, hb3⟩
    obtain ⟨d0, d1, f0, f1⟩ := HC.out w3 (HB2.out.trans (hb3.mono hs2))
    have HR := Lib.hid hr
    have HB3 := Lib.hid (HBW.out.trans ((HB2.out.trans (hb3.mono hs2)).mono HBW.out.size))
    have hss := HSZ.out
    obtain ⟨g2, gg, cap2, rfl, _⟩ := hr.shape
    clear hr hb3
    go_wp2
    refine bodyPost_ret (v := .tuple #[plV P.low (.slice g2 P.cs.length cap2), .bool t]) ?_ rfl ⟨⟨_, rfl, resRow (.int .i64 P.low) (.slice g2 P.cs.length cap2) HR.out (by omega)⟩, resBelow (.int .i64 P.low) (.slice g2 P.cs.length cap2) HB3.out⟩
    simp [results, Try.results60, go_sem, d0, d1, plV]

end Go.Proofs.Ytocklmiappppgaa

/- PolyOfSum as the laws want it. -/

namespace Go.Proofs.Ytocklmiappppgaa
open Go.RowKit

theorem ownIsTermsQ {base : Nat} {w : World} {a : Option Addr} {n c : Nat} {ts : List Tm} (h : OwnT base w (.slice a n c) ts) (hs : SmallT ts) : IsTerms w a n ts := by
  obtain ⟨a', c', e, hI⟩ := h.isTerms hs
  simp only [Value.slice.injEq] at e
  obtain ⟨rfl, rfl, rfl⟩ := e
  exact hI
theorem IsTerms.smallQ {w : World} {a : Option Addr} {n : Nat} {ts : List Tm} (h : IsTerms w a n ts) : SmallT ts := ⟨by rw [h.len]; exact h.max, h.small⟩

theorem toTermS_t (a : Option Addr) (cap n : Nat) (ts : List Tm) (w : World) (hs : IsTerms w a n ts) (hm : n ≤ 1048576) :
    Calls Try.prog 61 #[.slice a n cap] w fun e w' => (∃ g, e = .returned (.slice (some ⟨g, 0, none⟩) n n) ∧ w.heap.size ≤ g ∧ OwnT w.heap.size w' (.slice (some ⟨g, 0, none⟩) n n) ts ∧ IsTerms w' (some ⟨g, 0, none⟩) n ts) ∧ Below w.heap.size w w' := by
  refine (toTermS_any a cap n ts w hs hm).mono ?_
  rintro e w1 ⟨g, rfl, hr, hb⟩
  have ho : OwnT w.heap.size w1 (.slice (some ⟨g, 0, none⟩) n n) ts := by
    unfold OwnT
    rw [hs.len]
    exact hr
  exact ⟨⟨g, rfl, (ownsRow_cap hr).2.2.1, ho, ownIsTermsQ ho hs.smallQ⟩, hb⟩

theorem sPolyOfSum_law {a : Option Addr} {n : Nat} {ts : List Tm} {b : Bool} {pl : Int} {pc : List Int} {w : World} (h : IsTerms w a n ts) (hb : ofSumB ts = b) (hp : ofSumP ts = ⟨pl, pc⟩) :
    Calls Try.prog 60 #[.slice a n n] w fun e w' => (∃ v, e = .returned (.tuple #[plV pl v, .bool b]) ∧ IntRow w.heap.size w' v pc) ∧ Below w.heap.size w w' :=
  sPolyOfSum_any a n n ts b ⟨pl, pc⟩ w h hb hp
theorem iPolyOfSum_law {a : Option Addr} {n : Nat} {ts : List Tm} {b : Bool} {pl : Int} {pc : List Int} {w : World} (h : IsTerms w a n ts) (hb : ofSumB ts = b) (hp : ofSumP ts = ⟨pl, pc⟩) :
    Calls Try.prog 62 #[.slice a n n] w fun e w' => (∃ v, e = .returned (.tuple #[plV pl v, .bool b]) ∧ IntRow w.heap.size w' v pc) ∧ Below w.heap.size w w' :=
  iPolyOfSum_any a n n ts b ⟨pl, pc⟩ w h hb hp

end Go.Proofs.Ytocklmiappppgaa

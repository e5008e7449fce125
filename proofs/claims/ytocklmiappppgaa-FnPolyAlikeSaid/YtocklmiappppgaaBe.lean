/- What the laws' proofs stand on, part 5 of 5. -/
import Derived.Test.YtocklmiappppgaaBa
import Derived.Test.YtocklmiappppgaaBb
import Derived.Test.YtocklmiappppgaaBc
import Derived.Test.YtocklmiappppgaaBd

/- Products share sums; polynomials times 1; plain ones are alike (mathematics). -/

namespace Go.Proofs.Ytocklmiappppgaa
open Go.RowKit

theorem mulF_one {a : Pl} (h : Trim a) (k : Int) : mulF a ⟨0, [1]⟩ k = pat a k := by rw [← prod_pat, prod_one h]
theorem shares {a b : Pl} (ha : Trim a) : prodP a (sumP b 1 ⟨0, [1]⟩) = sumP (prodP a b) 1 a := trim_unique (prod_trim _ _) (sum_trim _ _ (prod_trim _ _)) fun k => by
  rw [prod_pat, mulF_sum (b := b) (c := ⟨0, [1]⟩) (n := 1) (fun k => sum_pat b 1 ⟨0, [1]⟩ k), mulF_one ha, sum_pat, prod_pat]
theorem shares_all {a b m x y : Pl} (h : timesPB a b = true) (hm : addPB b ⟨0, [1]⟩ = true) (em : addP b ⟨0, [1]⟩ = m) (hx : timesPB a m = true) (ex : timesP a m = x) (hy : addPB (timesP a b) a = true) (ey : addP (timesP a b) a = y) : x = y := by
  have e1 := (add_true hm).2.2.2.1
  have e2 := (times_true hx).2.2.2
  have e3 := (add_true hy).2.2.2.1
  have e4 := times_true h
  rw [← ex, ← ey, e2, e3, ← em, e1, e4.2.2.2]
  exact shares (polyB_trim e4.1).1
theorem poly_one_is : polyB ⟨0, [1]⟩ = true := by decide
theorem times_one {a : Pl} (h : polyB a = true) : timesPB a ⟨0, [1]⟩ = true ∧ timesP a ⟨0, [1]⟩ = a := by
  have e := prod_one (polyB_trim h).1
  have hb : timesPB a ⟨0, [1]⟩ = true := by
    unfold timesPB
    rw [h, poly_one_is, e, h]
    rfl
  exact ⟨hb, by rw [(times_true hb).2.2.2, e]⟩
theorem of_itself {l : Int} {x : List Int} (h : polyB ⟨l, x⟩ = true) : polyOfB l x = true ∧ polyOfP l x = ⟨l, x⟩ := by
  obtain ⟨hT, h1, h2, h3, _⟩ := polyB_trim h
  have e : tidyP l x = ⟨l, x⟩ := tidy_self hT
  have hb : polyOfB l x = true := by
    unfold polyOfB inR
    rw [e, h, decide_eq_true h2, decide_eq_true h3, decide_eq_true h1]
    rfl
  refine ⟨hb, ?_⟩
  unfold polyOfP
  rw [hb, e]
  rfl
theorem alike_comm (a b : Pl) : alikeB b a = alikeB a b := by
  unfold alikeB
  rw [show decide ((plainP b).cs = (plainP a).cs) = decide ((plainP a).cs = (plainP b).cs) from decide_eq_decide.2 ⟨Eq.symm, Eq.symm⟩]
  cases polyB a <;> cases polyB b <;> rfl
theorem alike_len {a b : Pl} (h : alikeB a b = true) : a.cs.length = b.cs.length := by
  unfold alikeB at h
  simp only [Bool.and_eq_true, decide_eq_true_eq] at h
  rw [← plain_len a, ← plain_len b, h.2.2]
theorem plained_true {a : Pl} (h : polyB a = true) : plainedP a = plainP a ∧ polyB (plainP a) = true ∧ plainedP (plainP a) = plainP a ∧ alikeB a (plainP a) = true := by
  have h1 := plain_polyB h
  refine ⟨by unfold plainedP; rw [h]; rfl, h1, by unfold plainedP; rw [h1, plain_plain]; rfl, ?_⟩
  unfold alikeB
  rw [h, h1, plain_plain, decide_eq_true rfl]
  rfl
theorem plain_first {a : Pl} (h : polyB a = true) (h0 : 0 < (plainP a).cs.length) : (plainP a).low = 0 ∧ 0 < (plainP a).cs.getD 0 0 := by
  rw [plain_len] at h0
  obtain ⟨z0, _⟩ := trim_nonzero (polyB_trim h).1 h0
  refine ⟨plain_low h0, ?_⟩
  rw [plain_some (by omega)]
  show 0 < (a.cs.map fun z => (if a.cs.getD 0 0 < 0 then -1 else 1) * z).getD 0 0
  rw [List.getD_eq_getElem?_getD, List.getElem?_map]
  have e : a.cs[0]? = some (a.cs.getD 0 0) := by rw [List.getD_eq_getElem?_getD, List.getElem?_eq_getElem h0]; rfl
  rw [e]
  show 0 < (if a.cs.getD 0 0 < 0 then -1 else 1) * a.cs.getD 0 0
  split <;> omega

end Go.Proofs.Ytocklmiappppgaa

/- The contract of DrawPolyAlike. -/

namespace Go.Proofs.Ytocklmiappppgaa
open Go.RowKit Go.Shelf

set_option maxRecDepth 100000 in
set_option maxHeartbeats 3000000 in
theorem drawPolyAlike_any (a : Option Addr) (n cap : Nat) (zs : List Int) (w : World) (h : BsAt w.heap.size w a n cap zs) :
    Calls Try.prog 49 #[.slice a n cap] w (TwoAny w) := by
  obtain ⟨W, hW⟩ : ∃ W, (w.alloc (.cells #[.int .i64 0, .slice none 0 0] 25)).alloc (.cells #[.int .i64 0, .slice none 0 0] 25) = W := ⟨_, rfl⟩
  obtain ⟨hbW, hsz⟩ := resTwoBelow hW
  have HO := Lib.hid (open_any a n cap zs W ((h.below hbW).more hbW.size))
  have HC : Hid (∀ w1, Below W.heap.size W w1 → _) := Lib.hid fun w1 (hg : Below W.heap.size W w1) => resTwo hW hg
  have HBW := Lib.hid hbW
  have HW := Lib.hid hW
  have HSZ := Lib.hid hsz
  clear h hW hbW hsz
  go_enter Try.func49, Try.ntmps49
  go_wp2_with fail
  rw [HW.out]
  refine HO.out.mono ?_
  rintro e w1 ⟨n', zs', rfl, hR1, hB1⟩
  have HR1 := Lib.hid hR1
  have HB1 := Lib.hid hB1
  have hs1 := hB1.size
  have hr1 := hR1.lt
  clear hR1 hB1
  go_wp2_with fail
  refine (l92Poly_any W.heap.size W.heap.size a n' cap zs' 0 w1 HR1.out (by omega)).mono ?_
  rintro e w2 ⟨⟨l1, v1, x, rfl, hS1⟩, ⟨p2, hp2, hR2⟩, hB2, hG2⟩
  obtain ⟨g1, d1, rfl, hi1⟩ := hS1.pin
  obtain ⟨m1, hm1⟩ : ∃ m, x.length = m := ⟨_, rfl⟩
  rw [hm1] at hS1 ⊢
  obtain ⟨V, hV⟩ : ∃ V, w2.alloc (.cells #[.int .i64 l1, .slice g1 m1 d1] 25) = V := ⟨_, rfl⟩
  have hbV : Below w2.heap.size w2 V := by rw [← hV]; exact (Below.refl _ _).alloc (Nat.le_refl _) _
  have hs2 := hG2.size
  have HX := Lib.hid (BoxF.new hV)
  have HSV := Lib.hid ((hS1.below hbV).any)
  have HRV := Lib.hid (hR2.below hbV)
  have HBV := Lib.hid ((HB1.out.trans hB2).trans (hbV.mono (by omega)))
  have hsV := hbV.size
  have hsV2 : V.heap.size = w2.heap.size + 1 := by rw [← hV]; simp
  have HSV2 := Lib.hid hsV2
  have hp := HX.out
  rw [← hV] at hp
  obtain ⟨_, k0, k1, _, _⟩ := hp
  have HV := Lib.hid hV
  obtain ⟨t, ht⟩ : ∃ t, polyB ⟨l1, x⟩ = t := ⟨_, rfl⟩
  obtain ⟨P, hP⟩ : ∃ P, doneP t (plainP ⟨l1, x⟩) = P := ⟨_, rfl⟩
  have hwf : ∀ z ∈ P.cs, -9223372036854775808 ≤ z ∧ z ≤ 9223372036854775807 := doneP_mem (fun e => plain_polyB (ht.trans e)) hP
  have hcall := sPolyPlain_any l1 x g1 d1 m1 t V HSV.out.pin_at.is ht
  rw [hP] at hcall
  have HCALL := Lib.hid hcall
  have HWF := Lib.hid hwf
  clear hS1 hi1 hm1 hR2 hB2 hG2 hbV hV hsV2 ht hP hwf hcall
  go_wp2_with fail
  rw [HV.out]
  clear k0 k1
  refine HCALL.out.mono ?_
  rintro e w4 ⟨⟨v, rfl, hr4⟩, hb4⟩
  have hA3 : AnyP V.heap.size w4 v P.cs := ⟨hr4, HWF.out⟩
  obtain ⟨g3, d3, rfl, hi3⟩ := hA3.pin
  obtain ⟨m3, hm3⟩ : ∃ m, P.cs.length = m := ⟨_, rfl⟩
  obtain ⟨pl, hpl⟩ : ∃ l, P.low = l := ⟨_, rfl⟩
  rw [hm3] at hA3 ⊢
  rw [hpl]
  obtain ⟨T, hT⟩ : ∃ T, w4.alloc (.cells #[.int .i64 pl, .slice g3 m3 d3] 25) = T := ⟨_, rfl⟩
  have hbT : Below w4.heap.size w4 T := by rw [← hT]; exact (Below.refl _ _).alloc (Nat.le_refl _) _
  have hb4T : Below V.heap.size V T := hb4.trans (hbT.mono hb4.size)
  have HY1 := Lib.hid (HX.out.below hb4T)
  have HY3 := Lib.hid (BoxF.new hT)
  have HD1 := Lib.hid (HSV.out.below hb4T)
  have HD3 := Lib.hid (hA3.below hbT)
  have HRT := Lib.hid (HRV.out.below hb4T)
  have hsU := HBV.out.size
  have HBT := Lib.hid (HBV.out.trans (hb4T.mono hsU))
  have hs4 := hb4.size
  have hsT := hbT.size
  have HT := Lib.hid hT
  clear hr4 hA3 hi3 hm3 hpl hbT hb4T hT hb4
  have hVs := HSV2.out
  have hWs := HSZ.out
  have hbig : w.heap.size + 1 < w2.heap.size := by omega
  have hbig4 : w.heap.size + 1 < w4.heap.size := by omega
  have hx2 : w2.heap.size < w4.heap.size := by omega
  clear hVs hWs
  obtain ⟨⟨_, r0, r1, f0, f1⟩, ⟨_, e0, e1, g0, g1'⟩⟩ := HC.out T HBT.out
  obtain ⟨_, k0, k1, _, _⟩ := HY1.out
  obtain ⟨_, k4, k5, _, _⟩ := HY3.out
  obtain ⟨n1, n2, n3, n4, n5, n6⟩ := two_ahead hbig
  obtain ⟨o1, o2, o3, o4, o5, o6⟩ := two_ahead hbig4
  cases t with
  | false =>
    rw [← HT.out] at k0 k1 k4 k5 r0 r1 f0 f1 e0 e1 g0 g1'
    go_upto_region 6 with fail
    rw [HT.out] at k0 k1 k4 k5 r0 r1 f0 f1 e0 e1 g0 g1' ⊢
    go_region_held3 (fun w' : World => w'.cell? ⟨w2.heap.size, 0, none⟩ = some (.int .i64 l1) ∧ w'.cell? ⟨w2.heap.size, 1, none⟩ = some (.slice g1 m1 d1)) (first | go_keep | exact ⟨k0, k1⟩)
      (first
        | (go_at_call 65
           refine (l92Poly_any W.heap.size W.heap.size a n' cap zs' p2 _ (HRT.out.below (Below.refl _ _).drew) (by omega)).mono ?_
           rintro e w3 ⟨⟨l2, v2, y, rfl, hS2⟩, _, hB3, hG3⟩
           obtain ⟨g2, d2, rfl, hi2⟩ := hS2.pin
           obtain ⟨m2, hm2⟩ : ∃ m, y.length = m := ⟨_, rfl⟩
           rw [hm2] at hS2 ⊢
           have hgV : T.grownBy w3 (some W.heap.size) := grownTrans (grownBelow _ (Below.refl T.heap.size T).drew) hG3
           have hS2 : SmallP T.heap.size w3 l2 (.slice g2 m2 d2) y := hS2
           have HS2 := Lib.hid hS2.any
           have HS1 := Lib.hid (HD1.out.grown hgV (by omega))
           have HB3 := Lib.hid (HBT.out.drew.trans hB3)
           have hs3 := hgV.size
           obtain ⟨_, k0, k1, _, _⟩ := HY1.out.grown hgV (by simp; omega)
           obtain ⟨⟨_, r0, r1, f0, f1⟩, ⟨_, e0, e1, g0, g1'⟩⟩ := HC.out w3 HB3.out
           clear hS2 hi2 hm2 hB3 hG3 hgV))
    all_goals
      go_wp2
      have hVs := HSV2.out
      have hWs := HSZ.out
      refine bodyPost_ret (v := .tuple #[plV l1 (.slice g1 m1 d1), plV l2 (.slice g2 m2 d2)]) ?_ rfl ⟨⟨l1, g1, m1, d1, x, l2, g2, m2, d2, y, rfl, ((HS1.out.others (B := w.heap.size) _ _ (by omega)).others (B := w.heap.size + 1) _ _ (by omega)).pin_at, ((HS2.out.others (B := w.heap.size) _ _ (by omega)).others (B := w.heap.size + 1) _ _ (by omega)).pin_at⟩, setTwoBelow _ _ _ _ (HBW.out.trans (HB3.out.mono HBW.out.size)) (Nat.le_refl _)⟩
      simp [results, Try.results49, go_sem, r0, r1, e0, e1, plV]
  | true =>
    rw [← HT.out] at k0 k1 k4 k5 r0 r1 f0 f1 e0 e1 g0 g1'
    go_wp2_with fail
    rw [HT.out]
    clear k0 k1 k4 k5 r0 r1 f0 f1 e0 e1 g0 g1'
    refine (pick_any W.heap.size W.heap.size a n' cap zs' p2 2 T HRT.out (by omega) (by omega) (by omega)).mono ?_
    rintro e w6 ⟨⟨z3, rfl, hz3⟩, hR6, hB6, hG6⟩
    have hVs := HSV2.out
    have hWs := HSZ.out
    have HZ1 := Lib.hid (HY1.out.grown hG6 (by simp; omega))
    have HZ3 := Lib.hid (HY3.out.grown hG6 (by simp; omega))
    have HE1 := Lib.hid (HD1.out.grown hG6 (by omega))
    have HE3 := Lib.hid (HD3.out.grown hG6 (by omega))
    have HB6 := Lib.hid (HBT.out.trans hB6)
    have HR6 := Lib.hid hR6
    have hs6 := hG6.size
    clear hB6 hG6 hVs hWs hR6
    obtain ⟨⟨_, r0, r1, f0, f1⟩, ⟨_, e0, e1, g0, g1'⟩⟩ := HC.out w6 HB6.out
    obtain ⟨_, k0, k1, _, _⟩ := HZ1.out
    obtain ⟨_, k4, k5, _, _⟩ := HZ3.out
    by_cases hz : z3 = 0
    · subst hz
      go_upto_region 5 with fail
      go_region_held3 (fun w' : World => w'.cell? ⟨w2.heap.size, 0, none⟩ = some (.int .i64 l1) ∧ w'.cell? ⟨w2.heap.size, 1, none⟩ = some (.slice g1 m1 d1) ∧ w'.cell? ⟨w4.heap.size, 0, none⟩ = some (.int .i64 pl) ∧ w'.cell? ⟨w4.heap.size, 1, none⟩ = some (.slice g3 m3 d3)) (first | go_keep | exact ⟨k0, k1, k4, k5⟩) (fail)
      all_goals
        go_wp2
        have hVs := HSV2.out
        have hWs := HSZ.out
        refine bodyPost_ret (v := .tuple #[plV l1 (.slice g1 m1 d1), plV pl (.slice g3 m3 d3)]) ?_ rfl ⟨⟨l1, g1, m1, d1, x, pl, g3, m3, d3, P.cs, rfl, ((HE1.out.others (B := w.heap.size) _ _ (by omega)).others (B := w.heap.size + 1) _ _ (by omega)).pin_at.below (Below.refl _ _).drew, ((HE3.out.others (B := w.heap.size) _ _ (by omega)).others (B := w.heap.size + 1) _ _ (by omega)).pin_at.below (Below.refl _ _).drew⟩, (setTwoBelow _ _ _ _ (HBW.out.trans (HB6.out.mono HBW.out.size)) (Nat.le_refl _)).drew⟩
        simp [results, Try.results49, go_sem, r0, r1, e0, e1, plV]
    · have hzi : ((z3 : Int) == 0) = false := by simpa using hz
      have hzn : ¬ (z3 : Int) = 0 := by omega
      go_upto_region 6 with fail
      go_region_held3 (fun w' : World => w'.cell? ⟨w2.heap.size, 0, none⟩ = some (.int .i64 l1) ∧ w'.cell? ⟨w2.heap.size, 1, none⟩ = some (.slice g1 m1 d1)) (first | go_keep | exact ⟨k0, k1⟩)
        (first
          | (go_at_call 65
             refine (l92Poly_any W.heap.size W.heap.size a n' cap zs' (p2 + 1) _ (HR6.out.below (Below.refl _ _).drew) (by omega)).mono ?_
             rintro e w3 ⟨⟨l2, v2, y, rfl, hS2⟩, _, hB3, hG3⟩
             obtain ⟨g2, d2, rfl, hi2⟩ := hS2.pin
             obtain ⟨m2, hm2⟩ : ∃ m, y.length = m := ⟨_, rfl⟩
             rw [hm2] at hS2 ⊢
             have hgV : w6.grownBy w3 (some W.heap.size) := grownTrans (grownBelow _ (Below.refl w6.heap.size w6).drew) hG3
             have hS2 : SmallP w6.heap.size w3 l2 (.slice g2 m2 d2) y := hS2
             have HS2 := Lib.hid hS2.any
             have HS1 := Lib.hid (HE1.out.grown hgV (by omega))
             have HB3 := Lib.hid (HB6.out.drew.trans hB3)
             have hs3 := hgV.size
             obtain ⟨_, k0, k1, _, _⟩ := HZ1.out.grown hgV (by simp; omega)
             obtain ⟨⟨_, r0, r1, f0, f1⟩, ⟨_, e0, e1, g0, g1'⟩⟩ := HC.out w3 HB3.out
             clear hS2 hi2 hm2 hB3 hG3 hgV))
      all_goals
        go_wp2
        have hVs := HSV2.out
        have hWs := HSZ.out
        refine bodyPost_ret (v := .tuple #[plV l1 (.slice g1 m1 d1), plV l2 (.slice g2 m2 d2)]) ?_ rfl ⟨⟨l1, g1, m1, d1, x, l2, g2, m2, d2, y, rfl, ((HS1.out.others (B := w.heap.size) _ _ (by omega)).others (B := w.heap.size + 1) _ _ (by omega)).pin_at, ((HS2.out.others (B := w.heap.size) _ _ (by omega)).others (B := w.heap.size + 1) _ _ (by omega)).pin_at⟩, setTwoBelow _ _ _ _ (HBW.out.trans (HB3.out.mono HBW.out.size)) (Nat.le_refl _)⟩
        simp [results, Try.results49, go_sem, r0, r1, e0, e1, plV]

end Go.Proofs.Ytocklmiappppgaa

/- The contract of DrawPolyOf. -/

namespace Go.Proofs.Ytocklmiappppgaa
open Go.RowKit Go.Shelf

/-- What DrawPolyOf comes to. -/
def OfP (w : World) (e : Ending) (w' : World) : Prop := (∃ (low : Int) (g c : Nat) (x : List Int), e = .returned (.tuple #[.int .i64 low, .slice (some ⟨g, 0, none⟩) x.length c]) ∧ AnyP w.heap.size w' (.slice (some ⟨g, 0, none⟩) x.length c) x ∧ x.length ≤ 10 ∧ -1000 ≤ low ∧ low ≤ 1000) ∧ Below w.heap.size w w'
theorem snoc_wf {l : List Int} {z : Int} (hc : ∀ y ∈ l, -9223372036854775808 ≤ y ∧ y ≤ 9223372036854775807) (hz : -9223372036854775808 ≤ z ∧ z ≤ 9223372036854775807) : ∀ y ∈ l ++ [z], -9223372036854775808 ≤ y ∧ y ≤ 9223372036854775807 := fun y hy => by
  rcases List.mem_append.1 hy with h | h
  · exact hc y h
  · rw [List.mem_singleton.1 h]; exact hz

theorem tidy_snoc0 (low : Int) (l : List Int) : tidyP low (l ++ [0]) = tidyP low l := trim_unique (tidy_trim _ _) (tidy_trim _ _) fun k => by
  rw [tidy_pat, tidy_pat]
  unfold pat
  split
  · show (l ++ [0]).getD (k - low).toNat 0 = l.getD (k - low).toNat 0
    by_cases h : (k - low).toNat < l.length
    · rw [List.getD_eq_getElem?_getD, List.getElem?_append_left h, ← List.getD_eq_getElem?_getD]
    · rw [getD_far (l := l) (by omega)]
      by_cases h2 : (k - low).toNat = l.length
      · rw [h2, List.getD_eq_getElem?_getD, List.getElem?_append_right (Nat.le_refl _), Nat.sub_self]; rfl
      · exact getD_far (by simp; omega)
  · rfl
theorem of_snoc0 {low : Int} {l : List Int} (h : l.length ≤ 100) : polyOfB low (l ++ [0]) = polyOfB low l ∧ polyOfP low (l ++ [0]) = polyOfP low l := by
  have e : polyOfB low (l ++ [0]) = polyOfB low l := by
    have h1 : (l ++ [(0 : Int)]).length ≤ 200 := by simp; omega
    have h2 : l.length ≤ 200 := by omega
    unfold polyOfB
    rw [tidy_snoc0, decide_eq_true h1, decide_eq_true h2]
  refine ⟨e, ?_⟩
  unfold polyOfP
  rw [e, tidy_snoc0]
theorem of_in {low : Int} {l : List Int} (h : polyOfB low l = true) : polyB (polyOfP low l) = true := by
  have h' := h
  unfold polyOfB at h
  simp only [Bool.and_eq_true] at h
  unfold polyOfP
  rw [h']
  exact h.2.2
theorem Ints.news0 {w : World} {x : Addr} {n : Nat} {zs : List Int} (h : Ints w (some x) n zs) : ∀ j u, (intsV zs)[j]? = some u → w.cell? (x.add j) = some u := fun j u hu => by
  by_cases h0 : 0 < n
  · exact h.news h0 j u hu
  · have : zs = [] := List.length_eq_zero_iff.1 (by have := h.len; omega)
    subst this
    simp [intsV] at hu

set_option maxRecDepth 100000 in
set_option maxHeartbeats 2000000 in
theorem drawPolyOf_any (a : Option Addr) (n cap : Nat) (zs : List Int) (w : World) (h : BsAt w.heap.size w a n cap zs) :
    Calls Try.prog 29 #[.slice a n cap] w (OfP w) := by
  obtain ⟨i0, hi, hz0, hz1, hz2⟩ := info_parts infoInt
  have HO := Lib.hid (open_any a n cap zs w h)
  clear h
  go_enter Try.func29, Try.ntmps29
  go_wp2_with fail
  refine HO.out.mono ?_
  rintro e w1 ⟨n', zs', rfl, hR1, hB1⟩
  have HR1 := Lib.hid hR1
  have HB1 := Lib.hid hB1
  have hr1 := hR1.lt
  clear hR1 hB1
  go_wp2_with fail
  refine (pick_any w.heap.size w.heap.size a n' cap zs' 0 9 w1 HR1.out (by omega) (by omega) (by omega)).mono ?_
  rintro e w2 ⟨⟨z, rfl, hz⟩, hR2, hB2, hG2⟩
  have HR2 := Lib.hid hR2
  have HB2 := Lib.hid (HB1.out.trans hB2)
  have hs2 := hG2.size
  clear hR2 hB2 hG2
  have e1 : IntKind.i64.wrap ((z : Int) - 4) = (z : Int) - 4 := IntWalk.i64_in _ (by omega)
  go_wp2_with fail
  refine (pick_any w.heap.size w.heap.size a n' cap zs' (0 + 1) 20 w2 HR2.out (by omega) (by omega) (by omega)).mono ?_
  rintro e w3 ⟨⟨y, rfl, hy⟩, hR3, hB3, hG3⟩
  have HR3 := Lib.hid hR3
  have hB3' := HB2.out.trans hB3
  have hs3 := hG3.size
  have hrl3 := hR3.lt
  obtain ⟨t, ht⟩ : ∃ t, (y : Int).tdiv 19 = t := ⟨_, rfl⟩
  have htb := tdiv_size (z := (y : Int)) (b := 19)
  rw [ht] at htb
  have e2 : IntKind.i64.wrap t = t := IntWalk.i64_in _ (by omega)
  have e3 : IntKind.i64.wrap (t * 300) = t * 300 := IntWalk.i64_in _ (by omega)
  have e4 : IntKind.i64.wrap ((z : Int) - 4 + t * 300) = (z : Int) - 4 + t * 300 := IntWalk.i64_in _ (by omega)
  obtain ⟨W, hW⟩ : ∃ X, w3.alloc (.cells #[] 3) = X := ⟨_, rfl⟩
  have hbW : Below w3.heap.size w3 W := by rw [← hW]; exact (Below.refl _ _).alloc (Nat.le_refl _) _
  have HOW := Lib.hid (show W.ownsRow w3.heap.size 3 1 (.slice (some ⟨w3.heap.size, 0, none⟩) 0 0) 0 (intsV []) by rw [← hW]; exact made_at w3 w3.heap.size rfl w3.heap.size (Nat.le_refl _))
  have HRW := Lib.hid (hR3.below hbW)
  have HBW := Lib.hid (hB3'.trans (hbW.mono (by omega)))
  have hsW : W.heap.size = w3.heap.size + 1 := by rw [← hW]; simp
  have HSW := Lib.hid hsW
  have HW := Lib.hid hW
  clear hR3 hB3 hB3' hG3 hbW hW hsW htb
  go_wp2_with fail
  rw [HW.out]
  refine (pick_any w.heap.size w.heap.size a n' cap zs' (0 + 1 + 1) 6 W HRW.out (by omega) (by omega) (by omega)).mono ?_
  rintro e w4 ⟨⟨N, rfl, hN⟩, hR4, hB4, hG4⟩
  have hsw := HSW.out
  have HO1 : Hid (w4.ownsRow w3.heap.size 3 1 (.slice (some ⟨w3.heap.size, 0, none⟩) 0 0) 0 (intsV [])) := Lib.hid (HOW.out.kept hG4 (.inr (by simp [Value.ownBlock]; omega)))
  have HR4 := Lib.hid hR4
  have HB4 := Lib.hid (HBW.out.trans hB4)
  have hs4 := hG4.size
  have hs34 : w3.heap.size ≤ w4.heap.size := by omega
  obtain ⟨low, hlow⟩ : ∃ l, (z : Int) - 4 + t * 300 = l := ⟨_, rfl⟩
  have hlb : -1000 ≤ low ∧ low ≤ 1000 := by
    have h1 := tdiv_size (z := (y : Int)) (b := 19)
    rw [ht] at h1
    have h2 : t ≤ 1 := by rw [← ht, Int.tdiv_eq_ediv_of_nonneg (by omega)]; omega
    have h3 : 0 ≤ t := by rw [← ht, Int.tdiv_eq_ediv_of_nonneg (by omega)]; omega
    omega
  have HLB := Lib.hid hlb
  rw [hlow] at *
  clear hR4 hB4 hG4 hsw hlb ht e1 e2 e3 e4
  go_wp2_with fail
  go_loopw [6, 8] (fun v i wr => ∃ (k q g c : Nat) (cs : List Int), v = .slice (some ⟨g, 0, none⟩) k c ∧ k ≤ N ∧ i = .int .i64 (k : Int) ∧ q ≤ 3 + k ∧ Hid (cs.length = k ∧ (∀ y ∈ cs, -9223372036854775808 ≤ y ∧ y ≤ 9223372036854775807) ∧ wr.ownsRow w3.heap.size 3 1 v k (intsV cs) ∧ Rd w.heap.size wr w.heap.size a n' cap zs' q ∧ Below w.heap.size w wr) ∧ w3.heap.size ≤ wr.heap.size) (fun _ i _ => N - (intOf i).toNat)
  case atStart => exact ⟨0, 3, w3.heap.size, 0, [], rfl, Nat.zero_le _, rfl, by omega, Lib.hid ⟨rfl, fun y h => (by cases h), HO1.out, HR4.out, HB4.out⟩, hs34⟩
  case round =>
    obtain ⟨k, q, g, c, cs, rfl, hk, rfl, hq, HH, hsz⟩ := hrel
    by_cases hlt : k < N
    · have hli : (k : Int) < (N : Int) := by omega
      go_wp2_with fail
      refine (pick_any w.heap.size w.heap.size a n' cap zs' q 5 wr HH.out.2.2.2.1 (by omega) (by omega) (by omega)).mono ?_
      rintro e w5 ⟨⟨z5, rfl, hz5⟩, hR5, hB5, hG5⟩
      obtain ⟨h1, h2, h3, h4, h5⟩ := HH.out
      have ho5 : w5.ownsRow w3.heap.size 3 1 (.slice (some ⟨g, 0, none⟩) k c) k (intsV cs) := h3.kept hG5 (.inr fun e => by have := own_ge h3 w.heap.size e; omega)
      have HO5 := Lib.hid (ho5.alloc (.cells #[.int .i64 ((z5 : Int) - 2)] 3))
      have HOG := Lib.hid (own_ge ho5)
      have HR5 := Lib.hid hR5
      have HB5 := Lib.hid (h5.trans hB5)
      have hs5 := hG5.size
      have HL := Lib.hid h1
      have HC := Lib.hid h2
      have e1 : IntKind.i64.wrap ((z5 : Int) - 2) = (z5 : Int) - 2 := IntWalk.i64_in _ (by omega)
      have HNB := Lib.hid (World.news_of_block (cs := #[.int .i64 ((z5 : Int) - 2)]) (t := 3) (fr := (0, 0)) (World.alloc_heap_new w5 (.cells #[.int .i64 ((z5 : Int) - 2)] 3)))
      clear hR5 hB5 hG5 h1 h2 h3 h4 h5 ho5
      go_wp2_with (at_builtin; refine wpList_append_own _ rfl _ _ 23 rfl w3.heap.size 3 i0 (.int .i64 0) 1 8 Try.underlying23 hi hz0 hz1 hz2 rfl (by decide) _ k _ rfl HO5.out ⟨w5.heap.size, 0, none⟩ 1 1 [.int .i64 ((z5 : Int) - 2)] rfl rfl HNB.out (fun u hu => by simp at hu; rcases hu with rfl; rfl) (by unfold maxLen; omega) (by omega) (by simp; omega) ?_; intro v1 w7 hrow hgrow hnil)
      have hB57 : Below w3.heap.size w5 w7 := ((Below.refl w3.heap.size w5).alloc (by omega) _).grown hgrow (by simp; omega) (fun j e => HOG.out j e)
      have hs7 := hB57.size
      obtain ⟨g9, c9, rfl⟩ := Go.Joins.ownsRow_form hrow (by omega)
      refine ⟨⟨k + 1, q + 1, g9, c9, cs ++ [(z5 : Int) - 2], rfl, by omega, by go_num, by omega, Lib.hid ⟨by rw [List.length_append, HL.out]; rfl, snoc_wf HC.out (by omega), ?_, HR5.out.past hB57 (by omega), HB5.out.trans (hB57.mono (by omega))⟩, by omega⟩, by simp [intOf]; omega⟩
      have h := hrow
      unfold intsV at h ⊢
      rw [List.map_append]
      exact h
    · obtain rfl : k = N := by omega
      obtain ⟨h1, h2, h3, h4, h5⟩ := HH.out
      have HA := Lib.hid (show AnyP w.heap.size wr (.slice (some ⟨g, 0, none⟩) k c) cs from ⟨(rowI h3 h1).mono (by omega), h2⟩)
      have HL := Lib.hid h1
      have HB5 := Lib.hid h5
      clear h1 h2 h3 h4 h5
      go_wp2
      go_ret2
      exact ⟨⟨low, g, c, cs, by rw [HL.out]; rfl, by rw [HL.out]; exact HA.out, by rw [HL.out]; omega, HLB.out⟩, HB5.out⟩

end Go.Proofs.Ytocklmiappppgaa

/-
  Proves 'Rows.FnPolyOfSaid': for every list of bytes, the polynomial of the number and the list that the model draws from it is the one of the list with a 0 behind it, and a polynomial.
  Conditions: none beyond the row's own.
-/
import Derived.Test.YtocklmiappppgaaRows
import Derived.WalkKit
import Derived.ProofKit
import Derived.OpenShut
import Derived.ShutString
import Derived.ChangeOld
import Derived.Below
import Derived.Test.YtocklmiappppgaaBa
import Derived.Test.YtocklmiappppgaaBb
import Derived.Test.YtocklmiappppgaaBc
import Derived.Test.YtocklmiappppgaaBd
import Derived.Test.YtocklmiappppgaaBe

namespace Go.Proofs.Ytocklmiappppgaa.LPolyOfP
open Go.ChangeShapes Go.WideShapes Go.ChangeAt Go.RowKit
open Go.ChangeMaps (open_string shut_string)
set_option linter.unusedVariables false

theorem own : ownKnob Try.prog.godebug = none := by kernel_rfl
theorem laidOut : laidOutB Try.prog = true := by kernel_rfl

set_option maxRecDepth 100000 in
set_option maxHeartbeats 4000000 in
theorem walk (a0 : Option Addr) (len0 cap0 : Nat) (z0 : List Int) (w : World) (w0 : BsAt w.heap.size w a0 len0 cap0 z0) :
    Calls Try.prog 4 #[.slice a0 len0 cap0] w fun e w' => e = .returned (.bool true) ∧ Below w.heap.size w w' := by
  have HDr := Lib.hid (drawPolyOf_any a0 len0 cap0 z0 w w0)
  have hfit := w0.fit
  unfold maxLen at hfit
  clear w0
  by_cases hlong : ¬ len0 ≤ 1048576
  · have hd : decide ((1048576 : Int) < (len0 : Int)) = true := decide_eq_true (by omega)
    go_enter Try.func4, Try.ntmps4
    go_wp2_with fail
    go_ret
    exact ⟨rfl, Below.refl _ _⟩
  have hd : decide ((1048576 : Int) < (len0 : Int)) = false := decide_eq_false (by omega)
  go_enter Try.func4, Try.ntmps4
  go_wp2_with fail
  refine HDr.out.mono ?_
  rintro e w1 ⟨⟨l1, g1, c1, x, rfl, hA1, hxl, hlo1, hlo2⟩, hb1⟩
  obtain ⟨m1, hm1⟩ : ∃ m, x.length = m := ⟨_, rfl⟩
  rw [hm1] at hA1 hxl ⊢
  have HX := Lib.hid hA1.pin_at
  have HM1 := Lib.hid hm1
  clear hm1 hA1
  obtain ⟨i0, hi, hz0, hz1, hz2⟩ := info_parts infoInt
  obtain ⟨b, hb⟩ : ∃ b, polyOfB l1 x = b := ⟨_, rfl⟩
  obtain ⟨P, hP⟩ : ∃ P, polyOfP l1 x = P := ⟨_, rfl⟩
  obtain ⟨pl, pc⟩ := P
  obtain ⟨k, hk⟩ : ∃ k, pc.length = k := ⟨_, rfl⟩
  have HS := Lib.hid hb
  have HP := Lib.hid hP
  have HK := Lib.hid hk
  have hbb : (b != b) = false := by cases b <;> rfl
  clear hb hP hk
  have HB1 := Lib.hid hb1
  clear hb1
  go_wp2_with fail
  refine (iPolyOf_t HX.out HS.out HP.out HK.out).mono ?_
  rintro e w2 ⟨⟨a2, c2, rfl, h2⟩, hb2⟩
  have HX := Lib.hid (HX.out.below hb2)
  have HB2 := Lib.hid (HB1.out.trans (hb2.mono HB1.out.size))
  have HO := Lib.hid h2
  clear h2 hb2
  obtain ⟨V_o, hV_o⟩ : ∃ V, w2.alloc (.cells #[.int .i64 pl, .slice a2 k c2] 25) = V := ⟨_, rfl⟩
  have hbV_o : Below w2.heap.size w2 V_o := by rw [← hV_o]; exact (Below.refl _ _).alloc (Nat.le_refl _) _
  have HXV_o := Lib.hid (BoxF.new hV_o)
  have HX := Lib.hid (HX.out.below hbV_o)
  have HO := Lib.hid (HO.out.below hbV_o)
  have HBV_o := Lib.hid (HB2.out.trans (hbV_o.mono HB2.out.size))
  have EV_o := Lib.hid hV_o
  have hsV_o : V_o.heap.size = w2.heap.size + 1 := by rw [← hV_o]; simp
  have HSV_o := Lib.hid hsV_o
  clear hV_o hbV_o hsV_o
  go_wp2_with fail
  rw [EV_o.out]
  refine (sPolyOf_t HX.out HS.out HP.out HK.out).mono ?_
  rintro e w3 ⟨⟨a3, c3, rfl, h3⟩, hb3⟩
  have HX := Lib.hid (HX.out.below hb3)
  have HO := Lib.hid (HO.out.below hb3)
  have HXV_o := Lib.hid (HXV_o.out.below hb3)
  have HB3 := Lib.hid (HBV_o.out.trans (hb3.mono HBV_o.out.size))
  have HW := Lib.hid h3
  clear h3 hb3
  obtain ⟨V_w, hV_w⟩ : ∃ V, w3.alloc (.cells #[.int .i64 pl, .slice a3 k c3] 25) = V := ⟨_, rfl⟩
  have hbV_w : Below w3.heap.size w3 V_w := by rw [← hV_w]; exact (Below.refl _ _).alloc (Nat.le_refl _) _
  have HXV_w := Lib.hid (BoxF.new hV_w)
  have HX := Lib.hid (HX.out.below hbV_w)
  have HO := Lib.hid (HO.out.below hbV_w)
  have HW := Lib.hid (HW.out.below hbV_w)
  have HXV_o := Lib.hid (HXV_o.out.below hbV_w)
  have HBV_w := Lib.hid (HB3.out.trans (hbV_w.mono HB3.out.size))
  have EV_w := Lib.hid hV_w
  have hsV_w : V_w.heap.size = w3.heap.size + 1 := by rw [← hV_w]; simp
  have HSV_w := Lib.hid hsV_w
  clear hV_w hbV_w hsV_w
  have hp0 := HXV_o.out
  obtain ⟨_, c0_0, c0_1, _, _⟩ := hp0
  rw [← EV_w.out] at c0_0 c0_1
  have hp1 := HXV_w.out
  obtain ⟨_, c1_0, c1_1, _, _⟩ := hp1
  rw [← EV_w.out] at c1_0 c1_1
  go_wp2_with fail
  rw [EV_w.out]
  clear c0_0 c0_1 c1_0 c1_1
  refine (samePoly_t HO.out HW.out).mono ?_
  rintro e w4 ⟨rfl, hb4⟩
  have HX := Lib.hid (HX.out.below hb4)
  have HO := Lib.hid (HO.out.below hb4)
  have HW := Lib.hid (HW.out.below hb4)
  have HXV_o := Lib.hid (HXV_o.out.below hb4)
  have HXV_w := Lib.hid (HXV_w.out.below hb4)
  have HB4 := Lib.hid (HBV_w.out.trans (hb4.mono HBV_w.out.size))
  clear hb4
  cases b with
  | false =>
    have hp0 := HXV_o.out
    obtain ⟨_, c0_0, c0_1, _, _⟩ := hp0
    have hp1 := HXV_w.out
    obtain ⟨_, c1_0, c1_1, _, _⟩ := hp1
    go_wp2_with fail
    clear c0_0 c0_1 c1_0 c1_1
    refine (samePoly_t HO.out HW.out).mono ?_
    rintro e w5 ⟨rfl, hb5⟩
    have HX := Lib.hid (HX.out.below hb5)
    have HO := Lib.hid (HO.out.below hb5)
    have HW := Lib.hid (HW.out.below hb5)
    have HXV_o := Lib.hid (HXV_o.out.below hb5)
    have HXV_w := Lib.hid (HXV_w.out.below hb5)
    have HB5 := Lib.hid (HB4.out.trans (hb5.mono HB4.out.size))
    clear hb5
    go_wp2
    go_ret
    exact ⟨rfl, HB5.out⟩
  | true =>
    obtain ⟨t1, t2⟩ := of_snoc0 (low := l1) (l := x) (by rw [HM1.out]; omega)
    have T1 := Lib.hid (t1.trans HS.out)
    have T2 := Lib.hid (t2.trans HP.out)
    have t3 := of_in HS.out
    rw [HP.out] at t3
    have T3 := Lib.hid t3
    clear t1 t2 t3
    obtain ⟨V1, hV1⟩ : ∃ V, w4.alloc (.cells #[] 3) = V := ⟨_, rfl⟩
    have hbV1 : Below w4.heap.size w4 V1 := by rw [← hV1]; exact (Below.refl _ _).alloc (Nat.le_refl _) _
    have hsV1 : V1.heap.size = w4.heap.size + 1 := by rw [← hV1]; simp
    have HMA : Hid (V1.ownsRow w4.heap.size 3 1 (.slice (some ⟨w4.heap.size, 0, none⟩) 0 0) 0 []) := Lib.hid (by rw [← hV1]; exact made_at w4 w4.heap.size rfl w4.heap.size (Nat.le_refl _))
    have HNW := Lib.hid (Ints.news0 (HX.out.below hbV1).is)
    have HLV : Hid ((intsV x).length = m1 * 1) := Lib.hid (by rw [intsV_len, HM1.out, Nat.mul_one])
    have HEV1 := Lib.hid hV1
    have HBV1 := Lib.hid hbV1
    have HSV1 := Lib.hid hsV1
    clear hV1 hbV1 hsV1
    have hm1b : m1 ≤ 10 := hxl
    go_wp2_with (first
      | (at_builtin; rw [HEV1.out]; refine wpList_append_own _ rfl _ _ 23 rfl w4.heap.size 3 i0 (.int .i64 0) 1 8 Try.underlying23 hi hz0 hz1 hz2 rfl (by decide) _ 0 _ rfl HMA.out ⟨g1, 0, none⟩ m1 c1 (intsV x) rfl HLV.out HNW.out (intsV_one x) (by unfold maxLen; omega) (by omega) (by have := HSV1.out; omega) ?_; intro v5 w50 hrow5 hgrow5 hnil5; have HB50 := Lib.hid (HBV1.out.grown hgrow5 (by have := HSV1.out; omega) (fun j e => own_ge HMA.out j e)); rw [Nat.zero_add, List.nil_append] at hrow5; have HRA := Lib.hid (hrow5.alloc (.cells #[.int .i64 0] 3)); have HOG := Lib.hid (own_ge hrow5); have HNB := Lib.hid (World.news_of_block (cs := #[.int .i64 0]) (t := 3) (fr := (0, 0)) (World.alloc_heap_new w50 (.cells #[.int .i64 0] 3))); have hs50 := HB50.out.size; clear hrow5 hgrow5 hnil5)
      | (at_builtin; refine wpList_append_own _ rfl _ _ 23 rfl w4.heap.size 3 i0 (.int .i64 0) 1 8 Try.underlying23 hi hz0 hz1 hz2 rfl (by decide) _ m1 _ rfl HRA.out ⟨w50.heap.size, 0, none⟩ 1 1 [.int .i64 0] rfl rfl HNB.out (fun u hu => by simp at hu; rcases hu with rfl; rfl) (by unfold maxLen; omega) (by omega) (by simp; omega) ?_; intro v6 w60 hrow6 hgrow6 hnil6; have hb60 := (HB50.out.alloc HB50.out.size (.cells #[.int .i64 0] 3)).grown hgrow6 (by simp; omega) (fun j e => HOG.out j e); obtain ⟨g6, c6, rfl⟩ := Go.Joins.ownsRow_form hrow6 (by omega); have HRO := Lib.hid hrow6; clear hrow6 hgrow6 hnil6))
    have hxs : IntRow w4.heap.size w60 (.slice (some ⟨g6, 0, none⟩) (m1 + 1) c6) (x ++ [0]) := rowI (by have h := HRO.out; unfold intsV at h ⊢; rw [List.map_append]; exact h) (by rw [List.length_append, HM1.out]; rfl)
    have hpin : PIn w60 (some ⟨g6, 0, none⟩) (m1 + 1) c6 (x ++ [0]) := (AnyP.mk hxs (snoc_wf HX.out.is.wf (by omega))).pin_at
    have HX := Lib.hid (HX.out.below hb60)
    have HO := Lib.hid (HO.out.below hb60)
    have HW := Lib.hid (HW.out.below hb60)
    have HXV_o := Lib.hid (HXV_o.out.below hb60)
    have HXV_w := Lib.hid (HXV_w.out.below hb60)
    have HB60 := Lib.hid (HB4.out.trans (hb60.mono HB4.out.size))
    refine (iPolyOf_t hpin T1.out T2.out HK.out).mono ?_
    rintro e w5 ⟨⟨a5, c5, rfl, h5⟩, hb5⟩
    have HX := Lib.hid (HX.out.below hb5)
    have HO := Lib.hid (HO.out.below hb5)
    have HW := Lib.hid (HW.out.below hb5)
    have HXV_o := Lib.hid (HXV_o.out.below hb5)
    have HXV_w := Lib.hid (HXV_w.out.below hb5)
    have HB5 := Lib.hid (HB60.out.trans (hb5.mono HB60.out.size))
    have HT := Lib.hid h5
    clear h5 hb5
    obtain ⟨V_x, hV_x⟩ : ∃ V, w5.alloc (.cells #[.int .i64 pl, .slice a5 k c5] 25) = V := ⟨_, rfl⟩
    have hbV_x : Below w5.heap.size w5 V_x := by rw [← hV_x]; exact (Below.refl _ _).alloc (Nat.le_refl _) _
    have HXV_x := Lib.hid (BoxF.new hV_x)
    have HX := Lib.hid (HX.out.below hbV_x)
    have HO := Lib.hid (HO.out.below hbV_x)
    have HW := Lib.hid (HW.out.below hbV_x)
    have HT := Lib.hid (HT.out.below hbV_x)
    have HXV_o := Lib.hid (HXV_o.out.below hbV_x)
    have HXV_w := Lib.hid (HXV_w.out.below hbV_x)
    have HBV_x := Lib.hid (HB5.out.trans (hbV_x.mono HB5.out.size))
    have EV_x := Lib.hid hV_x
    have hsV_x : V_x.heap.size = w5.heap.size + 1 := by rw [← hV_x]; simp
    have HSV_x := Lib.hid hsV_x
    clear hV_x hbV_x hsV_x
    have hp0 := HXV_o.out
    obtain ⟨_, c0_0, c0_1, _, _⟩ := hp0
    rw [← EV_x.out] at c0_0 c0_1
    go_wp2_with fail
    rw [EV_x.out]
    clear c0_0 c0_1
    refine (iPolyIn_t HO.out T3.out).mono ?_
    rintro e w6 ⟨rfl, hb6⟩
    have HX := Lib.hid (HX.out.below hb6)
    have HO := Lib.hid (HO.out.below hb6)
    have HW := Lib.hid (HW.out.below hb6)
    have HT := Lib.hid (HT.out.below hb6)
    have HXV_o := Lib.hid (HXV_o.out.below hb6)
    have HXV_w := Lib.hid (HXV_w.out.below hb6)
    have HXV_x := Lib.hid (HXV_x.out.below hb6)
    have HB6 := Lib.hid (HBV_x.out.trans (hb6.mono HBV_x.out.size))
    clear hb6
    have hd199 : decide ((199 : Int) < (m1 : Int)) = false := decide_eq_false (by omega)
    have hp0 := HXV_x.out
    obtain ⟨_, c0_0, c0_1, _, _⟩ := hp0
    have hp1 := HXV_o.out
    obtain ⟨_, c1_0, c1_1, _, _⟩ := hp1
    go_wp2_with fail
    clear c0_0 c0_1 c1_0 c1_1
    refine (samePoly_t HT.out HO.out).mono ?_
    rintro e w7 ⟨rfl, hb7⟩
    have HX := Lib.hid (HX.out.below hb7)
    have HO := Lib.hid (HO.out.below hb7)
    have HW := Lib.hid (HW.out.below hb7)
    have HT := Lib.hid (HT.out.below hb7)
    have HXV_o := Lib.hid (HXV_o.out.below hb7)
    have HXV_w := Lib.hid (HXV_w.out.below hb7)
    have HXV_x := Lib.hid (HXV_x.out.below hb7)
    have HB7 := Lib.hid (HB6.out.trans (hb7.mono HB6.out.size))
    clear hb7
    go_wp2
    go_ret
    exact ⟨rfl, HB7.out⟩

set_option maxRecDepth 100000 in
theorem lifted (os : Os) (started : os.Started) (H : Type) (enc : TypeId × Value → H) :
    ReturnsInHanded {} Try.checked os 4 .any (Rows.fnPolyOfSpec.pre6 enc Try.prog Try.f4 Rows.fnPolyOfRow.domain false) (Rows.fnPolyOfSpec.post enc Try.prog Try.f4 false true false false) := by
  refine returnsInHanded_of_change (C := Try.checked) own started (by kernel_rfl) Try.func4
    (ChangeSpec.witness6 (enc := enc) (C := Try.checked) false ⟨#[], #[.slice none 0 0], []⟩ 8 (by kernel_rfl) (by kernel_rfl) (by kernel_rfl) (by kernel_rfl)) ?_
  intro W base args ds gs before hval0 hW hcnd _
  have hval : ∀ (j : Nat) t v, Try.f4.params[j]? = some t → args[j]? = some v → Value.okWide Try.prog W .any base t v := hval0
  have hW' := hW
  obtain ⟨p, q, hA0, hV, rfl, hfz, hnd⟩ := hW
  have hA : DataW.TrodAll enc Try.prog W 0 (fun _ => true) true Try.f4.params.toList args.toList ds p := hA0
  rw [Try.params4] at hA hval
  obtain ⟨v0, vs0, d0, ds0, p0, q0, hargs, rfl, rfl, h0, r0⟩ := trodAll_cons hA
  obtain ⟨rfl, rfl, rfl⟩ := trodAll_nil r0
  obtain rfl : args = #[v0] := by cases args; simp_all
  obtain ⟨rfl, rfl⟩ := trodVars_none hV
  obtain ⟨a0, len0, cap0, rfl⟩ := okWide_slice Try.underlying22 (hval 0 22 v0 rfl rfl)
  have k0 := h0
  have lt0 : ∀ x ∈ p0, x.block < W.heap.size := by obtain ⟨m, hm⟩ := k0; exact DataW.trod_lt m _ _ _ hm
  obtain ⟨z0, w0⟩ : ∃ zs, BsAt W.heap.size W a0 len0 cap0 zs := by
    obtain ⟨fuel, hf⟩ := h0
    exact bs_of hf
  clear hA0 hval0
  refine (walk a0 len0 cap0 z0 W w0).mono fun e W' ⟨he, bel⟩ => ?_
  subst he
  exact ⟨_, rfl, _, _, _, [], _, [], hW', trodAll_mk1 (shut_bool Try.underlying4 _), (trodAll_cons_mk (Below.trod laidOut (by kernel_rfl) (of_decide_eq_true (by kernel_rfl)) k0 bel lt0) trodAll_mk0), rfl, bel.frame _, fun h => by cases h⟩

theorem closed : joinedFacts Try.prog 4 Try.f4 Rows.fnPolyOfSpec Rows.fnPolyOfRow = true :=
  ((restOf Try.prog 4 Try.f4 Rows.fnPolyOfSpec Rows.fnPolyOfRow).2 enter_is lifts_is make_is).trans (by kernel_rfl)
theorem over : Rows.fnPolyOfRow.holds Try.pinned (OpenSpec.ofChange Rows.fnPolyOfSpec) :=
  OpenClaim.holds_of_wide 4 Try.f4 rfl rfl rfl rfl rfl rfl rfl ⟨rfl, rfl, rfl, rfl, rfl⟩ rfl rfl rfl rfl rfl (by kernel_rfl) Try.func4 closed
    (of_decide_eq_true (by kernel_rfl)) (by unfold Func.isWrapper; first | (rw [if_pos (by decide +kernel)]; kernel_rfl) | (rw [if_neg (by decide +kernel)]; exact ⟨rfl, rfl⟩))
    (fun os started H enc _ => lifted os started H enc)

theorem proved : Rows.FnPolyOfSaid := over
#print axioms proved
end Go.Proofs.Ytocklmiappppgaa.LPolyOfP

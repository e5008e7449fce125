/-
  Proves 'Rows.FnSumOfSaid': for every list of bytes, the sum of the terms that the model draws from it is a sum, and the same one with the terms the other way round.
  Conditions: none beyond the row's own.
-/
import Derived.Test.YtebgcebjlbhjjaaRows
import Derived.WalkKit
import Derived.ProofKit
import Derived.OpenShut
import Derived.ShutString
import Derived.ChangeOld
import Derived.Below
import Derived.Test.YtebgcebjlbhjjaaBa
import Derived.Test.YtebgcebjlbhjjaaBb
import Derived.Test.YtebgcebjlbhjjaaBc
import Derived.Test.YtebgcebjlbhjjaaBd

namespace Go.Proofs.Ytebgcebjlbhjjaa.LSumOfP
open Go.ChangeShapes Go.WideShapes Go.ChangeAt Go.RowKit
open Go.ChangeMaps (open_string shut_string)
set_option linter.unusedVariables false

theorem own : ownKnob Try.prog.godebug = none := by kernel_rfl
theorem laidOut : laidOutB Try.prog = true := by kernel_rfl

set_option maxRecDepth 100000 in
set_option maxHeartbeats 6000000 in
theorem walk (a0 : Option Addr) (len0 cap0 : Nat) (z0 : List Int) (w : World) (w0 : BsAt w.heap.size w a0 len0 cap0 z0) :
    Calls Try.prog 4 #[.slice a0 len0 cap0] w fun e w' => e = .returned (.bool true) ∧ Below w.heap.size w w' := by
  obtain ⟨i0, hi, hz0, hz1, hz2⟩ := info_parts infoTerm
  have HDr := Lib.hid (drawSumOf_any a0 len0 cap0 z0 w w0)
  have hfit := w0.fit
  unfold maxLen at hfit
  clear w0
  by_cases hlong : ¬ len0 ≤ 1048576
  · have hd : decide ((1048576 : Int) < (len0 : Int)) = true := decide_eq_true (by omega)
    go_enter Try.func4, Try.ntmps4
    go_wp2_with fail
    go_ret
    exact ⟨rfl, Below.refl _ _⟩
  have hd : decide ((1048576 : Int) < (len0 : Int)) = false := decide_eq_false (by omega)
  go_enter Try.func4, Try.ntmps4
  go_wp2_with fail
  refine HDr.out.mono ?_
  rintro e w1 ⟨⟨v, rfl, g, c, n, x, rfl, hg, hx, hn, hxs⟩, hb1⟩
  generalize (⟨g, 0, none⟩ : Addr) = ad at hx ⊢
  clear hg
  have HX := Lib.hid hx
  have HXS := Lib.hid hxs
  have HB1 := Lib.hid hb1
  clear hx hb1 hxs
  cases hb : ofB x with
  | false =>
    have HS := Lib.hid hb
    have HU : Hid (cond false (canonT x) [] = []) := Lib.hid rfl
    have HN : Hid (([] : List Tm).length = 0) := Lib.hid rfl
    clear hb
    go_wp2_with fail
    refine (iSumOf_t HX.out HS.out HU.out HN.out).mono ?_
    rintro e w2 ⟨⟨a2, c2, rfl, h2⟩, hb2⟩
    have HX := Lib.hid (HX.out.below hb2)
    have H2 := Lib.hid h2
    have HB2 := Lib.hid (HB1.out.trans (hb2.mono HB1.out.size))
    clear h2 hb2
    go_wp2_with fail
    refine (sSumOf_t HX.out HS.out HU.out HN.out).mono ?_
    rintro e w3 ⟨⟨a3, c3, rfl, h3⟩, hb3⟩
    have H2 := Lib.hid (H2.out.below hb3)
    have H3 := Lib.hid h3
    have HB3 := Lib.hid (HB2.out.trans (hb3.mono HB2.out.size))
    clear h3 hb3
    go_wp2_with fail
    refine (sameSum_t H2.out H3.out).mono ?_
    rintro e w4 ⟨rfl, hb4⟩
    have HB4 := Lib.hid (HB3.out.trans (hb4.mono HB3.out.size))
    have H2 := Lib.hid (H2.out.below hb4)
    have H3 := Lib.hid (H3.out.below hb4)
    clear hb4
    go_wp2_with fail
    refine (sameSum_t H2.out H3.out).mono ?_
    rintro e w5 ⟨rfl, hb5⟩
    have HB5 := Lib.hid (HB4.out.trans (hb5.mono HB4.out.size))
    clear hb5
    go_wp2
    go_ret
    exact ⟨rfl, HB5.out⟩
  | true =>
    obtain ⟨us, hus⟩ : ∃ us, canonT x = us := ⟨_, rfl⟩
    obtain ⟨k, hk⟩ : ∃ k, us.length = k := ⟨_, rfl⟩
    have hus1 : sumB us = true := by unfold ofB at hb; simp only [Bool.and_eq_true] at hb; rw [← hus]; exact hb.2
    have hrev : canonT x.reverse = us := by rw [← hus]; exact (same_perm (List.reverse_perm x)).eq
    have hofr : ofB x.reverse = true := by
      unfold ofB at hb ⊢
      simp only [Bool.and_eq_true] at hb ⊢
      refine ⟨?_, by rw [hrev]; exact hus1⟩
      have h2 := hb.1
      unfold twB at h2 ⊢
      rw [List.length_reverse, List.all_reverse]; exact h2
    have HS := Lib.hid hb
    have HU : Hid (cond true (canonT x) [] = us) := Lib.hid hus
    have HN := Lib.hid hk
    have HUS := Lib.hid hus1
    have HR : Hid (cond true (canonT x.reverse) [] = us) := Lib.hid hrev
    have HOR := Lib.hid hofr
    have HL := Lib.hid HX.out.len
    clear hb hus hk hus1 hrev hofr
    go_wp2_with fail
    refine (iSumOf_t HX.out HS.out HU.out HN.out).mono ?_
    rintro e w2 ⟨⟨a2, c2, rfl, h2⟩, hb2⟩
    have HX := Lib.hid (HX.out.below hb2)
    have H2 := Lib.hid h2
    have HB2 := Lib.hid (HB1.out.trans (hb2.mono HB1.out.size))
    clear h2 hb2
    go_wp2_with fail
    refine (sSumOf_t HX.out HS.out HU.out HN.out).mono ?_
    rintro e w3 ⟨⟨a3, c3, rfl, h3⟩, hb3⟩
    have H2 := Lib.hid (H2.out.below hb3)
    have HX := Lib.hid (HX.out.below hb3)
    have H3 := Lib.hid h3
    have HB3 := Lib.hid (HB2.out.trans (hb3.mono HB2.out.size))
    clear h3 hb3
    go_wp2_with fail
    refine (sameSum_t H2.out H3.out).mono ?_
    rintro e w4 ⟨rfl, hb4⟩
    have HB4 := Lib.hid (HB3.out.trans (hb4.mono HB3.out.size))
    have H2 := Lib.hid (H2.out.below hb4)
    have HX := Lib.hid (HX.out.below hb4)
    clear hb4
    have e0 : IntKind.i64.wrap ((n : Int) - 1) = (n : Int) - 1 := IntWalk.i64_in _ (by omega)
    have hs4 := HB4.out.size
    go_wp2_with fail
    go_loopw [8, 9] (fun v i wr => ∃ (j m g2 c2 : Nat), v = .slice (some ⟨g2, 0, none⟩) j c2 ∧ j + m = n ∧ i = .int .i64 ((m : Int) - 1) ∧ w4.heap.size ≤ g2 ∧ Hid (OwnT w4.heap.size wr (.slice (some ⟨g2, 0, none⟩) j c2) (x.drop m).reverse) ∧ Hid (Below w4.heap.size w4 wr) ∧ w4.heap.size < wr.heap.size) (fun v i _ => (intOf i + 1).toNat)
    case atStart => exact ⟨0, n, w4.heap.size, 0, rfl, by omega, rfl, Nat.le_refl _, Lib.hid (by rw [List.drop_of_length_le (by rw [HL.out]; exact Nat.le_refl _)]; exact World.ownsRow_made w4 #[] 0 (Nat.le_refl _) (Nat.zero_le _) rfl), Lib.hid ((Below.refl _ w4).alloc (Nat.le_refl _) _), by simp⟩
    case round =>
      obtain ⟨j, m, g2, c2, rfl, hjm, rfl, hg2, HO, HBl, hsz⟩ := hrel
      by_cases hm : 1 ≤ m
      · obtain ⟨q, rfl⟩ : ∃ q, m = q + 1 := ⟨m - 1, by omega⟩
        have hqi : ((q + 1 : Nat) : Int) - 1 = (q : Int) := by omega
        rw [hqi]
        have hge : (0 : Int) ≤ (q : Int) := by omega
        have hqx : q < x.length := by rw [HL.out]; omega
        obtain ⟨y, e, hy⟩ := HX.out.is.at_ (by omega)
        cases e
        obtain ⟨t, ht⟩ : ∃ t, x[q] = t := ⟨_, rfl⟩
        have hc := (hy.below HBl.out).2 q hqx
        rw [ht, addr_next] at hc
        obtain ⟨c0, d1⟩ := hc
        have hqn : (q : Int) < (n : Int) := by omega
        have hdrop : (x.drop q).reverse = (x.drop (q + 1)).reverse ++ [t] := by rw [List.drop_eq_getElem_cons hqx, ht, List.reverse_cons]
        have HD := Lib.hid hdrop
        have hlen : ((x.drop (q + 1)).reverse).length = j := by rw [List.length_reverse, List.length_drop, HL.out]; omega
        have hown := HO.out
        unfold OwnT at hown
        rw [hlen] at hown
        have HOW := Lib.hid hown
        have HLen := Lib.hid hlen
        clear hy ht hdrop hlen hown
        go_wp2_with (at_builtin; refine wpList_append_lies _ rfl _ _ _ rfl w4.heap.size TI i0 _ 2 24 Try.underlying23 hi hz0 hz1 hz2 rfl (by omega) (.slice (some ⟨g2, 0, none⟩) j c2) j (termsV (x.drop (q + 1)).reverse) rfl (HOW.out.alloc _) ⟨wr.heap.size, 0, none⟩ 1 1 [.int .i64 t.c, .string t.s] rfl rfl (World.news_of_block (cs := #[.int .i64 t.c, .string t.s]) (t := TI) (fr := (0, 0)) (heap_alloc_new wr _)) (by simp [Value.oneCell']) (by omega) (by unfold maxLen; omega) (by omega) (by simp; omega) (wr.heap.size + 1) (by simp) ?_; intro gg cap1 w7 hown7 hgrow7 hat hlt7)
        have hgg : w4.heap.size ≤ gg := (hown7.lt gg rfl).1
        have hB57 : Below w4.heap.size wr w7 := ((Below.refl w4.heap.size wr).alloc (by omega) _).grown hgrow7 (by simp; omega) (ownsRow_low HOW.out)
        have HB7 := Lib.hid (HBl.out.trans hB57)
        have HO7 := Lib.hid hown7
        have hs7 := hB57.size
        have e1 : IntKind.i64.wrap ((q : Int) - 1) = (q : Int) - 1 := IntWalk.i64_in _ (by omega)
        clear hown7 hgrow7 hat hlt7 hB57
        go_wp2
        go_roundw
        case rel =>
          refine ⟨j + 1, q, gg, cap1, rfl, by omega, by go_num, hgg, Lib.hid ?_, HB7, by omega⟩
          unfold OwnT
          rw [HD.out, List.length_append, HLen.out, termsV_append]
          exact HO7.out
        case measure => simp [intOf]
      · obtain rfl : m = 0 := by omega
        obtain rfl : j = n := by omega
        have hlt0 : ¬ (0 : Int) ≤ ((0 : Nat) : Int) - 1 := by omega
        have hown := HO.out
        rw [List.drop_zero] at hown
        obtain ⟨a5, c5, e5, hT⟩ := hown.termsIn ⟨by rw [List.length_reverse, HL.out]; unfold maxLen; omega, fun t ht => by have := HXS.out t (List.mem_reverse.1 ht); unfold maxLen; omega⟩
        rw [List.length_reverse, HL.out] at e5 hT
        obtain ⟨rfl, rfl⟩ : a5 = some ⟨g2, 0, none⟩ ∧ c5 = c2 := by cases e5; exact ⟨rfl, rfl⟩
        obtain ⟨w5, rfl⟩ : ∃ w5 : World, w5 = wr := ⟨_, rfl⟩
        have HT := Lib.hid hT
        have H2 := Lib.hid (H2.out.below HBl.out)
        have HB5 := Lib.hid (HB4.out.trans (HBl.out.mono HB4.out.size))
        clear hown e5 hT
        go_wp2_with fail
        refine (iSumOf_t HT.out HOR.out HR.out HN.out).mono ?_
        rintro e w6 ⟨⟨a6, c6, rfl, h6⟩, hb6⟩
        have H2 := Lib.hid (H2.out.below hb6)
        have H6 := Lib.hid h6
        have HB6 := Lib.hid (HB5.out.trans (hb6.mono HB5.out.size))
        clear h6 hb6
        go_wp2_with fail
        refine (sameSum_t H6.out H2.out).mono ?_
        rintro e w7 ⟨rfl, hb7⟩
        have HB7 := Lib.hid (HB6.out.trans (hb7.mono HB6.out.size))
        have H2 := Lib.hid (H2.out.below hb7)
        clear hb7
        go_wp2_with fail
        refine (iSumIn_t H2.out HUS.out).mono ?_
        rintro e w8 ⟨rfl, hb8⟩
        have HB8 := Lib.hid (HB7.out.trans (hb8.mono HB7.out.size))
        clear hb8
        go_wp2
        go_ret
        exact ⟨rfl, HB8.out⟩

set_option maxRecDepth 100000 in
theorem lifted (os : Os) (started : os.Started) (H : Type) (enc : TypeId × Value → H) :
    ReturnsInHanded {} Try.checked os 4 .any (Rows.fnSumOfSpec.pre6 enc Try.prog Try.f4 Rows.fnSumOfRow.domain false) (Rows.fnSumOfSpec.post enc Try.prog Try.f4 false true false false) := by
  refine returnsInHanded_of_change (C := Try.checked) own started (by kernel_rfl) Try.func4
    (ChangeSpec.witness6 (enc := enc) (C := Try.checked) false ⟨#[], #[.slice none 0 0], []⟩ 8 (by kernel_rfl) (by kernel_rfl) (by kernel_rfl) (by kernel_rfl)) ?_
  intro W base args ds gs before hval0 hW hcnd _
  have hval : ∀ (j : Nat) t v, Try.f4.params[j]? = some t → args[j]? = some v → Value.okWide Try.prog W .any base t v := hval0
  have hW' := hW
  obtain ⟨p, q, hA0, hV, rfl, hfz, hnd⟩ := hW
  have hA : DataW.TrodAll enc Try.prog W 0 (fun _ => true) true Try.f4.params.toList args.toList ds p := hA0
  rw [Try.params4] at hA hval
  obtain ⟨v0, vs0, d0, ds0, p0, q0, hargs, rfl, rfl, h0, r0⟩ := trodAll_cons hA
  obtain ⟨rfl, rfl, rfl⟩ := trodAll_nil r0
  obtain rfl : args = #[v0] := by cases args; simp_all
  obtain ⟨rfl, rfl⟩ := trodVars_none hV
  obtain ⟨a0, len0, cap0, rfl⟩ := okWide_slice Try.underlying22 (hval 0 22 v0 rfl rfl)
  have k0 := h0
  have lt0 : ∀ x ∈ p0, x.block < W.heap.size := by obtain ⟨m, hm⟩ := k0; exact DataW.trod_lt m _ _ _ hm
  obtain ⟨z0, w0⟩ : ∃ zs, BsAt W.heap.size W a0 len0 cap0 zs := by
    obtain ⟨fuel, hf⟩ := h0
    exact bs_of hf
  clear hA0 hval0
  refine (walk a0 len0 cap0 z0 W w0).mono fun e W' ⟨he, bel⟩ => ?_
  subst he
  exact ⟨_, rfl, _, _, _, [], _, [], hW', trodAll_mk1 (shut_bool Try.underlying4 _), (trodAll_cons_mk (Below.trod laidOut (by kernel_rfl) (of_decide_eq_true (by kernel_rfl)) k0 bel lt0) trodAll_mk0), rfl, bel.frame _, fun h => by cases h⟩

theorem over : Rows.fnSumOfRow.holds Try.pinned (OpenSpec.ofChange Rows.fnSumOfSpec) :=
  OpenClaim.holds_of_wide 4 Try.f4 rfl rfl rfl rfl rfl rfl rfl ⟨rfl, rfl, rfl, rfl, rfl⟩ rfl rfl rfl rfl rfl (by kernel_rfl) Try.func4 (by kernel_rfl)
    (of_decide_eq_true (by kernel_rfl)) (by unfold Func.isWrapper; first | (rw [if_pos (by decide +kernel)]; kernel_rfl) | (rw [if_neg (by decide +kernel)]; exact ⟨rfl, rfl⟩))
    (fun os started H enc _ => lifted os started H enc)

theorem proved : Rows.FnSumOfSaid := over
#print axioms proved
end Go.Proofs.Ytebgcebjlbhjjaa.LSumOfP

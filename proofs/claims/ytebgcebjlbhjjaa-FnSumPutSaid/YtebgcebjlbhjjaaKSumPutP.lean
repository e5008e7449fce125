/-
  Proves 'Rows.FnSumPutSaid': for every list of bytes, putting the words that the model draws from it into the sum keeps the sum of its coefficients, and putting each letter in its own place changes nothing.
  Conditions: none beyond the row's own.
-/
import Derived.Test.YtebgcebjlbhjjaaRows
import Derived.WalkKit
import Derived.ProofKit
import Derived.OpenShut
import Derived.ShutString
import Derived.ChangeOld
import Derived.Below
import Derived.Test.YtebgcebjlbhjjaaBa
import Derived.Test.YtebgcebjlbhjjaaBb
import Derived.Test.YtebgcebjlbhjjaaBc
import Derived.Test.YtebgcebjlbhjjaaBd

namespace Go.Proofs.Ytebgcebjlbhjjaa.LSumPutP
open Go.ChangeShapes Go.WideShapes Go.ChangeAt Go.RowKit
open Go.ChangeMaps (open_string shut_string)
set_option linter.unusedVariables false

theorem own : ownKnob Try.prog.godebug = none := by kernel_rfl
theorem laidOut : laidOutB Try.prog = true := by kernel_rfl

set_option maxRecDepth 100000 in
set_option maxHeartbeats 6000000 in
theorem walk (a0 : Option Addr) (len0 cap0 : Nat) (z0 : List Int) (w : World) (w0 : BsAt w.heap.size w a0 len0 cap0 z0) :
    Calls Try.prog 9 #[.slice a0 len0 cap0] w fun e w' => e = .returned (.bool true) ∧ Below w.heap.size w w' := by
  have HDr := Lib.hid (drawSumPut_any a0 len0 cap0 z0 w w0)
  have hfit := w0.fit
  unfold maxLen at hfit
  clear w0
  by_cases hlong : ¬ len0 ≤ 1048576
  · have hd : decide ((1048576 : Int) < (len0 : Int)) = true := decide_eq_true (by omega)
    go_enter Try.func9, Try.ntmps9
    go_wp2_with fail
    go_ret
    exact ⟨rfl, Below.refl _ _⟩
  have hd : decide ((1048576 : Int) < (len0 : Int)) = false := decide_eq_false (by omega)
  go_enter Try.func9, Try.ntmps9
  go_wp2_with fail
  refine HDr.out.mono ?_
  rintro e w1 ⟨⟨v, u, rfl, ⟨g, c, n, x, rfl, hg, hx, hn, hxs⟩, ⟨g2, c2, m, zs, rfl, hg2, hS, hm, hz4⟩⟩, hb1⟩
  have HX := Lib.hid hx
  have HS := Lib.hid hS
  have HB1 := Lib.hid hb1
  have hmm : m ≤ maxLen := by unfold maxLen; omega
  clear hx hb1 hxs hS hz4
  cases hb : sumPutB x zs with
  | false =>
    have HP := Lib.hid hb
    have HU : Hid (cond false (canonT (x.map (mapT (putF zs)))) [] = []) := Lib.hid rfl
    have HN : Hid (([] : List Tm).length = 0) := Lib.hid rfl
    clear hb
    go_wp2_with fail
    refine (iSumPut_t HX.out hmm HS.out HP.out HU.out HN.out).mono ?_
    rintro e w2 ⟨⟨a2, c2, rfl, h2⟩, hb2⟩
    have HX := Lib.hid (HX.out.below hb2)
    have HS := Lib.hid (HS.out.below hb2)
    have H2 := Lib.hid h2
    have HB2 := Lib.hid (HB1.out.trans (hb2.mono HB1.out.size))
    clear h2 hb2
    go_wp2_with fail
    refine (sSumPut_t HX.out hmm HS.out HP.out HU.out HN.out).mono ?_
    rintro e w3 ⟨⟨a3, c3, rfl, h3⟩, hb3⟩
    have H2 := Lib.hid (H2.out.below hb3)
    have H3 := Lib.hid h3
    have HB3 := Lib.hid (HB2.out.trans (hb3.mono HB2.out.size))
    clear h3 hb3
    go_wp2_with fail
    refine (sameSum_t H2.out H3.out).mono ?_
    rintro e w4 ⟨rfl, hb4⟩
    have HB4 := Lib.hid (HB3.out.trans (hb4.mono HB3.out.size))
    have H2 := Lib.hid (H2.out.below hb4)
    have H3 := Lib.hid (H3.out.below hb4)
    clear hb4
    go_wp2_with fail
    refine (sameSum_t H2.out H3.out).mono ?_
    rintro e w5 ⟨rfl, hb5⟩
    have HB5 := Lib.hid (HB4.out.trans (hb5.mono HB4.out.size))
    clear hb5
    go_wp2
    go_ret
    exact ⟨rfl, HB5.out⟩
  | true =>
    obtain ⟨hsx, hf, hft, htw⟩ := sumPutB_iff.1 hb
    have hw := words_of_sum hsx
    obtain ⟨us, hus⟩ : ∃ us, canonT (x.map (mapT (putF zs))) = us := ⟨_, rfl⟩
    obtain ⟨k, hk⟩ : ∃ k, us.length = k := ⟨_, rfl⟩
    have hus1 : sumB us = true := by rw [← hus]; exact sum_of_tw htw
    obtain ⟨p, hp⟩ : ∃ p, plainZ x = p := ⟨_, rfl⟩
    have hpu : plainZ us = p := by rw [← hus, plain_canon, plain_map, hp]
    have hid : x.map (mapT (putF abcd)) = x := map_id_same fun t ht => by
      obtain ⟨_, h2, h3⟩ := (wordB_iff _).1 (hw t ht)
      unfold putF
      rw [abcd_put _ h2, h3]
    have hpa : sumPutB x abcd = true := sumPutB_iff.2 ⟨hsx, abcd_four, by rw [hid]; exact fit_of_words hw, by rw [hid, sum_id hsx]; exact (sumB_parts hsx).1⟩
    have HP := Lib.hid hb
    have HU : Hid (cond true (canonT (x.map (mapT (putF zs)))) [] = us) := Lib.hid hus
    have HN := Lib.hid hk
    have HUS := Lib.hid hus1
    have HSX := Lib.hid hsx
    have HPX : Hid (cond true (plainZ x) 0 = p) := Lib.hid hp
    have HPU : Hid (cond true (plainZ us) 0 = p) := Lib.hid hpu
    have HPA := Lib.hid hpa
    have HXX : Hid (cond true (canonT (x.map (mapT (putF abcd)))) [] = x) := Lib.hid (by show canonT _ = x; rw [hid, sum_id hsx])
    have HNX := Lib.hid HX.out.len
    clear hb hsx hf hft htw hw hus hk hus1 hp hpu hid hpa
    go_wp2_with fail
    refine (iSumPut_t HX.out hmm HS.out HP.out HU.out HN.out).mono ?_
    rintro e w2 ⟨⟨a2, c2, rfl, h2⟩, hb2⟩
    have HX := Lib.hid (HX.out.below hb2)
    have HS := Lib.hid (HS.out.below hb2)
    have H2 := Lib.hid h2
    have HB2 := Lib.hid (HB1.out.trans (hb2.mono HB1.out.size))
    clear h2 hb2
    go_wp2_with fail
    refine (sSumPut_t HX.out hmm HS.out HP.out HU.out HN.out).mono ?_
    rintro e w3 ⟨⟨a3, c3, rfl, h3⟩, hb3⟩
    have H2 := Lib.hid (H2.out.below hb3)
    have HX := Lib.hid (HX.out.below hb3)
    have H3 := Lib.hid h3
    have HB3 := Lib.hid (HB2.out.trans (hb3.mono HB2.out.size))
    clear h3 hb3
    go_wp2_with fail
    refine (sameSum_t H2.out H3.out).mono ?_
    rintro e w4 ⟨rfl, hb4⟩
    have HB4 := Lib.hid (HB3.out.trans (hb4.mono HB3.out.size))
    have H2 := Lib.hid (H2.out.below hb4)
    have HX := Lib.hid (HX.out.below hb4)
    clear hb4
    go_wp2_with fail
    refine (iSumPlain_t H2.out HUS.out HPU.out).mono ?_
    rintro e w5 ⟨rfl, hb5⟩
    have HB5 := Lib.hid (HB4.out.trans (hb5.mono HB4.out.size))
    have HX := Lib.hid (HX.out.below hb5)
    clear hb5
    go_wp2_with fail
    refine (iSumPlain_t HX.out HSX.out HPX.out).mono ?_
    rintro e w6 ⟨rfl, hb6⟩
    have HB6 := Lib.hid (HB5.out.trans (hb6.mono HB5.out.size))
    have HX := Lib.hid (HX.out.below hb6)
    clear hb6
    have hb7 : Below w6.heap.size w6 (w6.alloc (.cells #[.string { data := #[97] }, .string { data := #[98] }, .string { data := #[99] }, .string { data := #[100] }] 9)) := (Below.refl _ w6).alloc (Nat.le_refl _) _
    have HX := Lib.hid (HX.out.below hb7)
    have HB7 := Lib.hid (HB6.out.trans (hb7.mono HB6.out.size))
    clear hb7
    have HA := Lib.hid (strsIn_abcd w6)
    go_wp2_with fail
    refine (iSumPut_t HX.out (by decide) HA.out HPA.out HXX.out HNX.out).mono ?_
    rintro e w8 ⟨⟨a8, c8, rfl, h8⟩, hb8⟩
    have HX := Lib.hid (HX.out.below hb8)
    have H8 := Lib.hid h8
    have HB8 := Lib.hid (HB7.out.trans (hb8.mono HB7.out.size))
    clear h8 hb8
    go_wp2_with fail
    refine (sameSum_t H8.out HX.out).mono ?_
    rintro e w9 ⟨rfl, hb9⟩
    have HB9 := Lib.hid (HB8.out.trans (hb9.mono HB8.out.size))
    clear hb9
    go_wp2
    go_ret
    exact ⟨rfl, HB9.out⟩

set_option maxRecDepth 100000 in
theorem lifted (os : Os) (started : os.Started) (H : Type) (enc : TypeId × Value → H) :
    ReturnsInHanded {} Try.checked os 9 .any (Rows.fnSumPutSpec.pre6 enc Try.prog Try.f9 Rows.fnSumPutRow.domain false) (Rows.fnSumPutSpec.post enc Try.prog Try.f9 false true false false) := by
  refine returnsInHanded_of_change (C := Try.checked) own started (by kernel_rfl) Try.func9
    (ChangeSpec.witness6 (enc := enc) (C := Try.checked) false ⟨#[], #[.slice none 0 0], []⟩ 8 (by kernel_rfl) (by kernel_rfl) (by kernel_rfl) (by kernel_rfl)) ?_
  intro W base args ds gs before hval0 hW hcnd _
  have hval : ∀ (j : Nat) t v, Try.f9.params[j]? = some t → args[j]? = some v → Value.okWide Try.prog W .any base t v := hval0
  have hW' := hW
  obtain ⟨p, q, hA0, hV, rfl, hfz, hnd⟩ := hW
  have hA : DataW.TrodAll enc Try.prog W 0 (fun _ => true) true Try.f9.params.toList args.toList ds p := hA0
  rw [Try.params9] at hA hval
  obtain ⟨v0, vs0, d0, ds0, p0, q0, hargs, rfl, rfl, h0, r0⟩ := trodAll_cons hA
  obtain ⟨rfl, rfl, rfl⟩ := trodAll_nil r0
  obtain rfl : args = #[v0] := by cases args; simp_all
  obtain ⟨rfl, rfl⟩ := trodVars_none hV
  obtain ⟨a0, len0, cap0, rfl⟩ := okWide_slice Try.underlying22 (hval 0 22 v0 rfl rfl)
  have k0 := h0
  have lt0 : ∀ x ∈ p0, x.block < W.heap.size := by obtain ⟨m, hm⟩ := k0; exact DataW.trod_lt m _ _ _ hm
  obtain ⟨z0, w0⟩ : ∃ zs, BsAt W.heap.size W a0 len0 cap0 zs := by
    obtain ⟨fuel, hf⟩ := h0
    exact bs_of hf
  clear hA0 hval0
  refine (walk a0 len0 cap0 z0 W w0).mono fun e W' ⟨he, bel⟩ => ?_
  subst he
  exact ⟨_, rfl, _, _, _, [], _, [], hW', trodAll_mk1 (shut_bool Try.underlying4 _), (trodAll_cons_mk (Below.trod laidOut (by kernel_rfl) (of_decide_eq_true (by kernel_rfl)) k0 bel lt0) trodAll_mk0), rfl, bel.frame _, fun h => by cases h⟩

theorem over : Rows.fnSumPutRow.holds Try.pinned (OpenSpec.ofChange Rows.fnSumPutSpec) :=
  OpenClaim.holds_of_wide 9 Try.f9 rfl rfl rfl rfl rfl rfl rfl ⟨rfl, rfl, rfl, rfl, rfl⟩ rfl rfl rfl rfl rfl (by kernel_rfl) Try.func9 (by kernel_rfl)
    (of_decide_eq_true (by kernel_rfl)) (by unfold Func.isWrapper; first | (rw [if_pos (by decide +kernel)]; kernel_rfl) | (rw [if_neg (by decide +kernel)]; exact ⟨rfl, rfl⟩))
    (fun os started H enc _ => lifted os started H enc)

theorem proved : Rows.FnSumPutSaid := over
#print axioms proved
end Go.Proofs.Ytebgcebjlbhjjaa.LSumPutP

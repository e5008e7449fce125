/-
  Proves 'Rows.FnInverseSaid': for every list of bytes, the derivative of the inverse of the word that the model draws from it goes by the rule of inverses.
  Conditions: none beyond the row's own.
-/
import Derived.Test.YtebgcebjlbhjjaaRows
import Derived.WalkKit
import Derived.ProofKit
import Derived.OpenShut
import Derived.ShutString
import Derived.ChangeOld
import Derived.Below
import Derived.Test.YtebgcebjlbhjjaaBa
import Derived.Test.YtebgcebjlbhjjaaBb
import Derived.Test.YtebgcebjlbhjjaaBc
import Derived.Test.YtebgcebjlbhjjaaBd

namespace Go.Proofs.Ytebgcebjlbhjjaa.LInverse
open Go.ChangeShapes Go.WideShapes Go.ChangeAt Go.RowKit
open Go.ChangeMaps (open_string shut_string)
set_option linter.unusedVariables false

theorem own : ownKnob Try.prog.godebug = none := by kernel_rfl
theorem laidOut : laidOutB Try.prog = true := by kernel_rfl

set_option maxRecDepth 100000 in
set_option maxHeartbeats 6000000 in
theorem walk (a0 : Option Addr) (len0 cap0 : Nat) (z0 : List Int) (w : World) (w0 : BsAt w.heap.size w a0 len0 cap0 z0) :
    Calls Try.prog 12 #[.slice a0 len0 cap0] w fun e w' => e = .returned (.bool true) ∧ Below w.heap.size w w' := by
  have HDr := Lib.hid (drawFoxOf_any a0 len0 cap0 z0 w w0)
  have hfit := w0.fit
  unfold maxLen at hfit
  clear w0
  by_cases hlong : ¬ len0 ≤ 1048576
  · have hd : decide ((1048576 : Int) < (len0 : Int)) = true := decide_eq_true (by omega)
    go_enter Try.func12, Try.ntmps12
    go_wp2_with fail
    go_ret
    exact ⟨rfl, Below.refl _ _⟩
  have hd : decide ((1048576 : Int) < (len0 : Int)) = false := decide_eq_false (by omega)
  go_enter Try.func12, Try.ntmps12
  go_wp2_with fail
  refine HDr.out.mono ?_
  rintro e w1 ⟨⟨s, g, rfl, hs, hg1, hg2⟩, hb1⟩
  have HB1 := Lib.hid hb1
  have hsm : s.size ≤ maxLen := by unfold maxLen; omega
  clear hb1
  cases hb : foxOfB s g with
  | false =>
    have HS := Lib.hid hb
    have HU : Hid (cond false (canonT (foxL g 1 s.data.toList)) [] = []) := Lib.hid rfl
    have HN : Hid (([] : List Tm).length = 0) := Lib.hid rfl
    clear hb
    go_wp2_with fail
    refine (iFoxOf_t hsm HS.out HU.out HN.out).mono ?_
    rintro e w2 ⟨⟨a2, c2, rfl, h2⟩, hb2⟩
    have H2 := Lib.hid h2
    have HB2 := Lib.hid (HB1.out.trans (hb2.mono HB1.out.size))
    clear h2 hb2
    go_wp2_with fail
    refine (sFoxOf_t hsm HS.out HU.out HN.out).mono ?_
    rintro e w3 ⟨⟨a3, c3, rfl, h3⟩, hb3⟩
    have H2 := Lib.hid (H2.out.below hb3)
    have H3 := Lib.hid h3
    have HB3 := Lib.hid (HB2.out.trans (hb3.mono HB2.out.size))
    clear h3 hb3
    go_wp2_with fail
    refine (sameSum_t H2.out H3.out).mono ?_
    rintro e w4 ⟨rfl, hb4⟩
    have HB4 := Lib.hid (HB3.out.trans (hb4.mono HB3.out.size))
    have H2 := Lib.hid (H2.out.below hb4)
    have H3 := Lib.hid (H3.out.below hb4)
    clear hb4
    go_wp2_with fail
    refine (sameSum_t H2.out H3.out).mono ?_
    rintro e w5 ⟨rfl, hb5⟩
    have HB5 := Lib.hid (HB4.out.trans (hb5.mono HB4.out.size))
    clear hb5
    go_wp2
    go_ret
    exact ⟨rfl, HB5.out⟩
  | true =>
    obtain ⟨hw, h0, h3⟩ := foxOfB_iff.1 hb
    have hl := ((wordB_iff _).1 hw).2.1
    have hns := toList_size s
    obtain ⟨v, hv⟩ := is_of (backL s.data.toList)
    have hvs := hv.size
    rw [backL_length, toList_size] at hvs
    have hvm : v.size ≤ maxLen := by unfold maxLen; omega
    have hvw : wordB v.data.toList = true := by unfold Is at hv; rw [hv]; exact word_back hw
    obtain ⟨us, hus⟩ : ∃ us, canonT (foxL g 1 s.data.toList) = us := ⟨_, rfl⟩
    obtain ⟨k, hk⟩ : ∃ k, us.length = k := ⟨_, rfl⟩
    obtain ⟨ds, hds⟩ : ∃ us, canonT (foxL g 1 v.data.toList) = us := ⟨_, rfl⟩
    obtain ⟨kd, hkd⟩ : ∃ k, ds.length = k := ⟨_, rfl⟩
    have hus1 : sumB us = true := by rw [← hus]; exact foxOf_sumB hb
    have hFV : foxOfB v g = true := foxOfB_iff.2 ⟨hvw, h0, h3⟩
    have hds1 : twB ds = true := by rw [← hds]; exact fox_tw hvw
    have heq : canonT (pairsT [⟨-1, v⟩] us) = ds := by
      rw [← hds]
      refine Same.eq ?_
      have hv' : v.data.toList = backL s.data.toList := hv
      refine (front_pairs v (-1) us).trans ?_
      rw [hv', ← hus]
      refine ((front_same (Same.canon _) _).scale (-1)).trans ?_
      exact (fox_back hw).symm
    have hfit : fitB (pairsT [⟨-1, v⟩] us) = true := List.all_eq_true.2 fun t ht => by
      have e : pairsT [⟨-1, v⟩] us = us.map (pairT ⟨-1, v⟩) := by unfold pairsT; simp
      rw [e] at ht
      obtain ⟨u, hu, rfl⟩ := List.mem_map.1 ht
      refine decide_eq_true ?_
      show (bstr (redL [] (v.data.toList ++ u.s.data.toList))).size ≤ 60
      rw [bstr_size]
      have h1 := redL_len (v.data.toList ++ u.s.data.toList) []
      rw [List.length_append, toList_size, toList_size] at h1
      simp only [List.length_nil] at h1
      have h2 : u.s.size ≤ 10 := by
        rw [← hus] at hu
        obtain ⟨y, hy, e⟩ := canon_words hu
        obtain ⟨_, j, _, e2⟩ := foxN_mem (C := 1) (by omega) (Nat.le_refl _) hy
        rw [← e, e2, bstr_size, List.length_take]; omega
      omega
    have hone : sumB [⟨-1, v⟩] = true := by
      rw [sumB_canon ⟨by simp, fun t ht => by rw [List.mem_singleton.1 ht]; show (-1 : Int) ≠ 0; omega⟩]
      unfold twB termB inR
      simp [hvw]
    have HS := Lib.hid hb
    have HU : Hid (cond true (canonT (foxL g 1 s.data.toList)) [] = us) := Lib.hid hus
    have HN := Lib.hid hk
    have HFV := Lib.hid hFV
    have HD : Hid (cond true (canonT (foxL g 1 v.data.toList)) [] = ds) := Lib.hid hds
    have HKD := Lib.hid hkd
    have HW := Lib.hid hw
    have HVI := Lib.hid hv
    have HP : Hid (prodB [⟨-1, v⟩] us = true) := Lib.hid (prodB_iff.2 ⟨hone, hus1, hfit, by rw [heq]; exact hds1⟩)
    have HT : Hid (cond true (canonT (pairsT [⟨-1, v⟩] us)) [] = ds) := Lib.hid heq
    clear hb hl hns hvs hv hvw hus hk hds hkd hw hus1 hFV hds1 heq hfit hone
    go_wp2_with fail
    refine (iFoxOf_t hsm HS.out HU.out HN.out).mono ?_
    rintro e w2 ⟨⟨a2, c2, rfl, h2⟩, hb2⟩
    have H2 := Lib.hid h2
    have HB2 := Lib.hid (HB1.out.trans (hb2.mono HB1.out.size))
    clear h2 hb2
    go_wp2_with fail
    refine (sFoxOf_t hsm HS.out HU.out HN.out).mono ?_
    rintro e w3 ⟨⟨a3, c3, rfl, h3⟩, hb3⟩
    have H2 := Lib.hid (H2.out.below hb3)
    have H3 := Lib.hid h3
    have HB3 := Lib.hid (HB2.out.trans (hb3.mono HB2.out.size))
    clear h3 hb3
    go_wp2_with fail
    refine (sameSum_t H2.out H3.out).mono ?_
    rintro e w4 ⟨rfl, hb4⟩
    have HB4 := Lib.hid (HB3.out.trans (hb4.mono HB3.out.size))
    have H2 := Lib.hid (H2.out.below hb4)
    clear hb4
    go_wp2_with fail
    refine (iTurned_t HW.out HVI.out _).mono ?_
    rintro e w5 ⟨rfl, hb5⟩
    have HB5 := Lib.hid (HB4.out.trans (hb5.mono HB4.out.size))
    have H2 := Lib.hid (H2.out.below hb5)
    clear hb5
    go_wp2_with fail
    refine (iFoxOf_t hvm HFV.out HD.out HKD.out).mono ?_
    rintro e w6 ⟨⟨a6, c6, rfl, h6⟩, hb6⟩
    have H2 := Lib.hid (H2.out.below hb6)
    have H6 := Lib.hid h6
    have HB6 := Lib.hid (HB5.out.trans (hb6.mono HB5.out.size))
    clear h6 hb6
    have hb7 : Below w6.heap.size w6 (w6.alloc (.cells #[.int .i64 (-1), .string v] TI)) := (Below.refl _ w6).alloc (Nat.le_refl _) _
    have H2 := Lib.hid (H2.out.below hb7)
    have H6 := Lib.hid (H6.out.below hb7)
    have HB7 := Lib.hid (HB6.out.trans (hb7.mono HB6.out.size))
    clear hb7
    have H7 := Lib.hid (termsIn_lit w6 (-1) v hvm (by omega))
    go_wp2_with fail
    refine (iSumTimes_t H7.out H2.out HP.out HT.out HKD.out).mono ?_
    rintro e w8 ⟨⟨a8, c8, rfl, h8⟩, hb8⟩
    have H6 := Lib.hid (H6.out.below hb8)
    have H8 := Lib.hid h8
    have HB8 := Lib.hid (HB7.out.trans (hb8.mono HB7.out.size))
    clear h8 hb8
    go_wp2_with fail
    refine (sameSum_t H6.out H8.out).mono ?_
    rintro e w9 ⟨rfl, hb9⟩
    have HB9 := Lib.hid (HB8.out.trans (hb9.mono HB8.out.size))
    clear hb9
    go_wp2
    go_ret
    exact ⟨rfl, HB9.out⟩

set_option maxRecDepth 100000 in
theorem lifted (os : Os) (started : os.Started) (H : Type) (enc : TypeId × Value → H) :
    ReturnsInHanded {} Try.checked os 12 .any (Rows.fnInverseSpec.pre6 enc Try.prog Try.f12 Rows.fnInverseRow.domain false) (Rows.fnInverseSpec.post enc Try.prog Try.f12 false true false false) := by
  refine returnsInHanded_of_change (C := Try.checked) own started (by kernel_rfl) Try.func12
    (ChangeSpec.witness6 (enc := enc) (C := Try.checked) false ⟨#[], #[.slice none 0 0], []⟩ 8 (by kernel_rfl) (by kernel_rfl) (by kernel_rfl) (by kernel_rfl)) ?_
  intro W base args ds gs before hval0 hW hcnd _
  have hval : ∀ (j : Nat) t v, Try.f12.params[j]? = some t → args[j]? = some v → Value.okWide Try.prog W .any base t v := hval0
  have hW' := hW
  obtain ⟨p, q, hA0, hV, rfl, hfz, hnd⟩ := hW
  have hA : DataW.TrodAll enc Try.prog W 0 (fun _ => true) true Try.f12.params.toList args.toList ds p := hA0
  rw [Try.params12] at hA hval
  obtain ⟨v0, vs0, d0, ds0, p0, q0, hargs, rfl, rfl, h0, r0⟩ := trodAll_cons hA
  obtain ⟨rfl, rfl, rfl⟩ := trodAll_nil r0
  obtain rfl : args = #[v0] := by cases args; simp_all
  obtain ⟨rfl, rfl⟩ := trodVars_none hV
  obtain ⟨a0, len0, cap0, rfl⟩ := okWide_slice Try.underlying22 (hval 0 22 v0 rfl rfl)
  have k0 := h0
  have lt0 : ∀ x ∈ p0, x.block < W.heap.size := by obtain ⟨m, hm⟩ := k0; exact DataW.trod_lt m _ _ _ hm
  obtain ⟨z0, w0⟩ : ∃ zs, BsAt W.heap.size W a0 len0 cap0 zs := by
    obtain ⟨fuel, hf⟩ := h0
    exact bs_of hf
  clear hA0 hval0
  refine (walk a0 len0 cap0 z0 W w0).mono fun e W' ⟨he, bel⟩ => ?_
  subst he
  exact ⟨_, rfl, _, _, _, [], _, [], hW', trodAll_mk1 (shut_bool Try.underlying4 _), (trodAll_cons_mk (Below.trod laidOut (by kernel_rfl) (of_decide_eq_true (by kernel_rfl)) k0 bel lt0) trodAll_mk0), rfl, bel.frame _, fun h => by cases h⟩

theorem over : Rows.fnInverseRow.holds Try.pinned (OpenSpec.ofChange Rows.fnInverseSpec) :=
  OpenClaim.holds_of_wide 12 Try.f12 rfl rfl rfl rfl rfl rfl rfl ⟨rfl, rfl, rfl, rfl, rfl⟩ rfl rfl rfl rfl rfl (by kernel_rfl) Try.func12 (by kernel_rfl)
    (of_decide_eq_true (by kernel_rfl)) (by unfold Func.isWrapper; first | (rw [if_pos (by decide +kernel)]; kernel_rfl) | (rw [if_neg (by decide +kernel)]; exact ⟨rfl, rfl⟩))
    (fun os started H enc _ => lifted os started H enc)

theorem proved : Rows.FnInverseSaid := over
#print axioms proved
end Go.Proofs.Ytebgcebjlbhjjaa.LInverse

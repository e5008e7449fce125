/-
  Proves 'Rows.FnPutSaid': for every list of bytes, putting the words that the model draws from it in the place of the letters of the inverse of the drawn word gives the inverse, and putting each letter in its own place changes nothing.
  Conditions: none beyond the row's own.
-/
import Derived.Test.YtjmjkfoibmbnhaaRows
import Derived.WalkKit
import Derived.ProofKit
import Derived.OpenShut
import Derived.ShutString
import Derived.ChangeOld
import Derived.Below
import Derived.Test.YtjmjkfoibmbnhaaBa
import Derived.Test.YtjmjkfoibmbnhaaBb
import Derived.Test.YtjmjkfoibmbnhaaBc

namespace Go.Proofs.Ytjmjkfoibmbnhaa.LPut
open Go.ChangeShapes Go.WideShapes Go.ChangeAt Go.RowKit
open Go.ChangeMaps (open_string shut_string)
set_option linter.unusedVariables false

theorem own : ownKnob Try.prog.godebug = none := by kernel_rfl
theorem laidOut : laidOutB Try.prog = true := by kernel_rfl

set_option maxRecDepth 100000 in
set_option maxHeartbeats 4000000 in
theorem walk (a0 : Option Addr) (len0 cap0 : Nat) (z0 : List Int) (w : World) (w0 : BsAt w.heap.size w a0 len0 cap0 z0) :
    Calls Try.prog 11 #[.slice a0 len0 cap0] w fun e w' => e = .returned (.bool true) ∧ Below w.heap.size w w' := by
  have HDr := Lib.hid (drawWordPut_any a0 len0 cap0 z0 w w0)
  have hfit := w0.fit
  unfold maxLen at hfit
  clear w0
  by_cases hlong : ¬ len0 ≤ 1048576
  · have hd : decide ((1048576 : Int) < (len0 : Int)) = true := decide_eq_true (by omega)
    go_enter Try.func11, Try.ntmps11
    go_wp2_with fail
    go_ret
    exact ⟨rfl, Below.refl _ _⟩
  have hd : decide ((1048576 : Int) < (len0 : Int)) = false := decide_eq_false (by omega)
  go_enter Try.func11, Try.ntmps11
  go_wp2_with fail
  refine HDr.out.mono ?_
  rintro e w1 ⟨⟨s, v, rfl, hs, g, c, n, zs, rfl, hg, hS, hn, hz4⟩, hb1⟩
  have HS1 := Lib.hid hS
  have HB1 := Lib.hid hb1
  have hsm : s.size ≤ maxLen := by unfold maxLen; omega
  have hnm : n ≤ maxLen := by unfold maxLen; omega
  clear hS hb1
  by_cases hw : ¬ (wordB s.data.toList = true ∧ fourB zs = true)
  · have HW := Lib.hid hw
    have HLN := Lib.hid HS1.out.len
    clear hw
    go_wp2_with fail
    refine (iPut_no s _ g c n zs _ hsm hnm HS1.out HW.out).mono ?_
    rintro e w2 ⟨rfl, hb2⟩
    have HS2 := Lib.hid (HS1.out.below hb2)
    have HB2 := Lib.hid (HB1.out.trans (hb2.mono HB1.out.size))
    clear hb2
    go_wp2_with fail
    refine (sPut_no s _ c n zs _ hsm HLN.out hnm HS2.out.at_ HW.out).mono ?_
    rintro e w3 ⟨rfl, hb3⟩
    have HB3 := Lib.hid (HB2.out.trans (hb3.mono HB2.out.size))
    clear hb3
    go_wp2
    go_ret
    exact ⟨rfl, HB3.out⟩
  obtain ⟨hws, hf⟩ := Decidable.not_not.1 hw
  obtain ⟨hzl, hzw⟩ := (fourB_iff zs).1 hf
  obtain ⟨_, hl, hr⟩ := (wordB_iff _).1 hws
  have hns := toList_size s
  obtain rfl : n = 4 := by have := HS1.out.len; omega
  have hpl := put_let zs hzw s.data.toList
  have hlen : (putL zs s.data.toList).length ≤ 4 * 7 := by
    have h1 : ∀ l : List UInt8, letL l = true → (putL zs l).length ≤ 4 * l.length := fun l => by
      induction l with
      | nil => intro _; simp [putL]
      | cons x r ih =>
        intro h
        rw [letL_cons, Bool.and_eq_true] at h
        have e2 : putL zs (x :: r) = imgL zs x ++ putL zs r := by simp [putL]
        have h3 := ih h.2
        have h4 : (imgL zs x).length ≤ 4 := by
          have hi := idxB_lt x h.1
          have h5 : (zs.getD (idxB x) ByteArray.empty) ∈ zs := by
            rw [List.getD_eq_getElem?_getD, List.getElem?_eq_getElem (by omega)]; exact List.getElem_mem _
          have h6 := hz4 _ h5
          have h7 := toList_size (zs.getD (idxB x) ByteArray.empty)
          unfold imgL
          split
          · rw [backL_length]; omega
          · omega
        rw [e2, List.length_append, List.length_cons]; omega
    have := h1 _ hl
    omega
  obtain ⟨o, ho⟩ := is_of (redL [] (putL zs s.data.toList))
  have hos := is_red_size ho
  have how := word_of_is hpl ho (by omega)
  obtain ⟨t, ht⟩ := is_of (backL s.data.toList)
  have htw : wordB t.data.toList = true := by unfold Is at ht; rw [ht]; exact word_back hws
  obtain ⟨y, hy⟩ := is_of (backL o.data.toList)
  have hys := hy.size
  rw [backL_length, toList_size] at hys
  have hx : Is y (redL [] (putL zs t.data.toList)) := by
    unfold Is at *
    rw [hy, ho, ht, put_back zs hzw _ hl, back_red hpl]
  have hz : Is s (redL [] (putL abcd s.data.toList)) := by
    unfold Is
    rw [abcd_put _ hl, hr]
  have HWS := Lib.hid hws
  have HF := Lib.hid hf
  have HO := Lib.hid ho
  have HOW := Lib.hid how
  have HT := Lib.hid ht
  have HTW := Lib.hid htw
  have HY := Lib.hid hy
  have HX := Lib.hid hx
  have HZ := Lib.hid hz
  have ho60 : o.size ≤ 60 := by omega
  have hy60 : y.size ≤ 60 := by omega
  clear hw hws hf hzl hzw hl hr hns hpl hlen ho hos how ht htw hy hys hx hz hz4
  go_wp2_with fail
  refine (iPut_t HS1.out HWS.out HF.out HO.out ho60).mono ?_
  rintro e w2 ⟨rfl, hb2⟩
  have HS2 := Lib.hid (HS1.out.below hb2)
  have HB2 := Lib.hid (HB1.out.trans (hb2.mono HB1.out.size))
  clear hb2
  go_wp2_with fail
  refine (sPut_t HS2.out.at_ HWS.out HF.out HO.out ho60).mono ?_
  rintro e w3 ⟨rfl, hb3⟩
  have HS3 := Lib.hid (HS2.out.below hb3)
  have HB3 := Lib.hid (HB2.out.trans (hb3.mono HB2.out.size))
  clear hb3
  go_wp2_with fail
  refine (iTurned_t HWS.out HT.out _).mono ?_
  rintro e w4 ⟨rfl, hb4⟩
  have HS4 := Lib.hid (HS3.out.below hb4)
  have HB4 := Lib.hid (HB3.out.trans (hb4.mono HB3.out.size))
  clear hb4
  go_wp2_with fail
  refine (iPut_t HS4.out HTW.out HF.out HX.out hy60).mono ?_
  rintro e w5 ⟨rfl, hb5⟩
  have HB5 := Lib.hid (HB4.out.trans (hb5.mono HB4.out.size))
  clear hb5
  go_wp2_with fail
  refine (iTurned_t HOW.out HY.out _).mono ?_
  rintro e w6 ⟨rfl, hb6⟩
  have HB6 := Lib.hid (HB5.out.trans (hb6.mono HB5.out.size))
  clear hb6
  have HB7 := Lib.hid (HB6.out.alloc HB6.out.size (.cells #[.string { data := #[97] }, .string { data := #[98] }, .string { data := #[99] }, .string { data := #[100] }] 9))
  have HA := Lib.hid (strsIn_abcd w6)
  have HA4 := Lib.hid abcd_four
  go_wp2_with fail
  refine (iPut_t HA.out HWS.out HA4.out HZ.out (by omega)).mono ?_
  rintro e w8 ⟨rfl, hb8⟩
  have HB8 := Lib.hid (HB7.out.trans (hb8.mono HB7.out.size))
  clear hb8
  go_wp2
  go_ret
  exact ⟨rfl, HB8.out⟩

set_option maxRecDepth 100000 in
theorem lifted (os : Os) (started : os.Started) (H : Type) (enc : TypeId × Value → H) :
    ReturnsInHanded {} Try.checked os 11 .any (Rows.fnPutSpec.pre6 enc Try.prog Try.f11 Rows.fnPutRow.domain false) (Rows.fnPutSpec.post enc Try.prog Try.f11 false true false false) := by
  refine returnsInHanded_of_change (C := Try.checked) own started (by kernel_rfl) Try.func11
    (ChangeSpec.witness6 (enc := enc) (C := Try.checked) false ⟨#[], #[.slice none 0 0], []⟩ 8 (by kernel_rfl) (by kernel_rfl) (by kernel_rfl) (by kernel_rfl)) ?_
  intro W base args ds gs before hval0 hW hcnd _
  have hval : ∀ (j : Nat) t v, Try.f11.params[j]? = some t → args[j]? = some v → Value.okWide Try.prog W .any base t v := hval0
  have hW' := hW
  obtain ⟨p, q, hA0, hV, rfl, hfz, hnd⟩ := hW
  have hA : DataW.TrodAll enc Try.prog W 0 (fun _ => true) true Try.f11.params.toList args.toList ds p := hA0
  rw [Try.params11] at hA hval
  obtain ⟨v0, vs0, d0, ds0, p0, q0, hargs, rfl, rfl, h0, r0⟩ := trodAll_cons hA
  obtain ⟨rfl, rfl, rfl⟩ := trodAll_nil r0
  obtain rfl : args = #[v0] := by cases args; simp_all
  obtain ⟨rfl, rfl⟩ := trodVars_none hV
  obtain ⟨a0, len0, cap0, rfl⟩ := okWide_slice Try.underlying22 (hval 0 22 v0 rfl rfl)
  have k0 := h0
  have lt0 : ∀ x ∈ p0, x.block < W.heap.size := by obtain ⟨m, hm⟩ := k0; exact DataW.trod_lt m _ _ _ hm
  obtain ⟨z0, w0⟩ : ∃ zs, BsAt W.heap.size W a0 len0 cap0 zs := by
    obtain ⟨fuel, hf⟩ := h0
    exact bs_of hf
  clear hA0 hval0
  refine (walk a0 len0 cap0 z0 W w0).mono fun e W' ⟨he, bel⟩ => ?_
  subst he
  exact ⟨_, rfl, _, _, _, [], _, [], hW', trodAll_mk1 (shut_bool Try.underlying4 _), (trodAll_cons_mk (Below.trod laidOut (by kernel_rfl) (of_decide_eq_true (by kernel_rfl)) k0 bel lt0) trodAll_mk0), rfl, bel.frame _, fun h => by cases h⟩

theorem over : Rows.fnPutRow.holds Try.pinned (OpenSpec.ofChange Rows.fnPutSpec) :=
  OpenClaim.holds_of_wide 11 Try.f11 rfl rfl rfl rfl rfl rfl rfl ⟨rfl, rfl, rfl, rfl, rfl⟩ rfl rfl rfl rfl rfl (by kernel_rfl) Try.func11 (by kernel_rfl)
    (of_decide_eq_true (by kernel_rfl)) (by unfold Func.isWrapper; first | (rw [if_pos (by decide +kernel)]; kernel_rfl) | (rw [if_neg (by decide +kernel)]; exact ⟨rfl, rfl⟩))
    (fun os started H enc _ => lifted os started H enc)

theorem proved : Rows.FnPutSaid := over
#print axioms proved
end Go.Proofs.Ytjmjkfoibmbnhaa.LPut

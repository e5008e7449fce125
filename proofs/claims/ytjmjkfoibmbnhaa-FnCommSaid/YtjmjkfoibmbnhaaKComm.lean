/-
  Proves 'Rows.FnCommSaid': for every list of bytes, the commutator of the two words that the model draws from it is the inverse of the one the other way, its sums of letters are 0, and it exchanges the two words.
  Conditions: none beyond the row's own.
-/
import Derived.Test.YtjmjkfoibmbnhaaRows
import Derived.WalkKit
import Derived.ProofKit
import Derived.OpenShut
import Derived.ShutString
import Derived.ChangeOld
import Derived.Below
import Derived.Test.YtjmjkfoibmbnhaaBa
import Derived.Test.YtjmjkfoibmbnhaaBb
import Derived.Test.YtjmjkfoibmbnhaaBc

namespace Go.Proofs.Ytjmjkfoibmbnhaa.LComm
open Go.ChangeShapes Go.WideShapes Go.ChangeAt Go.RowKit
open Go.ChangeMaps (open_string shut_string)
set_option linter.unusedVariables false

theorem own : ownKnob Try.prog.godebug = none := by kernel_rfl
theorem laidOut : laidOutB Try.prog = true := by kernel_rfl

set_option maxRecDepth 100000 in
set_option maxHeartbeats 4000000 in
theorem walk (a0 : Option Addr) (len0 cap0 : Nat) (z0 : List Int) (w : World) (w0 : BsAt w.heap.size w a0 len0 cap0 z0) :
    Calls Try.prog 9 #[.slice a0 len0 cap0] w fun e w' => e = .returned (.bool true) ∧ Below w.heap.size w w' := by
  have HDr := Lib.hid (drawComm_any a0 len0 cap0 z0 w w0)
  have hfit := w0.fit
  unfold maxLen at hfit
  clear w0
  by_cases hlong : ¬ len0 ≤ 1048576
  · have hd : decide ((1048576 : Int) < (len0 : Int)) = true := decide_eq_true (by omega)
    go_enter Try.func9, Try.ntmps9
    go_wp2_with fail
    go_ret
    exact ⟨rfl, Below.refl _ _⟩
  have hd : decide ((1048576 : Int) < (len0 : Int)) = false := decide_eq_false (by omega)
  go_enter Try.func9, Try.ntmps9
  go_wp2_with fail
  refine HDr.out.mono ?_
  rintro e w1 ⟨⟨a, b, rfl, ha, hb⟩, hb1⟩
  have HB1 := Lib.hid hb1
  have ham : a.size ≤ maxLen := by unfold maxLen; omega
  have hbm : b.size ≤ maxLen := by unfold maxLen; omega
  clear hb1
  by_cases hw : ¬ (wordB a.data.toList = true ∧ wordB b.data.toList = true)
  · have HW := Lib.hid hw
    clear hw
    go_wp2_with fail
    refine (iComm_no a b _ ham hbm HW.out).mono ?_
    rintro e w2 ⟨rfl, hb2⟩
    have HB2 := Lib.hid (HB1.out.trans (hb2.mono HB1.out.size))
    clear hb2
    go_wp2_with fail
    refine (sComm_no a b _ ham hbm HW.out).mono ?_
    rintro e w3 ⟨rfl, hb3⟩
    have HB3 := Lib.hid (HB2.out.trans (hb3.mono HB2.out.size))
    clear hb3
    go_wp2
    go_ret
    exact ⟨rfl, HB3.out⟩
  obtain ⟨hwa, hwb⟩ := Decidable.not_not.1 hw
  have hla := ((wordB_iff _).1 hwa).2.1
  have hlb := ((wordB_iff _).1 hwb).2.1
  have hab : letL (a.data.toList ++ b.data.toList) = true := by rw [letL_append, hla, hlb]; rfl
  have hba : letL (b.data.toList ++ a.data.toList) = true := by rw [letL_append, hla, hlb]; rfl
  have hcl := comm_let hla hlb
  have hna := toList_size a
  have hnb := toList_size b
  obtain ⟨o, ho⟩ := is_of (redL [] (commL a.data.toList b.data.toList))
  have hos := is_red_size ho
  unfold commL at hos
  rw [List.length_append, List.length_append, List.length_append, backL_length, backL_length] at hos
  have hno := toList_size o
  have how := word_of_is hcl ho (by omega)
  obtain ⟨k, hk⟩ := is_of (backL o.data.toList)
  have hks := hk.size
  rw [backL_length] at hks
  have hx : Is k (redL [] (commL b.data.toList a.data.toList)) := by
    unfold Is at *
    rw [hk, ho, back_red hcl, comm_back hla hlb]
  obtain ⟨y, hy⟩ := is_of (redL [] (b.data.toList ++ a.data.toList))
  have hys := is_red_size hy
  rw [List.length_append] at hys
  have hny := toList_size y
  obtain ⟨z, hz⟩ := is_of (redL [] (a.data.toList ++ b.data.toList))
  have hzs := is_red_size hz
  rw [List.length_append] at hzs
  have hz2 : Is z (redL [] (o.data.toList ++ y.data.toList)) := by
    unfold Is at *
    rw [hz, ho, hy, red_right hba, red_append, comm_times hla hlb]
  have hsu : sumsL o.data.toList = [0, 0, 0, 0] := by
    unfold Is at ho
    rw [ho]; exact sums_comm hla hlb
  have HA := Lib.hid hwa
  have HB := Lib.hid hwb
  have HO := Lib.hid ho
  have HOW := Lib.hid how
  have HK := Lib.hid hk
  have HX := Lib.hid hx
  have HY := Lib.hid hy
  have HYW := Lib.hid (word_of_is hba hy (by omega))
  have HZ := Lib.hid hz
  have HZ2 := Lib.hid hz2
  have HSU := Lib.hid hsu
  have ho60 : o.size ≤ 60 := by omega
  have hk60 : k.size ≤ 60 := by omega
  have hy60 : y.size ≤ 60 := by omega
  have hz60 : z.size ≤ 60 := by omega
  clear hw hwa hwb hla hlb hab hba hcl hna hnb ho hos hno how hk hks hx hy hys hny hz hzs hz2 hsu
  go_wp2_with fail
  refine (iComm_t HA.out HB.out HO.out ho60 _).mono ?_
  rintro e w2 ⟨rfl, hb2⟩
  have HB2 := Lib.hid (HB1.out.trans (hb2.mono HB1.out.size))
  clear hb2
  go_wp2_with fail
  refine (sComm_t HA.out HB.out HO.out ho60 _).mono ?_
  rintro e w3 ⟨rfl, hb3⟩
  have HB3 := Lib.hid (HB2.out.trans (hb3.mono HB2.out.size))
  clear hb3
  go_wp2_with fail
  refine (iComm_t HB.out HA.out HX.out hk60 _).mono ?_
  rintro e w4 ⟨rfl, hb4⟩
  have HB4 := Lib.hid (HB3.out.trans (hb4.mono HB3.out.size))
  clear hb4
  go_wp2_with fail
  refine (iTurned_t HOW.out HK.out _).mono ?_
  rintro e w5 ⟨rfl, hb5⟩
  have HB5 := Lib.hid (HB4.out.trans (hb5.mono HB4.out.size))
  clear hb5
  go_wp2_with fail
  refine (iSums_t HOW.out _).mono ?_
  rw [HSU.out]
  rintro e w6 ⟨⟨au, cu, rfl, hu⟩, hb6⟩
  have HU := Lib.hid hu
  have HB6 := Lib.hid (HB5.out.trans (hb6.mono HB5.out.size))
  clear hu hb6
  go_wp2_with fail
  refine (iTimes_t HB.out HA.out HY.out hy60 _).mono ?_
  rintro e w7 ⟨rfl, hb7⟩
  have HB7 := Lib.hid (HB6.out.trans (hb7.mono HB6.out.size))
  have HU := Lib.hid (HU.out.below hb7)
  clear hb7

  go_wp2_with fail
  refine (iTimes_t HOW.out HYW.out HZ2.out hz60 _).mono ?_
  rintro e w8 ⟨rfl, hb8⟩
  have HB8 := Lib.hid (HB7.out.trans (hb8.mono HB7.out.size))
  have HU := Lib.hid (HU.out.below hb8)
  clear hb8
  go_wp2_with fail
  refine (iTimes_t HA.out HB.out HZ.out hz60 _).mono ?_
  rintro e w9 ⟨rfl, hb9⟩
  have HB9 := Lib.hid (HB8.out.trans (hb9.mono HB8.out.size))
  have HU := Lib.hid (HU.out.below hb9)
  clear hb9
  have hb10 : Below w9.heap.size w9 (w9.alloc (.cells #[.int .i64 0, .int .i64 0, .int .i64 0, .int .i64 0] 3)) := (Below.refl _ w9).alloc (Nat.le_refl _) _
  have HU := Lib.hid (HU.out.below hb10)
  have HF := Lib.hid (intsAt_four w9)
  have HB10 := Lib.hid (HB9.out.trans (hb10.mono HB9.out.size))
  clear hb10
  go_wp2_with fail
  refine (sameInts_yes au _ cu 4 4 _ _ HU.out HF.out).mono ?_
  rintro e w11 ⟨rfl, hb11⟩
  have HB11 := Lib.hid (HB10.out.trans (hb11.mono HB10.out.size))
  clear hb11
  go_wp2
  go_ret
  exact ⟨rfl, HB11.out⟩

set_option maxRecDepth 100000 in
theorem lifted (os : Os) (started : os.Started) (H : Type) (enc : TypeId × Value → H) :
    ReturnsInHanded {} Try.checked os 9 .any (Rows.fnCommSpec.pre6 enc Try.prog Try.f9 Rows.fnCommRow.domain false) (Rows.fnCommSpec.post enc Try.prog Try.f9 false true false false) := by
  refine returnsInHanded_of_change (C := Try.checked) own started (by kernel_rfl) Try.func9
    (ChangeSpec.witness6 (enc := enc) (C := Try.checked) false ⟨#[], #[.slice none 0 0], []⟩ 8 (by kernel_rfl) (by kernel_rfl) (by kernel_rfl) (by kernel_rfl)) ?_
  intro W base args ds gs before hval0 hW hcnd _
  have hval : ∀ (j : Nat) t v, Try.f9.params[j]? = some t → args[j]? = some v → Value.okWide Try.prog W .any base t v := hval0
  have hW' := hW
  obtain ⟨p, q, hA0, hV, rfl, hfz, hnd⟩ := hW
  have hA : DataW.TrodAll enc Try.prog W 0 (fun _ => true) true Try.f9.params.toList args.toList ds p := hA0
  rw [Try.params9] at hA hval
  obtain ⟨v0, vs0, d0, ds0, p0, q0, hargs, rfl, rfl, h0, r0⟩ := trodAll_cons hA
  obtain ⟨rfl, rfl, rfl⟩ := trodAll_nil r0
  obtain rfl : args = #[v0] := by cases args; simp_all
  obtain ⟨rfl, rfl⟩ := trodVars_none hV
  obtain ⟨a0, len0, cap0, rfl⟩ := okWide_slice Try.underlying22 (hval 0 22 v0 rfl rfl)
  have k0 := h0
  have lt0 : ∀ x ∈ p0, x.block < W.heap.size := by obtain ⟨m, hm⟩ := k0; exact DataW.trod_lt m _ _ _ hm
  obtain ⟨z0, w0⟩ : ∃ zs, BsAt W.heap.size W a0 len0 cap0 zs := by
    obtain ⟨fuel, hf⟩ := h0
    exact bs_of hf
  clear hA0 hval0
  refine (walk a0 len0 cap0 z0 W w0).mono fun e W' ⟨he, bel⟩ => ?_
  subst he
  exact ⟨_, rfl, _, _, _, [], _, [], hW', trodAll_mk1 (shut_bool Try.underlying4 _), (trodAll_cons_mk (Below.trod laidOut (by kernel_rfl) (of_decide_eq_true (by kernel_rfl)) k0 bel lt0) trodAll_mk0), rfl, bel.frame _, fun h => by cases h⟩

theorem over : Rows.fnCommRow.holds Try.pinned (OpenSpec.ofChange Rows.fnCommSpec) :=
  OpenClaim.holds_of_wide 9 Try.f9 rfl rfl rfl rfl rfl rfl rfl ⟨rfl, rfl, rfl, rfl, rfl⟩ rfl rfl rfl rfl rfl (by kernel_rfl) Try.func9 (by kernel_rfl)
    (of_decide_eq_true (by kernel_rfl)) (by unfold Func.isWrapper; first | (rw [if_pos (by decide +kernel)]; kernel_rfl) | (rw [if_neg (by decide +kernel)]; exact ⟨rfl, rfl⟩))
    (fun os started H enc _ => lifted os started H enc)

theorem proved : Rows.FnCommSaid := over
#print axioms proved
end Go.Proofs.Ytjmjkfoibmbnhaa.LComm

/-
  Proves 'Rows.FnTimesSaid': for every list of bytes, the product of the two words that the model draws from it, times the inverse of the second one, is the first one, and its sums of letters are those of both together.
  Conditions: none beyond the row's own.
-/
import Derived.Test.YtjmjkfoibmbnhaaRows
import Derived.WalkKit
import Derived.ProofKit
import Derived.OpenShut
import Derived.ShutString
import Derived.ChangeOld
import Derived.Below
import Derived.Test.YtjmjkfoibmbnhaaBa
import Derived.Test.YtjmjkfoibmbnhaaBb
import Derived.Test.YtjmjkfoibmbnhaaBc

namespace Go.Proofs.Ytjmjkfoibmbnhaa.LTimes
open Go.ChangeShapes Go.WideShapes Go.ChangeAt Go.RowKit
open Go.ChangeMaps (open_string shut_string)
set_option linter.unusedVariables false

theorem own : ownKnob Try.prog.godebug = none := by kernel_rfl
theorem laidOut : laidOutB Try.prog = true := by kernel_rfl

set_option maxRecDepth 100000 in
set_option maxHeartbeats 3000000 in
theorem walk (a0 : Option Addr) (len0 cap0 : Nat) (z0 : List Int) (w : World) (w0 : BsAt w.heap.size w a0 len0 cap0 z0) :
    Calls Try.prog 5 #[.slice a0 len0 cap0] w fun e w' => e = .returned (.bool true) ∧ Below w.heap.size w w' := by
  have HDr := Lib.hid (drawWordTimes_any a0 len0 cap0 z0 w w0)
  have hfit := w0.fit
  unfold maxLen at hfit
  clear w0
  by_cases hlong : ¬ len0 ≤ 1048576
  · have hd : decide ((1048576 : Int) < (len0 : Int)) = true := decide_eq_true (by omega)
    go_enter Try.func5, Try.ntmps5
    go_wp2_with fail
    go_ret
    exact ⟨rfl, Below.refl _ _⟩
  have hd : decide ((1048576 : Int) < (len0 : Int)) = false := decide_eq_false (by omega)
  go_enter Try.func5, Try.ntmps5
  go_wp2_with fail
  refine HDr.out.mono ?_
  rintro e w1 ⟨⟨a, b, rfl, ha, hb⟩, hb1⟩
  have HB1 := Lib.hid hb1
  have ham : a.size ≤ maxLen := by unfold maxLen; omega
  have hbm : b.size ≤ maxLen := by unfold maxLen; omega
  clear hb1
  by_cases hw : ¬ (wordB a.data.toList = true ∧ wordB b.data.toList = true)
  · have HW := Lib.hid hw
    clear hw
    go_wp2_with fail
    refine (iTimes_no a b _ ham hbm HW.out).mono ?_
    rintro e w2 ⟨rfl, hb2⟩
    have HB2 := Lib.hid (HB1.out.trans (hb2.mono HB1.out.size))
    clear hb2
    go_wp2_with fail
    refine (sTimes_no a b _ ham hbm HW.out).mono ?_
    rintro e w3 ⟨rfl, hb3⟩
    have HB3 := Lib.hid (HB2.out.trans (hb3.mono HB2.out.size))
    clear hb3
    go_wp2
    go_ret
    exact ⟨rfl, HB3.out⟩
  obtain ⟨hwa, hwb⟩ := Decidable.not_not.1 hw
  obtain ⟨_, hla, hra⟩ := (wordB_iff _).1 hwa
  have hlb := ((wordB_iff _).1 hwb).2.1
  have hab : letL (a.data.toList ++ b.data.toList) = true := by rw [letL_append, hla, hlb]; rfl
  have hna := toList_size a
  have hnb := toList_size b
  obtain ⟨o, ho⟩ := is_of (redL [] (a.data.toList ++ b.data.toList))
  have hos := is_red_size ho
  rw [List.length_append] at hos
  have hno := toList_size o
  obtain ⟨y, hy⟩ := is_of (backL b.data.toList)
  have hx : Is a (redL [] (o.data.toList ++ y.data.toList)) := by
    unfold Is at *
    rw [ho, hy, red_append, red_inv hlb, hra]
  have how := word_of_is hab ho (by omega)
  have hlo := ((wordB_iff _).1 how).2.1
  have hsum : ∀ i, i < 4 → (sumsL o.data.toList).getD i 0 = (sumsL a.data.toList).getD i 0 + (sumsL b.data.toList).getD i 0 := fun i hi => by
    rw [sums_getD hlo i hi, sums_getD hla i hi, sums_getD hlb i hi]
    unfold Is at ho
    rw [ho, sgL_red i _ [] hab, sgL_append]
    simp [sgL]
  have hbda : ∀ i, i < 4 → -10 ≤ (sumsL a.data.toList).getD i 0 ∧ (sumsL a.data.toList).getD i 0 ≤ 10 := fun i hi => by rw [sums_getD hla i hi]; have := sgL_bnd i a.data.toList; omega
  have hbdb : ∀ i, i < 4 → -10 ≤ (sumsL b.data.toList).getD i 0 ∧ (sumsL b.data.toList).getD i 0 ≤ 10 := fun i hi => by rw [sums_getD hlb i hi]; have := sgL_bnd i b.data.toList; omega
  have HA := Lib.hid hwa
  have HB := Lib.hid hwb
  have HO := Lib.hid ho
  have HOW := Lib.hid how
  have HY := Lib.hid hy
  have HYW : Hid (wordB y.data.toList = true) := Lib.hid (by unfold Is at hy; rw [hy]; exact word_back hwb)
  have HX := Lib.hid hx
  have HS := Lib.hid hsum
  have HBA := Lib.hid hbda
  have HBB := Lib.hid hbdb
  have ho60 : o.size ≤ 60 := by omega
  clear hw hwa hwb hla hra hlb hab hna hnb ho hos hno hy hx how hlo hsum hbda hbdb
  go_wp2_with fail
  refine (iTimes_t HA.out HB.out HO.out ho60 _).mono ?_
  rintro e w2 ⟨rfl, hb2⟩
  have HB2 := Lib.hid (HB1.out.trans (hb2.mono HB1.out.size))
  clear hb2
  go_wp2_with fail
  refine (sTimes_t HA.out HB.out HO.out ho60 _).mono ?_
  rintro e w3 ⟨rfl, hb3⟩
  have HB3 := Lib.hid (HB2.out.trans (hb3.mono HB2.out.size))
  clear hb3
  go_wp2_with fail
  refine (iTurned_t HB.out HY.out _).mono ?_
  rintro e w4 ⟨rfl, hb4⟩
  have HB4 := Lib.hid (HB3.out.trans (hb4.mono HB3.out.size))
  clear hb4
  go_wp2_with fail
  refine (iTimes_t HOW.out HYW.out HX.out (by omega) _).mono ?_
  rintro e w5 ⟨rfl, hb5⟩
  have HB5 := Lib.hid (HB4.out.trans (hb5.mono HB4.out.size))
  clear hb5
  go_wp2_with fail
  refine (iSums_t HA.out _).mono ?_
  rintro e w6 ⟨⟨au, cu, rfl, hu⟩, hb6⟩
  have HU := Lib.hid hu
  have HB6 := Lib.hid (HB5.out.trans (hb6.mono HB5.out.size))
  clear hu hb6
  go_wp2_with fail
  refine (iSums_t HB.out _).mono ?_
  rintro e w7 ⟨⟨av, cv, rfl, hv⟩, hb7⟩
  have HU7 := Lib.hid (HU.out.below hb7)
  have HV := Lib.hid hv
  have HB7 := Lib.hid (HB6.out.trans (hb7.mono HB6.out.size))
  clear hv hb7
  go_wp2_with fail
  refine (iSums_t HOW.out _).mono ?_
  rintro e w8 ⟨⟨ao, co, rfl, hoo⟩, hb8⟩
  obtain ⟨gu, rfl, hgu, hcu⟩ := (HU7.out.below hb8).four
  obtain ⟨gv, rfl, hgv, hcv⟩ := (HV.out.below hb8).four
  obtain ⟨go, rfl, hgo, hco⟩ := hoo.four
  have HCU := Lib.hid hcu
  have HCV := Lib.hid hcv
  have HCO := Lib.hid hco
  have HB8 := Lib.hid (HB7.out.trans (hb8.mono HB7.out.size))
  clear hoo hb8 hcu hcv hco
  go_wp2
  go_loopw [19] (fun i wr => ∃ k : Nat, k ≤ 4 ∧ i = .int .i64 k ∧ Below w8.heap.size w8 wr) (fun i _ => 4 - (intOf i).toNat)
  case atStart => exact ⟨0, Nat.zero_le _, rfl, Below.refl _ _⟩
  case round =>
    obtain ⟨k, hk, rfl, hB⟩ := hrel
    by_cases hlt : k < 4
    · have hki : (k : Int) < 4 := by omega
      obtain ⟨p, hp⟩ : ∃ p, (sumsL a.data.toList).getD k 0 = p := ⟨_, rfl⟩
      obtain ⟨q, hq⟩ : ∃ q, (sumsL b.data.toList).getD k 0 = q := ⟨_, rfl⟩
      have d1 : wr.cell? ⟨gu, k, none⟩ = some (.int .i64 p) := by rw [← hp]; exact (hB.cell (p := ⟨gu, k, none⟩) hgu).trans (HCU.out k hlt)
      have d2 : wr.cell? ⟨gv, k, none⟩ = some (.int .i64 q) := by rw [← hq]; exact (hB.cell (p := ⟨gv, k, none⟩) hgv).trans (HCV.out k hlt)
      have d3 : wr.cell? ⟨go, k, none⟩ = some (.int .i64 (p + q)) := by rw [← hp, ← hq, ← HS.out k hlt]; exact (hB.cell (p := ⟨go, k, none⟩) hgo).trans (HCO.out k hlt)
      have hb1 := HBA.out k hlt
      have hb2 := HBB.out k hlt
      rw [hp] at hb1
      rw [hq] at hb2
      have e1 : IntKind.i64.wrap (p + q) = p + q := IntWalk.i64_in _ (by omega)
      clear hp hq
      go_wp2
      go_quiet (fail)
      go_wp2
      go_roundw
      case rel => exact ⟨k + 1, by omega, by go_num, below_drewN hB _⟩
      case measure => simp [intOf]; omega
    · have hB9 := HB8.out.trans (hB.mono HB8.out.size)
      go_wp2
      go_ret
      exact ⟨rfl, hB9⟩

set_option maxRecDepth 100000 in
theorem lifted (os : Os) (started : os.Started) (H : Type) (enc : TypeId × Value → H) :
    ReturnsInHanded {} Try.checked os 5 .any (Rows.fnTimesSpec.pre6 enc Try.prog Try.f5 Rows.fnTimesRow.domain false) (Rows.fnTimesSpec.post enc Try.prog Try.f5 false true false false) := by
  refine returnsInHanded_of_change (C := Try.checked) own started (by kernel_rfl) Try.func5
    (ChangeSpec.witness6 (enc := enc) (C := Try.checked) false ⟨#[], #[.slice none 0 0], []⟩ 8 (by kernel_rfl) (by kernel_rfl) (by kernel_rfl) (by kernel_rfl)) ?_
  intro W base args ds gs before hval0 hW hcnd _
  have hval : ∀ (j : Nat) t v, Try.f5.params[j]? = some t → args[j]? = some v → Value.okWide Try.prog W .any base t v := hval0
  have hW' := hW
  obtain ⟨p, q, hA0, hV, rfl, hfz, hnd⟩ := hW
  have hA : DataW.TrodAll enc Try.prog W 0 (fun _ => true) true Try.f5.params.toList args.toList ds p := hA0
  rw [Try.params5] at hA hval
  obtain ⟨v0, vs0, d0, ds0, p0, q0, hargs, rfl, rfl, h0, r0⟩ := trodAll_cons hA
  obtain ⟨rfl, rfl, rfl⟩ := trodAll_nil r0
  obtain rfl : args = #[v0] := by cases args; simp_all
  obtain ⟨rfl, rfl⟩ := trodVars_none hV
  obtain ⟨a0, len0, cap0, rfl⟩ := okWide_slice Try.underlying22 (hval 0 22 v0 rfl rfl)
  have k0 := h0
  have lt0 : ∀ x ∈ p0, x.block < W.heap.size := by obtain ⟨m, hm⟩ := k0; exact DataW.trod_lt m _ _ _ hm
  obtain ⟨z0, w0⟩ : ∃ zs, BsAt W.heap.size W a0 len0 cap0 zs := by
    obtain ⟨fuel, hf⟩ := h0
    exact bs_of hf
  clear hA0 hval0
  refine (walk a0 len0 cap0 z0 W w0).mono fun e W' ⟨he, bel⟩ => ?_
  subst he
  exact ⟨_, rfl, _, _, _, [], _, [], hW', trodAll_mk1 (shut_bool Try.underlying4 _), (trodAll_cons_mk (Below.trod laidOut (by kernel_rfl) (of_decide_eq_true (by kernel_rfl)) k0 bel lt0) trodAll_mk0), rfl, bel.frame _, fun h => by cases h⟩

theorem over : Rows.fnTimesRow.holds Try.pinned (OpenSpec.ofChange Rows.fnTimesSpec) :=
  OpenClaim.holds_of_wide 5 Try.f5 rfl rfl rfl rfl rfl rfl rfl ⟨rfl, rfl, rfl, rfl, rfl⟩ rfl rfl rfl rfl rfl (by kernel_rfl) Try.func5 (by kernel_rfl)
    (of_decide_eq_true (by kernel_rfl)) (by unfold Func.isWrapper; first | (rw [if_pos (by decide +kernel)]; kernel_rfl) | (rw [if_neg (by decide +kernel)]; exact ⟨rfl, rfl⟩))
    (fun os started H enc _ => lifted os started H enc)

theorem proved : Rows.FnTimesSaid := over
#print axioms proved
end Go.Proofs.Ytjmjkfoibmbnhaa.LTimes

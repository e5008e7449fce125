/-
  Proves 'Rows.FnExactBraidPermSaid': for every value of type Braid, the program's BraidPerm answers as the model's BraidPerm, and its answer owns its memory.
  Conditions: none beyond the row's own.
-/
import Derived.Test.YtaaeiogdhmiaaaaRows
import Derived.Test.YtaaeiogdhmiaaaaKf
import Derived.Test.YtaaeiogdhmiaaaaKl
import Derived.Test.YtaaeiogdhmiaaaaCq
import Derived.Test.YtaaeiogdhmiaaaaCt
import Derived.WalkKit
import Derived.ProofKit
import Derived.OpenShut
import Derived.ShutString
import Derived.ChangeOld
import Derived.Below
namespace Go.Proofs.Ytaaeiogdhmiaaaa.LBraidPerm
open Go.ChangeShapes Go.WideShapes Go.ChangeAt Go.RowKit
open Go.ChangeMaps (open_string shut_string)
set_option linter.unusedVariables false

theorem own : ownKnob Try.prog.godebug = none := by kernel_rfl
theorem laidOut : laidOutB Try.prog = true := by kernel_rfl

theorem row_apart {b1 b2 N : Nat} {W V : World} {v u : Value} {zs ys : List Int} (h1 : IntRow b1 W v zs) (h1N : W.heap.size ≤ N) (h2 : IntRow b2 V u ys) (h2N : N ≤ b2) : v.ownBlock = none ∨ v.ownBlock ≠ u.ownBlock := by
  cases hv : v.ownBlock with
  | none => exact .inl rfl
  | some k =>
    refine .inr fun e => ?_
    have h3 := (World.ownsRow.lt h1) k hv
    have h4 := (World.ownsRow.lt h2) k e.symm
    omega
/-- The box of the law's braid. -/
def BoxIs (w : World) (k : Nat) (n : Int) (s : ByteArray) : Prop := w.heap[k]? = some (.cells #[.int .i64 n, .string s] 23 (0, 0))
theorem BoxIs.cells {w : World} {k : Nat} {n : Int} {s : ByteArray} (h : BoxIs w k n s) : w.cell? ⟨k, 0, none⟩ = some (.int .i64 n) ∧ w.cell? ⟨k, 1, none⟩ = some (.string s) := by
  unfold BoxIs at h
  constructor <;> simp [World.cell?, h]
theorem BoxIs.below {w w' : World} {k : Nat} {n : Int} {s : ByteArray} (h : BoxIs w k n s) (hb : Below w.heap.size w w') : BoxIs w' k n s := (hb.block _ (Array.getElem?_eq_some_iff.1 h).1).trans h
theorem BoxIs.grown {w w' : World} {k : Nat} {n : Int} {s : ByteArray} {row : Option Nat} (h : BoxIs w k n s) (hg : w.grownBy w' row) (hne : row ≠ some k) : BoxIs w' k n s := (hg.block _ (Array.getElem?_eq_some_iff.1 h).1 (fun e => hne e.symm)).trans h

set_option maxRecDepth 100000 in
set_option maxHeartbeats 2000000 in
theorem walk_gen (n0 : Int) (s0 : ByteArray) (b : Bool) (zs : List Int) (hz : zs.length ≤ 1000) (hlong : s0.size ≤ 1048576) (w : World)
    (hS : ∀ W, Calls Try.prog 33 #[brV n0 s0] W fun e w' => ∃ v, e = .returned (.tuple #[v, .bool b]) ∧ IntRow W.heap.size w' v zs ∧ Below W.heap.size W w')
    (hI : ∀ W, Calls Try.prog 34 #[brV n0 s0] W fun e w' => ∃ v, e = .returned (.tuple #[v, .bool b]) ∧ IntRow W.heap.size w' v zs ∧ Below W.heap.size W w') :
    Calls Try.prog 7 #[brV n0 s0] w fun e w' => e = .returned (.bool true) ∧ Below w.heap.size w w' := by
  have HS := Lib.hid hS
  have HI := Lib.hid hI
  obtain ⟨W, hW⟩ : ∃ W, w.alloc (.cells #[.int .i64 n0, .string s0] 23) = W := ⟨_, rfl⟩
  have HX := Lib.hid (oneBox hW)
  have HW := Lib.hid hW
  clear hS hI hW
  have HQ0 : Hid (BoxIs W w.heap.size n0 s0) := Lib.hid HX.out.2.2
  obtain ⟨c0, c1⟩ := HQ0.out.cells
  obtain ⟨k, hk⟩ : ∃ k : Nat, 1048576 - s0.size = k := ⟨_, rfl⟩
  have hneg : ¬ (k : Int) < 0 := by omega
  have hnd : decide ((k : Int) < 0) = false := decide_eq_false hneg
  have hbb : (b != b) = false := by cases b <;> rfl
  go_enter Try.func7, Try.ntmps7
  go_wp2_with fail
  rw [HW.out]
  refine (szBraid_yes n0 s0 1048576 W (by omega) hlong).mono ?_
  rw [hk]
  clear hk
  rintro e U1 ⟨rfl, hb1⟩
  have HK1 := Lib.hid hb1
  have HQ1 := Lib.hid (HQ0.out.below hb1)
  clear hb1 c0 c1
  obtain ⟨c0, c1⟩ := HQ1.out.cells
  go_wp2_with fail
  refine (toBraid_any n0 s0 U1).mono ?_
  rintro e U2 ⟨rfl, hb2⟩
  have HK2 := Lib.hid (HK1.out.trans (hb2.mono HK1.out.size))
  have HQ2 := Lib.hid (HQ1.out.below hb2)
  clear hb2 c0 c1
  go_wp2_with fail
  refine (HS.out U2).mono ?_
  rintro e U3 ⟨v, rfl, hr3, hb3⟩
  have HK3 := Lib.hid (HK2.out.trans (hb3.mono HK2.out.size))
  have HQ3 := Lib.hid (HQ2.out.below hb3)
  have R3 := Lib.hid hr3
  clear hb3 hr3
  obtain ⟨c0, c1⟩ := HQ3.out.cells
  go_wp2_with fail
  refine (toBraid_any n0 s0 U3).mono ?_
  rintro e U4 ⟨rfl, hb4⟩
  have HK4 := Lib.hid (HK3.out.trans (hb4.mono HK3.out.size))
  have HQ4 := Lib.hid (HQ3.out.below hb4)
  have R34 := Lib.hid (R3.out.below hb4)
  have hs34 := hb4.size
  clear hb4 c0 c1
  go_wp2_with fail
  refine (HI.out U4).mono ?_
  rintro e U5 ⟨u, rfl, hr5, hb5⟩
  have HK5 := Lib.hid (HK4.out.trans (hb5.mono HK4.out.size))
  have HQ5 := Lib.hid (HQ4.out.below hb5)
  have R5 := Lib.hid hr5
  have R35 := Lib.hid (R34.out.below hb5)
  clear hb5 hr5
  go_wp2_with fail
  refine (eqIntS_yes _ _ u v zs _ R5.out R35.out).mono ?_
  rintro e U6 ⟨rfl, hb6⟩
  have HK6 := Lib.hid (HK5.out.trans (hb6.mono HK5.out.size))
  have HQ6 := Lib.hid (HQ5.out.below hb6)
  have R56 := Lib.hid (R5.out.below hb6)
  have R36 := Lib.hid (R35.out.below hb6)
  clear hb6
  go_wp2_with fail
  refine (markIntS_any _ u zs 1 U6 R56.out (by omega) (by omega)).mono ?_
  rintro e U7 ⟨rfl, hm7, hg7⟩
  have hwU : w.heap.size + 1 ≤ U4.heap.size := by have h1 := HX.out.2.1; have h2 := HK4.out.size; omega
  have hge : ∀ k, u.ownBlock = some k → U4.heap.size ≤ k := fun k e => (World.ownsRow.lt R56.out k e).1
  have HK7 := Lib.hid (HK6.out.grown hg7 HK6.out.size (fun k e => by have := hge k e; have h2 := HK4.out.size; omega))
  have HQ7 := Lib.hid (HQ6.out.grown hg7 (fun e => by have := hge _ e; omega))
  have R37 := Lib.hid (show IntRow U2.heap.size U7 v zs from World.ownsRow.kept R36.out hg7 (row_apart R3.out hs34 R5.out (Nat.le_refl _)))
  have R57 := Lib.hid hm7
  clear hm7 hg7 hge hs34
  go_wp2_with fail
  refine (heldIntS_any _ u zs.length 1 U7 R57.out (by omega) (by omega)).mono ?_
  rintro e U8 ⟨rfl, rfl⟩
  obtain ⟨c0, c1⟩ := HQ7.out.cells
  go_wp2_with fail
  refine (toBraid_any n0 s0 _).mono ?_
  rintro e U9 ⟨rfl, hb9⟩
  have HK9 := Lib.hid (HK7.out.trans (hb9.mono HK7.out.size))
  have R39 := Lib.hid (R37.out.below hb9)
  have R59 := Lib.hid (R57.out.below hb9)
  clear hb9 c0 c1
  go_wp2_with fail
  refine (HI.out U9).mono ?_
  rintro e Ua ⟨t, rfl, hra, hba⟩
  have HKa := Lib.hid (HK9.out.trans (hba.mono HK9.out.size))
  have Ra := Lib.hid hra
  have R3a := Lib.hid (R39.out.below hba)
  have R5a := Lib.hid (R59.out.below hba)
  clear hra hba
  go_wp2_with fail
  refine (eqIntS_yes _ _ t v zs _ Ra.out R3a.out).mono ?_
  rintro e Ub ⟨rfl, hbb2⟩
  have HKb := Lib.hid (HKa.out.trans (hbb2.mono HKa.out.size))
  have R5b := Lib.hid (R5a.out.below hbb2)
  clear hbb2
  go_wp2_with fail
  refine (heldIntS_any _ u zs.length 1 Ub R5b.out (by omega) (by omega)).mono ?_
  rintro e Uc ⟨rfl, rfl⟩
  go_wp2_with fail
  go_ret
  exact ⟨rfl, HX.out.1.trans (HKb.out.mono HX.out.1.size)⟩

set_option maxRecDepth 100000 in
set_option maxHeartbeats 1000000 in
theorem walk (n0 : Int) (s0 : ByteArray) (w : World) (b0 : -9223372036854775808 ≤ n0 ∧ n0 ≤ 9223372036854775807) (w0 : s0.size ≤ maxLen) :
    Calls Try.prog 7 #[.agg #[.int .i64 n0, .string s0]] w fun e w' => e = .returned (.bool true) ∧ Below w.heap.size w w' := by
  clear b0
  by_cases hlong : s0.size ≤ 1048576
  · cases hb : braidB n0 s0 with
    | true =>
      obtain ⟨h1, _⟩ := braid_all hb
      obtain ⟨N, rfl⟩ : ∃ N : Nat, n0 = (N : Int) := ⟨n0.toNat, by omega⟩
      exact walk_gen N s0 true (permZ N s0.data.toList) (by rw [permZ_len]; omega) hlong w (fun W => sBraidPerm_yes N s0 W hb) (fun W => iBraidPerm_yes N s0 W hb)
    | false => exact walk_gen n0 s0 false [] (by simp) hlong w (fun W => sBraidPerm_no n0 s0 W w0 hb) (fun W => iBraidPerm_no n0 s0 W w0 hb)
  · obtain ⟨W, hW⟩ : ∃ W, w.alloc (.cells #[.int .i64 n0, .string s0] 23) = W := ⟨_, rfl⟩
    have HX := Lib.hid (oneBox hW)
    have HW := Lib.hid hW
    clear hW
    obtain ⟨⟨c0, c1⟩, _, _⟩ := boxOf2 HX.out.2.2 (Below.refl _ W)
    go_enter Try.func7, Try.ntmps7
    go_wp2_with fail
    rw [HW.out]
    refine (szBraid_no n0 s0 1048576 W (by omega) w0 (by omega)).mono ?_
    rintro e w1 ⟨rfl, hb1⟩
    clear c0 c1
    have HK := Lib.hid hb1
    clear hb1
    go_wp2
    go_ret
    exact ⟨rfl, HX.out.1.trans (HK.out.mono HX.out.1.size)⟩

set_option maxRecDepth 100000 in
theorem lifted (os : Os) (started : os.Started) (H : Type) (enc : TypeId × Value → H) :
    ReturnsInHanded {} Try.checked os 7 .any (Rows.fnExactBraidPermSpec.pre6 enc Try.prog Try.f7 Rows.fnExactBraidPermRow.domain false) (Rows.fnExactBraidPermSpec.post enc Try.prog Try.f7 false true false false) := by
  refine returnsInHanded_of_change (C := Try.checked) own started (by kernel_rfl) Try.func7
    (ChangeSpec.witness6 (enc := enc) (C := Try.checked) false ⟨#[], #[.agg #[.int .i64 0, .string ByteArray.empty]], []⟩ 8 (by kernel_rfl) (by kernel_rfl) (by kernel_rfl) (by kernel_rfl)) ?_
  intro W base args ds gs before hval0 hW hcnd _
  have hval : ∀ (j : Nat) t v, Try.f7.params[j]? = some t → args[j]? = some v → Value.okWide Try.prog W .any base t v := hval0
  have hW' := hW
  obtain ⟨p, q, hA0, hV, rfl, hfz, hnd⟩ := hW
  have hA : DataW.TrodAll enc Try.prog W 0 (fun _ => true) true Try.f7.params.toList args.toList ds p := hA0
  rw [Try.params7] at hA hval
  obtain ⟨v0, vs0, d0, ds0, p0, q0, hargs, rfl, rfl, h0, r0⟩ := trodAll_cons hA
  obtain ⟨rfl, rfl, rfl⟩ := trodAll_nil r0
  obtain rfl : args = #[v0] := by cases args; simp_all
  obtain ⟨rfl, rfl⟩ := trodVars_none hV
  obtain ⟨cs0, rfl, _⟩ := okWide_struct Try.underlying23 (hval 0 23 v0 rfl rfl)
  have k0 := h0
  have lt0 : ∀ x ∈ p0, x.block < W.heap.size := by obtain ⟨m, hm⟩ := k0; exact DataW.trod_lt m _ _ _ hm
  obtain ⟨n0, s0, rfl, b0, w0⟩ : ∃ (n : Int) (s : ByteArray), cs0 = #[.int .i64 n, .string s] ∧ (-9223372036854775808 ≤ n ∧ n ≤ 9223372036854775807) ∧ s.size ≤ maxLen := by
    obtain ⟨fuel, hf⟩ := h0
    exact braid_of hf
  clear hA0 hval0
  refine (walk n0 s0 W b0 w0).mono fun e W' ⟨he, bel⟩ => ?_
  subst he
  exact ⟨_, rfl, _, _, _, [], _, [], hW', trodAll_mk1 (shut_bool Try.underlying4 _), (trodAll_cons_mk (Below.trod laidOut (by kernel_rfl) (of_decide_eq_true (by kernel_rfl)) k0 bel lt0) trodAll_mk0), rfl, bel.frame _, fun h => by cases h⟩

theorem closed : joinedFacts Try.prog 7 Try.f7 Rows.fnExactBraidPermSpec Rows.fnExactBraidPermRow = true :=
  ((restOf Try.prog 7 Try.f7 Rows.fnExactBraidPermSpec Rows.fnExactBraidPermRow).2 enter_is lifts_is make_is).trans (by kernel_rfl)
theorem over : Rows.fnExactBraidPermRow.holds Try.pinned (OpenSpec.ofChange Rows.fnExactBraidPermSpec) := by
  first
  | exact OpenClaim.holds_of_wide_leaving 7 Try.f7 rfl rfl rfl rfl rfl rfl rfl ⟨rfl, rfl, rfl, rfl, rfl⟩ rfl rfl rfl rfl rfl (by kernel_rfl) Try.func7 closed
      (of_decide_eq_true (by kernel_rfl)) (by unfold Func.isWrapper; first | (rw [if_pos (by decide +kernel)]; kernel_rfl) | (rw [if_neg (by decide +kernel)]; exact ⟨rfl, rfl⟩))
      (fun os started H enc _ => leaving_of_handed (lifted os started H enc))
  | exact OpenClaim.holds_of_wide 7 Try.f7 rfl rfl rfl rfl rfl rfl rfl ⟨rfl, rfl, rfl, rfl, rfl⟩ rfl rfl rfl rfl rfl (by kernel_rfl) Try.func7 closed
      (of_decide_eq_true (by kernel_rfl)) (by unfold Func.isWrapper; first | (rw [if_pos (by decide +kernel)]; kernel_rfl) | (rw [if_neg (by decide +kernel)]; exact ⟨rfl, rfl⟩))
      (fun os started H enc _ => lifted os started H enc)

theorem proved : Rows.FnExactBraidPermSaid := over
#print axioms proved
end Go.Proofs.Ytaaeiogdhmiaaaa.LBraidPerm

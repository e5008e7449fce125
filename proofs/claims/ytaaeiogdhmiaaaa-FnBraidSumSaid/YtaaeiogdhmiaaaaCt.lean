/- The contracts of the program's BraidPerm and BraidKnot. -/
import Derived.Test.YtaaeiogdhmiaaaaCs
namespace Go.Proofs.Ytaaeiogdhmiaaaa
open Go.RowKit

theorem ends_any (N : Nat) (s : ByteArray) (w : World) (hb : braidB (N : Int) s = true) :
    Calls Try.prog 82 #[brV N s] w fun e w' => ∃ v, e = .returned v ∧ IntRow w.heap.size w' v (permZ N s.data.toList) ∧ Below w.heap.size w w' :=
  (callsIn_wide (n := 30)).1 (ends_in 30 (by omega) N s w hb)

set_option maxRecDepth 100000 in
set_option maxHeartbeats 1000000 in
theorem iBraidPerm_yes (N : Nat) (s : ByteArray) (w : World) (hb : braidB (N : Int) s = true) :
    Calls Try.prog 34 #[brV N s] w fun e w' => ∃ v, e = .returned (.tuple #[v, .bool true]) ∧ IntRow w.heap.size w' v (permZ N s.data.toList) ∧ Below w.heap.size w w' := by
  obtain ⟨W, hW⟩ : ∃ W, w.alloc (.cells #[.int .i64 (N : Int), .string s] 26) = W := ⟨_, rfl⟩
  have HX := Lib.hid (oneBox hW)
  have HW := Lib.hid hW
  clear hW
  have hs30 := (braid_all hb).2.1
  have HA := Lib.hid (fun w => iBraidIn_any (N : Int) s true w (by unfold maxLen; omega) hb)
  have HE := Lib.hid (fun w => ends_any N s w hb)
  clear hb
  obtain ⟨⟨c0, c1⟩, _, _⟩ := boxOf2 HX.out.2.2 (Below.refl _ W)
  go_enter Try.func34, Try.ntmps34
  go_wp2_with fail
  rw [HW.out]
  refine (HA.out W).mono ?_
  rintro e w1 ⟨rfl, hb1⟩
  have HB1 := Lib.hid hb1
  clear hb1 c0 c1
  obtain ⟨⟨c0, c1⟩, _, _⟩ := boxOf2 HX.out.2.2 HB1.out
  go_wp2_with fail
  refine (HE.out w1).mono ?_
  rintro e w2 ⟨v, rfl, hr, hb2⟩
  have HB2 := Lib.hid (HX.out.1.trans ((HB1.out.trans (hb2.mono HB1.out.size)).mono HX.out.1.size))
  have HR := Lib.hid (hr.mono (show w.heap.size ≤ w1.heap.size by have h1 := HX.out.1.size; have h2 := HB1.out.size; omega))
  clear hr hb2 c0 c1
  go_wp2
  go_ret2
  exact ⟨_, rfl, HR.out, HB2.out⟩

theorem iBraidPerm_no (n : Int) (s : ByteArray) (w : World) (hs : s.size ≤ maxLen) (hb : braidB n s = false) :
    Calls Try.prog 34 #[brV n s] w fun e w' => ∃ v, e = .returned (.tuple #[v, .bool false]) ∧ IntRow w.heap.size w' v [] ∧ Below w.heap.size w w' := by
  obtain ⟨W, hW⟩ : ∃ W, w.alloc (.cells #[.int .i64 n, .string s] 26) = W := ⟨_, rfl⟩
  have HX := Lib.hid (oneBox hW)
  have HW := Lib.hid hW
  clear hW
  have HA := Lib.hid (fun w => iBraidIn_any n s false w hs hb)
  clear hb
  obtain ⟨⟨c0, c1⟩, _, _⟩ := boxOf2 HX.out.2.2 (Below.refl _ W)
  go_enter Try.func34, Try.ntmps34
  go_wp2_with fail
  rw [HW.out]
  refine (HA.out W).mono ?_
  rintro e w1 ⟨rfl, hb1⟩
  have HB1 := Lib.hid (HX.out.1.trans (hb1.mono HX.out.1.size))
  clear hb1 c0 c1
  go_wp2
  go_ret2
  exact ⟨_, rfl, World.ownsRow_nil _ _ _ _, HB1.out⟩

set_option maxRecDepth 100000 in
set_option maxHeartbeats 2000000 in
theorem iBraidKnot_yes (N : Nat) (s : ByteArray) (w : World) (hb : braidB (N : Int) s = true) :
    Calls Try.prog 43 #[brV N s] w fun e w' => e = .returned (.bool (decide (backN (permZ N s.data.toList) + 1 = N))) ∧ Below w.heap.size w w' := by
  obtain ⟨W, hW⟩ : ∃ W, w.alloc (.cells #[.int .i64 (N : Int), .string s] 26) = W := ⟨_, rfl⟩
  have HX := Lib.hid (oneBox hW)
  have HW := Lib.hid hW
  clear hW
  have hs30 := (braid_all hb).2.1
  obtain ⟨⟨hN1, hN2⟩, hpl⟩ := braid_pl hb
  have HA := Lib.hid (fun w => iBraidIn_any (N : Int) s true w (by unfold maxLen; omega) hb)
  have HP := Lib.hid (fun w => ends_any N s w hb)
  obtain ⟨z, hz⟩ : ∃ z, permZ N s.data.toList = z := ⟨_, rfl⟩
  have hwy := way_at ⟨hN1, hN2⟩ (atL_mem ⟨hN1, hN2⟩ s.data.toList hpl) (z := z) (by rw [← hz]; rfl)
  have hzl : z.length = N := by rw [← hz]; exact permZ_len _ _
  have HZL := Lib.hid hzl
  have HWY := Lib.hid hwy
  rw [hz] at HP ⊢
  have hbk := back_lt z
  obtain ⟨B, hB⟩ : ∃ B, backN z = B := ⟨_, rfl⟩
  rw [hB] at hbk HWY ⊢
  clear hb hpl hz hwy hzl hB
  obtain ⟨⟨c0, c1⟩, _, _⟩ := boxOf2 HX.out.2.2 (Below.refl _ W)
  go_enter Try.func43, Try.ntmps43
  go_wp2_with fail
  rw [HW.out]
  refine (HA.out W).mono ?_
  rintro e w0 ⟨rfl, hb0⟩
  have HB0 := Lib.hid hb0
  clear hb0 c0 c1
  obtain ⟨⟨c0, c1⟩, _, _⟩ := boxOf2 HX.out.2.2 HB0.out
  go_wp2_with fail
  refine (HP.out w0).mono ?_
  rintro e w1 ⟨v, rfl, hrow0, hb10⟩
  have hrow : IntRow W.heap.size w1 v z := hrow0.mono HB0.out.size
  have hb1 : Below W.heap.size W w1 := HB0.out.trans (hb10.mono HB0.out.size)
  clear hrow0 hb10 c0 c1
  obtain ⟨g, cap, rfl⟩ : ∃ g cap, v = .slice (some ⟨g, 0, none⟩) N cap := by
    rcases hrow.2 with ⟨_, h0⟩ | ⟨g, cap, cur, rfl, _⟩
    · exact absurd h0 (by rw [HZL.out]; omega)
    · exact ⟨g, cap, by rw [HZL.out]⟩
  have hcell : ∀ i, i < N → w1.cell? ⟨g, i, none⟩ = some (.int .i64 (z.getD i 0)) := fun i hi => by
    have h1 : i < z.length := by rw [HZL.out]; exact hi
    rw [World.ownsRow.cellAt (show w1.ownsRow W.heap.size 3 1 (.slice (some ⟨g, 0, none⟩) N cap) N (intsV z) from by have := hrow; unfold IntRow at this; rwa [HZL.out] at this) i (by omega)]
    simp [intsV, List.getElem?_eq_getElem h1]
  have HCE := Lib.hid hcell
  have HB1 := Lib.hid hb1
  have hc00 := hcell 0 (by omega)
  have h0r : z.getD 0 0 = iterZ z 0 := rfl
  rw [h0r] at hc00
  obtain ⟨⟨b01, b02⟩, _⟩ := HWY.out.2 0 (by omega)
  obtain ⟨x0, hx0⟩ : ∃ x, iterZ z 0 = x := ⟨_, rfl⟩
  rw [hx0] at hc00 b01 b02
  have HX0 := Lib.hid hx0
  obtain ⟨⟨c0, c1⟩, _, _⟩ := boxOf2 HX.out.2.2 hb1
  clear hcell hrow hb1 h0r hx0
  go_wp2_with fail
  go_loop [4, 5] (fun n k => ∃ (j : Nat) (y : Int), j ≤ B ∧ n = .int .i64 ((j + 1 : Nat) : Int) ∧ k = .int .i64 y ∧ (0 ≤ y ∧ y < N) ∧ Hid (y = iterZ z j)) (fun n _ => B + 1 - (intOf n).toNat)
  case atStart => exact ⟨0, x0, Nat.zero_le _, rfl, rfl, ⟨b01, b02⟩, Lib.hid HX0.out.symm⟩
  case round =>
    obtain ⟨j, y, hj, rfl, rfl, ⟨hy1, hy2⟩, HY⟩ := hrel
    by_cases hy0 : y = 0
    · have hjB : j = B := by
        by_cases hlt : j < B
        · exact absurd (HY.out.symm.trans hy0) ((HWY.out.2 j (by omega)).2 hlt)
        · omega
      have hd : (y != 0) = false := by simpa using hy0
      go_wp2
      go_ret
      refine ⟨ret_bool ?_, HX.out.1.trans (HB1.out.mono HX.out.1.size)⟩
      rw [Bool.eq_iff_iff]
      simp
      omega
    · have hd : (y != 0) = true := by simpa using hy0
      have hlt : j < B := by
        rcases Nat.lt_or_ge j B with h | h
        · exact h
        · have hjB : j = B := by omega
          exact absurd (by rw [HY.out, hjB]; exact HWY.out.1) hy0
      obtain ⟨i, rfl⟩ : ∃ i : Nat, y = (i : Int) := ⟨y.toNat, by omega⟩
      have hci := HCE.out i (by omega)
      have hnx : z.getD i 0 = iterZ z (j + 1) := by show _ = z.getD (iterZ z j).toNat 0; rw [← HY.out]; simp
      obtain ⟨⟨q1, q2⟩, _⟩ := HWY.out.2 (j + 1) (by omega)
      rw [hnx] at hci
      obtain ⟨x, hx⟩ : ∃ x, iterZ z (j + 1) = x := ⟨_, rfl⟩
      rw [hx] at hci q1 q2
      have HXX := Lib.hid hx
      clear hx hnx
      go_wp2
      go_round
      case rel => exact ⟨j + 1, x, by omega, by go_num, rfl, ⟨q1, q2⟩, Lib.hid HXX.out.symm⟩
      case measure => simp [intOf]; omega

theorem iBraidKnot_any (n : Int) (s : ByteArray) (b : Bool) (w : World) (hs : s.size ≤ maxLen) (hb : knotB n s = b) :
    Calls Try.prog 43 #[brV n s] w fun e w' => e = .returned (.bool b) ∧ Below w.heap.size w w' := by
  cases h : braidB n s with
  | true =>
    obtain ⟨h1, _⟩ := braid_all h
    obtain ⟨N, rfl⟩ : ∃ N : Nat, n = (N : Int) := ⟨n.toNat, by omega⟩
    have hk := iBraidKnot_yes N s w h
    have e : knotB (N : Int) s = decide (backN (permZ N s.data.toList) + 1 = N) := by unfold knotB; rw [h]; simp
    rw [← hb, e]
    exact hk
  | false =>
    have e : b = false := by rw [← hb]; unfold knotB; rw [h]; rfl
    subst e
    obtain ⟨W, hW⟩ : ∃ W, w.alloc (.cells #[.int .i64 n, .string s] 26) = W := ⟨_, rfl⟩
    have HX := Lib.hid (oneBox hW)
    have HW := Lib.hid hW
    clear hW hb
    have HA := Lib.hid (fun w => iBraidIn_any n s false w hs h)
    clear h
    obtain ⟨⟨c0, c1⟩, _, _⟩ := boxOf2 HX.out.2.2 (Below.refl _ W)
    go_enter Try.func43, Try.ntmps43
    go_wp2_with fail
    rw [HW.out]
    refine (HA.out W).mono ?_
    rintro e w1 ⟨rfl, hb1⟩
    have HB1 := Lib.hid (HX.out.1.trans (hb1.mono HX.out.1.size))
    clear hb1 c0 c1
    go_wp2
    go_ret
    exact ⟨rfl, HB1.out⟩

end Go.Proofs.Ytaaeiogdhmiaaaa

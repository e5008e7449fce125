/- The contracts of the model's BraidPerm and BraidKnot. -/
import Derived.Test.YtaaeiogdhmiaaaaCj
import Derived.Test.YtaaeiogdhmiaaaaCg
import Derived.Test.YtaaeiogdhmiaaaaSe
import Derived.Test.YtaaeiogdhmiaaaaJa
namespace Go.Proofs.Ytaaeiogdhmiaaaa
open Go.RowKit

/-- Numbers of places as cells. -/
def natsV (l : List Nat) : List Value := l.map fun i : Nat => Value.int .i64 (i : Int)
theorem natsV_len (l : List Nat) : (natsV l).length = l.length := by simp [natsV]
theorem natsV_append (a b : List Nat) : natsV (a ++ b) = natsV a ++ natsV b := by simp [natsV]
theorem natsV_get (l : List Nat) (i : Nat) (h : i < l.length) : (natsV l)[i]? = some (.int .i64 ((l.getD i 0 : Nat) : Int)) := by
  simp [natsV, List.getElem?_eq_getElem h]
theorem natsV_swap (a : List Nat) (k : Nat) : ((natsV a).set k (.int .i64 ((a.getD (k + 1) 0 : Nat) : Int))).set (k + 1) (.int .i64 ((a.getD k 0 : Nat) : Int)) = natsV (swapN a k) := by
  simp [natsV, swapN, List.map_set]
theorem outK_step (n : Nat) (a : List Nat) (k : Nat) : (intsV (outK n a k)).set (a.getD k 0) (.int .i64 (k : Int)) = intsV (outK n a (k + 1)) := by
  rw [outK_succ]; simp [intsV, List.map_set]

theorem braid_pl {N : Nat} {s : ByteArray} (h : braidB (N : Int) s = true) : (2 ≤ N ∧ N ≤ 4) ∧ ∀ c ∈ s.data.toList, plN c + 1 < N := by
  obtain ⟨h1, _, h3⟩ := braid_all h
  exact ⟨by omega, fun c hc => by have := (h3 c hc).2; omega⟩

set_option maxRecDepth 100000 in
set_option maxHeartbeats 4000000 in
theorem sBraidPerm_yes (N : Nat) (s : ByteArray) (w : World) (hb : braidB (N : Int) s = true) :
    Calls Try.prog 33 #[brV N s] w fun e w' => ∃ v, e = .returned (.tuple #[v, .bool true]) ∧ IntRow w.heap.size w' v (permZ N s.data.toList) ∧ Below w.heap.size w w' := by
  obtain ⟨W, hW⟩ : ∃ W, w.alloc (.cells #[.int .i64 (N : Int), .string s] 26) = W := ⟨_, rfl⟩
  have HX := Lib.hid (oneBox hW)
  have HW := Lib.hid hW
  clear hW
  have HSZ := Lib.hid HX.out.2.1
  obtain ⟨⟨hN1, hN2⟩, hpl⟩ := braid_pl hb
  obtain ⟨_, hs30, hall⟩ := braid_all hb
  have HA := Lib.hid (fun w => sBraidIn_any (N : Int) s true w (by unfold maxLen; omega) hb)
  have HPL := Lib.hid hpl
  have HALL := Lib.hid hall
  clear hb hpl hall
  obtain ⟨i0, hi, hz0, hz1, hz2⟩ := info_parts infoInt
  obtain ⟨⟨c0, c1⟩, _, _⟩ := boxOf2 HX.out.2.2 (Below.refl _ W)
  go_enter Try.func33, Try.ntmps33
  go_wp2_with fail
  rw [HW.out]
  refine (HA.out W).mono ?_
  rintro e w1 ⟨rfl, hb1⟩
  have HB1 := Lib.hid hb1
  clear c0 c1 hb1
  go_wp2_with fail
  go_loopw [4, 5] (fun v i wr => ∃ (k g cap : Nat), k ≤ N ∧ i = .int .i64 k ∧ v = .slice (some ⟨g, 0, none⟩) k cap ∧ wr.ownsRow W.heap.size 3 1 (.slice (some ⟨g, 0, none⟩) k cap) k (natsV (List.range k)) ∧ Below W.heap.size W wr)
    (fun _ i _ => N - (intOf i).toNat)
  case atStart => exact ⟨0, w1.heap.size, 0, Nat.zero_le _, rfl, rfl, World.ownsRow_made w1 #[] 0 HB1.out.size (Nat.zero_le _) rfl, HB1.out.alloc HB1.out.size _⟩
  case round =>
    obtain ⟨k, g, cap, hk, rfl, rfl, hown, hB⟩ := hrel
    obtain ⟨hnc, hcm, hbg, hgs⟩ := ownsRow_cap hown
    unfold maxLen at hcm
    obtain ⟨⟨c0, c1⟩, _, _⟩ := boxOf2 HX.out.2.2 hB
    by_cases hlt : k < N
    · go_wp2_with (at_builtin; refine wpList_append_own _ rfl _ _ 37 rfl W.heap.size 3 i0 (.int .i64 0) 1 8 Try.underlying37 hi hz0 hz1 hz2 rfl (by decide) _ _ _ rfl (hown.alloc _) ⟨wr.heap.size, 0, none⟩ 1 1 [.int .i64 (k : Int)] rfl rfl (cell_one_new _ _ _) (fun u hu => by simp at hu; subst hu; rfl) (by unfold maxLen; omega) (by omega) (by have := hB.size; simp; omega) ?_)
      intro v' w2 hown' hgrow' _
      obtain ⟨g', cap', rfl⟩ := ownsRow_succ hown'
      have HO : Hid (w2.ownsRow W.heap.size 3 1 (.slice (some ⟨g', 0, none⟩) (k + 1) cap') (k + 1) (natsV (List.range (k + 1)))) := Lib.hid (by rw [List.range_succ, natsV_append]; exact hown')
      have HB' := Lib.hid (((hB.alloc (by have := hB.size; omega) (.cells #[.int .i64 (k : Int)] 3)).grown hgrow' (by have := hB.size; simp; omega) (fun j hj => by cases hj; exact hbg)))
      clear hown' hown hgrow' c0 c1
      go_wp2
      go_roundw
      case rel => exact ⟨k + 1, g', cap', by omega, by go_num, rfl, HO.out, HB'.out⟩
      case measure => simp [intOf]; omega
    · obtain rfl : k = N := by omega
      have HO := Lib.hid hown
      have HB := Lib.hid hB
      clear hown hB
      go_wp2_with fail
      go_loopw [6, 7, 8] (fun i x y wr => ∃ (j : Nat) (u1 u2 : Value), j ≤ s.size ∧ i = .int .i64 j ∧ x = u1 ∧ y = u2 ∧ wr.ownsRow W.heap.size 3 1 (.slice (some ⟨g, 0, none⟩) k cap) k (natsV (atF (List.range k) (s.data.toList.take j))) ∧ Below W.heap.size W wr)
        (fun i _ _ _ => s.size - (intOf i).toNat)
      case atStart => exact ⟨0, _, _, Nat.zero_le _, rfl, rfl, rfl, HO.out, HB.out⟩
      case round =>
        obtain ⟨j, u1, u2, hj, rfl, rfl, rfl, hown, hB2⟩ := hrel
        obtain ⟨⟨c0, c1⟩, _, _⟩ := boxOf2 HX.out.2.2 hB2
        by_cases hlt2 : j < s.size
        · have hl : j < s.data.toList.length := by simpa using hlt2
          have hmem : s.data.toList[j] ∈ s.data.toList := List.getElem_mem hl
          have hpc := HPL.out _ hmem
          have HI := Lib.hid (fun w => l9Index_any s.data.toList[j] w (HALL.out _ hmem).1)
          have hat : atF (List.range k) (s.data.toList.take (j + 1)) = swapN (atF (List.range k) (s.data.toList.take j)) (plN s.data.toList[j]) := by
            rw [List.take_succ_eq_append_getElem hl, atF_append]; rfl
          have hal : (atF (List.range k) (s.data.toList.take j)).length = k := by rw [atF_len]; simp
          obtain ⟨p, hp⟩ : ∃ p, plN s.data.toList[j] = p := ⟨_, rfl⟩
          obtain ⟨A, hA⟩ : ∃ A, atF (List.range k) (s.data.toList.take j) = A := ⟨_, rfl⟩
          rw [hA] at hat hal hown
          rw [hp] at hpc HI hat
          have hcl0 : wr.cell? ⟨g, p, none⟩ = some (.int .i64 ((A.getD p 0 : Nat) : Int)) := by rw [hown.cellAt p (by omega)]; exact natsV_get A p (by omega)
          have hcl1 : wr.cell? ⟨g, p + 1, none⟩ = some (.int .i64 ((A.getD (p + 1) 0 : Nat) : Int)) := by rw [hown.cellAt (p + 1) (by omega)]; exact natsV_get A (p + 1) (by omega)
          have hf0 := hown.frozenAt p
          have hf1 := hown.frozenAt (p + 1)
          obtain ⟨x0, hx0⟩ : ∃ x, A.getD p 0 = x := ⟨_, rfl⟩
          obtain ⟨x1, hx1⟩ : ∃ x, A.getD (p + 1) 0 = x := ⟨_, rfl⟩
          have hsw := natsV_swap A p
          rw [hx0] at hcl0 hsw
          rw [hx1] at hcl1 hsw
          have HSW := Lib.hid (hsw.trans (congrArg natsV hat.symm))
          have HR := Lib.hid hown
          have HB2 := Lib.hid hB2
          have hp1 : p < k := by omega
          have hbg := (ownsRow_cap hown).2.2.1
          have HBG := Lib.hid hbg
          have he : s.data.toList[j] = s[j] := rfl
          rw [he] at HI
          clear hown hB2 hsw hat hal hA hp hx0 hx1 hmem he hbg
          go_wp2_with fail
          refine (HI.out _).mono ?_
          rintro e w' ⟨rfl, rfl⟩
          go_wp2_with fail
          go_roundw
          case rel =>
            have r1 := (HR.out.stored p (.int .i64 (x1 : Int))).1.stored (p + 1) (.int .i64 (x0 : Int))
            rw [HSW.out] at r1
            exact ⟨j + 1, _, _, by omega, by go_num, rfl, rfl, r1.1, (HB2.out.setCell (p := ⟨g, p, none⟩) HBG.out _).setCell (p := ⟨g, p + 1, none⟩) HBG.out _⟩
          case measure => simp [intOf]; omega
        · obtain rfl : j = s.size := by omega
          have ha : atF (List.range k) (s.data.toList.take s.size) = atL k s.data.toList := by rw [List.take_of_length_le (by simp)]; rfl
          rw [ha] at hown
          have hpm := atL_mem ⟨hN1, hN2⟩ s.data.toList HPL.out
          obtain ⟨A, hA⟩ : ∃ A, atL k s.data.toList = A := ⟨_, rfl⟩
          have hperm : permZ k s.data.toList = outK k A k := by unfold permZ; rw [hA]
          rw [hA] at hown hpm
          have HPZ := Lib.hid hperm
          have HPM := Lib.hid hpm
          have HR := Lib.hid hown
          have HB2 := Lib.hid hB2
          have hlA : A.length = k := by have := hown.1; simpa [natsV_len] using this
          have HLA := Lib.hid hlA
          have hbl := (ownsRow_cap hown).2.2.2
          clear hown hB2 ha hA hperm hpm hlA
          go_wp2_with (at_make; refine wpList_make_full _ rfl _ _ 37 rfl wr.heap.size 3 i0 (.int .i64 0) 1 Try.underlying37 hi hz0 hz1 .i64 .i64 _ _ k rfl rfl rfl rfl (by rw [hz2]; omega) (by unfold maxLen; omega) (Nat.le_refl _) ?_; intro w3 hrow hgrow)
          have hB3 : Below wr.heap.size wr w3 := (Below.refl _ _).grown hgrow (Nat.le_refl _) (fun k e => by cases e)
          have hrow0 : w3.ownsRow wr.heap.size 3 1 (.slice (some ⟨wr.heap.size, 0, none⟩) k k) k (intsV (outK k A 0)) := by
            have e : (madeCells (Value.cells (.int .i64 0)) (k * 1)).toList = intsV (outK k A 0) := by
              rw [show Value.cells (.int .i64 0) = #[.int .i64 0] from rfl, toList_madeCells_one, outK_zero]; simp [intsV]
            rw [← e]; exact hrow
          clear hrow hgrow
          obtain ⟨U, hU⟩ : ∃ U, U = wr := ⟨_, rfl⟩
          rw [← hU] at hB3 hrow0 hbl HR HB2 ⊢
          clear hU
          go_loopw [10] (fun i X => ∃ q : Nat, q ≤ k ∧ i = .int .i64 q ∧ X.ownsRow U.heap.size 3 1 (.slice (some ⟨U.heap.size, 0, none⟩) k k) k (intsV (outK k A q)) ∧ Below U.heap.size U X)
            (fun i _ => k - (intOf i).toNat)
          case atStart => exact ⟨0, Nat.zero_le _, rfl, hrow0, hB3⟩
          case round =>
            obtain ⟨q, hq, rfl, hr, hB4⟩ := hrel
            obtain ⟨⟨c0, c1⟩, _, _⟩ := boxOf2 HX.out.2.2 (HB2.out.trans (hB4.mono HB2.out.size))
            by_cases hlt3 : q < k
            · have hcA : wr.cell? ⟨g, q, none⟩ = some (.int .i64 ((A.getD q 0 : Nat) : Int)) := (hB4.cell (p := ⟨g, q, none⟩) hbl).trans (by rw [HR.out.cellAt q (by omega)]; exact natsV_get A q (by rw [HLA.out]; exact hlt3))
              have hst := outK_step k A q
              have hx := at_lt ⟨hN1, hN2⟩ HPM.out hlt3
              obtain ⟨x, hxe⟩ : ∃ x, A.getD q 0 = x := ⟨_, rfl⟩
              rw [hxe] at hcA hst hx
              have hlo := outK_len k A q
              have hcx : ∃ y, wr.cell? ⟨U.heap.size, x, none⟩ = some y := by
                rw [hr.cellAt x (by omega)]
                exact ⟨_, List.getElem?_eq_getElem (by rw [intsV_len, hlo]; exact hx)⟩
              obtain ⟨y, hcx⟩ := hcx
              have hfx := hr.frozenAt x
              have HST := Lib.hid hst
              have HRR := Lib.hid hr
              have HB4 := Lib.hid hB4
              clear hst hr hB4 hxe hlo
              go_wp2
              go_roundw
              case rel =>
                have r1 := (HRR.out.stored x (.int .i64 (q : Int))).1
                rw [HST.out] at r1
                exact ⟨q + 1, by omega, by go_num, r1, HB4.out.setCell (p := ⟨U.heap.size, x, none⟩) (Nat.le_refl _) _⟩
              case measure => simp [intOf]; omega
            · obtain rfl : q = k := by omega
              have HRR := Lib.hid hr
              have HBB := Lib.hid (HX.out.1.trans ((HB2.out.trans (hB4.mono HB2.out.size)).mono HX.out.1.size))
              have hUs : w.heap.size ≤ U.heap.size := by have h1 := HB2.out.size; have h2 := HX.out.1.size; omega
              clear hr hB4
              go_wp2
              go_ret2
              refine ⟨_, rfl, ?_, HBB.out⟩
              rw [HPZ.out]
              unfold IntRow
              rw [outK_len]
              exact ownsRow_base HRR.out hUs

theorem sBraidPerm_no (n : Int) (s : ByteArray) (w : World) (hs : s.size ≤ maxLen) (hb : braidB n s = false) :
    Calls Try.prog 33 #[brV n s] w fun e w' => ∃ v, e = .returned (.tuple #[v, .bool false]) ∧ IntRow w.heap.size w' v [] ∧ Below w.heap.size w w' := by
  obtain ⟨W, hW⟩ : ∃ W, w.alloc (.cells #[.int .i64 n, .string s] 26) = W := ⟨_, rfl⟩
  have HX := Lib.hid (oneBox hW)
  have HW := Lib.hid hW
  clear hW
  have HA := Lib.hid (fun w => sBraidIn_any n s false w hs hb)
  clear hb
  obtain ⟨⟨c0, c1⟩, _, _⟩ := boxOf2 HX.out.2.2 (Below.refl _ W)
  go_enter Try.func33, Try.ntmps33
  go_wp2_with fail
  rw [HW.out]
  refine (HA.out W).mono ?_
  rintro e w1 ⟨rfl, hb1⟩
  have HB1 := Lib.hid (HX.out.1.trans (hb1.mono HX.out.1.size))
  clear c0 c1 hb1
  go_wp2
  go_ret2
  exact ⟨_, rfl, World.ownsRow_made w1 #[] 0 HB1.out.size (Nat.zero_le _) rfl, HB1.out.alloc HB1.out.size _⟩

/-! ### Knots -/
theorem way_at {N : Nat} (hN : 2 ≤ N ∧ N ≤ 4) {z : List Int} {A : List Nat} (hA : A ∈ permsN N) (hz : z = outK N A N) :
    iterZ z (backN z) = 0 ∧ ∀ j, j < 4 → (0 ≤ iterZ z j ∧ iterZ z j < N) ∧ (j < backN z → iterZ z j ≠ 0) := by
  subst hz
  obtain ⟨h1, h2⟩ := way_all N (mem234 hN) A hA
  exact ⟨h1, fun j hj => h2 j (List.mem_range.2 hj)⟩
theorem back_lt (z : List Int) : backN z < 4 := by
  unfold backN
  by_cases h0 : iterZ z 0 = 0
  · rw [if_pos h0]; omega
  · rw [if_neg h0]
    by_cases h1 : iterZ z 1 = 0
    · rw [if_pos h1]; omega
    · rw [if_neg h1]
      by_cases h2 : iterZ z 2 = 0
      · rw [if_pos h2]; omega
      · rw [if_neg h2]; omega

set_option maxRecDepth 100000 in
set_option maxHeartbeats 2000000 in
theorem sBraidKnot_yes (N : Nat) (s : ByteArray) (w : World) (hb : braidB (N : Int) s = true) :
    Calls Try.prog 42 #[brV N s] w fun e w' => e = .returned (.bool (decide (backN (permZ N s.data.toList) + 1 = N))) ∧ Below w.heap.size w w' := by
  obtain ⟨W, hW⟩ : ∃ W, w.alloc (.cells #[.int .i64 (N : Int), .string s] 26) = W := ⟨_, rfl⟩
  have HX := Lib.hid (oneBox hW)
  have HW := Lib.hid hW
  clear hW
  obtain ⟨⟨hN1, hN2⟩, hpl⟩ := braid_pl hb
  have HP := Lib.hid (fun w => sBraidPerm_yes N s w hb)
  obtain ⟨z, hz⟩ : ∃ z, permZ N s.data.toList = z := ⟨_, rfl⟩
  have hwy := way_at ⟨hN1, hN2⟩ (atL_mem ⟨hN1, hN2⟩ s.data.toList hpl) (z := z) (by rw [← hz]; rfl)
  have hzl : z.length = N := by rw [← hz]; exact permZ_len _ _
  have HZL := Lib.hid hzl
  have HWY := Lib.hid hwy
  rw [hz] at HP ⊢
  have hbk := back_lt z
  obtain ⟨B, hB⟩ : ∃ B, backN z = B := ⟨_, rfl⟩
  rw [hB] at hbk HWY ⊢
  clear hb hpl hz hwy hzl hB
  obtain ⟨⟨c0, c1⟩, _, _⟩ := boxOf2 HX.out.2.2 (Below.refl _ W)
  go_enter Try.func42, Try.ntmps42
  go_wp2_with fail
  rw [HW.out]
  refine (HP.out W).mono ?_
  rintro e w1 ⟨v, rfl, hrow, hb1⟩
  obtain ⟨g, cap, rfl⟩ : ∃ g cap, v = .slice (some ⟨g, 0, none⟩) N cap := by
    rcases hrow.2 with ⟨_, h0⟩ | ⟨g, cap, cur, rfl, _⟩
    · exact absurd h0 (by rw [HZL.out]; omega)
    · exact ⟨g, cap, by rw [HZL.out]⟩
  have hcell : ∀ i, i < N → w1.cell? ⟨g, i, none⟩ = some (.int .i64 (z.getD i 0)) := fun i hi => by
    have h1 : i < z.length := by rw [HZL.out]; exact hi
    rw [World.ownsRow.cellAt (show w1.ownsRow W.heap.size 3 1 (.slice (some ⟨g, 0, none⟩) N cap) N (intsV z) from by have := hrow; unfold IntRow at this; rwa [HZL.out] at this) i (by omega)]
    simp [intsV, List.getElem?_eq_getElem h1]
  have HCE := Lib.hid hcell
  have HB1 := Lib.hid hb1
  have hc00 := hcell 0 (by omega)
  have h0r : z.getD 0 0 = iterZ z 0 := rfl
  rw [h0r] at hc00
  obtain ⟨⟨b01, b02⟩, _⟩ := HWY.out.2 0 (by omega)
  obtain ⟨x0, hx0⟩ : ∃ x, iterZ z 0 = x := ⟨_, rfl⟩
  rw [hx0] at hc00 b01 b02
  have HX0 := Lib.hid hx0
  obtain ⟨⟨c0, c1⟩, _, _⟩ := boxOf2 HX.out.2.2 hb1
  clear hcell hrow hb1 h0r hx0
  go_wp2_with fail
  go_loop [5, 6] (fun n k => ∃ (j : Nat) (y : Int), j ≤ B ∧ n = .int .i64 ((j + 1 : Nat) : Int) ∧ k = .int .i64 y ∧ (0 ≤ y ∧ y < N) ∧ Hid (y = iterZ z j)) (fun n _ => B + 1 - (intOf n).toNat)
  case atStart => exact ⟨0, x0, Nat.zero_le _, rfl, rfl, ⟨b01, b02⟩, Lib.hid HX0.out.symm⟩
  case round =>
    obtain ⟨j, y, hj, rfl, rfl, ⟨hy1, hy2⟩, HY⟩ := hrel
    by_cases hy0 : y = 0
    · have hjB : j = B := by
        by_cases hlt : j < B
        · exact absurd (HY.out.symm.trans hy0) ((HWY.out.2 j (by omega)).2 hlt)
        · omega
      have hd : (y != 0) = false := by simpa using hy0
      go_wp2
      go_ret
      refine ⟨ret_bool ?_, HX.out.1.trans (HB1.out.mono HX.out.1.size)⟩
      rw [Bool.eq_iff_iff]
      simp
      omega
    · have hd : (y != 0) = true := by simpa using hy0
      have hlt : j < B := by
        rcases Nat.lt_or_ge j B with h | h
        · exact h
        · have hjB : j = B := by omega
          exact absurd (by rw [HY.out, hjB]; exact HWY.out.1) hy0
      obtain ⟨i, rfl⟩ : ∃ i : Nat, y = (i : Int) := ⟨y.toNat, by omega⟩
      have hci := HCE.out i (by omega)
      have hnx : z.getD i 0 = iterZ z (j + 1) := by show _ = z.getD (iterZ z j).toNat 0; rw [← HY.out]; simp
      obtain ⟨⟨q1, q2⟩, _⟩ := HWY.out.2 (j + 1) (by omega)
      rw [hnx] at hci
      obtain ⟨x, hx⟩ : ∃ x, iterZ z (j + 1) = x := ⟨_, rfl⟩
      rw [hx] at hci q1 q2
      have HXX := Lib.hid hx
      clear hx hnx
      go_wp2
      go_round
      case rel => exact ⟨j + 1, x, by omega, by go_num, rfl, ⟨q1, q2⟩, Lib.hid HXX.out.symm⟩
      case measure => simp [intOf]; omega
theorem sBraidKnot_any (n : Int) (s : ByteArray) (b : Bool) (w : World) (hs : s.size ≤ maxLen) (hb : knotB n s = b) :
    Calls Try.prog 42 #[brV n s] w fun e w' => e = .returned (.bool b) ∧ Below w.heap.size w w' := by
  cases h : braidB n s with
  | true =>
    obtain ⟨h1, _⟩ := braid_all h
    obtain ⟨N, rfl⟩ : ∃ N : Nat, n = (N : Int) := ⟨n.toNat, by omega⟩
    have hk := sBraidKnot_yes N s w h
    have e : knotB (N : Int) s = decide (backN (permZ N s.data.toList) + 1 = N) := by unfold knotB; rw [h]; simp
    rw [← hb, e]
    exact hk
  | false =>
    have e : b = false := by rw [← hb]; unfold knotB; rw [h]; rfl
    subst e
    obtain ⟨W, hW⟩ : ∃ W, w.alloc (.cells #[.int .i64 n, .string s] 26) = W := ⟨_, rfl⟩
    have HX := Lib.hid (oneBox hW)
    have HW := Lib.hid hW
    clear hW hb
    have HP := Lib.hid (fun w => sBraidPerm_no n s w hs h)
    clear h
    obtain ⟨⟨c0, c1⟩, _, _⟩ := boxOf2 HX.out.2.2 (Below.refl _ W)
    go_enter Try.func42, Try.ntmps42
    go_wp2_with fail
    rw [HW.out]
    refine (HP.out W).mono ?_
    rintro e w1 ⟨v, rfl, _, hb1⟩
    have HB1 := Lib.hid (HX.out.1.trans (hb1.mono HX.out.1.size))
    clear hb1 c0 c1
    go_wp2
    go_ret
    exact ⟨rfl, HB1.out⟩

end Go.Proofs.Ytaaeiogdhmiaaaa

/- The contracts of the model's sums of letters. -/
import Derived.Test.YtaaeiogdhmiaaaaSc
import Derived.Test.YtaaeiogdhmiaaaaMathb
import Derived.Test.YtaaeiogdhmiaaaaJa
namespace Go.Proofs.Ytaaeiogdhmiaaaa
open Go.RowKit

theorem sIndex_any (c : UInt8) (w : World) (h : letB c = true) :
    Calls Try.prog 122 #[.int .u8 (c.toNat : Int)] w fun e w' => e = .returned (.int .i64 (idxB c : Int)) ∧ w = w' := by
  have hc := (letB_iff c).1 h
  clear h
  by_cases h97 : 97 ≤ c.toNat
  · have H : Hid ((idxB c : Int) = (c.toNat : Int) - 97) := Lib.hid (by unfold idxB; rw [if_pos h97]; omega)
    have h2 : c.toNat ≤ 100 := by omega
    clear hc
    go_enter Try.func122, Try.ntmps122
    go_wp2
    go_ret
    exact ⟨ret_int H.out.symm, rfl⟩
  · have H : Hid ((idxB c : Int) = (c.toNat : Int) - 65) := Lib.hid (by unfold idxB; rw [if_neg h97]; omega)
    have h2 : c.toNat ≤ 68 := by omega
    have h3 : 65 ≤ c.toNat := by omega
    clear hc
    go_enter Try.func122, Try.ntmps122
    go_wp2
    go_ret
    exact ⟨ret_int H.out.symm, rfl⟩

set_option maxRecDepth 100000 in
set_option maxHeartbeats 1000000 in
theorem sSums_any (s : ByteArray) (w : World) (hs : s.size ≤ 1048576) (hl : letL s.data.toList = true) :
    Calls Try.prog 94 #[.string s] w fun e w' => ∃ v, e = .returned v ∧ IntRow w.heap.size w' v (sumsL s.data.toList) ∧ Below w.heap.size w w' := by
  have HL := Lib.hid hl
  clear hl
  obtain ⟨i0, hi, hz0, hz1, hz2⟩ := info_parts infoInt
  go_enter Try.func94, Try.ntmps94
  go_wp2_with (at_make; refine wpList_make_full _ rfl _ _ 37 rfl w.heap.size 3 i0 (.int .i64 0) 1 Try.underlying37 hi hz0 hz1 .i64 .i64 _ _ 4 rfl rfl rfl rfl (by rw [hz2]; decide) (by unfold maxLen; decide) (Nat.le_refl _) ?_; intro w1 hrow hgrow)
  have hB1 : Below w.heap.size w w1 := (Below.refl _ _).grown hgrow (Nat.le_refl _) (fun k e => by cases e)
  have hrow0 : w1.ownsRow w.heap.size 3 1 (.slice (some ⟨w.heap.size, 0, none⟩) 4 4) 4 (intsV (sumsL (s.data.toList.take 0))) := by
    have e : (madeCells (Value.cells (.int .i64 0)) (4 * 1)).toList = intsV (sumsL (s.data.toList.take 0)) := by
      rw [show Value.cells (.int .i64 0) = #[.int .i64 0] from rfl, toList_madeCells_one]; rfl
    rw [← e]; exact hrow
  clear hrow hgrow
  go_loopw [4] (fun i wr => ∃ k : Nat, k ≤ s.size ∧ i = .int .i64 k ∧ wr.ownsRow w.heap.size 3 1 (.slice (some ⟨w.heap.size, 0, none⟩) 4 4) 4 (intsV (sumsL (s.data.toList.take k))) ∧ Below w.heap.size w wr)
    (fun i _ => s.size - (intOf i).toNat)
  case atStart => exact ⟨0, Nat.zero_le _, rfl, hrow0, hB1⟩
  case round =>
    obtain ⟨k, hk, rfl, hr, hB⟩ := hrel
    by_cases hlt : k < s.size
    · have hl : k < s.data.toList.length := by simpa using hlt
      have hlet : letB s[k] = true := letL_get _ HL.out k hl
      have hlk : letL (s.data.toList.take k) = true := letL_of_mem _ _ HL.out (fun _ h => List.mem_of_mem_take h)
      obtain ⟨hz4, hzb⟩ := sumsL_inv _ hlk
      obtain ⟨j, hj⟩ : ∃ j, idxB s[k] = j := ⟨_, rfl⟩
      have hj4 : j < 4 := by rw [← hj]; exact idxB_lt _ hlet
      obtain ⟨z, hz⟩ : ∃ z, (sumsL (s.data.toList.take k))[j]'(by omega) = z := ⟨_, rfl⟩
      have hzm := hzb z (by rw [← hz]; exact List.getElem_mem _)
      have htl : (s.data.toList.take k).length ≤ k := List.length_take_le _ _
      have hz1' : -(1048576 : Int) ≤ z := by omega
      have hz2' : z ≤ 1048576 := by omega
      have hcl : wr.cell? ⟨w.heap.size, j, none⟩ = some (.int .i64 z) := by
        rw [hr.cellAt j (by omega), ← hz]
        simp [intsV, hz4, hj4]
      have hfr := hr.frozenAt j
      have hstep : ∀ u : Int, u = z + sgnB s[k] → (intsV (sumsL (s.data.toList.take k))).set j (.int .i64 u) = intsV (sumsL (s.data.toList.take (k + 1))) := by
        intro u hu
        rw [take_snoc _ k hl, sumsL_snoc]
        unfold sumsStep intsV
        have e1 : s.data.toList[k] = s[k] := rfl
        rw [e1, hj, List.getElem?_eq_getElem (by omega), Option.getD_some, hz, ← hu, List.map_set]
      have HST := Lib.hid hstep
      have HLet := Lib.hid hlet
      have HJ := Lib.hid hj
      have HR := Lib.hid hr
      clear hstep hlet hlk hz4 hzb hz hzm htl hr hj
      by_cases h97 : 97 ≤ s[k].toNat
      · have HG : Hid (sgnB s[k] = 1) := by unfold sgnB; rw [if_pos h97]; exact Lib.hid rfl
        go_wp2_with fail
        refine (sIndex_any _ _ HLet.out).mono ?_
        rw [HJ.out]
        rintro e w2 ⟨rfl, rfl⟩
        go_wp2_with fail
        go_roundw
        case rel =>
          have hst := HR.out.stored j (.int .i64 (z + 1))
          refine ⟨k + 1, by omega, by go_num, ?_, hB.setCell (p := ⟨w.heap.size, j, none⟩) (Nat.le_refl _) _⟩
          rw [← HST.out (z + 1) (by rw [HG.out])]
          exact hst.1
        case measure => simp [intOf]; omega
      · have HG : Hid (sgnB s[k] = -1) := by unfold sgnB; rw [if_neg h97]; exact Lib.hid rfl
        go_wp2_with fail
        refine (sIndex_any _ _ HLet.out).mono ?_
        rw [HJ.out]
        rintro e w2 ⟨rfl, rfl⟩
        go_wp2_with fail
        go_roundw
        case rel =>
          have hst := HR.out.stored j (.int .i64 (z - 1))
          refine ⟨k + 1, by omega, by go_num, ?_, hB.setCell (p := ⟨w.heap.size, j, none⟩) (Nat.le_refl _) _⟩
          rw [← HST.out (z - 1) (by rw [HG.out]; omega)]
          exact hst.1
        case measure => simp [intOf]; omega
    · have HE : Hid (s.data.toList.take k = s.data.toList) := List.take_of_length_le (by simp; omega)
      have HR := Lib.hid hr
      clear hr
      go_wp2_with fail
      go_ret
      refine ⟨_, rfl, ?_, hB⟩
      have := HR.out
      rw [HE.out] at this
      unfold IntRow
      rw [(sumsL_inv _ HL.out).1]
      exact this

end Go.Proofs.Ytaaeiogdhmiaaaa

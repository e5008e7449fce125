/- The contracts of slices.Repeat at one iterator, and of the program's 'WordPower'. -/
import Derived.Test.YtmbffbjopehllabIx
import Derived.Test.YtmbffbjopehllabSf
import Derived.Shelf.Bits.Mul64
import Derived.Laws.CopyOwn
import Derived.RegionTactic
namespace Go.Proofs.Ytmbffbjopehllab
open Go.RowKit Go.Shelf

abbrev LT : TypeId := 56

def layRen : Go.Shelf.Ren := ⟨fun | 212 => 66 | 263 => 72 | 264 => 73 | n => n, fun | 46 => 75 | 51 => 83 | 146 => 84 | 53 => 86 | 148 => 87 | n => n, fun | n => n⟩
theorem layMul : Go.Proofs.Lays.n212 Try.prog layRen := {
  mixed := by kernel_rfl
  f212 := Try.func66.trans (congrArg some (by kernel_rfl))
  f263 := Try.func72.trans (congrArg some (by kernel_rfl))
  f264 := Try.func73.trans (congrArg some (by kernel_rfl))
  t46 := Try.underlying75
  a46 := Try.isAgg75
  z46 := Try.sizeOf75
  v46 := Try.zeroValue75
  t51 := Try.underlying83
  a51 := Try.isAgg83
  z51 := Try.sizeOf83
  v51 := Try.zeroValue83
  t53 := Try.underlying86
  a53 := Try.isAgg86
  z53 := Try.sizeOf86
  v53 := Try.zeroValue86
  t146 := Try.underlying84
  a146 := Try.isAgg84
  z146 := Try.sizeOf84
  v146 := Try.zeroValue84
  t148 := Try.underlying87
  a148 := Try.isAgg87
  z148 := Try.sizeOf87
  v148 := Try.zeroValue87 }
theorem mul_one (y : Nat) (hy : y ≤ 1000000) (w : World) : Calls Try.prog 66 #[.int .u64 1, .int .u64 y] w fun e w' => e = .returned (.tuple #[.int .u64 0, .int .u64 y]) ∧ w' = w := by
  have h := Any.bits_Mul layMul 1 y (by omega) (by omega) w
  rw [show (1 * y / 18446744073709551616 : Nat) = 0 by omega, show (1 * y % 18446744073709551616 : Nat) = y by omega] at h
  exact h

theorem infoSeq : (Try.prog.info? 51).map (fun i => (i.zero, i.size, i.bytes)) = some (some .nilFunc, 1, 8) := by kernel_rfl

theorem splice_rep {f z : Value} (k m r : Nat) : splice (List.replicate k f ++ List.replicate r z) k (List.replicate m f) = List.replicate (k + m) f ++ List.replicate (r - m) z := by
  unfold splice
  rw [List.take_left' (by simp), List.length_replicate, ← List.drop_drop, List.drop_left' (by simp), List.drop_replicate, ← List.append_assoc, List.replicate_append_replicate]

theorem addr_add (b j : Nat) : (⟨b, 0, none⟩ : Addr).add j = ⟨b, j, none⟩ := by unfold Addr.add; split <;> simp_all
theorem row_cell {W : World} {g k r : Nat} {f z : Value} {t : TypeId} (h : W.heap[g]? = some (.cells (List.replicate k f ++ List.replicate r z).toArray t (0, 0))) (j : Nat) (hj : j < k) : W.cell? ⟨g, j, none⟩ = some f := by
  rw [cell_of_row W g j _ t (0, 0) h, List.getElem?_toArray, List.getElem?_append_left (by rw [List.length_replicate]; exact hj), List.getElem?_replicate, if_pos hj]

set_option maxRecDepth 100000 in
set_option maxHeartbeats 2000000 in
theorem repeat_any (g1 c : Nat) (f : Value) (hf : f.oneCell' = true) (w : World) (hc : c ≤ 60) (hcell : w.cell? ⟨g1, 0, none⟩ = some f) (hg1 : g1 < w.heap.size) :
    Calls Try.prog 49 #[.slice (some ⟨g1, 0, none⟩) 1 1, .int .i64 c] w fun e w' =>
      ∃ g, e = .returned (.slice (some ⟨g, 0, none⟩) c c) ∧ g < w'.heap.size ∧ Hid (∀ i, i < c → w'.cell? ⟨g, i, none⟩ = some f) ∧ Below w.heap.size w w' := by
  obtain ⟨i0, hi, hz0, hz1, hz2⟩ := info_parts infoSeq
  have HF := Lib.hid hf
  clear hf
  go_enter Try.func49, Try.ntmps49
  go_wp2_with fail
  refine (mul_one c (by omega) _).mono ?_
  rintro e w1 ⟨rfl, rfl⟩
  go_wp2_with (at_make; refine wpList_make_full _ rfl _ _ LT rfl w1.heap.size IT i0 .nilFunc 1 Try.underlying56 hi hz0 hz1 .i64 .i64 _ _ c rfl rfl rfl rfl (by rw [hz2]; omega) (by unfold maxLen; omega) (Nat.le_refl _) ?_; intro w2 hrow hgrow)
  have hone : (Try.prog.info? IT).map (·.size) = some 1 := by rw [hi]; exact congrArg some hz1
  have HOne := Lib.hid hone
  have hg : w2.heap[w1.heap.size]? = some (.cells (List.replicate c Value.nilFunc).toArray IT (0, 0)) := by
    rcases hrow.2 with ⟨h, _⟩ | ⟨g, cap, cur, h, _, hgb, _, _, hcs, htk⟩
    · cases h
    · cases h
      rw [hgb]
      have e1 : cur.toList = List.replicate c Value.nilFunc := by
        have e2 : cur.toList.take (c * 1) = cur.toList := List.take_of_length_le (by simp [hcs])
        rw [← e2, htk, show Value.cells Value.nilFunc = #[Value.nilFunc] from rfl, toList_madeCells_one, Nat.mul_one]
      rw [← e1]
  have hB2 : Below w1.heap.size w1 w2 := (Below.refl _ _).grown hgrow (Nat.le_refl _) (fun k e => by cases e)
  have hc2 : w2.cell? ⟨g1, 0, none⟩ = some f := (hB2.cell (p := ⟨g1, 0, none⟩) hg1).trans hcell
  by_cases hc0 : c = 0
  · have HC0 := Lib.hid hc0
    have hrun := run_copy_none (P := Try.prog) w2 LT LT 3 IT (some ⟨w1.heap.size, 0, none⟩) (some ⟨g1, 0, none⟩) c c 1 1 Try.underlying56 hone (by rw [hc0]; rfl)
    rw [hrun]
    have hcz : c ≤ 0 := by omega
    clear hrun hc0 hone
    go_wp2
    go_loopw [8] (fun i wr => i = .int .i64 0 ∧ w2 = wr) (fun _ _ => 0)
    case atStart => exact ⟨rfl, rfl⟩
    case round =>
      obtain ⟨rfl, rfl⟩ := hrel
      go_wp2
      go_ret
      exact ⟨_, rfl, (Array.getElem?_eq_some_iff.1 hg).1, Lib.hid (fun i h => by have := HC0.out; omega), hB2⟩
  · have hrun := run_copy_row (P := Try.prog) w2 LT LT 3 IT w1.heap.size 0 c c ⟨g1, 0, none⟩ 1 1 (List.replicate c Value.nilFunc).toArray IT [f] Try.underlying56 hone hg (by have : Nat.min 1 c = 1 := Nat.min_eq_left (by omega); rw [this]; rfl)
      (fun j v hj => by
        match j, hj with
        | 0, hj => cases hj; exact hc2
        | j + 1, hj => simp at hj) (by simp; omega) (fun v hv => by cases List.mem_singleton.1 hv; exact HF.out)
    rw [hrun]
    have hg3 : (w2.setRow w1.heap.size ((List.replicate c Value.nilFunc).toArray.toList.take 0 ++ [f] ++ (List.replicate c Value.nilFunc).toArray.toList.drop (0 + [f].length)).toArray).heap[w1.heap.size]? = some (.cells (List.replicate 1 f ++ List.replicate (c - 1) Value.nilFunc).toArray IT (0, 0)) := by
      rw [setRow_heap w2 _ _ _ _ _ hg]
      simp
    have hB3 : Below w1.heap.size w1 (w2.setRow w1.heap.size ((List.replicate c Value.nilFunc).toArray.toList.take 0 ++ [f] ++ (List.replicate c Value.nilFunc).toArray.toList.drop (0 + [f].length)).toArray) := below_setRow hB2 (Nat.le_refl _) _
    generalize (w2.setRow w1.heap.size ((List.replicate c Value.nilFunc).toArray.toList.take 0 ++ [f] ++ (List.replicate c Value.nilFunc).toArray.toList.drop (0 + [f].length)).toArray) = w3 at hg3 hB3 ⊢
    have HG3 := Lib.hid hg3
    have hc1 : 1 ≤ c := by omega
    clear hrun hg3 hg hc2 hcell hrow hgrow hB2 hc0 hone
    go_wp2_with fail
    go_loopw [8] (fun i wr => ∃ k : Nat, 1 ≤ k ∧ k ≤ c ∧ i = .int .i64 k ∧ Hid (wr.heap[w1.heap.size]? = some (.cells (List.replicate k f ++ List.replicate (c - k) Value.nilFunc).toArray IT (0, 0))) ∧ Below w1.heap.size w1 wr) (fun i _ => c - (intOf i).toNat)
    case atStart => exact ⟨1, Nat.le_refl _, hc1, by simp, HG3, hB3⟩
    case round =>
      obtain ⟨k, hk1, hk, rfl, HG, hB⟩ := hrel
      by_cases hlt : k < c
      · have hne : ¬ c = k := by omega
        have hm1 : Nat.min k (c - k) ≤ c - k := Nat.min_le_right _ _
        have hm2 : Nat.min k (c - k) ≤ k := Nat.min_le_left _ _
        have hm3 : 1 ≤ Nat.min k (c - k) := Nat.le_min.2 ⟨hk1, by omega⟩
        obtain ⟨m, hm⟩ : ∃ m, Nat.min k (c - k) = m := ⟨_, rfl⟩
        rw [hm] at hm1 hm2 hm3
        have hcell : ∀ j v, (List.replicate m f)[j]? = some v → wr.drew.cell? ((⟨w1.heap.size, 0, none⟩ : Addr).add j) = some v := fun j v hj => by
          have hjm : j < m := by
            have := (List.getElem?_eq_some_iff.1 hj).1; simpa using this
          have hv : v = f := List.eq_of_mem_replicate (List.mem_of_getElem? hj)
          have e : (⟨w1.heap.size, 0, none⟩ : Addr).add j = ⟨w1.heap.size, j, none⟩ := addr_add w1.heap.size j
          rw [e, hv]
          exact row_cell HG.out j (by omega)
        have hrun := run_copy_row (P := Try.prog) wr.drew LT LT 3 IT w1.heap.size k (c - k) (c - k) ⟨w1.heap.size, 0, none⟩ k c (List.replicate k f ++ List.replicate (c - k) Value.nilFunc).toArray IT (List.replicate m f) Try.underlying56 HOne.out HG.out (by rw [List.length_replicate, hm]) hcell (by simp; omega) (fun v hv => by rw [List.eq_of_mem_replicate hv]; exact HF.out)
        have hgs : wr.drew.heap[w1.heap.size]? = some (.cells (List.replicate k f ++ List.replicate (c - k) Value.nilFunc).toArray IT (0, 0)) := HG.out
        have hg4 := setRow_heap wr.drew w1.heap.size _ ((List.replicate k f ++ List.replicate (c - k) Value.nilFunc).toArray.toList.take k ++ List.replicate m f ++ (List.replicate k f ++ List.replicate (c - k) Value.nilFunc).toArray.toList.drop (k + (List.replicate m f).length)).toArray _ _ hgs
        have hB4 : Below w1.heap.size w1 (wr.drew.setRow w1.heap.size ((List.replicate k f ++ List.replicate (c - k) Value.nilFunc).toArray.toList.take k ++ List.replicate m f ++ (List.replicate k f ++ List.replicate (c - k) Value.nilFunc).toArray.toList.drop (k + (List.replicate m f).length)).toArray) := below_setRow hB.drew (Nat.le_refl _) _
        have hsp := splice_rep (f := f) (z := Value.nilFunc) k m (c - k)
        unfold splice at hsp
        rw [← List.append_assoc] at hsp
        rw [hsp] at hrun hg4 hB4
        rw [List.length_replicate] at hrun
        generalize (wr.drew.setRow w1.heap.size (List.replicate (k + m) f ++ List.replicate (c - k - m) Value.nilFunc).toArray) = w4 at hrun hg4 hB4
        have HG4 := Lib.hid hg4
        have HM := Lib.hid hm
        clear hgs hg4 hsp hcell hm
        go_wp2_with fail
        go_region
        go_wp2
        go_roundw
        case rel => exact ⟨k + m, by omega, by omega, by go_num, by rw [show c - (k + m) = c - k - m by omega]; exact HG4, hB4⟩
        case measure => simp [intOf]; omega
      · have hck : c ≤ k := by omega
        go_wp2
        go_ret
        refine ⟨_, rfl, (Array.getElem?_eq_some_iff.1 HG.out).1, Lib.hid (fun i h => ?_), hB⟩
        exact row_cell HG.out i (by omega)

end Go.Proofs.Ytmbffbjopehllab

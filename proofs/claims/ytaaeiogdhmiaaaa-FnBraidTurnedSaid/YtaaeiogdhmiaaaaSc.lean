/- The contracts of the model's functions on words, second part: inverses, cores. -/
import Derived.Test.YtaaeiogdhmiaaaaSb
import Derived.Lib.Strings
namespace Go.Proofs.Ytaaeiogdhmiaaaa
open Go.RowKit

theorem sWordIn_is (s : ByteArray) (b : Bool) (w : World) (hs : s.size ≤ maxLen) (h : wordB s.data.toList = b) :
    Calls Try.prog 76 #[.string s] w fun e w' => e = .returned (.bool b) ∧ Below w.heap.size w w' := by
  rw [← h]; exact sWordIn_any s w hs

set_option maxRecDepth 100000 in
set_option maxHeartbeats 1000000 in
theorem back_any (s : ByteArray) (w : World) (hs : s.size ≤ 1048576) :
    Calls Try.prog 73 #[.string s] w fun e w' => e = .returned (.string (bstr (backL s.data.toList))) ∧ Below w.heap.size w w' := by
  obtain ⟨i0, hi, hz0, hz1, hz2⟩ := info_parts infoU8
  go_enter Try.func73, Try.ntmps73
  go_wp2
  go_loopw [3, 4] (fun v i wr => ∃ (k g cap : Nat), k ≤ s.size ∧ i = .int .i64 ((k : Int) - 1) ∧ v = .slice (some ⟨g, 0, none⟩) (s.size - k) cap ∧ wr.ownsRow w.heap.size 5 1 (.slice (some ⟨g, 0, none⟩) (s.size - k) cap) (s.size - k) (bytesV (backL (s.data.toList.drop k))) ∧ Below w.heap.size w wr)
    (fun _ i _ => (intOf i + 1).toNat)
  case atStart =>
    refine ⟨s.size, w.heap.size, 0, Nat.le_refl _, rfl, by simp, ?_, (Below.refl _ _).alloc (Nat.le_refl _) _⟩
    rw [Nat.sub_self, List.drop_of_length_le (by simp)]
    exact World.ownsRow_made w #[] 0 (Nat.le_refl _) (Nat.zero_le _) rfl
  case round =>
    obtain ⟨k, g, cap, hk, rfl, rfl, hown, hB⟩ := hrel
    obtain ⟨hnc, hcm, hbg, hgs⟩ := ownsRow_cap hown
    unfold maxLen at hcm
    by_cases hlt : 0 < k
    · obtain ⟨j, rfl⟩ : ∃ j, k = j + 1 := ⟨k - 1, by omega⟩
      have hl : j < s.data.toList.length := by simp; omega
      have HD : Hid (backL (s.data.toList.drop j) = backL (s.data.toList.drop (j + 1)) ++ [turnB s[j]]) := backL_drop _ j hl
      go_wp2_with fail
      refine (turned_any _ _).mono ?_
      rintro e w' ⟨rfl, rfl⟩
      go_wp2_with (at_builtin; refine wpList_append_own _ rfl _ _ 62 rfl w.heap.size 5 i0 (.int .u8 0) 1 1 Try.underlying62 hi hz0 hz1 hz2 rfl (by decide) _ _ _ rfl (hown.alloc _) ⟨wr.heap.size, 0, none⟩ 1 1 [.int .u8 ((turnB s[j]).toNat : Int)] rfl rfl (cell_one_new _ _ _) (fun u hu => by simp at hu; subst hu; rfl) (by unfold maxLen; omega) (by omega) (by have := hB.size; simp; omega) ?_)
      intro v' w2 hown' hgrow' _
      obtain ⟨g', cap', rfl⟩ := ownsRow_succ hown'
      have HO := Lib.hid hown'
      have hB' : Below w.heap.size w w2 := (hB.alloc (by have := hB.size; omega) _).grown hgrow' (by have := hB.size; simp; omega) (fun j hj => by cases hj; exact hbg)
      clear hown' hown hgrow'
      have he : s.size - (j + 1) + 1 = s.size - j := by omega
      rw [he]
      have HE := Lib.hid he
      clear he
      go_wp2
      go_roundw
      case rel =>
        refine ⟨j, g', cap', by omega, by go_num, rfl, ?_, hB'⟩
        have := HO.out
        rw [HE.out] at this
        rw [HD.out, bytesV_append]
        exact this
      case measure => simp [intOf]
    · have HK : Hid (k = 0) := Lib.hid (by omega)
      have hk0 : k ≤ 0 := by omega
      have hconv : (convert 62 9 (.slice (some ⟨g, 0, none⟩) (s.size - k) cap)).run Try.prog wr = .ok (.string (bstr (backL s.data.toList))) wr := by
        have := run_convert_bytes_back (P := Try.prog) wr 62 9 5 ⟨g, 0, none⟩ cap (backL s.data.toList) Try.underlying62 Try.underlying5 Try.underlying9 (fun j hj => hown.cells rfl j _ (by
          rw [HK.out, List.drop_zero]; simp [bytesV, hj]))
        rw [backL_length] at this
        rw [HK.out]
        exact this
      clear hown
      go_wp2
      go_ret
      exact ⟨rfl, hB⟩

theorem extract_core (s : ByteArray) : (s.extract 1 (s.size - 1)).data.toList = s.data.toList.tail.dropLast := by
  rw [Lib.extract_data, List.dropLast_eq_take]
  simp

end Go.Proofs.Ytaaeiogdhmiaaaa

/- The contracts of the model's functions on words: is a text a word, reducing, what is told. -/
import Derived.Test.YtmbffbjopehllabSa
namespace Go.Proofs.Ytmbffbjopehllab
open Go.RowKit

theorem done_yes (s : ByteArray) (w : World) (hs : s.size ≤ 60) :
    Calls Try.prog 39 #[.string s] w fun e w' => e = .returned (.tuple #[.string s, .bool true]) ∧ w = w' := by
  go_enter Try.func39, Try.ntmps39
  go_wp2
  go_ret2
  exact ⟨rfl, rfl⟩
theorem done_no (s : ByteArray) (w : World) (hs : 60 < s.size) :
    Calls Try.prog 39 #[.string s] w fun e w' => e = .returned (.tuple #[.string ByteArray.empty, .bool false]) ∧ w = w' := by
  go_enter Try.func39, Try.ntmps39
  go_wp2
  go_ret2
  exact ⟨rfl, rfl⟩

theorem letters_is (s : ByteArray) (b : Bool) (w : World) (hs : s.size ≤ maxLen) (h : letL s.data.toList = b) :
    Calls Try.prog 36 #[.string s] w fun e w' => e = .returned (.bool b) ∧ w = w' := by
  rw [← h]; exact letters_any s w hs
theorem reduce_is (s r : ByteArray) (w : World) (hs : s.size ≤ 1048576) (h : bstr (redL [] s.data.toList) = r) :
    Calls Try.prog 37 #[.string s] w fun e w' => e = .returned (.string r) ∧ Below w.heap.size w w' := by
  rw [← h]; exact reduce_any s w hs

theorem sWordIn_any (s : ByteArray) (w : World) (hs : s.size ≤ maxLen) :
    Calls Try.prog 12 #[.string s] w fun e w' => e = .returned (.bool (wordB s.data.toList)) ∧ Below w.heap.size w w' := by
  have hm := hs
  unfold maxLen at hm
  by_cases h1 : s.size ≤ 60
  · cases h2 : letL s.data.toList with
    | true =>
      have H2 := Lib.hid h2
      clear h2
      go_enter Try.func12, Try.ntmps12
      go_wp2_with (first | (go_at_call 36; refine (letters_is _ true _ hs H2.out).mono ?_; rintro e w' ⟨rfl, rfl⟩) | (go_at_call 37; refine (reduce_any _ _ (by omega)).mono ?_; rintro e w1 ⟨rfl, hb⟩))
      go_ret
      exact ⟨ret_bool (by rw [bytes_beq, bstr_toList]; unfold wordB; rw [H2.out]; simp [h1]), by assumption⟩
    | false =>
      have H2 := Lib.hid h2
      clear h2
      go_enter Try.func12, Try.ntmps12
      go_wp2_with (go_at_call 36; refine (letters_is _ false _ hs H2.out).mono ?_; rintro e w' ⟨rfl, rfl⟩)
      go_ret
      exact ⟨ret_bool (by unfold wordB; rw [H2.out]; simp), Below.refl _ _⟩
  · go_enter Try.func12, Try.ntmps12
    go_wp2
    go_ret
    exact ⟨ret_bool (by unfold wordB; simp; omega), Below.refl _ _⟩

theorem sWordReduce_ok (s : ByteArray) (w : World) (hs : s.size ≤ 200) (hl : letL s.data.toList = true) (hr : (redL [] s.data.toList).length ≤ 60) :
    Calls Try.prog 14 #[.string s] w fun e w' => e = .returned (.tuple #[.string (bstr (redL [] s.data.toList)), .bool true]) ∧ Below w.heap.size w w' := by
  have H2 := Lib.hid hl
  have H3 : Hid _ := Lib.hid hr
  clear hl hr
  go_enter Try.func14, Try.ntmps14
  go_wp2_with (first | (go_at_call 36; refine (letters_is _ true _ (by unfold maxLen; omega) H2.out).mono ?_; rintro e w' ⟨rfl, rfl⟩) | (go_at_call 37; refine (reduce_any _ _ (by omega)).mono ?_; rintro e w1 ⟨rfl, hb⟩) | (go_at_call 39; refine (done_yes _ _ (by rw [bstr_size]; exact H3.out)).mono ?_; rintro e w' ⟨rfl, rfl⟩))
  go_ret2
  exact ⟨rfl, by assumption⟩

theorem sWordReduce_no (s : ByteArray) (w : World) (hm : s.size ≤ maxLen) (h : ¬ (s.size ≤ 200 ∧ letL s.data.toList = true ∧ (redL [] s.data.toList).length ≤ 60)) :
    Calls Try.prog 14 #[.string s] w fun e w' => e = .returned (.tuple #[.string ByteArray.empty, .bool false]) ∧ Below w.heap.size w w' := by
  have hm' := hm
  unfold maxLen at hm'
  by_cases hs : s.size ≤ 200
  · cases h2 : letL s.data.toList with
    | true =>
      have H2 := Lib.hid h2
      have H3 := Lib.hid (show 60 < (redL [] s.data.toList).length from Nat.lt_of_not_le fun h3 => h ⟨hs, h2, h3⟩)
      clear h2 h
      go_enter Try.func14, Try.ntmps14
      go_wp2_with (first | (go_at_call 36; refine (letters_is _ true _ hm H2.out).mono ?_; rintro e w' ⟨rfl, rfl⟩) | (go_at_call 37; refine (reduce_any _ _ (by omega)).mono ?_; rintro e w1 ⟨rfl, hb⟩) | (go_at_call 39; refine (done_no _ _ (by rw [bstr_size]; exact H3.out)).mono ?_; rintro e w' ⟨rfl, rfl⟩))
      go_ret2
      exact ⟨rfl, by assumption⟩
    | false =>
      have H2 := Lib.hid h2
      clear h2 h
      go_enter Try.func14, Try.ntmps14
      go_wp2_with (go_at_call 36; refine (letters_is _ false _ hm H2.out).mono ?_; rintro e w' ⟨rfl, rfl⟩)
      go_ret2
      exact ⟨rfl, Below.refl _ _⟩
  · clear h
    go_enter Try.func14, Try.ntmps14
    go_wp2
    go_ret2
    exact ⟨rfl, Below.refl _ _⟩

end Go.Proofs.Ytmbffbjopehllab

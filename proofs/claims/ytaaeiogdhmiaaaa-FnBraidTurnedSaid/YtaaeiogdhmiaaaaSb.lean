/- The contracts of the model's functions on words: is a text a word, reducing, what is told. -/
import Derived.Test.YtaaeiogdhmiaaaaSa
namespace Go.Proofs.Ytaaeiogdhmiaaaa
open Go.RowKit

theorem letters_is (s : ByteArray) (b : Bool) (w : World) (hs : s.size ≤ maxLen) (h : letL s.data.toList = b) :
    Calls Try.prog 110 #[.string s] w fun e w' => e = .returned (.bool b) ∧ w = w' := by
  rw [← h]; exact letters_any s w hs
theorem reduce_is (s r : ByteArray) (w : World) (hs : s.size ≤ 1048576) (h : bstr (redL [] s.data.toList) = r) :
    Calls Try.prog 85 #[.string s] w fun e w' => e = .returned (.string r) ∧ Below w.heap.size w w' := by
  rw [← h]; exact reduce_any s w hs

theorem sWordIn_any (s : ByteArray) (w : World) (hs : s.size ≤ maxLen) :
    Calls Try.prog 76 #[.string s] w fun e w' => e = .returned (.bool (wordB s.data.toList)) ∧ Below w.heap.size w w' := by
  have hm := hs
  unfold maxLen at hm
  by_cases h1 : s.size ≤ 60
  · cases h2 : letL s.data.toList with
    | true =>
      have H2 := Lib.hid h2
      clear h2
      go_enter Try.func76, Try.ntmps76
      go_wp2_with (first | (go_at_call 110; refine (letters_is _ true _ hs H2.out).mono ?_; rintro e w' ⟨rfl, rfl⟩) | (go_at_call 85; refine (reduce_any _ _ (by omega)).mono ?_; rintro e w1 ⟨rfl, hb⟩))
      go_ret
      exact ⟨ret_bool (by rw [bytes_beq, bstr_toList]; unfold wordB; rw [H2.out]; simp [h1]), by assumption⟩
    | false =>
      have H2 := Lib.hid h2
      clear h2
      go_enter Try.func76, Try.ntmps76
      go_wp2_with (go_at_call 110; refine (letters_is _ false _ hs H2.out).mono ?_; rintro e w' ⟨rfl, rfl⟩)
      go_ret
      exact ⟨ret_bool (by unfold wordB; rw [H2.out]; simp), Below.refl _ _⟩
  · go_enter Try.func76, Try.ntmps76
    go_wp2
    go_ret
    exact ⟨ret_bool (by unfold wordB; simp; omega), Below.refl _ _⟩

end Go.Proofs.Ytaaeiogdhmiaaaa

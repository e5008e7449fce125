/- The contracts of the program's 'wordOf', 'WordIn' and 'WordReduce'. -/
import Derived.Test.YtaaeiogdhmiaaaaId
namespace Go.Proofs.Ytaaeiogdhmiaaaa
open Go.RowKit Go.Shelf

theorem reduceText_no (s : ByteArray) (w : World) (hs : s.size ≤ 1048576) (h : letL s.data.toList = false) :
    Calls Try.prog 113 #[.string s] w fun e w' => e = .returned (.tuple #[.slice none 0 0, .bool false]) ∧ Below w.heap.size w w' := by
  refine ((callsIn_wide (n := 30)).1 (reduceText_in 30 (by omega) s w hs)).mono ?_
  rintro e w' ⟨⟨_, rfl⟩ | ⟨h2, _⟩, hb⟩
  · exact ⟨rfl, hb⟩
  · rw [h] at h2; cases h2

theorem reduceText_yes (s : ByteArray) (w : World) (hs : s.size ≤ 1048576) (h : letL s.data.toList = true) :
    Calls Try.prog 113 #[.string s] w fun e w' => ∃ g m cap, e = .returned (.tuple #[.slice (some ⟨g, 0, none⟩) m cap, .bool true]) ∧ (redL [] s.data.toList).length = m ∧
      w'.ownsRow w.heap.size 77 1 (.slice (some ⟨g, 0, none⟩) m cap) m (bytesV (redL [] s.data.toList)) ∧ Below w.heap.size w w' := by
  refine ((callsIn_wide (n := 30)).1 (reduceText_in 30 (by omega) s w hs)).mono ?_
  rintro e w' ⟨⟨h2, _⟩ | ⟨_, g, m, cap, rfl, hm, ho⟩, hb⟩
  · rw [h] at h2; cases h2
  · exact ⟨g, m, cap, rfl, hm, ho, hb⟩

set_option maxHeartbeats 400000 in
theorem wordOf_yes (s : ByteArray) (w : World) (h : wordB s.data.toList = true) :
    Calls Try.prog 78 #[.string s] w fun e w' => ∃ g cap, e = .returned (.tuple #[.slice (some ⟨g, 0, none⟩) s.size cap, .bool true]) ∧
      w'.ownsRow w.heap.size 77 1 (.slice (some ⟨g, 0, none⟩) s.size cap) s.size (bytesV s.data.toList) ∧ Below w.heap.size w w' := by
  obtain ⟨h1, h2, h3⟩ := (wordB_iff _).1 h
  have hs : s.size ≤ 60 := by simpa using h1
  have H2 := Lib.hid h2
  have H3 := Lib.hid h3
  clear h h1 h2 h3
  go_enter Try.func78, Try.ntmps78
  go_wp2_with (go_at_call 113; refine (reduceText_yes _ _ (by omega) H2.out).mono ?_; rintro e w1 ⟨g, m, cap, rfl, hm, hown, hb⟩; have hm2 : m = s.size := (by rw [← hm, H3.out]; simp); subst hm2; rw [H3.out] at hown; clear hm)
  go_ret2
  exact ⟨_, _, rfl, by assumption, by assumption⟩

set_option maxHeartbeats 400000 in
theorem wordOf_no (s : ByteArray) (w : World) (hm : s.size ≤ maxLen) (h : wordB s.data.toList = false) :
    Calls Try.prog 78 #[.string s] w fun e w' => e = .returned (.tuple #[.slice none 0 0, .bool false]) ∧ Below w.heap.size w w' := by
  unfold maxLen at hm
  by_cases hs : s.size ≤ 60
  · cases h2 : letL s.data.toList with
    | false =>
      have H2 := Lib.hid h2
      clear h2 h
      go_enter Try.func78, Try.ntmps78
      go_wp2_with (go_at_call 113; refine (reduceText_no _ _ (by omega) H2.out).mono ?_; rintro e w1 ⟨rfl, hb⟩)
      go_ret2
      exact ⟨rfl, by assumption⟩
    | true =>
      have hlt : (redL [] s.data.toList).length < s.size := by
        have h3 : redL [] s.data.toList ≠ s.data.toList := fun h3 => by
          have := (wordB_iff s.data.toList).2 ⟨by simpa using hs, h2, h3⟩
          rw [h] at this; cases this
        have h4 := redL_len s.data.toList []
        have h5 : (redL [] s.data.toList).length ≠ s.size := fun h5 => h3 (by
          have := redL_full s.data.toList [] (by rw [h5]; simp)
          simpa using this)
        simp at h4
        omega
      have H2 := Lib.hid h2
      have H3 := Lib.hid hlt
      clear h2 h hlt
      go_enter Try.func78, Try.ntmps78
      go_wp2_with (go_at_call 113; refine (reduceText_yes _ _ (by omega) H2.out).mono ?_; rintro e w1 ⟨g, m, cap, rfl, hm, hown, hb⟩; have hm2 : m < s.size := (by rw [← hm]; exact H3.out); clear hm hown)
      go_ret2
      exact ⟨rfl, by assumption⟩
  · clear h
    go_enter Try.func78, Try.ntmps78
    go_wp2
    go_ret2
    exact ⟨rfl, Below.refl _ _⟩

end Go.Proofs.Ytaaeiogdhmiaaaa

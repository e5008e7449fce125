/- The contracts of the program's 'imagesOf' and 'WordPut'. -/
import Derived.Test.YtmbffbjopehllabIl
namespace Go.Proofs.Ytmbffbjopehllab
open Go.RowKit Go.Shelf

/-- A list of strings from a cell 0 on, as a law copies it. -/
structure StrsIn (w : World) (a : Option Addr) (g : Nat) (n : Nat) (zs : List ByteArray) : Prop where
  len : zs.length = n
  at0 : 0 < n → a = some ⟨g, 0, none⟩
  blk : g < w.heap.size
  cells : ∀ i (h : i < zs.length), w.cell? ⟨g, i, none⟩ = some (.string zs[i])
  small : ∀ s ∈ zs, s.size ≤ maxLen
theorem StrsIn.below {w w' : World} {a : Option Addr} {g n : Nat} {zs : List ByteArray} (h : StrsIn w a g n zs) (hb : Below w.heap.size w w') : StrsIn w' a g n zs :=
  ⟨h.len, h.at0, Nat.lt_of_lt_of_le h.blk hb.size, fun i hi => (hb.cell (p := ⟨g, i, none⟩) h.blk).trans (h.cells i hi), h.small⟩

theorem imagesOf_yes (a : Option Addr) (g cap n : Nat) (zs : List ByteArray) (w : World) (hs : StrsIn w a g n zs) (hf : fourB zs = true) :
    Calls Try.prog 56 #[.slice a n cap] w fun e w' =>
      ∃ (gi : Nat), e = .returned (.tuple #[.slice (some ⟨gi, 0, none⟩) 4 4, .bool true]) ∧ FourAt gi w.heap.size w' zs ∧ Below w.heap.size w w' := by
  obtain ⟨hz4, hz⟩ := (fourB_iff zs).1 hf
  obtain rfl : n = 4 := by have := hs.len; omega
  obtain rfl := hs.at0 (by omega)
  have hw := wordsOf_four g zs w hz4 hs.blk hs.cells hz cap
  have HW := Lib.hid hw
  clear hw hs hz4 hz hf
  go_enter Try.func56, Try.ntmps56
  go_wp2_with fail
  refine HW.out.mono ?_
  rintro e w2 ⟨gi, vals, rfl, hgi, hvals, hb2⟩
  have HV := Lib.hid hvals
  clear hvals
  go_wp2_with fail
  go_ret2
  refine ⟨gi, rfl, ⟨hgi, fun j h => ?_⟩, hb2⟩
  obtain ⟨v, h1, _, h2⟩ := HV.out j h
  exact ⟨v, h1, h2⟩

theorem imagesOf_no (a : Option Addr) (g cap n : Nat) (zs : List ByteArray) (w : World) (hs : StrsIn w a g n zs) (hn : n ≤ maxLen) (hf : fourB zs = false) :
    Calls Try.prog 56 #[.slice a n cap] w fun e w' =>
      e = .returned (.tuple #[.slice none 0 0, .bool false]) ∧ Below w.heap.size w w' := by
  have hnm := hn
  unfold maxLen at hnm
  by_cases h4 : n = 4
  · have hno : ¬ ∀ s ∈ zs, wordB s.data.toList = true := fun h => by
      have := (fourB_iff zs).2 ⟨hs.len.trans h4, h⟩
      rw [hf] at this; cases this
    have hw := wordsOf_any a g 0 cap n zs w hs.len (by omega) hs.at0 hs.blk (fun i h => by rw [Nat.zero_add]; exact hs.cells i h) hs.small
    have HW := Lib.hid hw
    have HN := Lib.hid hno
    clear hw hs hno hf hn hnm
    subst h4
    go_enter Try.func56, Try.ntmps56
    go_wp2_with fail
    refine HW.out.mono ?_
    rintro e w2 ⟨⟨rfl, _⟩ | ⟨_, _, _, h, _⟩, hb2⟩
    · go_wp2_with fail
      go_ret2
      exact ⟨rfl, hb2⟩
    · exact absurd h HN.out
  · clear hs hf hn
    have h4' : ¬ ((n : Int) = 4) := by omega
    go_enter Try.func56, Try.ntmps56
    go_wp2
    go_ret2
    exact ⟨rfl, Below.refl _ _⟩

set_option maxHeartbeats 1000000 in
theorem iPut_yes (s : ByteArray) (a : Option Addr) (g cap n : Nat) (zs : List ByteArray) (w : World) (hs : StrsIn w a g n zs) (hw : wordB s.data.toList = true) (hf : fourB zs = true) :
    Calls Try.prog 32 #[.string s, .slice a n cap] w fun e w' => e = .returned (toldV (redL [] (putL zs s.data.toList))) ∧ Below w.heap.size w w' := by
  obtain ⟨p1, p2, _⟩ := (wordB_iff _).1 hw
  obtain ⟨hz4, hz⟩ := (fourB_iff zs).1 hf
  have hs60 : s.size ≤ 60 := by simpa using p1
  have HX : Hid (redX [] (s.data.toList.map (imgX zs)).flatten = redL [] (putL zs s.data.toList)) := by
    have := letL_putX zs s.data.toList hz
    have e := (putX_eq zs s.data.toList hz).1
    rw [← e]
    unfold putX at this ⊢
    exact Lib.hid (redX_eq _ _ this)
  have HLr : Hid ((redL [] (putL zs s.data.toList)).length ≤ 4000) := by
    have h1 := redL_len (putL zs s.data.toList) []
    have h2 := putX_len zs s.data.toList hz
    rw [(putX_eq zs s.data.toList hz).1] at h2
    have h3 : s.data.toList.length * 60 ≤ 60 * 60 := Nat.mul_le_mul p1 (Nat.le_refl _)
    exact Lib.hid (by simp only [List.length_nil] at h1; omega)
  have H := Lib.hid hw
  have HF := Lib.hid hf
  have HS := Lib.hid hs
  have H2 := Lib.hid p2
  have HZ := Lib.hid hz
  have HZ4 := Lib.hid hz4
  clear hw hf hs p1 p2 hz hz4
  by_cases h : (redL [] (putL zs s.data.toList)).length ≤ 60
  · have HT := Lib.hid (toldV_yes h)
    have HL := Lib.hid h
    clear h
    go_enter Try.func32, Try.ntmps32
    go_wp2_with fail
    refine (imagesOf_yes a g cap n zs w HS.out HF.out).mono ?_
    rintro e w1 ⟨gi, rfl, hfo, hb1⟩
    have HFo := Lib.hid hfo
    clear hfo
    go_wp2_with fail
    refine (wordOf_yes s _ H.out).mono ?_
    rintro e w2 ⟨g1, cap1, rfl, hown, hb2⟩
    have hw1 := Lib.hid (isWord_of_owns (n₀ := w2.heap.size) (l := s.data.toList) (by simp) (by omega) hown (Nat.le_refl _))
    clear hown
    go_wp2_with fail
    refine ((callsIn_wide (n := 40)).1 (wordPut_in 40 (by omega) g1 s.size cap1 gi 4 w.heap.size s.data.toList zs w2 (by simp) hs60 H2.out hw1.out HZ4.out HZ.out (HFo.out.below hb2))).mono ?_
    rintro e w3 ⟨g4, m, cap4, rfl, hm, hown, hb3⟩
    rw [HX.out] at hm hown
    have HM := Lib.hid hm
    have HO := Lib.hid hown
    clear hm hown
    go_wp2_with fail
    refine (told_yes _ _ _ _ _ _ HM.out (by rw [← HM.out]; exact HL.out) HO.out).mono ?_
    rintro e w5 ⟨rfl, hb5⟩
    go_wp2_with fail
    go_ret2
    exact ⟨by rw [HT.out]; rfl, hb1.trans ((hb2.trans ((hb3.trans (hb5.mono hb3.size)).mono hb2.size)).mono hb1.size)⟩
  · have HT := Lib.hid (toldV_no h)
    have HL := Lib.hid (Nat.lt_of_not_le h)
    clear h
    go_enter Try.func32, Try.ntmps32
    go_wp2_with fail
    refine (imagesOf_yes a g cap n zs w HS.out HF.out).mono ?_
    rintro e w1 ⟨gi, rfl, hfo, hb1⟩
    have HFo := Lib.hid hfo
    clear hfo
    go_wp2_with fail
    refine (wordOf_yes s _ H.out).mono ?_
    rintro e w2 ⟨g1, cap1, rfl, hown, hb2⟩
    have hw1 := Lib.hid (isWord_of_owns (n₀ := w2.heap.size) (l := s.data.toList) (by simp) (by omega) hown (Nat.le_refl _))
    clear hown
    go_wp2_with fail
    refine ((callsIn_wide (n := 40)).1 (wordPut_in 40 (by omega) g1 s.size cap1 gi 4 w.heap.size s.data.toList zs w2 (by simp) hs60 H2.out hw1.out HZ4.out HZ.out (HFo.out.below hb2))).mono ?_
    rintro e w3 ⟨g4, m, cap4, rfl, hm, hown, hb3⟩
    rw [HX.out] at hm hown
    have HM := Lib.hid hm
    have HO := Lib.hid hown
    clear hm hown
    go_wp2_with fail
    refine (told_no _ _ _ _ (by rw [← HM.out]; exact HL.out) (by have := HLr.out; rw [HM.out] at this; unfold maxLen; omega)).mono ?_
    rintro e w5 ⟨rfl, rfl⟩
    go_wp2_with fail
    go_ret2
    exact ⟨by rw [HT.out]; rfl, hb1.trans ((hb2.trans (hb3.mono hb2.size)).mono hb1.size)⟩

theorem iPut_no (s : ByteArray) (a : Option Addr) (g cap n : Nat) (zs : List ByteArray) (w : World) (hm : s.size ≤ maxLen) (hn : n ≤ maxLen) (hs : StrsIn w a g n zs) (h : ¬ (wordB s.data.toList = true ∧ fourB zs = true)) :
    Calls Try.prog 32 #[.string s, .slice a n cap] w fun e w' => e = .returned (.tuple #[.string ByteArray.empty, .bool false]) ∧ Below w.heap.size w w' := by
  have HS := Lib.hid hs
  clear hs
  cases hf : fourB zs with
  | false =>
    have HF := Lib.hid hf
    clear hf h
    go_enter Try.func32, Try.ntmps32
    go_wp2_with fail
    refine (imagesOf_no a g cap n zs w HS.out hn HF.out).mono ?_
    rintro e w1 ⟨rfl, hb1⟩
    go_wp2_with fail
    go_ret2
    exact ⟨rfl, hb1⟩
  | true =>
    have hw : wordB s.data.toList = false := by
      cases hw : wordB s.data.toList with
      | true => exact absurd ⟨hw, hf⟩ h
      | false => rfl
    have HF := Lib.hid hf
    have HW := Lib.hid hw
    clear hf h hw
    go_enter Try.func32, Try.ntmps32
    go_wp2_with fail
    refine (imagesOf_yes a g cap n zs w HS.out HF.out).mono ?_
    rintro e w1 ⟨gi, rfl, hfo, hb1⟩
    clear hfo
    go_wp2_with fail
    refine (wordOf_no _ _ hm HW.out).mono ?_
    rintro e w2 ⟨rfl, hb2⟩
    go_wp2_with fail
    go_ret2
    exact ⟨rfl, hb1.trans (hb2.mono hb1.size)⟩

end Go.Proofs.Ytmbffbjopehllab

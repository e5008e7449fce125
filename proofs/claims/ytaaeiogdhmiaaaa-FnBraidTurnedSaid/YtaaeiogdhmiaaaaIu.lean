/- The contract of the program's 'WordTurned'. -/
import Derived.Test.YtaaeiogdhmiaaaaIt
import Derived.Test.YtaaeiogdhmiaaaaIe
import Derived.Test.YtaaeiogdhmiaaaaMathb
namespace Go.Proofs.Ytaaeiogdhmiaaaa
open Go.RowKit Go.Shelf

theorem isWord_of_owns {base g cap n n₀ : Nat} {e : TypeId} {l : List UInt8} {w : World} (hl : l.length = n) (hn : n ≤ 100000) (hown : w.ownsRow base e 1 (.slice (some ⟨g, 0, none⟩) n cap) n (bytesV l)) (hg : w.heap.size ≤ n₀) :
    IsWord n₀ w (.slice (some ⟨g, 0, none⟩) n cap) l := by
  subst hl
  obtain ⟨h1, h2⟩ := letters_of_owns hown
  exact ⟨g, 0, cap, rfl, by omega, hn, h2⟩

abbrev IT : TypeId := 75

set_option maxRecDepth 100000 in
set_option maxHeartbeats 1000000 in
theorem wordInverse_yes (g n cap : Nat) (L : List UInt8) (w1 : World) (hl : L.length = n) (h : wordB L = true) (hw : IsWord w1.heap.size w1 (.slice (some ⟨g, 0, none⟩) n cap) L) :
    Calls Try.prog 102 #[.slice (some ⟨g, 0, none⟩) n cap] w1 fun e w' => ∃ g4 cap4, e = .returned (.slice (some ⟨g4, 0, none⟩) n cap4) ∧
      w'.ownsRow w1.heap.size 77 1 (.slice (some ⟨g4, 0, none⟩) n cap4) n (bytesV (backL L)) ∧ Below w1.heap.size w1 w' := by
  obtain ⟨h1, h2, h3⟩ := (wordB_iff _).1 h
  have hs : L.length ≤ 60 := h1
  rw [hl] at hs
  have H := Lib.hid h
  have HR := Lib.hid (redX_back _ h2 h3)
  have HW := Lib.hid hw
  have HL := Lib.hid hl
  clear h h1 h2 h3 hw hl
  go_enter Try.func102, Try.ntmps102
  go_wp2_with fail
  refine (iTurned_any _ _ _ _).mono ?_
  rintro e w2 ⟨rfl, rfl⟩
  go_wp2_with fail
  have hrd := reduced_in 20 (by omega) (some ⟨w1.heap.size + 1, 0, none⟩) (w1.heap.size + 1) 0 1 [⟨137, #[.pointer (some ⟨w1.heap.size, 0, none⟩)], L.reverse.map invB⟩]
    ((w1.alloc (.cells #[.slice (some ⟨g, 0, none⟩) n cap] WT)).alloc (.cells #[.func (.func 137) #[] #[.pointer (some ⟨w1.heap.size, 0, none⟩)]] IT)) (fun _ => rfl) (by simp)
    (fun i h => by
      obtain rfl : i = 0 := by simpa using h
      exact (World.cell?_alloc_at _ _ _ _ (by simp)).trans rfl)
    (fun p hp => by
      obtain rfl := List.mem_singleton.1 hp
      exact ⟨turned_seq L (.slice (some ⟨g, 0, none⟩) n cap) _ w1.heap.size _ (by simp; omega) (Nat.le_refl _) ((Boxed.new w1 WT _).alloc _).cell (((HW.out.below (((Below.refl _ w1).alloc (Nat.le_refl _) _).alloc (by simp) _))).mono (by simp; omega)), enters_of Try.func137 (by kernel_rfl) rfl⟩)
    (by simp [cat]; rw [HL.out]; omega) (by simp)
  refine ((callsIn_wide (n := 20)).1 hrd).mono ?_
  clear hrd
  rintro e w4 ⟨g4, m, cap4, rfl, hm, hown, hb4⟩
  simp only [cat, List.map_cons, List.map_nil, List.flatten_cons, List.flatten_nil, List.append_nil] at hm hown
  rw [HR.out] at hm hown
  have hb : Below w1.heap.size w1 w4 := (((Below.refl _ w1).alloc (Nat.le_refl _) _).alloc (by simp) _).trans (hb4.mono (by simp; omega))
  obtain rfl : n = m := by rw [← hm, backL_length]; exact HL.out.symm
  have HO := Lib.hid (ownsRow_base hown (by simp; omega) : w4.ownsRow w1.heap.size 77 1 _ n _)
  clear hm hown hb4
  go_wp2_with fail
  go_ret
  exact ⟨g4, cap4, rfl, HO.out, hb⟩

set_option maxHeartbeats 1000000 in
theorem iWordTurned_yes (s : ByteArray) (w : World) (h : wordB s.data.toList = true) :
    Calls Try.prog 61 #[.string s] w fun e w' => e = .returned (.tuple #[.string (bstr (backL s.data.toList)), .bool true]) ∧ Below w.heap.size w w' := by
  have hs : s.size ≤ 60 := by have := ((wordB_iff _).1 h).1; simpa using this
  have H := Lib.hid h
  clear h
  go_enter Try.func61, Try.ntmps61
  go_wp2_with fail
  refine (wordOf_yes _ _ H.out).mono ?_
  rintro e w1 ⟨g, cap, rfl, hown, hb1⟩
  have hw := Lib.hid (isWord_of_owns (n₀ := w1.heap.size) (l := s.data.toList) (by simp) (by omega) hown (Nat.le_refl _))
  clear hown
  go_wp2_with fail
  refine (wordInverse_yes g s.size cap s.data.toList w1 (by simp) H.out hw.out).mono ?_
  rintro e w4 ⟨g4, cap4, rfl, hown, hb⟩
  have HO := Lib.hid hown
  clear hown
  go_wp2_with fail
  refine (told_yes _ _ _ _ _ _ (by rw [backL_length]; simp) hs HO.out).mono ?_
  rintro e w5 ⟨rfl, hb5⟩
  go_wp2_with fail
  go_ret2
  exact ⟨rfl, hb1.trans ((hb.trans (hb5.mono hb.size)).mono hb1.size)⟩

theorem iWordTurned_no (s : ByteArray) (w : World) (hs : s.size ≤ maxLen) (h : wordB s.data.toList = false) :
    Calls Try.prog 61 #[.string s] w fun e w' => e = .returned (.tuple #[.string ByteArray.empty, .bool false]) ∧ Below w.heap.size w w' := by
  have H := Lib.hid h
  clear h
  go_enter Try.func61, Try.ntmps61
  go_wp2_with fail
  refine (wordOf_no _ _ hs H.out).mono ?_
  rintro e w1 ⟨rfl, hb1⟩
  go_wp2_with fail
  go_ret2
  exact ⟨rfl, hb1⟩

end Go.Proofs.Ytaaeiogdhmiaaaa

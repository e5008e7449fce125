/- The contract of the program's 'WordTurned'. -/
import Derived.Test.YtidmlppbmcphbaaIt
import Derived.Test.YtidmlppbmcphbaaIe
import Derived.Test.YtidmlppbmcphbaaMathb
namespace Go.Proofs.Ytidmlppbmcphbaa
open Go.RowKit Go.Shelf

theorem isWord_of_owns {base g cap n n₀ : Nat} {e : TypeId} {l : List UInt8} {w : World} (hl : l.length = n) (hn : n ≤ 100000) (hown : w.ownsRow base e 1 (.slice (some ⟨g, 0, none⟩) n cap) n (bytesV l)) (hg : w.heap.size ≤ n₀) :
    IsWord n₀ w (.slice (some ⟨g, 0, none⟩) n cap) l := by
  subst hl
  obtain ⟨h1, h2⟩ := letters_of_owns hown
  exact ⟨g, 0, cap, rfl, by omega, hn, h2⟩

abbrev IT : TypeId := 78

set_option maxRecDepth 100000 in
set_option maxHeartbeats 1000000 in
theorem wordInverse_yes (g n cap : Nat) (L : List UInt8) (w1 : World) (hl : L.length = n) (h : wordB L = true) (hw : IsWord w1.heap.size w1 (.slice (some ⟨g, 0, none⟩) n cap) L) :
    Calls Try.prog 72 #[.slice (some ⟨g, 0, none⟩) n cap] w1 fun e w' => ∃ g4 cap4, e = .returned (.slice (some ⟨g4, 0, none⟩) n cap4) ∧
      w'.ownsRow w1.heap.size 106 1 (.slice (some ⟨g4, 0, none⟩) n cap4) n (bytesV (backL L)) ∧ Below w1.heap.size w1 w' := by
  obtain ⟨h1, h2, h3⟩ := (wordB_iff _).1 h
  have hs : L.length ≤ 60 := h1
  rw [hl] at hs
  have H := Lib.hid h
  have HR := Lib.hid (redX_back _ h2 h3)
  have HW := Lib.hid hw
  have HL := Lib.hid hl
  clear h h1 h2 h3 hw hl
  go_enter Try.func72, Try.ntmps72
  go_wp2_with fail
  refine (iTurned_any _ _ _ _).mono ?_
  rintro e w2 ⟨rfl, rfl⟩
  go_wp2_with fail
  have hrd := reduced_in 20 (by omega) (some ⟨w1.heap.size + 1, 0, none⟩) (w1.heap.size + 1) 0 1 [⟨113, #[.pointer (some ⟨w1.heap.size, 0, none⟩)], L.reverse.map invB⟩]
    ((w1.alloc (.cells #[.slice (some ⟨g, 0, none⟩) n cap] WT)).alloc (.cells #[.func (.func 113) #[] #[.pointer (some ⟨w1.heap.size, 0, none⟩)]] IT)) (fun _ => rfl) (by simp)
    (fun i h => by
      obtain rfl : i = 0 := by simpa using h
      exact (World.cell?_alloc_at _ _ _ _ (by simp)).trans rfl)
    (fun p hp => by
      obtain rfl := List.mem_singleton.1 hp
      exact ⟨turned_seq L (.slice (some ⟨g, 0, none⟩) n cap) _ w1.heap.size _ (by simp; omega) (Nat.le_refl _) ((Boxed.new w1 WT _).alloc _).cell (((HW.out.below (((Below.refl _ w1).alloc (Nat.le_refl _) _).alloc (by simp) _))).mono (by simp; omega)), enters_of Try.func113 (by kernel_rfl) rfl⟩)
    (by simp [cat]; rw [HL.out]; omega) (by simp)
  refine ((callsIn_wide (n := 20)).1 hrd).mono ?_
  clear hrd
  rintro e w4 ⟨g4, m, cap4, rfl, hm, hown, hb4⟩
  simp only [cat, List.map_cons, List.map_nil, List.flatten_cons, List.flatten_nil, List.append_nil] at hm hown
  rw [HR.out] at hm hown
  have hb : Below w1.heap.size w1 w4 := (((Below.refl _ w1).alloc (Nat.le_refl _) _).alloc (by simp) _).trans (hb4.mono (by simp; omega))
  obtain rfl : n = m := by rw [← hm, backL_length]; exact HL.out.symm
  have HO := Lib.hid (ownsRow_base hown (by simp; omega) : w4.ownsRow w1.heap.size 106 1 _ n _)
  clear hm hown hb4
  go_wp2_with fail
  go_ret
  exact ⟨g4, cap4, rfl, HO.out, hb⟩


end Go.Proofs.Ytidmlppbmcphbaa

/- The contracts of the program's 'WordTimes' and 'WordComm'. -/
import Derived.Test.YtaaeiogdhmiaaaaIw
import Derived.Test.YtaaeiogdhmiaaaaSd
import Derived.Deep.RegionHeld3
namespace Go.Proofs.Ytaaeiogdhmiaaaa
open Go.RowKit Go.Shelf

/-- Two words out of a list of two texts. -/
theorem wordsOf_two (a b : ByteArray) (w : World) (ha : wordB a.data.toList = true) (hb : wordB b.data.toList = true) :
    Calls Try.prog 123 #[.slice (some ⟨w.heap.size, 0, none⟩) 2 2] (w.alloc (.cells #[.string a, .string b] 9)) fun e w' =>
      ∃ g ga ca gb cb, e = .returned (.tuple #[.slice (some ⟨g, 0, none⟩) 2 2, .bool true]) ∧ w'.cell? ⟨g, 0, none⟩ = some (.slice (some ⟨ga, 0, none⟩) a.size ca) ∧ w'.cell? ⟨g, 1, none⟩ = some (.slice (some ⟨gb, 0, none⟩) b.size cb) ∧ g < w'.heap.size ∧
        Hid (IsWord w'.heap.size w' (.slice (some ⟨ga, 0, none⟩) a.size ca) a.data.toList) ∧ Hid (IsWord w'.heap.size w' (.slice (some ⟨gb, 0, none⟩) b.size cb) b.data.toList) ∧ Below w.heap.size w w' := by
  have hs : a.size ≤ 60 := by have := ((wordB_iff _).1 ha).1; simpa using this
  have hs2 : b.size ≤ 60 := by have := ((wordB_iff _).1 hb).1; simpa using this
  have hcells := cell_two_new w (.string a) (.string b) 9
  refine (wordsOf_any (some ⟨w.heap.size, 0, none⟩) w.heap.size 0 2 2 [a, b] _ rfl (by omega) (fun _ => rfl) (by simp) ?_ ?_).mono ?_
  · intro i h
    have hi : i = 0 ∨ i = 1 := by simp at h; omega
    rcases hi with rfl | rfl
    · exact hcells 0 (.string a) rfl
    · exact hcells 1 (.string b) rfl
  · intro s h
    unfold maxLen
    rcases List.mem_cons.1 h with rfl | h
    · omega
    · obtain rfl := List.mem_singleton.1 h; omega
  · rintro e w' ⟨⟨_, s, h, hf⟩ | ⟨g, vals, rfl, _, hown, hv⟩, hB⟩
    · rcases List.mem_cons.1 h with rfl | h
      · rw [ha] at hf; cases hf
      · obtain rfl := List.mem_singleton.1 h; rw [hb] at hf; cases hf
    · have hl := hown.1
      match vals, hl with
      | [v0, v1], _ =>
        have h0 := hv 0 (by simp) v0 rfl
        have h1 := hv 1 (by simp) v1 rfl
        obtain ⟨ga, ca, e0⟩ := h0.slice
        obtain ⟨gb, cb, e1⟩ := h1.slice
        have i0 := h0.isWord
        have i1 := h1.isWord
        subst e0 e1
        refine ⟨g, ga, ca, gb, cb, rfl, ?_, ?_, (ownsRow_cap hown).2.2.2, ?_, ?_, ((Below.refl _ w).alloc (Nat.le_refl _) _).trans (hB.mono (by simp))⟩
        · rw [hown.cellAt 0 (by omega)]; simp
        · rw [hown.cellAt 1 (by omega)]; simp
        · have := i0; simp at this; exact this
        · have := i1; simp at this; exact this

theorem wordsOf_two_no (a b : ByteArray) (w : World) (hma : a.size ≤ maxLen) (hmb : b.size ≤ maxLen) (h : ¬ (wordB a.data.toList = true ∧ wordB b.data.toList = true)) :
    Calls Try.prog 123 #[.slice (some ⟨w.heap.size, 0, none⟩) 2 2] (w.alloc (.cells #[.string a, .string b] 9)) fun e w' =>
      e = .returned (.tuple #[.slice none 0 0, .bool false]) ∧ Below w.heap.size w w' := by
  have hcells := cell_two_new w (.string a) (.string b) 9
  refine (wordsOf_any (some ⟨w.heap.size, 0, none⟩) w.heap.size 0 2 2 [a, b] _ rfl (by omega) (fun _ => rfl) (by simp) ?_ ?_).mono ?_
  · intro i h
    have hi : i = 0 ∨ i = 1 := by simp at h; omega
    rcases hi with rfl | rfl
    · exact hcells 0 (.string a) rfl
    · exact hcells 1 (.string b) rfl
  · intro s h
    rcases List.mem_cons.1 h with rfl | h
    · exact hma
    · obtain rfl := List.mem_singleton.1 h; exact hmb
  · rintro e w' ⟨⟨he, _⟩ | ⟨g, vals, rfl, hall, _⟩, hB⟩
    · exact ⟨he, ((Below.refl _ w).alloc (Nat.le_refl _) _).trans (hB.mono (by simp))⟩
    · exact absurd ⟨hall a (by simp), hall b (by simp)⟩ h

/-- A word in a box, and the function that gives letters out of it. -/
structure Item where
  gf : Nat
  sv : Value
  L : List UInt8
  xs : List UInt8
def Gives (it : Item) : Prop :=
  (∀ (W : World) (Bs n₀ : Nat), Bs < n₀ → n₀ ≤ W.heap.size → W.cell? ⟨Bs, 0, none⟩ = some it.sv → IsWord n₀ W it.sv it.L → SeqO n₀ W it.gf #[.pointer (some ⟨Bs, 0, none⟩)] it.xs) ∧
  ∀ args w, (callFunc it.gf args).run Try.prog w = .ok (.enter it.gf args) w
theorem gives_fwd (sv : Value) (L : List UInt8) : Gives ⟨139, sv, L, L⟩ :=
  ⟨fun W Bs n₀ h1 h2 h3 h4 => values_seq L sv W Bs n₀ (by omega) h2 h3 h4, enters_of Try.func139 (by kernel_rfl) rfl⟩
theorem gives_bwd (sv : Value) (L : List UInt8) : Gives ⟨137, sv, L, L.reverse.map invB⟩ :=
  ⟨fun W Bs n₀ h1 h2 h3 h4 => turned_seq L sv W Bs n₀ h1 h2 h3 h4, enters_of Try.func137 (by kernel_rfl) rfl⟩

def boxes : World → List Item → World
  | w, [] => w
  | w, it :: r => boxes (w.alloc (.cells #[it.sv] WT)) r
def funcs : Nat → List Item → List Value
  | _, [] => []
  | k, it :: r => .func (.func it.gf) #[] #[.pointer (some ⟨k, 0, none⟩)] :: funcs (k + 1) r
def partsOf : Nat → List Item → List Part
  | _, [] => []
  | k, it :: r => ⟨it.gf, #[.pointer (some ⟨k, 0, none⟩)], it.xs⟩ :: partsOf (k + 1) r
theorem boxes_size : ∀ (its : List Item) (w : World), (boxes w its).heap.size = w.heap.size + its.length
  | [], _ => rfl
  | it :: r, w => by rw [boxes, boxes_size r]; simp; omega
theorem boxes_below : ∀ (its : List Item) (w : World), Below w.heap.size w (boxes w its)
  | [], w => Below.refl _ _
  | it :: r, w => ((Below.refl _ w).alloc (Nat.le_refl _) _).trans ((boxes_below r _).mono (by simp))
theorem partsOf_len : ∀ (its : List Item) (k : Nat), (partsOf k its).length = its.length
  | [], _ => rfl
  | it :: r, k => by simp [partsOf, partsOf_len r]
theorem funcs_get : ∀ (its : List Item) (k i : Nat) (h : i < (partsOf k its).length), (funcs k its)[i]? = some (.func (.func (partsOf k its)[i].gf) #[] (partsOf k its)[i].lb)
  | [], _, _, h => by simp [partsOf] at h
  | it :: r, k, 0, _ => rfl
  | it :: r, k, i + 1, h => by
    simp only [partsOf, List.length_cons] at h
    simpa [partsOf, funcs] using funcs_get r (k + 1) i (by omega)
theorem parts_mem : ∀ (its : List Item) (w : World) (p : Part), p ∈ partsOf w.heap.size its → ∃ it ∈ its, ∃ B, p = ⟨it.gf, #[.pointer (some ⟨B, 0, none⟩)], it.xs⟩ ∧ B < (boxes w its).heap.size ∧ (boxes w its).cell? ⟨B, 0, none⟩ = some it.sv
  | [], _, _, h => by simp [partsOf] at h
  | it :: r, w, p, h => by
    rcases List.mem_cons.1 h with rfl | h
    · refine ⟨it, by simp, w.heap.size, rfl, by rw [boxes_size]; simp, ?_⟩
      exact ((boxes_below r (w.alloc (.cells #[it.sv] WT))).cell (p := ⟨w.heap.size, 0, none⟩) (by simp)).trans (Boxed.new w WT it.sv).cell
    · have h2 : p ∈ partsOf (w.alloc (.cells #[it.sv] WT)).heap.size r := by simpa using h
      obtain ⟨it2, hm, B, hp, hB, hc⟩ := parts_mem r _ p h2
      exact ⟨it2, by simp [hm], B, hp, hB, hc⟩
theorem cat_parts : ∀ (its : List Item) (k : Nat), cat (partsOf k its) = (its.map Item.xs).flatten
  | [], _ => rfl
  | it :: r, k => by
    have := cat_parts r (k + 1)
    simp only [cat] at this ⊢
    simp only [partsOf, List.map_cons, List.flatten_cons, this]
theorem cell_past {w : World} {p : Addr} {v : Value} (h : w.cell? p = some v) (o : Obj) : (w.alloc o).cell? p = some v := (World.cell?_alloc_lt w o p (World.block_lt_of_cell? w _ h)).trans h
theorem cell_drawn {w : World} {p : Addr} {v : Value} (h : w.cell? p = some v) : w.drew.cell? p = some v := h

/-- 'reduced' over boxed words. -/
theorem reduced_boxes (w : World) (its : List Item) (hG : ∀ it ∈ its, Gives it ∧ IsWord w.heap.size w it.sv it.L) (hl : (its.map Item.xs).flatten.length ≤ 100000000) (hn : its.length ≤ 1000000) :
    Calls Try.prog 104 #[.slice (some ⟨w.heap.size + its.length, 0, none⟩) its.length its.length] ((boxes w its).alloc (.cells (funcs w.heap.size its).toArray IT)).drew fun e w' =>
      ∃ g m cap', e = .returned (.slice (some ⟨g, 0, none⟩) m cap') ∧ (redX [] (its.map Item.xs).flatten).length = m ∧ w'.ownsRow w.heap.size 77 1 (.slice (some ⟨g, 0, none⟩) m cap') m (bytesV (redX [] (its.map Item.xs).flatten)) ∧ Below w.heap.size w w' := by
  have hbw := boxes_below its w
  have hsz := boxes_size its w
  have hbW : Below w.heap.size w ((boxes w its).alloc (.cells (funcs w.heap.size its).toArray IT)).drew := (hbw.alloc (by omega) _).drew
  have hr := reduced_in 20 (by omega) (some ⟨w.heap.size + its.length, 0, none⟩) (w.heap.size + its.length) 0 its.length (partsOf w.heap.size its) ((boxes w its).alloc (.cells (funcs w.heap.size its).toArray IT)).drew (fun _ => rfl)
    (by show _ < ((boxes w its).alloc (.cells (funcs w.heap.size its).toArray IT)).heap.size; simp; omega)
    (fun i h => by
      show ((boxes w its).alloc (.cells (funcs w.heap.size its).toArray IT)).cell? _ = _
      rw [World.cell?_alloc_at _ _ _ _ (by show _ = _; omega)]
      rw [Nat.zero_add, List.getElem?_toArray]
      exact funcs_get its _ i h)
    (fun p hp => by
      obtain ⟨it, hm, B, rfl, hB, hc⟩ := parts_mem its w p hp
      obtain ⟨hg, hw⟩ := hG it hm
      refine ⟨hg.1 _ B _ ?_ (Nat.le_refl _) (cell_drawn (cell_past hc _)) ((hw.below hbW).mono ?_), hg.2⟩
      · show B < ((boxes w its).alloc (.cells (funcs w.heap.size its).toArray IT)).heap.size; simp; omega
      · show _ ≤ ((boxes w its).alloc (.cells (funcs w.heap.size its).toArray IT)).heap.size; simp; omega)
    (by rw [cat_parts]; exact hl) (by rw [partsOf_len]; exact hn)
  rw [cat_parts, partsOf_len] at hr
  refine ((callsIn_wide (n := 20)).1 hr).mono ?_
  rintro e w' ⟨g, m, cap', rfl, hm, hown, hb⟩
  have hsW : w.heap.size ≤ ((boxes w its).alloc (.cells (funcs w.heap.size its).toArray IT)).drew.heap.size := hbW.size
  exact ⟨g, m, cap', rfl, hm, ownsRow_base hown hsW, hbW.trans (hb.mono hsW)⟩

end Go.Proofs.Ytaaeiogdhmiaaaa

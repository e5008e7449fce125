/- A slice of strings that came in, and its copy. -/
import Derived.Test.YtaaeiogdhmiaaaaJb
namespace Go.Proofs.Ytaaeiogdhmiaaaa
open Go.RowKit

/-- The slice at a of n cells holds the strings zs. -/
structure IsStrs (w : World) (a : Option Addr) (n : Nat) (zs : List ByteArray) : Prop where
  len : zs.length = n
  max : n ≤ maxLen
  at_ : StrsAt w a zs
theorem strsAt_new (w : World) (a : Option Addr) (len : Nat) (ss : List ByteArray) (x : Addr) (ha : a = some x) (hl : len ≤ ss.length) (hc : ∀ i, i < ss.length → w.cell? (x.add i) = some (.string (ss.getD i ByteArray.empty))) (hm : ∀ s ∈ ss, s.size ≤ maxLen) : StrsAt w a (ss.take len) :=
  ⟨fun h0 => ⟨x, ha, by
      have := hc 0 (by simp at h0; omega)
      have h := World.block_lt_of_cell? _ _ this
      rw [addr_add_block] at h
      exact h, fun i hi => by
      simp only [List.length_take] at hi
      have := hc i (by omega)
      rw [List.getElem_take]
      rw [List.getD_eq_getElem?_getD, List.getElem?_eq_getElem (by omega)] at this
      exact this⟩, fun s hs => hm s (List.mem_of_mem_take hs)⟩

theorem strsAt_of_owns {w : World} {base g cap n : Nat} {e : TypeId} {zs : List ByteArray} (hn : zs.length = n) (h : w.ownsRow base e 1 (.slice (some ⟨g, 0, none⟩) n cap) n (strsV zs)) (hm : ∀ s ∈ zs, s.size ≤ maxLen) :
    StrsAt w (some ⟨g, 0, none⟩) zs ∧ g < w.heap.size ∧ ∀ i (h : i < zs.length), w.cell? ⟨g, i, none⟩ = some (.string zs[i]) := by
  have hg : g < w.heap.size := by
    rcases h.2 with ⟨h, _⟩ | ⟨g1, cap1, cur, h1, _, hgb, _⟩
    · cases h
    · cases h1; exact (Array.getElem?_eq_some_iff.1 hgb).1
  have hc : ∀ i (h : i < zs.length), w.cell? ⟨g, i, none⟩ = some (.string zs[i]) := fun i hi => by
    rw [h.cellAt i (by omega)]
    simp [strsV, hi]
  refine ⟨⟨fun _ => ⟨_, rfl, hg, fun i hi => ?_⟩, hm⟩, hg, hc⟩
  have e1 : (⟨g, 0, none⟩ : Addr).add i = ⟨g, i, none⟩ := by unfold Addr.add; split <;> simp_all
  rw [e1]; exact hc i hi

end Go.Proofs.Ytaaeiogdhmiaaaa

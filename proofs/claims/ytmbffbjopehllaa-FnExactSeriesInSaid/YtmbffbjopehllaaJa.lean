/- The contracts of the laws' own helpers on slices of ints: are two equal, put marks in, are the marks still there. -/
import Derived.Test.YtmbffbjopehllaaSa
namespace Go.Proofs.Ytmbffbjopehllaa
open Go.RowKit

def intsV (zs : List Int) : List Value := zs.map (Value.int .i64)
theorem intsV_len (zs : List Int) : (intsV zs).length = zs.length := by simp [intsV]
theorem infoInt : (Try.prog.info? 3).map (fun i => (i.zero, i.size, i.bytes)) = some (some (.int .i64 0), 1, 8) := by kernel_rfl

/-- The value v is a slice of the call's own that holds the ints zs, in a block from base on. -/
def IntRow (base : Nat) (w : World) (v : Value) (zs : List Int) : Prop := w.ownsRow base 3 1 v zs.length (intsV zs)

theorem IntRow.shape {base : Nat} {w : World} {v : Value} {zs : List Int} (h : IntRow base w v zs) :
    ∃ a g cap, v = .slice a zs.length cap ∧ (0 < zs.length → a = some ⟨g, 0, none⟩ ∧ base ≤ g ∧ g < w.heap.size) ∧ zs.length ≤ maxLen ∧ ∀ j (hj : j < zs.length), w.cell? ⟨g, j, none⟩ = some (.int .i64 zs[j]) ∧ w.frozen? ⟨g, j, none⟩ = false := by
  rcases h.2 with ⟨rfl, h0⟩ | ⟨g, cap, cur, rfl, hb, hg, hn, hc, _⟩
  · exact ⟨none, 0, 0, by rw [h0], fun h => by omega, by rw [h0]; exact Nat.zero_le _, fun j hj => by omega⟩
  · refine ⟨some ⟨g, 0, none⟩, g, cap, rfl, fun _ => ⟨rfl, hb, (Array.getElem?_eq_some_iff.1 hg).1⟩, Nat.le_trans hn hc, fun j hj => ⟨?_, h.frozenAt j⟩⟩
    rw [h.cellAt j (by omega)]
    simp [intsV, hj]
theorem IntRow.below {base : Nat} {w w' : World} {v : Value} {zs : List Int} (h : IntRow base w v zs) (hb : Below w.heap.size w w') : IntRow base w' v zs :=
  h.kept ⟨hb.os, hb.tape, hb.output, hb.size, fun j hj _ => hb.block j hj⟩ (row := none) (by
    rcases h.2 with ⟨rfl, _⟩ | ⟨g, cap, cur, rfl, _⟩
    · exact .inl rfl
    · exact .inr (by simp [Value.ownBlock]))
theorem IntRow.mono {b1 b2 : Nat} {w : World} {v : Value} {zs : List Int} (h : IntRow b1 w v zs) (hb : b2 ≤ b1) : IntRow b2 w v zs := ownsRow_base h hb

/-- The marks k, k + 1, .. -/
def marks (k n : Nat) : List Int := (List.range n).map fun i => ((k + i : Nat) : Int)
theorem marks_succ (k j : Nat) : marks k (j + 1) = marks k j ++ [((k + j : Nat) : Int)] := by simp [marks, List.range_succ]
theorem marks_len (k n : Nat) : (marks k n).length = n := by simp [marks]


end Go.Proofs.Ytmbffbjopehllaa

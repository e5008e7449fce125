/- The contracts of the laws' own helpers on slices of strings: the size they take, a copy of them, are two equal. -/
import Derived.Test.YtmbffbjopehllaaSa
namespace Go.Proofs.Ytmbffbjopehllaa
open Go.RowKit

def strsV (zs : List ByteArray) : List Value := zs.map Value.string
theorem strsV_len (zs : List ByteArray) : (strsV zs).length = zs.length := by simp [strsV]
theorem infoStr : (Try.prog.info? 9).map (fun i => (i.zero, i.size, i.bytes)) = some (some (.string ByteArray.empty), 1, 16) := by kernel_rfl

theorem addr_add_block (x : Addr) (i : Nat) : (x.add i).block = x.block := by
  obtain ⟨b, off, sb⟩ := x
  unfold Addr.add
  split <;> rfl

/-- A slice at a whose first cells are the strings zs. -/
structure StrsAt (w : World) (a : Option Addr) (zs : List ByteArray) : Prop where
  cells : 0 < zs.length → ∃ x : Addr, a = some x ∧ x.block < w.heap.size ∧ ∀ i (h : i < zs.length), w.cell? (x.add i) = some (.string zs[i])
  small : ∀ s ∈ zs, s.size ≤ maxLen
theorem StrsAt.below {w w' : World} {a : Option Addr} {zs : List ByteArray} (h : StrsAt w a zs) (hb : Below w.heap.size w w') : StrsAt w' a zs :=
  ⟨fun h0 => by
    obtain ⟨x, e, h1, h2⟩ := h.cells h0
    exact ⟨x, e, Nat.lt_of_lt_of_le h1 hb.size, fun i hi => (hb.cell (p := x.add i) (by rw [addr_add_block]; exact h1)).trans (h2 i hi)⟩, h.small⟩

theorem fillS_set (zs : List ByteArray) (n k : Nat) (hl : zs.length = n) (hk : k < n) :
    (strsV (zs.take k ++ List.replicate (n - k) ByteArray.empty)).set k (.string (zs[k]'(by omega))) = strsV (zs.take (k + 1) ++ List.replicate (n - (k + 1)) ByteArray.empty) := by
  unfold strsV
  rw [List.map_append, List.set_append_right _ _ (by simp; omega), List.length_map, List.length_take, Nat.min_eq_left (by omega), Nat.sub_self, List.take_succ_eq_append_getElem (by omega : k < zs.length), show n - k = (n - (k + 1)) + 1 by omega, List.replicate_succ, List.map_cons, List.set_cons_zero, List.map_append, List.map_append, List.append_assoc]
  rfl


end Go.Proofs.Ytmbffbjopehllaa

/- A law's answer of a braid and a Bool: a region that draws its order, calls and lays a box. -/
import Derived.Test.YtaaeiogdhmiaaaaCj
import Derived.Deep.DeepCutAuto
namespace Go.Proofs.Ytaaeiogdhmiaaaa
open Go.RowKit

/-- A box of a braid that still holds zeros. -/
def BoxE (w : World) (j : Nat) : Prop := j < w.heap.size ∧ w.cell? ⟨j, 0, none⟩ = some (.int .i64 0) ∧ w.cell? ⟨j, 1, none⟩ = some (.string { data := #[] }) ∧ w.frozen? ⟨j, 0, none⟩ = false ∧ w.frozen? ⟨j, 1, none⟩ = false
theorem BoxE.below {w w' : World} {j : Nat} (h : BoxE w j) (hb : Below w.heap.size w w') : BoxE w' j := by
  have e := hb.block j h.1
  refine ⟨Nat.lt_of_lt_of_le h.1 hb.size, ?_, ?_, ?_, ?_⟩
  · rw [← h.2.1]; simp [World.cell?, e]
  · rw [← h.2.2.1]; simp [World.cell?, e]
  · rw [← h.2.2.2.1]; simp [World.frozen?, e]
  · rw [← h.2.2.2.2]; simp [World.frozen?, e]
theorem BoxE.new (w : World) : BoxE (w.alloc (.cells #[.int .i64 0, .string { data := #[] }] 26)) w.heap.size := by
  have h := oneBox (w := w) (n := 0) (s := { data := #[] }) (t := 26) rfl
  obtain ⟨⟨c0, c1⟩, f0, f1⟩ := boxOf2 h.2.2 (Below.refl _ _)
  exact ⟨by simp, c0, c1, f0, f1⟩
theorem BoxE.of {w w' : World} (hb : Below (w.alloc (.cells #[.int .i64 0, .string { data := #[] }] 26)).heap.size (w.alloc (.cells #[.int .i64 0, .string { data := #[] }] 26)) w') : BoxE w' w.heap.size := (BoxE.new w).below hb
theorem BoxE.ofd {w w' : World} (hb : Below (w.alloc (.cells #[.int .i64 0, .string { data := #[] }] 26)).drew.heap.size (w.alloc (.cells #[.int .i64 0, .string { data := #[] }] 26)).drew w') : BoxE w' w.heap.size :=
  (BoxE.new w).below (Below.trans (Below.refl _ _).drew hb)
theorem belowE_alloc {b : Nat} {w w1 w2 : World} {o : Obj} (h : Below b w w1) (hs : b ≤ w1.heap.size) (hb : Below (w1.alloc o).heap.size (w1.alloc o) w2) : Below b w w2 :=
  (h.alloc hs o).trans (hb.mono (by rw [World.size_alloc]; omega))
theorem belowE_drewAlloc {b : Nat} {w w1 w2 : World} {o : Obj} (h : Below b w w1) (hs : b ≤ w1.heap.size) (hb : Below (w1.alloc o).drew.heap.size (w1.alloc o).drew w2) : Below b w w2 :=
  ((h.alloc hs o).drew).trans (hb.mono (by show b ≤ (w1.alloc o).heap.size; rw [World.size_alloc]; omega))
theorem two_aheadB {a b : Nat} (h : a + 1 < b) : ¬ a = b ∧ ¬ b = a ∧ ¬ a + 1 = b ∧ ¬ b = a + 1 ∧ ¬ a = b + 1 ∧ ¬ b + 1 = a := by omega
/-- The answer (a braid, b) lies in a box. -/
def AnsB (w wx : World) (s1 s2 : Value) (m : Int) (t : ByteArray) (b : Bool) : Prop :=
  ∃ j : Nat, s1 = .pointer (some ⟨j, 0, none⟩) ∧ s2 = .bool b ∧ (j < wx.heap.size ∧ wx.cell? ⟨j, 0, none⟩ = some (.int .i64 m) ∧ wx.cell? ⟨j, 1, none⟩ = some (.string t)) ∧ w.heap.size ≤ j ∧ Below w.heap.size w wx
theorem ansBA {w V : World} {m : Int} {t : ByteArray} {b : Bool} (hB : Below w.heap.size w V) :
    AnsB w (V.alloc (.cells #[.int .i64 m, .string t] 26)) (.pointer (some ⟨V.heap.size, 0, none⟩)) (.bool b) m t b := by
  have h := oneBox (w := V) (n := m) (s := t) (t := 26) rfl
  obtain ⟨⟨c0, c1⟩, _, _⟩ := boxOf2 h.2.2 (Below.refl _ _)
  exact ⟨V.heap.size, rfl, rfl, ⟨by simp, c0, c1⟩, hB.size, hB.alloc hB.size _⟩
theorem ansBC {w V : World} {m : Int} {t : ByteArray} {b : Bool} {j : Nat} (hB : Below w.heap.size w V) (hZ : BoxE V j) (hj : w.heap.size ≤ j) :
    AnsB w ((V.setCell ⟨j, 0, none⟩ (.int .i64 m)).setCell ⟨j, 1, none⟩ (.string t)) (.pointer (some ⟨j, 0, none⟩)) (.bool b) m t b := by
  obtain ⟨h0, h1, h2, _, _⟩ := hZ
  refine ⟨j, rfl, rfl, ⟨by simp; exact h0, ?_, ?_⟩, hj, (hB.setCell (p := ⟨j, 0, none⟩) hj _).setCell (p := ⟨j, 1, none⟩) hj _⟩
  · go_simp
  · go_simp

end Go.Proofs.Ytaaeiogdhmiaaaa

/- A loop over slices.Backward at bytes, whose body may write where it will, but for the bytes and their box. -/
import Derived.Test.YtaaeiogdhmiaaaaCm
namespace Go.Proofs.Ytaaeiogdhmiaaaa
open Go.RowKit Go.Shelf

attribute [local go_sem] Oper.semAt_some

/-- What a round keeps: two blocks, and the marks. -/
def KeepS2 (b1 b2 : Nat) (N : Nat) (X Y : World) : Prop := (Y.heap[b1]? = X.heap[b1]? ∧ Y.heap[b2]? = X.heap[b2]?) ∧ KeepsFrom N X Y
theorem KeepS2.trans {b1 b2 N : Nat} {X Y Z : World} (h : KeepS2 b1 b2 N X Y) (k : KeepS2 b1 b2 N Y Z) : KeepS2 b1 b2 N X Z := ⟨⟨k.1.1.trans h.1.1, k.1.2.trans h.1.2⟩, h.2.trans k.2⟩

theorem cell_block {X Y : World} {b o : Nat} (h : Y.heap[b]? = X.heap[b]?) : Y.cell? ⟨b, o, none⟩ = X.cell? ⟨b, o, none⟩ := by simp [World.cell?, h]

/-- The law at slices.Backward of bytes. -/
theorem range_backB {n : Nat} {g : Operand} {p0 p1 : Tmp} {assign body : Code} {Q : Exit → Act → World → Prop} {a : Act} {w : World} {Bs g0 off cap : Nat} {L : List UInt8} (hn : 14 ≤ n)
    (hg : a.eval g = .func (.func 109) #[] #[.pointer (some ⟨Bs, 0, none⟩)])
    (hb : Boxed w Bs 62 (.slice (some ⟨g0, off, none⟩) L.length cap)) (hg0 : g0 < w.heap.size) (hL : L.length ≤ 100000) (hc : ∀ j (h : j < L.length), w.cell? ⟨g0, off + j, none⟩ = some (.int .u8 (L[j].toNat : Int)))
    (I : List (Nat × UInt8) → World → Prop) (hI : OwnFrom w.heap.size I) (h0 : I [] w) (a₁ : Nat × UInt8 → Act)
    (hassign : ∀ (l : Nat) (x : Nat × UInt8) (W : World) (K : Act → World → Prop), K (a₁ x) W →
      assign.wpIn (Fence.wide.inRound l) (n - 1 - 1) Try.prog (Exit.then K (fun _ _ _ => False)) { tmps := (#[p0, p1].zip (encI x)).foldl (fun t (q, v) => t.setIfInBounds q v) a.tmps, defers := [] } W)
    (hbody : ∀ (l : Nat) (pre : List (Nat × UInt8)) (x : Nat × UInt8) (W : World), I pre W → pre ++ [x] <+: bk L 0 →
      body.wpIn (Fence.wide.inRound l) (n - 1 - 1) Try.prog (goesOn w.heap.size (KeepS2 Bs g0) I (pre ++ [x]) W) (a₁ x) W)
    (hdone : ∀ (D : Nat) (W : World), w.heap.size ≤ D → I (bk L 0) W → W.heap[D]? = some (.deferred (some [])) → Q .normal { a with defers := { target := .collected D, args := #[] } :: a.defers } W) :
    (Code.rangeFunc g #[p0, p1] assign body).wpIn Fence.wide n Try.prog Q a w :=
  range_law (by omega) hg (enters_of Try.func109 (by kernel_rfl) rfl) (encs := encI) (fun _ => rfl) (KeepS2 Bs g0) (fun h k => h.trans k)
    (fun N W l o o' hl hwl hW ho hwk => ⟨⟨World.putObj_heap_other (fun e => by have := hb.lt; omega), World.putObj_heap_other (fun e => by omega)⟩, KeepsFrom.of_grownBy (grownBy_putObj' W l o') (fun j e => by cases e; exact hl)⟩)
    (fun h => ⟨h.1, keepsFrom_mono h.2 (by omega)⟩) (xs := bk L 0)
    (fun l J V hV hlt hJ hY h0 => backwardB1_in (n - 1) (by omega) l Bs V.heap.size (KeepS2 Bs g0 V.heap.size) (fun h k => h.trans k) (fun A => ⟨⟨rfl, rfl⟩, KeepsFrom.refl _ _⟩) L (.slice (some ⟨g0, off, none⟩) L.length cap) J hY V
      (fun W' hk => by
        have h1 : Boxed V Bs 62 (.slice (some ⟨g0, off, none⟩) L.length cap) := (hV.block _ hb.lt).trans hb
        have h2 : Boxed W' Bs 62 (.slice (some ⟨g0, off, none⟩) L.length cap) := hk.1.1.trans h1
        exact h2.cell)
      (fun W' hk => ⟨g0, off, cap, rfl, by have := hV.size; omega, hL, fun j hj => (cell_block (hk.1.2.trans (hV.block _ hg0))).trans (hc j hj)⟩) h0) I hI h0 a₁ hassign hbody hdone

end Go.Proofs.Ytaaeiogdhmiaaaa

/- The contract of the model's 'SumOf'. -/
import Derived.Test.YtmbffbjopehllaaTn
import Derived.StillTailTactics
namespace Go.Proofs.Ytmbffbjopehllaa
open Go.RowKit Go.Shelf

theorem acc_zero (w : World) : Acc w.heap.size (w.alloc (.cells #[] TI)) (.slice (some ⟨w.heap.size, 0, none⟩) 0 0) [] 0 0 := ⟨ownEmpty w, Nat.le_refl _, fun u h => (by cases h), fun u h => (by cases h)⟩
theorem termB_iff {t : Tm} (h : termB t = true) : t.s.size ≤ 60 ∧ -1000000 ≤ t.c ∧ t.c ≤ 1000000 := by
  unfold termB inR at h
  simp only [Bool.and_eq_true, decide_eq_true_eq] at h
  exact ⟨by have := ((wordB_iff _).1 h.1).1; simpa using this, h.2⟩
theorem fold_succ (ts : List Tm) (k : Nat) (h : k < ts.length) : (ts.take (k + 1)).foldl addT [] = addT ((ts.take k).foldl addT []) ts[k] := by
  rw [List.take_succ_eq_append_getElem h, List.foldl_append]; rfl

/-- What SumOf answers. -/
def ofB (ts : List Tm) : Bool := twB ts && sumB (canonT ts)


end Go.Proofs.Ytmbffbjopehllaa

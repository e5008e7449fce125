/- The contracts of slices.IndexFunc and slices.ContainsFunc at 'isZero'. -/
import Derived.Test.YtmbffbjopehllaaTe
namespace Go.Proofs.Ytmbffbjopehllaa
open Go.RowKit Go.Shelf

abbrev ZF : Value := .func (.func 70) #[] #[]
/-- r is the first place of a coefficient 0, or -1. -/
def FirstZero (ts : List Tm) (r : Int) : Prop :=
  (r = -1 ∧ ∀ j (h : j < ts.length), ts[j].c ≠ 0) ∨ ∃ (i : Nat) (h : i < ts.length), r = i ∧ ts[i].c = 0 ∧ ∀ j (h : j < i), ts[j].c ≠ 0

def hasZero (ts : List Tm) : Bool := ts.any fun t => t.c == 0
theorem hasZero_first {ts : List Tm} {r : Int} (h : FirstZero ts r) : hasZero ts = decide (0 ≤ r) := by
  unfold hasZero
  rcases h with ⟨rfl, h⟩ | ⟨i, hi, rfl, h, _⟩
  · rw [List.any_eq_false.2]
    · rfl
    · intro t ht
      obtain ⟨j, hj, rfl⟩ := List.getElem_of_mem ht
      simpa using h j hj
  · rw [decide_eq_true (by omega : (0 : Int) ≤ i)]
    exact List.any_eq_true.2 ⟨_, List.getElem_mem hi, by simpa using h⟩

/-- A list that is in order. -/
def ascB (ts : List Tm) : Bool := (List.range ts.length).all fun j => decide (j = 0) || lessW (ts.getD (j - 1) default).s (ts.getD j default).s

end Go.Proofs.Ytmbffbjopehllaa

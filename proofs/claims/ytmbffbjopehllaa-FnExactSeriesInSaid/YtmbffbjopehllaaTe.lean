/- The contracts of the program's 'termWords', 'isZero', 'inRange'. -/
import Derived.Test.YtmbffbjopehllaaTd
import Derived.Test.YtmbffbjopehllaaIw
namespace Go.Proofs.Ytmbffbjopehllaa
open Go.RowKit Go.Shelf

/-- Is a term as SumOf wants it? -/
def termB (t : Tm) : Bool := wordB t.s.data.toList && inR (-1000000) 1000000 t.c
def twB (ts : List Tm) : Bool := decide (ts.length ≤ 300) && ts.all termB
theorem twB_len {ts : List Tm} (h : ¬ ts.length ≤ 300) : twB ts = false := by unfold twB; rw [decide_eq_false h, Bool.false_and]
theorem twB_at {ts : List Tm} {k : Nat} (hk : k < ts.length) (h : termB ts[k] = false) : twB ts = false := by
  unfold twB
  rw [Bool.and_eq_false_iff]
  exact .inr (List.all_eq_false.2 ⟨_, List.getElem_mem hk, by simp [h]⟩)
theorem twB_of {ts : List Tm} (h : ts.length ≤ 300) (ha : ∀ j (hj : j < ts.length), termB ts[j] = true) : twB ts = true := by
  unfold twB
  rw [decide_eq_true h, Bool.true_and]
  exact List.all_eq_true.2 fun t ht => by
    obtain ⟨j, hj, rfl⟩ := List.getElem_of_mem ht
    exact ha j hj

theorem inRange_is (t : Tm) (r : Bool) (w : World) (h : inR (-1000000) 1000000 t.c = r) :
    Calls Try.prog 69 #[.agg #[.int .i64 t.c, .string t.s]] w fun e w' => e = .returned (.bool r) ∧ Below w.heap.size w w' := by
  subst h
  obtain ⟨c, s⟩ := t
  by_cases h : -1000000 ≤ c
  · go_enter Try.func69, Try.ntmps69
    go_wp2
    go_ret
    exact ⟨ret_bool (by unfold inR; rw [decide_eq_true h]; simp), (Below.refl _ _).alloc (Nat.le_refl _) _⟩
  · go_enter Try.func69, Try.ntmps69
    go_wp2
    go_ret
    exact ⟨ret_bool (by unfold inR; rw [decide_eq_false (by omega : ¬ -1000000 ≤ c)]; rfl), (Below.refl _ _).alloc (Nat.le_refl _) _⟩

theorem isZero_any (t : Tm) (w : World) :
    Calls Try.prog 70 #[.agg #[.int .i64 t.c, .string t.s]] w fun e w' => e = .returned (.bool (t.c == 0)) ∧ Grew w w' := by
  obtain ⟨c, s⟩ := t
  go_enter Try.func70, Try.ntmps70
  go_wp2
  go_ret
  exact ⟨rfl, (Grew.refl w).alloc _⟩


end Go.Proofs.Ytmbffbjopehllaa

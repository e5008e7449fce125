/- What acting hands back, for the promises on it. -/
import Derived.Test.YtaaeiogdhmiaaaaCz
import Derived.Test.YtaaeiogdhmiaaaaCf
namespace Go.Proofs.Ytaaeiogdhmiaaaa
open Go.RowKit

/-- A word and a Bool, and what the word is where the Bool is true. -/
theorem act_shape (b : Bool) (o : Option (List UInt8)) : ∃ t c, actR b o = .tuple #[.string t, .bool c] ∧ (c = true → b = true ∧ o = some t.data.toList) ∧ (c = false → t = { data := #[] }) ∧ t.size ≤ (o.getD []).length := by
  cases b with
  | false => exact ⟨_, _, rfl, (fun h => by cases h), (fun _ => rfl), Nat.zero_le _⟩
  | true =>
    cases o with
    | none => exact ⟨_, _, rfl, (fun h => by cases h), (fun _ => rfl), Nat.zero_le _⟩
    | some l => exact ⟨bstr l, true, rfl, (fun _ => ⟨rfl, rfl⟩), (fun h => by cases h), by rw [bstr_size]; exact Nat.le_refl _⟩
theorem act_gens {N : Nat} (hN : 2 ≤ N ∧ N ≤ 4) {s : List UInt8} (hs : ∀ c ∈ s, brB c = true ∧ plN c + 1 < N) {r : List UInt8} (h : actL s (gensL N) = some r) : r = gensL N := by
  rw [actL_F _ _ _ h]; exact act_prod N hN s hs
theorem ba_eq {a b : ByteArray} (h : a.data.toList = b.data.toList) : a = b := by
  cases a; cases b
  simp at h
  simp [h]

end Go.Proofs.Ytaaeiogdhmiaaaa

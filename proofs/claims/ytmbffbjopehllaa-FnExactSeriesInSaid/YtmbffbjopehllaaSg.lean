/- The contracts of the model's 'l1Four', 'l1Put' and 'WordPut'. -/
import Derived.Test.YtmbffbjopehllaaSd
import Derived.Test.YtmbffbjopehllaaSe
import Derived.Test.YtmbffbjopehllaaJb
namespace Go.Proofs.Ytmbffbjopehllaa
open Go.RowKit

def wordsB (zs : List ByteArray) : Bool := zs.all fun s => wordB s.data.toList
/-- Are these four words? -/
def fourB (zs : List ByteArray) : Bool := wordsB zs && decide (zs.length = 4)

theorem wordsB_false (zs : List ByteArray) (k : Nat) (hk : k < zs.length) (h : wordB zs[k].data.toList = false) : wordsB zs = false :=
  List.all_eq_false.2 ⟨_, List.getElem_mem hk, by simp [h]⟩
theorem wordsB_of (zs : List ByteArray) (h : ∀ j (hj : j < zs.length), wordB zs[j].data.toList = true) : wordsB zs = true :=
  List.all_eq_true.2 fun s hs => by
    obtain ⟨j, hj, rfl⟩ := List.mem_iff_getElem.1 hs
    exact h j hj

/-- The image of a letter, and of a row of letters. -/
def imgL (zs : List ByteArray) (c : UInt8) : List UInt8 := if c.toNat < 97 then backL (zs.getD (idxB c) ByteArray.empty).data.toList else (zs.getD (idxB c) ByteArray.empty).data.toList
def putL (zs : List ByteArray) (l : List UInt8) : List UInt8 := (l.map (imgL zs)).flatten
theorem putL_snoc (zs : List ByteArray) (l : List UInt8) (c : UInt8) : putL zs (l ++ [c]) = putL zs l ++ imgL zs c := by simp [putL]
theorem imgL_len (zs : List ByteArray) (c : UInt8) (h : ∀ z ∈ zs, z.size ≤ 60) (hc : idxB c < zs.length) : (imgL zs c).length ≤ 60 := by
  have h1 : (zs.getD (idxB c) ByteArray.empty) ∈ zs := by
    rw [List.getD_eq_getElem?_getD, List.getElem?_eq_getElem hc]; exact List.getElem_mem hc
  have h2 := h _ h1
  unfold imgL
  split
  · rw [backL_length]; simpa using h2
  · simpa using h2

theorem fourB_iff (zs : List ByteArray) : fourB zs = true ↔ zs.length = 4 ∧ ∀ z ∈ zs, wordB z.data.toList = true := by
  unfold fourB wordsB
  rw [Bool.and_eq_true, List.all_eq_true, decide_eq_true_iff, and_comm]


end Go.Proofs.Ytmbffbjopehllaa

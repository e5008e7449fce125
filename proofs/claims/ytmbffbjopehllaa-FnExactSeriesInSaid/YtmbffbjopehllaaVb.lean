/- The contracts of the model's 'l3Fox' and 'FoxOf'. -/
import Derived.Test.YtmbffbjopehllaaVa
import Derived.Test.YtmbffbjopehllaaSe
import Derived.Test.YtmbffbjopehllaaUq
namespace Go.Proofs.Ytmbffbjopehllaa
open Go.RowKit Go.Shelf

theorem Acc.more {base : Nat} {w : World} {v : Value} {acc : List Tm} {N N' : Nat} {B B' : Int} (h : Acc base w v acc N B) (hN : N ≤ N') (hB : B ≤ B') : Acc base w v acc N' B' :=
  ⟨h.own, Nat.le_trans h.len hN, fun u hu => by have := h.bnd u hu; omega, h.sml⟩
theorem extract_take (s : ByteArray) (k : Nat) : s.extract 0 k = bstr (s.data.toList.take k) := by
  apply bytes_ext
  rw [Lib.extract_data, bstr_toList]; simp


end Go.Proofs.Ytmbffbjopehllaa

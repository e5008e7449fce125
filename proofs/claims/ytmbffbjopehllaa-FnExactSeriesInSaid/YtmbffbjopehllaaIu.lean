/- The contract of the program's 'WordTurned'. -/
import Derived.Test.YtmbffbjopehllaaIt
import Derived.Test.YtmbffbjopehllaaIe
import Derived.Test.YtmbffbjopehllaaMathb
namespace Go.Proofs.Ytmbffbjopehllaa
open Go.RowKit Go.Shelf

theorem isWord_of_owns {base g cap n n₀ : Nat} {e : TypeId} {l : List UInt8} {w : World} (hl : l.length = n) (hn : n ≤ 100000) (hown : w.ownsRow base e 1 (.slice (some ⟨g, 0, none⟩) n cap) n (bytesV l)) (hg : w.heap.size ≤ n₀) :
    IsWord n₀ w (.slice (some ⟨g, 0, none⟩) n cap) l := by
  subst hl
  obtain ⟨h1, h2⟩ := letters_of_owns hown
  exact ⟨g, 0, cap, rfl, by omega, hn, h2⟩

abbrev IT : TypeId := 83


end Go.Proofs.Ytmbffbjopehllaa

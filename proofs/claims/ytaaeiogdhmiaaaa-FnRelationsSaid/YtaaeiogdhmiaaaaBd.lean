/- The contract of the laws' 'braid'. -/
import Derived.Test.YtaaeiogdhmiaaaaBc
import Derived.Test.YtaaeiogdhmiaaaaCh
namespace Go.Proofs.Ytaaeiogdhmiaaaa
open Go.RowKit Go.Shelf

attribute [local go_sem] Oper.semAt_some

set_option maxRecDepth 100000 in
set_option maxHeartbeats 1000000 in
theorem lawBraid_any (n : Int) (s : ByteArray) (w : World) :
    Calls Try.prog 57 #[.int .i64 n, .string s] w fun e w' => e = .returned (brV n s) ∧ Below w.heap.size w w' := by
  go_enter Try.func57, Try.ntmps57
  go_wp2
  obtain ⟨W, hW⟩ : ∃ W, w.alloc (.cells #[.int .i64 n, .string s] 26) = W := ⟨_, rfl⟩
  obtain ⟨h1, _, h3⟩ := oneBox hW
  obtain ⟨⟨c0, c1⟩, _, _⟩ := boxOf2 h3 (Below.refl _ W)
  rw [hW]
  refine bodyPost_ret (v := brV n s) ?_ rfl ⟨rfl, h1⟩
  simp [results, Try.results57, go_sem, c0, c1]

end Go.Proofs.Ytaaeiogdhmiaaaa

/- Turned braids, for the promise on them. -/
import Derived.Test.YtaaeiogdhmiaaaaBc
import Derived.Test.YtaaeiogdhmiaaaaCa
namespace Go.Proofs.Ytaaeiogdhmiaaaa
open Go.RowKit

theorem turn_tab2 : ∀ n : Fin 256, brB (UInt8.ofNat n.val) = true → turnB (turnB (UInt8.ofNat n.val)) = UInt8.ofNat n.val ∧ brB (turnB (UInt8.ofNat n.val)) = true ∧ plN (turnB (UInt8.ofNat n.val)) = plN (UInt8.ofNat n.val) := by decide +kernel
theorem turn_br {c : UInt8} (h : brB c = true) : turnB (turnB c) = c ∧ brB (turnB c) = true ∧ plN (turnB c) = plN c := by
  have := turn_tab2 ⟨c.toNat, c.toNat_lt⟩
  simp only [UInt8.ofNat_toNat] at this
  exact this h
theorem backB_back (l : List UInt8) (h : ∀ c ∈ l, brB c = true) : backL (backL l) = l := by
  unfold backL
  rw [← List.map_reverse, List.reverse_reverse, List.map_map]
  conv => rhs; rw [← List.map_id l]
  exact List.map_congr_left fun c hc => (turn_br (h c hc)).1
theorem backB_mem {l : List UInt8} {c : UInt8} (hc : c ∈ backL l) : ∃ d ∈ l, c = turnB d := by
  unfold backL at hc
  obtain ⟨d, hd, rfl⟩ := List.mem_map.1 hc
  exact ⟨d, by simpa using hd, rfl⟩
theorem braid_turned {n : Int} {s : ByteArray} (h : braidB n s = true) : braidB n (bstr (backL s.data.toList)) = true := by
  obtain ⟨h1, h2, h3⟩ := braid_all h
  unfold braidB
  simp only [Bool.and_eq_true, decide_eq_true_eq, List.all_eq_true]
  refine ⟨⟨h1, by rw [bstr_size, backL_length]; simpa using h2⟩, fun c hc => ?_⟩
  obtain ⟨d, hd, rfl⟩ := backB_mem hc
  obtain ⟨_, e2, e3⟩ := turn_br (h3 d hd).1
  unfold brL
  rw [e2, e3]
  simpa using (h3 d hd).2

end Go.Proofs.Ytaaeiogdhmiaaaa

/- The draws of the laws on one braid (made by mkcv.py). -/
import Derived.Test.YtaaeiogdhmiaaaaCu
namespace Go.Proofs.Ytaaeiogdhmiaaaa
open Go.RowKit Go.Shelf

theorem BsAt.moreB {b1 b2 : Nat} {w : World} {a : Option Addr} {n cap : Nat} {zs : List Int} (h : BsAt b1 w a n cap zs) (hb : b1 ≤ b2) : BsAt b2 w a n cap zs :=
  ⟨h.len, h.fit, fun h0 => by obtain ⟨x, e, hx, hc⟩ := h.at_ h0; exact ⟨x, e, by omega, hc⟩, h.byte⟩
/-- What a draw of a braid gives. -/
def DrawsB (w : World) (e : Ending) (w' : World) : Prop := (∃ (m : Int) (s : ByteArray), e = .returned (brV m s) ∧ (2 ≤ m ∧ m ≤ 4) ∧ s.size ≤ 5) ∧ Below w.heap.size w w'

set_option maxRecDepth 100000 in
set_option maxHeartbeats 1000000 in
theorem drawBraidIn_any (a : Option Addr) (n cap : Nat) (zs : List Int) (w : World) (h : BsAt w.heap.size w a n cap zs) :
    Calls Try.prog 56 #[.slice a n cap] w (DrawsB w) := by
  obtain ⟨W, hW⟩ : ∃ W, w.alloc (.cells #[.int .i64 0, .string { data := #[] }] 26) = W := ⟨_, rfl⟩
  have HX := Lib.hid (oneBox hW)
  have HO := Lib.hid (open_any a n cap zs W ((h.below HX.out.1).moreB HX.out.1.size))
  have HW := Lib.hid hW
  clear h hW
  go_enter Try.func56, Try.ntmps56
  go_wp2_with fail
  rw [HW.out]
  refine HO.out.mono ?_
  rintro e w1 ⟨n', zs', rfl, hR1, hB1⟩
  have HK1 : Hid (w1.heap[w.heap.size]? = some (.cells #[.int .i64 0, .string { data := #[] }] 26 (0, 0))) := Lib.hid ((hB1.block _ (by have := HX.out.2.1; omega)).trans HX.out.2.2)
  have HBr := Lib.hid (l92Braid_grown W.heap.size W.heap.size a n' cap zs' 0 w1 hR1 (by omega) hB1.size)
  have HB1 := Lib.hid hB1
  have hs1 : w.heap.size < w1.heap.size := by have h1 := HX.out.2.1; have h2 := hB1.size; omega
  clear hR1 hB1
  go_wp2_with fail
  refine HBr.out.mono ?_
  rintro e w2 ⟨⟨m, s, rfl, hm, hs⟩, _, hB2, hk2⟩
  have hk := (hk2 w.heap.size hs1 (by have := HX.out.2.1; omega)).trans HK1.out
  obtain ⟨⟨d0, d1⟩, f0, f1⟩ := boxOf2 hk (Below.refl _ w2)
  have HB2 := Lib.hid (HX.out.1.trans ((HB1.out.trans hB2).mono HX.out.1.size))
  clear hk hk2 hB2
  go_wp2
  refine bodyPost_ret (v := brV m s) ?_ rfl ⟨⟨m, s, rfl, hm, hs⟩, below_two HB2.out (Nat.le_refl _) _ _⟩
  simp [results, Try.results56, go_sem, d0, d1]

set_option maxRecDepth 100000 in
set_option maxHeartbeats 1000000 in
theorem drawBraidTurned_any (a : Option Addr) (n cap : Nat) (zs : List Int) (w : World) (h : BsAt w.heap.size w a n cap zs) :
    Calls Try.prog 59 #[.slice a n cap] w (DrawsB w) := by
  obtain ⟨W, hW⟩ : ∃ W, w.alloc (.cells #[.int .i64 0, .string { data := #[] }] 26) = W := ⟨_, rfl⟩
  have HX := Lib.hid (oneBox hW)
  have HO := Lib.hid (open_any a n cap zs W ((h.below HX.out.1).moreB HX.out.1.size))
  have HW := Lib.hid hW
  clear h hW
  go_enter Try.func59, Try.ntmps59
  go_wp2_with fail
  rw [HW.out]
  refine HO.out.mono ?_
  rintro e w1 ⟨n', zs', rfl, hR1, hB1⟩
  have HK1 : Hid (w1.heap[w.heap.size]? = some (.cells #[.int .i64 0, .string { data := #[] }] 26 (0, 0))) := Lib.hid ((hB1.block _ (by have := HX.out.2.1; omega)).trans HX.out.2.2)
  have HBr := Lib.hid (l92Braid_grown W.heap.size W.heap.size a n' cap zs' 0 w1 hR1 (by omega) hB1.size)
  have HB1 := Lib.hid hB1
  have hs1 : w.heap.size < w1.heap.size := by have h1 := HX.out.2.1; have h2 := hB1.size; omega
  clear hR1 hB1
  go_wp2_with fail
  refine HBr.out.mono ?_
  rintro e w2 ⟨⟨m, s, rfl, hm, hs⟩, _, hB2, hk2⟩
  have hk := (hk2 w.heap.size hs1 (by have := HX.out.2.1; omega)).trans HK1.out
  obtain ⟨⟨d0, d1⟩, f0, f1⟩ := boxOf2 hk (Below.refl _ w2)
  have HB2 := Lib.hid (HX.out.1.trans ((HB1.out.trans hB2).mono HX.out.1.size))
  clear hk hk2 hB2
  go_wp2
  refine bodyPost_ret (v := brV m s) ?_ rfl ⟨⟨m, s, rfl, hm, hs⟩, below_two HB2.out (Nat.le_refl _) _ _⟩
  simp [results, Try.results59, go_sem, d0, d1]

set_option maxRecDepth 100000 in
set_option maxHeartbeats 1000000 in
theorem drawBraidPerm_any (a : Option Addr) (n cap : Nat) (zs : List Int) (w : World) (h : BsAt w.heap.size w a n cap zs) :
    Calls Try.prog 63 #[.slice a n cap] w (DrawsB w) := by
  obtain ⟨W, hW⟩ : ∃ W, w.alloc (.cells #[.int .i64 0, .string { data := #[] }] 26) = W := ⟨_, rfl⟩
  have HX := Lib.hid (oneBox hW)
  have HO := Lib.hid (open_any a n cap zs W ((h.below HX.out.1).moreB HX.out.1.size))
  have HW := Lib.hid hW
  clear h hW
  go_enter Try.func63, Try.ntmps63
  go_wp2_with fail
  rw [HW.out]
  refine HO.out.mono ?_
  rintro e w1 ⟨n', zs', rfl, hR1, hB1⟩
  have HK1 : Hid (w1.heap[w.heap.size]? = some (.cells #[.int .i64 0, .string { data := #[] }] 26 (0, 0))) := Lib.hid ((hB1.block _ (by have := HX.out.2.1; omega)).trans HX.out.2.2)
  have HBr := Lib.hid (l92Braid_grown W.heap.size W.heap.size a n' cap zs' 0 w1 hR1 (by omega) hB1.size)
  have HB1 := Lib.hid hB1
  have hs1 : w.heap.size < w1.heap.size := by have h1 := HX.out.2.1; have h2 := hB1.size; omega
  clear hR1 hB1
  go_wp2_with fail
  refine HBr.out.mono ?_
  rintro e w2 ⟨⟨m, s, rfl, hm, hs⟩, _, hB2, hk2⟩
  have hk := (hk2 w.heap.size hs1 (by have := HX.out.2.1; omega)).trans HK1.out
  obtain ⟨⟨d0, d1⟩, f0, f1⟩ := boxOf2 hk (Below.refl _ w2)
  have HB2 := Lib.hid (HX.out.1.trans ((HB1.out.trans hB2).mono HX.out.1.size))
  clear hk hk2 hB2
  go_wp2
  refine bodyPost_ret (v := brV m s) ?_ rfl ⟨⟨m, s, rfl, hm, hs⟩, below_two HB2.out (Nat.le_refl _) _ _⟩
  simp [results, Try.results63, go_sem, d0, d1]

set_option maxRecDepth 100000 in
set_option maxHeartbeats 1000000 in
theorem drawBraidSum_any (a : Option Addr) (n cap : Nat) (zs : List Int) (w : World) (h : BsAt w.heap.size w a n cap zs) :
    Calls Try.prog 66 #[.slice a n cap] w (DrawsB w) := by
  obtain ⟨W, hW⟩ : ∃ W, w.alloc (.cells #[.int .i64 0, .string { data := #[] }] 26) = W := ⟨_, rfl⟩
  have HX := Lib.hid (oneBox hW)
  have HO := Lib.hid (open_any a n cap zs W ((h.below HX.out.1).moreB HX.out.1.size))
  have HW := Lib.hid hW
  clear h hW
  go_enter Try.func66, Try.ntmps66
  go_wp2_with fail
  rw [HW.out]
  refine HO.out.mono ?_
  rintro e w1 ⟨n', zs', rfl, hR1, hB1⟩
  have HK1 : Hid (w1.heap[w.heap.size]? = some (.cells #[.int .i64 0, .string { data := #[] }] 26 (0, 0))) := Lib.hid ((hB1.block _ (by have := HX.out.2.1; omega)).trans HX.out.2.2)
  have HBr := Lib.hid (l92Braid_grown W.heap.size W.heap.size a n' cap zs' 0 w1 hR1 (by omega) hB1.size)
  have HB1 := Lib.hid hB1
  have hs1 : w.heap.size < w1.heap.size := by have h1 := HX.out.2.1; have h2 := hB1.size; omega
  clear hR1 hB1
  go_wp2_with fail
  refine HBr.out.mono ?_
  rintro e w2 ⟨⟨m, s, rfl, hm, hs⟩, _, hB2, hk2⟩
  have hk := (hk2 w.heap.size hs1 (by have := HX.out.2.1; omega)).trans HK1.out
  obtain ⟨⟨d0, d1⟩, f0, f1⟩ := boxOf2 hk (Below.refl _ w2)
  have HB2 := Lib.hid (HX.out.1.trans ((HB1.out.trans hB2).mono HX.out.1.size))
  clear hk hk2 hB2
  go_wp2
  refine bodyPost_ret (v := brV m s) ?_ rfl ⟨⟨m, s, rfl, hm, hs⟩, below_two HB2.out (Nat.le_refl _) _ _⟩
  simp [results, Try.results66, go_sem, d0, d1]

set_option maxRecDepth 100000 in
set_option maxHeartbeats 1000000 in
theorem drawBraidKnot_any (a : Option Addr) (n cap : Nat) (zs : List Int) (w : World) (h : BsAt w.heap.size w a n cap zs) :
    Calls Try.prog 67 #[.slice a n cap] w (DrawsB w) := by
  obtain ⟨W, hW⟩ : ∃ W, w.alloc (.cells #[.int .i64 0, .string { data := #[] }] 26) = W := ⟨_, rfl⟩
  have HX := Lib.hid (oneBox hW)
  have HO := Lib.hid (open_any a n cap zs W ((h.below HX.out.1).moreB HX.out.1.size))
  have HW := Lib.hid hW
  clear h hW
  go_enter Try.func67, Try.ntmps67
  go_wp2_with fail
  rw [HW.out]
  refine HO.out.mono ?_
  rintro e w1 ⟨n', zs', rfl, hR1, hB1⟩
  have HK1 : Hid (w1.heap[w.heap.size]? = some (.cells #[.int .i64 0, .string { data := #[] }] 26 (0, 0))) := Lib.hid ((hB1.block _ (by have := HX.out.2.1; omega)).trans HX.out.2.2)
  have HBr := Lib.hid (l92Braid_grown W.heap.size W.heap.size a n' cap zs' 0 w1 hR1 (by omega) hB1.size)
  have HB1 := Lib.hid hB1
  have hs1 : w.heap.size < w1.heap.size := by have h1 := HX.out.2.1; have h2 := hB1.size; omega
  clear hR1 hB1
  go_wp2_with fail
  refine HBr.out.mono ?_
  rintro e w2 ⟨⟨m, s, rfl, hm, hs⟩, _, hB2, hk2⟩
  have hk := (hk2 w.heap.size hs1 (by have := HX.out.2.1; omega)).trans HK1.out
  obtain ⟨⟨d0, d1⟩, f0, f1⟩ := boxOf2 hk (Below.refl _ w2)
  have HB2 := Lib.hid (HX.out.1.trans ((HB1.out.trans hB2).mono HX.out.1.size))
  clear hk hk2 hB2
  go_wp2
  refine bodyPost_ret (v := brV m s) ?_ rfl ⟨⟨m, s, rfl, hm, hs⟩, below_two HB2.out (Nat.le_refl _) _ _⟩
  simp [results, Try.results67, go_sem, d0, d1]

end Go.Proofs.Ytaaeiogdhmiaaaa

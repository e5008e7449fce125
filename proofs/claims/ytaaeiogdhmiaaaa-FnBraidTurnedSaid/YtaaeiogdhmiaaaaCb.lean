/- The laws' own helpers for braids: szBraid, toBraid, eqBraid. -/
import Derived.Test.YtaaeiogdhmiaaaaCa
import Derived.Test.YtaaeiogdhmiaaaaSa
import Derived.ChangeSame
import Derived.ChangeOld
namespace Go.Proofs.Ytaaeiogdhmiaaaa
open Go.RowKit Go.ChangeShapes Go.WideShapes

/-- A braid as a value. -/
abbrev brV (n : Int) (s : ByteArray) : Value := .agg #[.int .i64 n, .string s]

theorem braid_of {H : Type} {enc : TypeId × Value → H} {W : World} {base : Nat} {spare : Nat → Bool} {held : Bool} {fuel : Nat} {cs : Array Value} {x : DataW H × List MemPlace}
    (h : DataW.trod enc Try.prog W base spare held fuel 23 cs.toList = some x) : ∃ (n : Int) (s : ByteArray), cs = #[.int .i64 n, .string s] ∧ (-9223372036854775808 ≤ n ∧ n ≤ 9223372036854775807) ∧ s.size ≤ maxLen := by
  obtain ⟨y0, y1, n, rfl, hl, h0, h1⟩ := trod_struct2 Try.underlying23 h
  have hc : cs.toList.length = 2 := hl.trans (by kernel_rfl)
  match hcs : cs.toList, hc with
  | [u, v], _ =>
    rw [hcs] at h0 h1
    obtain ⟨k, hk, _, hwf⟩ := DataW.trod_int Try.underlying3 h0
    have hu : u = .int .i64 k := by simpa [show Try.prog.cellsOf 3 = 1 by kernel_rfl] using hk
    have h1' : DataW.trod enc Try.prog W base spare held n 9 [v] = some y1 := by simpa [show Try.prog.cellsOf 9 = 1 by kernel_rfl] using h1
    obtain ⟨s, hs, _, hsz⟩ := DataW.trod_string Try.underlying9 h1'
    simp at hs
    subst hs
    simp only [Lit.wf, Bool.and_eq_true, decide_eq_true_eq] at hwf
    exact ⟨k, s, by rw [← hu]; exact Array.toList_inj.1 hcs, ⟨hwf.1, hwf.2⟩, hsz⟩

set_option maxHeartbeats 1000000 in
theorem szBraid_yes (n : Int) (s : ByteArray) (left : Nat) (w : World) (hl : left ≤ 1048576) (hs : s.size ≤ left) :
    Calls Try.prog 22 #[brV n s, .int .i64 left] w fun e w' => e = .returned (.int .i64 ((left - s.size : Nat) : Int)) ∧ Below w.heap.size w w' := by
  have hb : Below w.heap.size w (w.alloc (.cells #[.int .i64 n, .string s] 23)) := (Below.refl _ w).alloc (Nat.le_refl _) _
  have HB := Lib.hid hb
  clear hb
  have hd : decide ((left : Int) - (s.size : Int) < 0) = false := decide_eq_false (by omega)
  have he : Hid ((left : Int) - (s.size : Int) = ((left - s.size : Nat) : Int)) := Lib.hid (by omega)
  go_enter Try.func22, Try.ntmps22
  go_wp2
  go_ret
  exact ⟨ret_int he.out, HB.out⟩
set_option maxHeartbeats 1000000 in
theorem szBraid_no (n : Int) (s : ByteArray) (left : Nat) (w : World) (hl : left ≤ 1048576) (hm : s.size ≤ maxLen) (hs : left < s.size) :
    Calls Try.prog 22 #[brV n s, .int .i64 left] w fun e w' => e = .returned (.int .i64 (-1)) ∧ Below w.heap.size w w' := by
  unfold maxLen at hm
  have hb : Below w.heap.size w (w.alloc (.cells #[.int .i64 n, .string s] 23)) := (Below.refl _ w).alloc (Nat.le_refl _) _
  have HB := Lib.hid hb
  clear hb
  have hd : decide ((left : Int) - (s.size : Int) < 0) = true := decide_eq_true (by omega)
  go_enter Try.func22, Try.ntmps22
  go_wp2
  go_ret
  exact ⟨rfl, HB.out⟩

/-- A box of a braid among three that were made. -/
theorem mid_box (w : World) (o p : Obj) (n : Int) (s : ByteArray) (t : TypeId) :
    (((w.alloc o).alloc (.cells #[.int .i64 n, .string s] t)).alloc p).heap[w.heap.size + 1]? = some (.cells #[.int .i64 n, .string s] t (0, 0)) := by
  have h := World.alloc_heap_new (w.alloc o) (.cells #[.int .i64 n, .string s] t)
  rw [World.size_alloc] at h
  rw [Below.heap_alloc _ _ _ (by simp)]
  exact h

set_option maxRecDepth 100000 in
set_option maxHeartbeats 1000000 in
theorem toBraid_any (n : Int) (s : ByteArray) (w : World) :
    Calls Try.prog 24 #[brV n s] w fun e w' => e = .returned (brV n s) ∧ Below w.heap.size w w' := by
  go_enter Try.func24, Try.ntmps24
  go_wp2
  have h1 := mid_box w (.cells #[.int .i64 n, .string s] 23) (.cells #[.int .i64 n, .string s] 26) n s 26
  have hB : Below w.heap.size w (((w.alloc (.cells #[.int .i64 n, .string s] 23)).alloc (.cells #[.int .i64 n, .string s] 26)).alloc (.cells #[.int .i64 n, .string s] 26)) := (((Below.refl _ w).alloc (Nat.le_refl _) _).alloc (by simp) _).alloc (by simp; omega) _
  generalize ((w.alloc (.cells #[.int .i64 n, .string s] 23)).alloc (.cells #[.int .i64 n, .string s] 26)).alloc (.cells #[.int .i64 n, .string s] 26) = W at h1 hB ⊢
  have e0 : W.cell? ⟨w.heap.size + 1, 0, none⟩ = some (.int .i64 n) := by simp [World.cell?, h1]
  have e1 : W.cell? ⟨w.heap.size + 1, 1, none⟩ = some (.string s) := by simp [World.cell?, h1]
  refine bodyPost_ret (v := brV n s) ?_ rfl ⟨rfl, hB⟩
  simp [results, Try.results24, go_sem, e0, e1]

set_option maxHeartbeats 1000000 in
theorem eqBraid_yes (n : Int) (s : ByteArray) (w : World) :
    Calls Try.prog 28 #[brV n s, brV n s] w fun e w' => e = .returned (.bool true) ∧ Below w.heap.size w w' := by
  have hb : Below w.heap.size w ((w.alloc (.cells #[.int .i64 n, .string s] 26)).alloc (.cells #[.int .i64 n, .string s] 26)) := ((Below.refl _ w).alloc (Nat.le_refl _) _).alloc (by simp) _
  have HB := Lib.hid hb
  clear hb
  have h1 : (n != n) = false := by simp
  go_enter Try.func28, Try.ntmps28
  go_wp2
  go_ret
  exact ⟨rfl, HB.out⟩

end Go.Proofs.Ytaaeiogdhmiaaaa

/- The contracts of the program's small functions on letters, and of the iterators over a text and over a word. -/
import Derived.Test.YtaaeiogdhmiaaaaSa
import Derived.RangeFuncNested
import Derived.RangeFuncBound
import Derived.RangeFuncCalls
import Derived.RangeFuncLeaves
import Derived.Shelf.Abstract
import Derived.Shelf.RegionOpen
import Derived.OwnWalkIn
import Derived.TacticsInMore
import Derived.LoopNIn
import Derived.LoopIn
namespace Go.Proofs.Ytaaeiogdhmiaaaa
open Go.RowKit Go.Shelf

theorem xor_tab : ((List.range 256).all fun n => decide (bits BinOp.xor IntKind.u8 (n : Int) 32 = ((invB (UInt8.ofNat n)).toNat : Int))) = true := by kernel_rfl
theorem or_tab : ((List.range 256).all fun n => (decide (97 ≤ bits BinOp.or IntKind.u8 (n : Int) 32) && decide (bits BinOp.or IntKind.u8 (n : Int) 32 < 101)) == (decide ((97 ≤ n ∧ n ≤ 100) ∨ (65 ≤ n ∧ n ≤ 68)))) = true := by kernel_rfl

theorem xor_let (c : UInt8) : bits BinOp.xor IntKind.u8 (c.toNat : Int) 32 = ((invB c).toNat : Int) := by
  have := List.all_eq_true.1 xor_tab c.toNat (List.mem_range.2 c.toNat_lt)
  simp only [decide_eq_true_eq, UInt8.ofNat_toNat] at this
  exact this
theorem or_let (c : UInt8) : (decide (97 ≤ bits BinOp.or IntKind.u8 (c.toNat : Int) 32) && decide (bits BinOp.or IntKind.u8 (c.toNat : Int) 32 < 101)) = letB c := by
  have := List.all_eq_true.1 or_tab c.toNat (List.mem_range.2 c.toNat_lt)
  rw [beq_iff_eq] at this
  rw [this]; rfl

theorem inverse_any (c : UInt8) (w : World) :
    Calls Try.prog 75 #[.int .u8 (c.toNat : Int)] w fun e w' => e = .returned (.int .u8 ((invB c).toNat : Int)) ∧ w' = w := by
  have H := Lib.hid (xor_let c)
  go_enter Try.func75, Try.ntmps75
  go_wp2
  go_ret
  exact ⟨ret_int H.out, rfl⟩

theorem known_any (c : UInt8) (w : World) :
    Calls Try.prog 130 #[.int .u8 (c.toNat : Int)] w fun e w' => e = .returned (.bool (letB c)) ∧ w' = w := by
  have H := Lib.hid (or_let c)
  go_enter Try.func130, Try.ntmps130
  go_wp2
  · go_ret
    refine ⟨ret_bool ?_, rfl⟩
    rw [← H.out]
    have h1 : 97 ≤ bits BinOp.or IntKind.u8 (c.toNat : Int) 32 := by assumption
    simp [h1]
  · go_ret
    refine ⟨ret_bool ?_, rfl⟩
    rw [← H.out]
    have h1 : bits BinOp.or IntKind.u8 (c.toNat : Int) 32 < 97 := by first | assumption | omega
    have h2 : ¬ 97 ≤ bits BinOp.or IntKind.u8 (c.toNat : Int) 32 := by omega
    simp [h2]

theorem known_is (c : UInt8) (b : Bool) (w : World) (h : letB c = b) :
    Calls Try.prog 130 #[.int .u8 (c.toNat : Int)] w fun e w' => e = .returned (.bool b) ∧ w' = w := by
  rw [← h]; exact known_any c w

theorem infoLet : (Try.prog.info? 77).map (fun i => (i.zero, i.size, i.bytes)) = some (some (.int .u8 0), 1, 1) := by kernel_rfl

/-- 'with': the stack's step. -/
theorem with_pop (g cap n base : Nat) (p : List UInt8) (x c : UInt8) (w : World) (hn : 0 < n) (hx : x = invB c) (hp : p.length + 1 = n)
    (hown : w.ownsRow base 77 1 (.slice (some ⟨g, 0, none⟩) n cap) n (bytesV (p ++ [x]))) :
    Calls Try.prog 88 #[.slice (some ⟨g, 0, none⟩) n cap, .int .u8 (c.toNat : Int)] w fun e w' =>
      e = .returned (.slice (some ⟨g, 0, none⟩) (n - 1) cap) ∧ ∃ q, w' = w.drewN q := by
  obtain ⟨hnc, hcm, hbg, hgs⟩ := ownsRow_cap hown
  unfold maxLen at hcm
  have hcx : w.cell? ⟨g, n - 1, none⟩ = some (.int .u8 (x.toNat : Int)) := by
    have := hown.cells rfl (n - 1) (.int .u8 (x.toNat : Int)) (by
      simp [bytesV]
      rw [show n - 1 = p.length by omega]; simp)
    rw [show (⟨g, n - 1, none⟩ : Addr) = (⟨g, 0, none⟩ : Addr).add (n - 1) by simp [Addr.add]]
    exact this
  have ht : ((x.toNat : Int) == ((invB c).toNat : Int)) = true := by rw [hx]; simp
  have HN := Lib.hid hp
  have hd : decide ((1 : Int) ≤ (n : Int)) = true := by simp; omega
  clear hx hp
  go_enter Try.func88, Try.ntmps88
  go_wp2
  go_quiet ((go_at_call 75; exact Calls.quiet_of_same (inverse_any _ _)))
  go_wp2
  go_ret
  exact ⟨by simp, _, rfl⟩

theorem with_push (g cap n base : Nat) (l : List UInt8) (c : UInt8) (w : World) (hx : l.getLast? ≠ some (invB c)) (hl : l.length = n) (hn : n ≤ 1000000000) (hbs : base ≤ w.heap.size)
    (hown : w.ownsRow base 77 1 (.slice (some ⟨g, 0, none⟩) n cap) n (bytesV l)) :
    Calls Try.prog 88 #[.slice (some ⟨g, 0, none⟩) n cap, .int .u8 (c.toNat : Int)] w fun e w' =>
      ∃ g' cap', e = .returned (.slice (some ⟨g', 0, none⟩) (n + 1) cap') ∧ w'.ownsRow base 77 1 (.slice (some ⟨g', 0, none⟩) (n + 1) cap') (n + 1) (bytesV (l ++ [c])) ∧ w.grownBy w' (some g) := by
  obtain ⟨i0, hi, hz0, hz1, hz2⟩ := info_parts infoLet
  obtain ⟨hnc, hcm, hbg, hgs⟩ := ownsRow_cap hown
  unfold maxLen at hcm
  by_cases hn0 : 0 < n
  · obtain ⟨p, x, rfl⟩ : ∃ p x, l = p ++ [x] := last_split l (by omega)
    have hcx : w.cell? ⟨g, n - 1, none⟩ = some (.int .u8 (x.toNat : Int)) := by
      have := hown.cells rfl (n - 1) (.int .u8 (x.toNat : Int)) (by
        simp [bytesV]
        rw [show n - 1 = p.length by simp at hl; omega]; simp)
      rw [show (⟨g, n - 1, none⟩ : Addr) = (⟨g, 0, none⟩ : Addr).add (n - 1) by simp [Addr.add]]
      exact this
    have ht : ((x.toNat : Int) == ((invB c).toNat : Int)) = false := by
      rw [beq_eq_false_iff_ne]
      intro e
      exact hx (by simp; exact UInt8.toNat_inj.1 (by omega))
    have HX := Lib.hid hx
    have HN := Lib.hid hl
    have hd : decide ((1 : Int) ≤ (n : Int)) = true := by simp; omega
    clear hx hl
    go_enter Try.func88, Try.ntmps88
    go_wp2
    go_quiet ((go_at_call 75; exact Calls.quiet_of_same (inverse_any _ _)))
    go_wp2_with (at_builtin; refine wpList_append_own _ rfl _ _ 87 rfl base 77 i0 (.int .u8 0) 1 1 Try.underlying87 hi hz0 hz1 hz2 rfl (by decide) _ _ _ rfl ((ownsRow_drewN hown _).alloc _) ⟨w.heap.size, 0, none⟩ 1 1 [.int .u8 (c.toNat : Int)] rfl rfl (cell_one_new _ _ _) (fun u hu => by simp at hu; subst hu; rfl) (by unfold maxLen; omega) (by omega) (by simp; omega) ?_)
    intro v' w2 hown' hgrow' _
    obtain ⟨g', cap', rfl⟩ := ownsRow_succ hown'
    go_wp2
    go_ret
    exact ⟨g', cap', rfl, by rw [bytesV_append]; exact hown', ⟨hgrow'.os, hgrow'.tape, hgrow'.output, Nat.le_trans (by simp) hgrow'.size, fun k hk hne => (hgrow'.block k (by simp; omega) hne).trans (Below.heap_alloc _ _ _ (by simpa using hk))⟩⟩
  · obtain rfl : n = 0 := by omega
    obtain rfl : l = [] := List.length_eq_zero_iff.1 hl
    clear hx hl
    go_enter Try.func88, Try.ntmps88
    go_wp2
    go_quiet (fail)
    go_wp2_with (at_builtin; refine wpList_append_own _ rfl _ _ 87 rfl base 77 i0 (.int .u8 0) 1 1 Try.underlying87 hi hz0 hz1 hz2 rfl (by decide) _ _ _ rfl ((ownsRow_drewN hown _).alloc _) ⟨w.heap.size, 0, none⟩ 1 1 [.int .u8 (c.toNat : Int)] rfl rfl (cell_one_new _ _ _) (fun u hu => by simp at hu; subst hu; rfl) (by unfold maxLen; omega) (by omega) (by simp; omega) ?_)
    intro v' w2 hown' hgrow' _
    obtain ⟨g', cap', rfl⟩ := ownsRow_succ hown'
    go_wp2
    go_ret
    exact ⟨g', cap', rfl, by exact hown', ⟨hgrow'.os, hgrow'.tape, hgrow'.output, Nat.le_trans (by simp) hgrow'.size, fun k hk hne => (hgrow'.block k (by simp; omega) hne).trans (Below.heap_alloc _ _ _ (by simpa using hk))⟩⟩

/-- 'with': one step of the stack on a row that the caller owns. -/
theorem with_any (g cap n base : Nat) (l : List UInt8) (c : UInt8) (w : World) (hl : l.length = n) (hn : n ≤ 1000000000) (hbs : base ≤ w.heap.size)
    (hown : w.ownsRow base 77 1 (.slice (some ⟨g, 0, none⟩) n cap) n (bytesV l)) :
    Calls Try.prog 88 #[.slice (some ⟨g, 0, none⟩) n cap, .int .u8 (c.toNat : Int)] w fun e w' =>
      ∃ g' n' cap', e = .returned (.slice (some ⟨g', 0, none⟩) n' cap') ∧ (stepX l c).length = n' ∧ w'.ownsRow base 77 1 (.slice (some ⟨g', 0, none⟩) n' cap') n' (bytesV (stepX l c)) ∧ w.grownBy w' (some g) := by
  by_cases hx : l.getLast? = some (invB c)
  · have hn0 : 0 < n := by
      rw [← hl]; cases l with
      | nil => simp at hx
      | cons a l => simp
    obtain ⟨p, x, rfl⟩ := last_split l (by omega)
    have hxe : x = invB c := by simpa using hx
    have hp : p.length + 1 = n := by rw [← hl]; simp
    refine (with_pop g cap n base p x c w hn0 hxe hp hown).mono ?_
    rintro e w' ⟨rfl, q, rfl⟩
    refine ⟨g, n - 1, cap, rfl, by rw [stepX_pop p x c hxe]; omega, ?_, ⟨rfl, rfl, rfl, Nat.le_refl _, fun _ _ _ => rfl⟩⟩
    rw [stepX_pop p x c hxe]
    obtain rfl := hp
    rw [bytesV_append] at hown
    exact ownsRow_drewN (ownsRow_pop (by simp [bytesV_length]) hown) q
  · refine (with_push g cap n base l c w hx hl hn hbs hown).mono ?_
    rintro e w' ⟨g', cap', rfl, h1, h2⟩
    have hs : stepX l c = l ++ [c] := by unfold stepX; rw [if_neg hx]
    exact ⟨g', n + 1, cap', rfl, by rw [hs]; simp [hl], by rw [hs]; exact h1, h2⟩

theorem signsOf_any (s : ByteArray) (w : World) :
    Calls Try.prog 70 #[.string s] w fun e w' => e = .returned (.func (.func 106) #[] #[.pointer (some ⟨w.heap.size, 0, none⟩)]) ∧ w' = w.alloc (.cells #[.string s] 9) := by
  go_enter Try.func70, Try.ntmps70
  go_wp2
  go_ret
  exact ⟨rfl, rfl⟩
end Go.Proofs.Ytaaeiogdhmiaaaa

/- What the laws' proofs stand on, part 3 of 5. -/
import Derived.StillTailTactics
import Derived.Deep.DeepCutAuto
import Derived.StillTail
import Derived.Test.YtocklmiappppgaaBa
import Derived.Test.YtocklmiappppgaaBb

/- min and max of ints; the model's l6pSum. -/

namespace Go.Proofs.Ytocklmiappppgaa
open Go.RowKit

theorem min_int (x y : Int) (W : World) : (Builtin.min_ #[3, 3] 3 #[.int .i64 x, .int .i64 y]).run Try.prog W = .ok (.int .i64 (if x ≤ y then x else y)) W := by
  by_cases h : x ≤ y
  · rw [if_pos h]; simp [Builtin.min_, Builtin.min2, go_sem]; omega
  · rw [if_neg h]; simp [Builtin.min_, Builtin.min2, go_sem]; omega
theorem max_int (x y : Int) (W : World) : (Builtin.max_ #[3, 3] 3 #[.int .i64 x, .int .i64 y]).run Try.prog W = .ok (.int .i64 (if y ≤ x then x else y)) W := by
  by_cases h : y ≤ x
  · rw [if_pos h]; simp [Builtin.max_, Builtin.max2, go_sem]; omega
  · rw [if_neg h]; simp [Builtin.max_, Builtin.max2, go_sem]; omega

/-- Two boxes and the answer's cells behind them. -/
theorem boxes3 {w w1 W : World} {t1 t2 t3 : TypeId} {x y u v : Value} (hW : ((w.alloc (.cells #[x, y] t1)).alloc (.cells #[u, v] t2)).alloc (.cells #[.int .i64 0, .slice none 0 0] t3) = W) (hg : Below W.heap.size W w1) :
    (w1.cell? ⟨w.heap.size, 0, none⟩ = some x ∧ w1.cell? ⟨w.heap.size, 1, none⟩ = some y) ∧ (w1.cell? ⟨w.heap.size + 1, 0, none⟩ = some u ∧ w1.cell? ⟨w.heap.size + 1, 1, none⟩ = some v) ∧ (w1.cell? ⟨w.heap.size + 2, 0, none⟩ = some (.int .i64 0) ∧ w1.cell? ⟨w.heap.size + 2, 1, none⟩ = some (.slice none 0 0) ∧ w1.frozen? ⟨w.heap.size + 2, 0, none⟩ = false ∧ w1.frozen? ⟨w.heap.size + 2, 1, none⟩ = false) := by
  have hsz : W.heap.size = w.heap.size + 3 := by rw [← hW]; simp
  have e0 := hg.block w.heap.size (by omega)
  have e1 := hg.block (w.heap.size + 1) (by omega)
  have e2 := hg.block (w.heap.size + 2) (by omega)
  have c0 : W.heap[w.heap.size]? = some (.cells #[x, y] t1 (0, 0)) := by
    rw [← hW, Below.heap_alloc _ _ _ (by simp; omega), Below.heap_alloc _ _ _ (by simp)]
    exact World.alloc_heap_new w _
  have c1 : W.heap[w.heap.size + 1]? = some (.cells #[u, v] t2 (0, 0)) := by
    rw [← hW, Below.heap_alloc _ _ _ (by simp)]
    have h := World.alloc_heap_new (w.alloc (.cells #[x, y] t1)) (.cells #[u, v] t2)
    rwa [World.size_alloc] at h
  have c2 : W.heap[w.heap.size + 2]? = some (.cells #[.int .i64 0, .slice none 0 0] t3 (0, 0)) := by
    rw [← hW]
    have h := World.alloc_heap_new ((w.alloc (.cells #[x, y] t1)).alloc (.cells #[u, v] t2)) (.cells #[.int .i64 0, .slice none 0 0] t3)
    rwa [World.size_alloc, World.size_alloc] at h
  rw [c0] at e0
  rw [c1] at e1
  rw [c2] at e2
  refine ⟨⟨?_, ?_⟩, ⟨?_, ?_⟩, ?_, ?_, ?_, ?_⟩ <;> simp [World.cell?, World.frozen?, e0, e1, e2]
theorem boxes3Below {w W : World} {t1 t2 t3 : TypeId} {x y u v : Value} (hW : ((w.alloc (.cells #[x, y] t1)).alloc (.cells #[u, v] t2)).alloc (.cells #[.int .i64 0, .slice none 0 0] t3) = W) : Below w.heap.size w W ∧ W.heap.size = w.heap.size + 3 := by
  subst hW
  exact ⟨(((Below.refl _ w).alloc (Nat.le_refl _) _).alloc (by simp) _).alloc (by simp; omega) _, by simp⟩
theorem resRow2 {w2 : World} {r base : Nat} {v : Value} {zs : List Int} (x y : Value) (h : IntRow base w2 v zs) (hb : r + 2 < base) : IntRow r ((w2.setCell ⟨r + 2, 0, none⟩ x).setCell ⟨r + 2, 1, none⟩ y) v zs :=
  IntRow.mono (resRow (r := r + 2) x y h hb) (by omega)
theorem resBelow2 {w w2 : World} {r : Nat} (x y : Value) (h : Below r w w2) : Below r w ((w2.setCell ⟨r + 2, 0, none⟩ x).setCell ⟨r + 2, 1, none⟩ y) :=
  (h.setCell (p := ⟨r + 2, 0, none⟩) (Nat.le_add_right _ _) x).setCell (p := ⟨r + 2, 1, none⟩) (Nat.le_add_right _ _) y

set_option maxRecDepth 100000 in
set_option maxHeartbeats 8000000 in
theorem l6pSum_some (l1 l2 m : Int) (x y : List Int) (a1 a2 : Option Addr) (c1 c2 n1 n2 : Nat) (w : World) (h1 : Ints w a1 n1 x) (h2 : Ints w a2 n2 y) (h0 : 0 < n2)
    (hl1 : -100000 ≤ l1 ∧ l1 ≤ 100000) (hl2 : -100000 ≤ l2 ∧ l2 ≤ 100000) (hn1 : n1 ≤ 100000) (hn2 : n2 ≤ 100000)
    (hx : ∀ i, -4000000000000000000 ≤ x.getD i 0 ∧ x.getD i 0 ≤ 4000000000000000000) (hy : ∀ i, -4000000000000000000 ≤ m * y.getD i 0 ∧ m * y.getD i 0 ≤ 4000000000000000000) :
    Calls Try.prog 80 #[plV l1 (.slice a1 n1 c1), .int .i64 m, plV l2 (.slice a2 n2 c2)] w fun e w' => (∃ v, e = .returned (plV (sumP ⟨l1, x⟩ m ⟨l2, y⟩).low v) ∧ IntRow w.heap.size w' v (sumP ⟨l1, x⟩ m ⟨l2, y⟩).cs) ∧ Below w.heap.size w w' := by
  obtain ⟨i0, hi, hz0, hz1, hz2⟩ := info_parts infoInt
  have hmx : Try.prog.follows .mixedOrders = true := by kernel_rfl
  obtain ⟨W, hW⟩ : ∃ W, ((w.alloc (.cells #[.int .i64 l1, .slice a1 n1 c1] 25)).alloc (.cells #[.int .i64 l2, .slice a2 n2 c2] 25)).alloc (.cells #[.int .i64 0, .slice none 0 0] 25) = W := ⟨_, rfl⟩
  obtain ⟨hbW, hsz⟩ := boxes3Below hW
  have HC : Hid (∀ w1, Below W.heap.size W w1 → _) := Lib.hid fun w1 (hg : Below W.heap.size W w1) => boxes3 hW hg
  have hC := boxes3 hW (Below.refl _ _)
  rw [← hW] at hC
  obtain ⟨⟨p0, p1⟩, ⟨q0, q1⟩, _⟩ := hC
  obtain ⟨LO, hLO⟩ : ∃ LO, sumLow ⟨l1, x⟩ ⟨l2, y⟩ = LO := ⟨_, rfl⟩
  obtain ⟨HI, hHI⟩ : ∃ HI, sumHigh ⟨l1, x⟩ ⟨l2, y⟩ = HI := ⟨_, rfl⟩
  have hx1 := h1.len
  have hx2 := h2.len
  have hLO2 : LO = if n1 = 0 then l2 else (if l2 ≤ l1 then l2 else l1) := by rw [← hLO]; unfold sumLow; show (if x.length = 0 then _ else _) = _; rw [hx1]
  have hHI2 : HI = if n1 = 0 then l2 + n2 else (if l1 + n1 ≤ l2 + n2 then l2 + n2 else l1 + n1) := by rw [← hHI]; unfold sumHigh; show (if x.length = 0 then l2 + (y.length : Int) else if l1 + (x.length : Int) ≤ l2 + (y.length : Int) then l2 + (y.length : Int) else l1 + (x.length : Int)) = _; rw [hx1, hx2]
  have hLr : LO ≤ l2 ∧ (n1 = 0 ∨ LO ≤ l1) ∧ l2 + n2 ≤ HI ∧ (n1 = 0 ∨ l1 + n1 ≤ HI) ∧ -100000 ≤ LO ∧ HI ≤ 200000 := by
    rw [hLO2, hHI2]
    by_cases e : n1 = 0
    · rw [if_pos e, if_pos e]; omega
    · rw [if_neg e, if_neg e]
      refine ⟨?_, ?_, ?_, ?_, ?_, ?_⟩ <;> split <;> omega
  have HLO := Lib.hid hLO2
  have HHI := Lib.hid hHI2
  have HLO1 := Lib.hid hLO
  have HHI1 := Lib.hid hHI
  have H1 := Lib.hid (h1.below hbW)
  have H2 := Lib.hid (h2.below hbW)
  have HN1 := Lib.hid hx1
  have HN2 := Lib.hid hx2
  have HX := Lib.hid hx
  have HY := Lib.hid hy
  have HBW := Lib.hid hbW
  have HW := Lib.hid hW
  have h0i : ¬ (n2 : Int) = 0 := by omega
  have h0b : ((n2 : Int) == 0) = false := by simpa using h0i
  have hwe : IntKind.i64.wrap (l2 + (n2 : Int)) = l2 + (n2 : Int) := IntWalk.i64_in _ (by omega)
  have hwe1 : IntKind.i64.wrap (l1 + (n1 : Int)) = l1 + (n1 : Int) := IntWalk.i64_in _ (by omega)
  obtain ⟨hr1, hr2, hr3, hr4, hr5, hr6⟩ := hLr
  have hwN : IntKind.i64.wrap (HI - LO) = ((HI - LO).toNat : Int) := by rw [IntWalk.i64_in _ (by omega)]; omega
  obtain ⟨N, hN⟩ : ∃ N, (HI - LO).toNat = N := ⟨_, rfl⟩
  rw [hN] at hwN
  have hNb : N ≤ 300000 := by omega
  have hNI : (N : Int) = HI - LO := by omega
  have HNI := Lib.hid hNI
  have HNN := Lib.hid hN
  have HSZ := Lib.hid hsz
  clear hW hbW h1 h2 hx hy hLO hHI hLO2 hHI2 hx1 hx2 hN hNI hsz
  go_enter Try.func80, Try.ntmps80
  go_upto_if 28 with fail
  rw [HW.out]
  go_cut [7, 8] (fun s7 s8 wx => s7 = .int .i64 LO ∧ s8 = .int .i64 HI ∧ wx = W)
  case first =>
    obtain ⟨⟨p0, p1⟩, ⟨q0, q1⟩, _⟩ := HC.out W (Below.refl _ _)
    by_cases hn0 : n1 = 0
    · have hd : decide ((0 : Int) < (n1 : Int)) = false := decide_eq_false (by omega)
      go_wp2_with fail
      go_meet
      exact ⟨by rw [HLO.out, if_pos hn0], by rw [HHI.out, if_pos hn0], rfl⟩
    · have hd : decide ((0 : Int) < (n1 : Int)) = true := decide_eq_true (by omega)
      have hdi : (0 : Int) < (n1 : Int) := by omega
      have hmin : ∀ V : World, (Builtin.min_ #[3, 3] 3 #[.int .i64 l2, .int .i64 l1]).run Try.prog V = .ok (.int .i64 LO) V := fun V => by rw [min_int, HLO.out, if_neg hn0]
      have hmax : ∀ V : World, (Builtin.max_ #[3, 3] 3 #[.int .i64 (l2 + (n2 : Int)), .int .i64 (l1 + (n1 : Int))]).run Try.prog V = .ok (.int .i64 HI) V := fun V => by rw [max_int, HHI.out, if_neg hn0]
      go_wp2_with fail
      go_meet
      exact ⟨rfl, rfl, rfl⟩
  case rest =>
  obtain ⟨h7, h8, hw⟩ := hcut
  subst h7
  subst h8
  have hw := hw.symm
  subst hw
  clear HLO HHI hwe hwe1
  go_wp2_with (at_make; refine wpList_make_full _ rfl _ _ 23 rfl W.heap.size 3 i0 (.int .i64 0) 1 Try.underlying23 hi hz0 hz1 .i64 .i64 _ _ N rfl rfl rfl rfl (by rw [hz2]; omega) (by unfold maxLen; omega) (Nat.le_refl _) ?_; intro w1 hrow hgrow)
  rw [show (madeCells (Value.cells (.int .i64 0)) (N * 1)).toList = intsV (listP (upto (pat ⟨l1, x⟩) (l1 + (0 : Nat))) LO N) by
    rw [show Value.cells (.int .i64 0) = #[.int .i64 0] from rfl, toList_madeCells_one, listP_congr (g := fun _ => 0) (fun k _ _ => by rw [show l1 + ((0 : Nat) : Int) = l1 by omega]; exact upto_low ⟨l1, x⟩ k), listP_zero]; simp [intsV]] at hrow
  have HR1 := Lib.hid hrow
  have HB1 : Hid (Below W.heap.size W w1) := Lib.hid ((Below.refl _ _).grown hgrow (Nat.le_refl _) (fun k e => by cases e))
  clear hrow hgrow hwN
  go_loopw [10] (fun i wr => ∃ k : Nat, k ≤ n1 ∧ i = .int .i64 (k : Int) ∧ Hid (wr.ownsRow W.heap.size 3 1 (.slice (some ⟨W.heap.size, 0, none⟩) N N) N (intsV (listP (upto (pat ⟨l1, x⟩) (l1 + (k : Int))) LO N))) ∧ Hid (Below W.heap.size W wr)) (fun i _ => n1 - (intOf i).toNat)
  case atStart => exact ⟨0, Nat.zero_le _, rfl, HR1, HB1⟩
  case round =>
    obtain ⟨k, hk, rfl, HR, HB⟩ := hrel
    obtain ⟨⟨p0, p1⟩, ⟨q0, q1⟩, _⟩ := HC.out wr HB.out
    by_cases hlt : k < n1
    · obtain ⟨xa, rfl, hxb, hxc⟩ := H1.out.at_ (by omega)
      have hkx : k < x.length := by rw [HN1.out]; exact hlt
      obtain ⟨z, hz⟩ : ∃ z, x.getD k 0 = z := ⟨_, rfl⟩
      have hzz : x[k] = z := by rw [← hz, List.getD_eq_getElem?_getD, List.getElem?_eq_getElem hkx]; rfl
      have hcz : wr.cell? (xa.add k) = some (.int .i64 z) := by rw [← hzz]; exact (HB.out.cell (p := xa.add k) (by rw [addr_add_block]; exact hxb)).trans (hxc k hkx)
      obtain ⟨d, hd⟩ : ∃ d : Nat, l1 - LO = (d : Int) := ⟨(l1 - LO).toNat, by omega⟩
      obtain ⟨j, hj⟩ : ∃ j : Nat, d + k = j := ⟨_, rfl⟩
      have hNI := HNI.out
      have hjN : j < N := by omega
      have hjNi : (j : Int) < (N : Int) := by omega
      have hj0 : (0 : Int) ≤ (j : Int) := by omega
      have hki : (k : Int) < (n1 : Int) := by omega
      have hk0 : (0 : Int) ≤ (k : Int) := by omega
      have hw1 : IntKind.i64.wrap (l1 - LO) = (d : Int) := by rw [IntWalk.i64_in _ (by omega)]; exact hd
      have hw2 : IntKind.i64.wrap ((d : Int) + (k : Int)) = (j : Int) := by rw [IntWalk.i64_in _ (by omega)]; omega
      have hlj : LO + (j : Int) = l1 + (k : Int) := by omega
      have hck : wr.cell? ⟨W.heap.size, j, none⟩ = some (.int .i64 0) := by
        rw [HR.out.cellAt _ (by omega), listP_cell hjN, hlj, upto_here]
      have hfk := HR.out.frozenAt j
      have HST : Hid ((intsV (listP (upto (pat ⟨l1, x⟩) (l1 + (k : Int))) LO N)).set j (.int .i64 z) = intsV (listP (upto (pat ⟨l1, x⟩) (l1 + ((k + 1 : Nat) : Int))) LO N)) := Lib.hid (listP_set (fun q hq => by
          rw [show l1 + ((k + 1 : Nat) : Int) = l1 + (k : Int) + 1 by omega]
          exact upto_next (by omega)) (by
          rw [show l1 + ((k + 1 : Nat) : Int) = l1 + (k : Int) + 1 by omega, hlj, upto_at]
          exact (pat_at ⟨l1, x⟩ k).trans hz))
      clear hz hzz hxc hd hj hlj hNI
      go_wp2
      go_still_tail 13, hmx
      change wpList _ _ _ _ _ wr.drew
      obtain ⟨wd, hwd⟩ : ∃ wd, wr.drew = wd := ⟨_, rfl⟩
      have ec : wd.cell? ⟨W.heap.size, j, none⟩ = some (.int .i64 0) := by rw [← hwd]; exact hck
      have ef : wd.frozen? ⟨W.heap.size, j, none⟩ = false := by rw [← hwd]; exact hfk
      have HRd : Hid (wd.ownsRow W.heap.size 3 1 (.slice (some ⟨W.heap.size, 0, none⟩) N N) N (intsV (listP (upto (pat ⟨l1, x⟩) (l1 + (k : Int))) LO N))) := Lib.hid (by rw [← hwd]; exact HR.out.drew)
      have HBd : Hid (Below W.heap.size W wd) := Lib.hid (by rw [← hwd]; exact HB.out.drew)
      have ez : wd.cell? (xa.add k) = some (.int .i64 z) := by rw [← hwd]; exact hcz
      clear hck hfk hcz p0 p1 q0 q1
      obtain ⟨⟨p0, p1⟩, ⟨q0, q1⟩, _⟩ := HC.out wd HBd.out
      rw [hwd]
      clear hwd
      go_wp2
      go_roundw
      case rel =>
        have h1 := HRd.out.stored j (.int .i64 z)
        refine ⟨k + 1, by omega, by go_num, Lib.hid ?_, Lib.hid (HBd.out.setCell (p := ⟨W.heap.size, j, none⟩) (Nat.le_refl _) _)⟩
        rw [← HST.out]
        exact h1.1
      case measure => simp [intOf]; omega
    · obtain rfl : k = n1 := by omega
      have HR2 : Hid (wr.ownsRow W.heap.size 3 1 (.slice (some ⟨W.heap.size, 0, none⟩) N N) N (intsV (listP (fun z => pat ⟨l1, x⟩ z + upto (fun z => m * pat ⟨l2, y⟩ z) (l2 + ((0 : Nat) : Int)) z) LO N))) := Lib.hid (by
        have e : listP (upto (pat ⟨l1, x⟩) (l1 + (k : Int))) LO N = listP (fun z => pat ⟨l1, x⟩ z + upto (fun z => m * pat ⟨l2, y⟩ z) (l2 + ((0 : Nat) : Int)) z) LO N := listP_congr fun z _ _ => by
          have h1 := upto_high ⟨l1, x⟩ z
          rw [show (⟨l1, x⟩ : Pl).low + ((⟨l1, x⟩ : Pl).cs.length : Int) = l1 + (k : Int) by show l1 + (x.length : Int) = _; rw [HN1.out]] at h1
          rw [h1]
          unfold upto
          by_cases hz : z < l2 + ((0 : Nat) : Int)
          · rw [if_pos hz]
            show pat ⟨l1, x⟩ z = pat ⟨l1, x⟩ z + m * pat ⟨l2, y⟩ z
            rw [pat_low ⟨l2, y⟩ (by show z < l2; omega), Int.mul_zero, Int.add_zero]
          · rw [if_neg hz, Int.add_zero]
        rw [← e]
        exact HR.out)
      clear HR
      go_wp2
      go_loopw [11] (fun i wr => ∃ k : Nat, k ≤ n2 ∧ i = .int .i64 (k : Int) ∧ Hid (wr.ownsRow W.heap.size 3 1 (.slice (some ⟨W.heap.size, 0, none⟩) N N) N (intsV (listP (fun z => pat ⟨l1, x⟩ z + upto (fun z => m * pat ⟨l2, y⟩ z) (l2 + (k : Int)) z) LO N))) ∧ Hid (Below W.heap.size W wr)) (fun i _ => n2 - (intOf i).toNat)
      case atStart => exact ⟨0, Nat.zero_le _, rfl, HR2, HB⟩
      case round =>
        obtain ⟨k', hk', rfl, HR, HB⟩ := hrel
        obtain ⟨⟨p0, p1⟩, ⟨q0, q1⟩, _⟩ := HC.out wr HB.out
        by_cases hlt2 : k' < n2
        · obtain ⟨xa, rfl, hxb, hxc⟩ := H2.out.at_ (by omega)
          have hkx : k' < y.length := by rw [HN2.out]; exact hlt2
          obtain ⟨z, hz⟩ : ∃ z, y.getD k' 0 = z := ⟨_, rfl⟩
          have hzz : y[k'] = z := by rw [← hz, List.getD_eq_getElem?_getD, List.getElem?_eq_getElem hkx]; rfl
          have hcz : wr.cell? (xa.add k') = some (.int .i64 z) := by rw [← hzz]; exact (HB.out.cell (p := xa.add k') (by rw [addr_add_block]; exact hxb)).trans (hxc k' hkx)
          obtain ⟨u, hu⟩ : ∃ u, pat ⟨l1, x⟩ (l2 + (k' : Int)) = u := ⟨_, rfl⟩
          obtain ⟨q, hq⟩ : ∃ q, m * z = q := ⟨_, rfl⟩
          have hub : -4000000000000000000 ≤ u ∧ u ≤ 4000000000000000000 := by
            rw [← hu]
            unfold pat
            split
            · exact HX.out _
            · omega
          have hqb := HY.out k'
          rw [hz, hq] at hqb
          obtain ⟨hub1, hub2⟩ := hub
          obtain ⟨hqb1, hqb2⟩ := hqb
          obtain ⟨d, hd⟩ : ∃ d : Nat, l2 - LO = (d : Int) := ⟨(l2 - LO).toNat, by omega⟩
          obtain ⟨j, hj⟩ : ∃ j : Nat, d + k' = j := ⟨_, rfl⟩
          have hNI := HNI.out
          have hjN : j < N := by omega
          have hjNi : (j : Int) < (N : Int) := by omega
          have hj0 : (0 : Int) ≤ (j : Int) := by omega
          have hki : (k' : Int) < (n2 : Int) := by omega
          have hk0 : (0 : Int) ≤ (k' : Int) := by omega
          have hw1 : IntKind.i64.wrap (l2 - LO) = (d : Int) := by rw [IntWalk.i64_in _ (by omega)]; exact hd
          have hw2 : IntKind.i64.wrap ((d : Int) + (k' : Int)) = (j : Int) := by rw [IntWalk.i64_in _ (by omega)]; omega
          have hw3 : IntKind.i64.wrap (m * z) = q := by rw [hq]; exact IntWalk.i64_in _ (by omega)
          have hw4 : IntKind.i64.wrap (u + q) = u + q := IntWalk.i64_in _ (by omega)
          have hlj : LO + (j : Int) = l2 + (k' : Int) := by omega
          have hck : wr.cell? ⟨W.heap.size, j, none⟩ = some (.int .i64 u) := by
            rw [HR.out.cellAt _ (by omega), listP_cell hjN, hlj, upto_here, hu, Int.add_zero]
          have hfk := HR.out.frozenAt j
          have HST : Hid ((intsV (listP (fun z => pat ⟨l1, x⟩ z + upto (fun z => m * pat ⟨l2, y⟩ z) (l2 + (k' : Int)) z) LO N)).set j (.int .i64 (u + q)) = intsV (listP (fun z => pat ⟨l1, x⟩ z + upto (fun z => m * pat ⟨l2, y⟩ z) (l2 + ((k' + 1 : Nat) : Int)) z) LO N)) := Lib.hid (listP_set (fun p hp => by
              rw [show l2 + ((k' + 1 : Nat) : Int) = l2 + (k' : Int) + 1 by omega, upto_next (by omega)]) (by
              rw [show l2 + ((k' + 1 : Nat) : Int) = l2 + (k' : Int) + 1 by omega, hlj, upto_at, hu]
              show u + m * pat ⟨l2, y⟩ (l2 + (k' : Int)) = u + q
              rw [show pat ⟨l2, y⟩ (l2 + (k' : Int)) = z from (pat_at ⟨l2, y⟩ k').trans hz, hq]))
          clear hz hzz hxc hd hj hlj hNI hu hq
          go_wp2
          go_still_tail 25, hmx
          change wpList _ _ _ _ _ wr.drew
          obtain ⟨wd, hwd⟩ : ∃ wd, wr.drew = wd := ⟨_, rfl⟩
          have ec : wd.cell? ⟨W.heap.size, j, none⟩ = some (.int .i64 u) := by rw [← hwd]; exact hck
          have ef : wd.frozen? ⟨W.heap.size, j, none⟩ = false := by rw [← hwd]; exact hfk
          have HRd : Hid (wd.ownsRow W.heap.size 3 1 (.slice (some ⟨W.heap.size, 0, none⟩) N N) N (intsV (listP (fun z => pat ⟨l1, x⟩ z + upto (fun z => m * pat ⟨l2, y⟩ z) (l2 + (k' : Int)) z) LO N))) := Lib.hid (by rw [← hwd]; exact HR.out.drew)
          have HBd : Hid (Below W.heap.size W wd) := Lib.hid (by rw [← hwd]; exact HB.out.drew)
          have ez : wd.cell? (xa.add k') = some (.int .i64 z) := by rw [← hwd]; exact hcz
          clear hck hfk hcz p0 p1 q0 q1
          obtain ⟨⟨p0, p1⟩, ⟨q0, q1⟩, _⟩ := HC.out wd HBd.out
          rw [hwd]
          clear hwd
          go_wp2
          go_roundw
          case rel =>
            have h1 := HRd.out.stored j (.int .i64 (u + q))
            refine ⟨k' + 1, by omega, by go_num, Lib.hid ?_, Lib.hid (HBd.out.setCell (p := ⟨W.heap.size, j, none⟩) (Nat.le_refl _) _)⟩
            rw [← HST.out]
            exact h1.1
          case measure => simp [intOf]; omega
        · obtain rfl : k' = n2 := by omega
          have hpatb : ∀ z, -4000000000000000000 ≤ pat ⟨l1, x⟩ z ∧ pat ⟨l1, x⟩ z ≤ 4000000000000000000 := fun z => by
            unfold pat
            split
            · exact HX.out _
            · omega
          have hpatc : ∀ z, -4000000000000000000 ≤ m * pat ⟨l2, y⟩ z ∧ m * pat ⟨l2, y⟩ z ≤ 4000000000000000000 := fun z => by
            unfold pat
            split
            · exact HY.out _
            · rw [Int.mul_zero]; omega
          have e : listP (fun z => pat ⟨l1, x⟩ z + upto (fun z => m * pat ⟨l2, y⟩ z) (l2 + (k' : Int)) z) LO N = listP (sumF ⟨l1, x⟩ m ⟨l2, y⟩) LO N := listP_congr fun z _ _ => by
            unfold sumF upto
            by_cases hz : z < l2 + (k' : Int)
            · rw [if_pos hz]
            · rw [if_neg hz, pat_high ⟨l2, y⟩ (by show l2 + (y.length : Int) ≤ z; rw [HN2.out]; omega), Int.mul_zero]
          have hr : IntRow W.heap.size wr (.slice (some ⟨W.heap.size, 0, none⟩) N N) (listP (sumF ⟨l1, x⟩ m ⟨l2, y⟩) LO N) := by
            rw [← e]
            exact rowI HR.out (listP_len _ _ _)
          have hwf : ∀ z ∈ listP (sumF ⟨l1, x⟩ m ⟨l2, y⟩) LO N, -9223372036854775808 ≤ z ∧ z ≤ 9223372036854775807 := fun z hz => by
            unfold listP at hz
            obtain ⟨i, _, rfl⟩ := List.mem_map.1 hz
            have h1 := hpatb (LO + (i : Int))
            have h2 := hpatc (LO + (i : Int))
            unfold sumF
            omega
          obtain ⟨a3, c3, hv, hc3, hi3⟩ := hr.readc hwf
          have HWF := Lib.hid hwf
          rw [listP_len] at hv hi3 hc3
          simp at hv
          obtain ⟨rfl, rfl⟩ := hv
          have HSP : Hid (tidyP LO (listP (sumF ⟨l1, x⟩ m ⟨l2, y⟩) LO N) = sumP ⟨l1, x⟩ m ⟨l2, y⟩) := Lib.hid (by
            unfold sumP
            rw [if_neg (by show ¬ y.length = 0; rw [HN2.out]; omega), HLO1.out, HHI1.out, HNN.out])
          have HT := Lib.hid (l6pTidy_any LO (listP (sumF ⟨l1, x⟩ m ⟨l2, y⟩) LO N) (some ⟨W.heap.size, 0, none⟩) N N wr hi3 (Nat.le_refl _) (by omega) (by omega) (by omega))
          have hsr := HB.out.size
          clear hr hwf hi3 hc3 e hpatb hpatc HR
          go_wp2_with fail
          refine HT.out.mono ?_
          rintro e w3 ⟨⟨v, rfl, hr⟩, hb3⟩
          rw [HSP.out] at hr ⊢
          obtain ⟨_, _, d0, d1, f0, f1⟩ := HC.out w3 (HB.out.trans (hb3.mono hsr))
          have HR3 := Lib.hid hr
          have HB3 := Lib.hid (HBW.out.trans ((HB.out.trans (hb3.mono hsr)).mono HBW.out.size))
          obtain ⟨g2, gg, cap3, rfl, _⟩ := hr.shape
          clear hr hb3
          go_wp2
          have hss := HSZ.out
          refine bodyPost_ret (v := plV (sumP ⟨l1, x⟩ m ⟨l2, y⟩).low (.slice g2 (sumP ⟨l1, x⟩ m ⟨l2, y⟩).cs.length cap3)) ?_ rfl ⟨⟨_, rfl, resRow2 (.int .i64 (sumP ⟨l1, x⟩ m ⟨l2, y⟩).low) (.slice g2 (sumP ⟨l1, x⟩ m ⟨l2, y⟩).cs.length cap3) HR3.out (by omega)⟩, resBelow2 (.int .i64 (sumP ⟨l1, x⟩ m ⟨l2, y⟩).low) (.slice g2 (sumP ⟨l1, x⟩ m ⟨l2, y⟩).cs.length cap3) HB3.out⟩
          simp [results, Try.results80, go_sem, d0, d1, plV]

end Go.Proofs.Ytocklmiappppgaa

/- The model's l6pSum whatever comes in, and PolyAdd. -/

namespace Go.Proofs.Ytocklmiappppgaa
open Go.RowKit

set_option maxRecDepth 100000 in
set_option maxHeartbeats 4000000 in
theorem l6pSum_none (l1 l2 m : Int) (a1 a2 : Option Addr) (c1 c2 n1 : Nat) (w : World) :
    Calls Try.prog 80 #[plV l1 (.slice a1 n1 c1), .int .i64 m, plV l2 (.slice a2 0 c2)] w fun e w' => e = .returned (plV l1 (.slice a1 n1 c1)) ∧ Below w.heap.size w w' := by
  obtain ⟨W, hW⟩ : ∃ W, ((w.alloc (.cells #[.int .i64 l1, .slice a1 n1 c1] 25)).alloc (.cells #[.int .i64 l2, .slice a2 0 c2] 25)).alloc (.cells #[.int .i64 0, .slice none 0 0] 25) = W := ⟨_, rfl⟩
  obtain ⟨hbW, hsz⟩ := boxes3Below hW
  have hC := boxes3 hW (Below.refl _ _)
  have hD := boxes3 hW (Below.refl _ _)
  rw [← hW] at hC
  obtain ⟨⟨p0, p1⟩, ⟨q0, q1⟩, r0, r1, f0, f1⟩ := hC
  have HBW := Lib.hid hbW
  have HW := Lib.hid hW
  have HD := Lib.hid hD
  clear hW hbW hsz hD
  go_enter Try.func80, Try.ntmps80
  go_upto_if 15 with fail
  rw [HW.out]
  clear p0 p1 q0 q1 r0 r1 f0 f1
  obtain ⟨⟨p0, p1⟩, ⟨q0, q1⟩, r0, r1, f0, f1⟩ := HD.out
  go_wp2
  refine bodyPost_ret (v := plV l1 (.slice a1 n1 c1)) ?_ rfl ⟨rfl, resBelow2 (.int .i64 l1) (.slice a1 n1 c1) HBW.out⟩
  simp [results, Try.results80, go_sem, r0, r1, plV]

theorem sum_mem {a b : Pl} {m : Int} (hx : ∀ i, -4000000000000000000 ≤ a.cs.getD i 0 ∧ a.cs.getD i 0 ≤ 4000000000000000000) (hy : ∀ i, -4000000000000000000 ≤ m * b.cs.getD i 0 ∧ m * b.cs.getD i 0 ≤ 4000000000000000000) :
    ∀ z ∈ (sumP a m b).cs, -9223372036854775808 ≤ z ∧ z ≤ 9223372036854775807 := fun z hz => by
  unfold sumP at hz
  split at hz
  · obtain ⟨i, hi, rfl⟩ := List.mem_iff_getElem.1 hz
    have := hx i
    rw [List.getD_eq_getElem?_getD, List.getElem?_eq_getElem hi] at this
    have : -4000000000000000000 ≤ a.cs[i] ∧ a.cs[i] ≤ 4000000000000000000 := this
    omega
  · rcases tidy_mem hz with rfl | hz
    · omega
    · unfold listP at hz
      obtain ⟨i, _, rfl⟩ := List.mem_map.1 hz
      have h1 : -4000000000000000000 ≤ pat a (sumLow a b + (i : Int)) ∧ pat a (sumLow a b + (i : Int)) ≤ 4000000000000000000 := by
        unfold pat
        split
        · exact hx _
        · omega
      have h2 : -4000000000000000000 ≤ m * pat b (sumLow a b + (i : Int)) ∧ m * pat b (sumLow a b + (i : Int)) ≤ 4000000000000000000 := by
        unfold pat
        split
        · exact hy _
        · rw [Int.mul_zero]; omega
      unfold sumF
      omega
theorem sum_len {a b : Pl} {m : Int} (h1 : -100000 ≤ a.low ∧ a.low ≤ 100000) (h2 : -100000 ≤ b.low ∧ b.low ≤ 100000) (hn1 : a.cs.length ≤ 100000) (hn2 : b.cs.length ≤ 100000) : (sumP a m b).cs.length ≤ 300000 := by
  unfold sumP
  split
  · omega
  · refine Nat.le_trans (tidy_len _ _) ?_
    rw [listP_len]
    unfold sumHigh sumLow
    repeat' split
    all_goals omega

theorem l6pSum_any (l1 l2 m : Int) (x y : List Int) (a1 a2 : Option Addr) (c1 c2 n1 n2 : Nat) (w : World) (h1 : Ints w a1 n1 x) (h2 : Ints w a2 n2 y) (hc1 : n1 ≤ c1)
    (hl1 : -100000 ≤ l1 ∧ l1 ≤ 100000) (hl2 : -100000 ≤ l2 ∧ l2 ≤ 100000) (hn1 : n1 ≤ 100000) (hn2 : n2 ≤ 100000)
    (hx : ∀ i, -4000000000000000000 ≤ x.getD i 0 ∧ x.getD i 0 ≤ 4000000000000000000) (hy : ∀ i, -4000000000000000000 ≤ m * y.getD i 0 ∧ m * y.getD i 0 ≤ 4000000000000000000) :
    Calls Try.prog 80 #[plV l1 (.slice a1 n1 c1), .int .i64 m, plV l2 (.slice a2 n2 c2)] w fun e w' => (∃ v, e = .returned (plV (sumP ⟨l1, x⟩ m ⟨l2, y⟩).low v) ∧ Reads w' v (sumP ⟨l1, x⟩ m ⟨l2, y⟩).cs) ∧ Below w.heap.size w w' := by
  by_cases h0 : n2 = 0
  · subst h0
    have e : sumP ⟨l1, x⟩ m ⟨l2, y⟩ = ⟨l1, x⟩ := by unfold sumP; exact if_pos h2.len
    rw [e]
    refine (l6pSum_none l1 l2 m a1 a2 c1 c2 n1 w).mono ?_
    rintro e w1 ⟨rfl, hb⟩
    have hl := h1.len
    subst hl
    exact ⟨⟨_, rfl, a1, c1, rfl, hc1, h1.below hb⟩, hb⟩
  · refine (l6pSum_some l1 l2 m x y a1 a2 c1 c2 n1 n2 w h1 h2 (by omega) hl1 hl2 hn1 hn2 hx hy).mono ?_
    rintro e w1 ⟨⟨v, rfl, hr⟩, hb⟩
    exact ⟨⟨v, rfl, hr.reads (sum_mem (a := ⟨l1, x⟩) (b := ⟨l2, y⟩) hx hy)⟩, hb⟩

def addPB (a b : Pl) : Bool := polyB a && (polyB b && polyB (sumP a 1 b))
def addP (a b : Pl) : Pl := doneP (addPB a b) (sumP a 1 b)

set_option maxRecDepth 100000 in
set_option maxHeartbeats 4000000 in
theorem sPolyAdd_any (l1 l2 : Int) (x y : List Int) (a1 a2 : Option Addr) (c1 c2 n1 n2 : Nat) (ba bb t : Bool) (w : World) (h1 : Ints w a1 n1 x) (h2 : Ints w a2 n2 y) (hc1 : n1 ≤ c1)
    (hba : polyB ⟨l1, x⟩ = ba) (hbb : polyB ⟨l2, y⟩ = bb) (ht : (ba && (bb && polyB (sumP ⟨l1, x⟩ 1 ⟨l2, y⟩))) = t) :
    Calls Try.prog 33 #[plV l1 (.slice a1 n1 c1), plV l2 (.slice a2 n2 c2)] w fun e w' => (∃ v, e = .returned (.tuple #[plV (doneP t (sumP ⟨l1, x⟩ 1 ⟨l2, y⟩)).low v, .bool t]) ∧ IntRow w.heap.size w' v (doneP t (sumP ⟨l1, x⟩ 1 ⟨l2, y⟩)).cs) ∧ Below w.heap.size w w' := by
  obtain ⟨W, hW⟩ : ∃ W, ((w.alloc (.cells #[.int .i64 l1, .slice a1 n1 c1] 25)).alloc (.cells #[.int .i64 l2, .slice a2 n2 c2] 25)).alloc (.cells #[.int .i64 0, .slice none 0 0] 25) = W := ⟨_, rfl⟩
  obtain ⟨hbW, hsz⟩ := boxes3Below hW
  have HC : Hid (∀ w1, Below W.heap.size W w1 → _) := Lib.hid fun w1 (hg : Below W.heap.size W w1) => boxes3 hW hg
  have hC := boxes3 hW (Below.refl _ _)
  rw [← hW] at hC
  obtain ⟨⟨p0, p1⟩, ⟨q0, q1⟩, _⟩ := hC
  have H1 := Lib.hid (h1.below hbW)
  have H2 := Lib.hid (h2.below hbW)
  have HBA := Lib.hid hba
  have HBB := Lib.hid hbb
  have HN1 := Lib.hid h1.len
  have HN2 := Lib.hid h2.len
  have HBW := Lib.hid hbW
  have HW := Lib.hid hW
  have HSZ := Lib.hid hsz
  have HT := Lib.hid ht
  clear hW hbW h1 h2 hba hbb hsz ht
  go_enter Try.func33, Try.ntmps33
  go_wp2_with fail
  rw [HW.out]
  clear p0 p1 q0 q1
  refine (sPolyIn_any l1 x a1 c1 n1 ba W H1.out HBA.out).mono ?_
  rintro e w1 ⟨rfl, hb1⟩
  have HB1 := Lib.hid hb1
  obtain ⟨⟨p0, p1⟩, ⟨q0, q1⟩, d0, d1, f0, f1⟩ := HC.out w1 hb1
  have hs1 := hb1.size
  clear hb1
  cases ba with
  | false =>
    obtain rfl : t = false := by rw [← HT.out]; rfl
    go_wp2_with fail
    refine (l6pNone_any _).mono ?_
    rintro e w2 ⟨⟨v, rfl, hr⟩, hb2⟩
    obtain ⟨_, _, d0, d1, f0, f1⟩ := HC.out w2 (HB1.out.trans (hb2.mono hs1))
    have HR := Lib.hid hr
    have HB2 := Lib.hid (HBW.out.trans ((HB1.out.trans (hb2.mono hs1)).mono HBW.out.size))
    obtain ⟨g1, gg, cap1, rfl, _⟩ := hr.shape
    clear hr hb2
    go_wp2
    have hss := HSZ.out
    refine bodyPost_ret (v := .tuple #[plV 0 (.slice g1 0 cap1), .bool false]) ?_ rfl ⟨⟨_, rfl, resRow2 (.int .i64 0) (.slice g1 0 cap1) HR.out (by omega)⟩, resBelow2 (.int .i64 0) (.slice g1 0 cap1) HB2.out⟩
    simp [results, Try.results33, go_sem, d0, d1, plV]
  | true =>
    go_wp2_with fail
    refine (sPolyIn_any l2 y a2 c2 n2 bb w1 (H2.out.below HB1.out) HBB.out).mono ?_
    rintro e w2 ⟨rfl, hb2⟩
    have HB2 := Lib.hid (HB1.out.trans (hb2.mono hs1))
    have hs2 := HB2.out.size
    clear hb2 p0 p1 q0 q1 d0 d1 f0 f1
    obtain ⟨⟨p0, p1⟩, ⟨q0, q1⟩, d0, d1, f0, f1⟩ := HC.out w2 HB2.out
    cases bb with
    | false =>
      obtain rfl : t = false := by rw [← HT.out]; rfl
      go_wp2_with fail
      refine (l6pNone_any _).mono ?_
      rintro e w3 ⟨⟨v, rfl, hr⟩, hb3⟩
      clear d0 d1 f0 f1
      obtain ⟨_, _, d0, d1, f0, f1⟩ := HC.out w3 (HB2.out.trans (hb3.mono hs2))
      have HR := Lib.hid hr
      have HB3 := Lib.hid (HBW.out.trans ((HB2.out.trans (hb3.mono hs2)).mono HBW.out.size))
      obtain ⟨g1, gg, cap1, rfl, _⟩ := hr.shape
      clear hr hb3
      go_wp2
      have hss := HSZ.out
      refine bodyPost_ret (v := .tuple #[plV 0 (.slice g1 0 cap1), .bool false]) ?_ rfl ⟨⟨_, rfl, resRow2 (.int .i64 0) (.slice g1 0 cap1) HR.out (by omega)⟩, resBelow2 (.int .i64 0) (.slice g1 0 cap1) HB3.out⟩
      simp [results, Try.results33, go_sem, d0, d1, plV]
    | true =>
      obtain ⟨_, hx200, hxl1, hxl2, hxc⟩ := polyB_trim HBA.out
      obtain ⟨_, hy200, hyl1, hyl2, hyc⟩ := polyB_trim HBB.out
      have hx200 : x.length ≤ 200 := hx200
      have hy200 : y.length ≤ 200 := hy200
      have hxl1 : -300 ≤ l1 := hxl1
      have hxl2 : l1 ≤ 300 := hxl2
      have hyl1 : -300 ≤ l2 := hyl1
      have hyl2 : l2 ≤ 300 := hyl2
      have hxc : ∀ i, -1000000000 ≤ x.getD i 0 ∧ x.getD i 0 ≤ 1000000000 := hxc
      have hyc : ∀ i, -1000000000 ≤ y.getD i 0 ∧ y.getD i 0 ≤ 1000000000 := hyc
      have hx1 := HN1.out
      have hx2 := HN2.out
      have HS := Lib.hid (l6pSum_any l1 l2 1 x y a1 a2 c1 c2 n1 n2 w2 (H1.out.below HB2.out) (H2.out.below HB2.out) hc1 (by omega) (by omega) (by omega) (by omega) (fun i => by have := hxc i; omega) (fun i => by have := hyc i; omega))
      have hsl : (sumP ⟨l1, x⟩ 1 ⟨l2, y⟩).cs.length ≤ 300000 := sum_len (a := ⟨l1, x⟩) (b := ⟨l2, y⟩) (by show -100000 ≤ l1 ∧ l1 ≤ 100000; omega) (by show -100000 ≤ l2 ∧ l2 ≤ 100000; omega) (by show x.length ≤ 100000; omega) (by show y.length ≤ 100000; omega)
      clear hxc hyc hx1 hx2
      go_wp2_with fail
      refine HS.out.mono ?_
      rintro e w3 ⟨⟨v, rfl, hrd⟩, hb3⟩
      obtain ⟨a3, c3, rfl, hc3, hi3⟩ := hrd
      have HB3 := Lib.hid (HB2.out.trans (hb3.mono hs2))
      have hs3 := HB3.out.size
      have HD := Lib.hid (l6pDone_any (sumP ⟨l1, x⟩ 1 ⟨l2, y⟩).low (sumP ⟨l1, x⟩ 1 ⟨l2, y⟩).cs a3 c3 _ t w3 hi3 (by omega) (by have := HT.out; rwa [Bool.true_and, Bool.true_and] at this))
      clear hb3 hi3
      go_wp2_with fail
      refine HD.out.mono ?_
      rintro e w4 ⟨⟨v, rfl, hr⟩, hb4⟩
      clear d0 d1 f0 f1
      obtain ⟨_, _, d0, d1, f0, f1⟩ := HC.out w4 (HB3.out.trans (hb4.mono hs3))
      have HR := Lib.hid hr
      have HB4 := Lib.hid (HBW.out.trans ((HB3.out.trans (hb4.mono hs3)).mono HBW.out.size))
      obtain ⟨g1, gg, cap1, rfl, _⟩ := hr.shape
      clear hr hb4
      go_wp2
      have hss := HSZ.out
      refine bodyPost_ret (v := .tuple #[plV (doneP t (sumP ⟨l1, x⟩ 1 ⟨l2, y⟩)).low (.slice g1 (doneP t (sumP ⟨l1, x⟩ 1 ⟨l2, y⟩)).cs.length cap1), .bool t]) ?_ rfl ⟨⟨_, rfl, resRow2 (.int .i64 (doneP t (sumP ⟨l1, x⟩ 1 ⟨l2, y⟩)).low) (.slice g1 (doneP t (sumP ⟨l1, x⟩ 1 ⟨l2, y⟩)).cs.length cap1) HR.out (by omega)⟩, resBelow2 (.int .i64 (doneP t (sumP ⟨l1, x⟩ 1 ⟨l2, y⟩)).low) (.slice g1 (doneP t (sumP ⟨l1, x⟩ 1 ⟨l2, y⟩)).cs.length cap1) HB4.out⟩
      simp [results, Try.results33, go_sem, d0, d1, plV]

end Go.Proofs.Ytocklmiappppgaa

/- A drawn region whose head makes memory but has fixed values, and whose tail comes in one order only. -/

namespace Go.Proofs.Ytocklmiappppgaa
open Go.RowKit

section
variable {P : Program} {ops : Array Oper} {md : Region.Mode} {C : World → Prop}

/-- The head in whatever order, up to the place where L holds. -/
def headQ (P : Program) (md : Region.Mode) (ops : Array Oper) (C : World → Prop) (n : Nat) (L : Array Bool → Act → Prop) : Nat → Array Bool → Act → Prop
  | 0, listed, a => L listed a
  | f + 1, listed, a => Region.ready md ops listed ≠ [] ∧ ∀ i ∈ Region.ready md ops listed, i < n ∧ qOp P ops C i (headQ P md ops C n L f (listed.setIfInBounds i true)) a

theorem wpAny_headQ {n g : Nat} {L : Array Bool → Act → Prop} {Q' : Exit → Act → World → Prop} (hL : ∀ listed a w, C w → L listed a → wpAny P md ops Q' g listed a w) :
    ∀ (f : Nat) (listed : Array Bool) (a : Act) (w : World), C w → headQ P md ops C n L f listed a → wpAny P md ops Q' (f + g) listed a w
  | 0, _, _, _, hw, h => by rw [Nat.zero_add]; exact hL _ _ _ hw h
  | f + 1, listed, a, w, hw, h => by
    rw [Nat.succ_add]
    exact ⟨fun h0 => absurd h0 h.1, fun i hi => wpOp_of_qOp hw (fun a' w' hw' h' => wpAny_headQ hL f _ a' w' hw' h') (h.2 i hi).2⟩

theorem headQ_first {n i : Nat} {oi : Oper} {v : Value} {L : Array Bool → Act → Prop} (hi : ops[i]? = some oi) (hsel : ∀ (j : Nat) (o : Oper) cs b, ops[j]? = some o → o.op ≠ .select cs b)
    (hs : Region.sinkB md ops n = true) (hc : Region.chainB md ops n = true) (hn : n < ops.size) (hin : i < n) (hdone : ∀ listed a, L listed a → ∀ j ∈ Region.ready md ops listed, n ≤ j) :
    ∀ (f : Nat) (listed : Array Bool) (a : Act), HeadInv md ops n listed →
      (∀ j oj, ops[j]? = some oj → j ≠ i → listed.getD j true = false → (∀ e ∈ oj.after, Region.binds md e = true → e.on ≠ i) → oi.apart ops oj = true) →
      i ∈ Region.ready md ops listed → YieldsIn P ops C oi v a →
      headQ P md ops C n L f (listed.setIfInBounds i true) (a.put oi.dst v) → headQ P md ops C n L (f + 1) listed a := by
  intro f
  induction f with
  | zero =>
    intro listed a inv _ hr hy H
    refine ⟨fun h => (by rw [h] at hr; cases hr), fun j hj => ?_⟩
    have hjn : j < n := Nat.lt_of_not_le fun h => tail_waits hs hc hn inv _ i rfl hin (mem_ready.1 hr).1 j h hj
    refine ⟨hjn, ?_⟩
    by_cases hji : j = i
    · subst hji; exact hy.qOp hi H
    · exact absurd (hdone _ _ H j (ready_mono hj hji)) (by omega)
  | succ f ih =>
    intro listed a inv hfree hr hy H
    have hun := (mem_ready.1 hr).1
    refine ⟨fun h => (by rw [h] at hr; cases hr), fun j hj => ?_⟩
    have hjn : j < n := Nat.lt_of_not_le fun h => tail_waits hs hc hn inv _ i rfl hin hun j h hj
    refine ⟨hjn, ?_⟩
    by_cases hji : j = i
    · subst hji; exact hy.qOp hi H
    · obtain ⟨hjun, oj, hoj, hall⟩ := mem_ready.1 hj
      have hnot : ∀ e ∈ oj.after, Region.binds md e = true → e.on ≠ i := fun e he hb heq => by
        have h1 := hall e he hb
        rw [heq, getD_both hun] at h1
        cases h1
      have h2 := qOp_put hoj (hfree j oj hoj hji hjun hnot) (fun cs b => hsel i oi cs b hi) (fun cs b => hsel j oj cs b hoj) hy (H.2 j (ready_mono hj hji)).2
      refine qOp_mono (fun a' h3 => ih _ a' (inv.set hj hjn) (fun k ok hk hki hu hno => hfree k ok hk hki ?_ hno) (ready_mono hr (Ne.symm hji)) h3.1 ?_) h2
      · by_cases hjk : j = k
        · subst hjk; exact hjun
        · rw [getD_set_ne true hjk] at hu; exact hu
      · rw [Array.setIfInBounds_comm _ _ hji]
        exact h3.2

theorem headQ_lex {n g : Nat} {Lq : Act → Prop} (hsel : Region.noSelect ops = true) (hs : Region.sinkB md ops n = true) (hc : Region.chainB md ops n = true) (hn : n < ops.size) :
    ∀ (l : List Oper) (k : Nat) (listed : Array Bool) (a : Act), (∀ j, j < l.length → l[j]? = ops[k + j]?) → k + l.length = n → HeadInv md ops n listed →
    Region.lexHead md ops g l.length k listed = true → wpQuiet P ops C Lq l a → headQ P md ops C n (fun listed' a' => Region.seqB md ops g n listed' = true ∧ Lq a') l.length listed a
  | [], k, listed, a, _, hk, _, hB, h => by
    obtain rfl : k = n := by simpa using hk
    exact ⟨by simpa [Region.lexHead] using hB, h⟩
  | o :: l, k, listed, a, hl, hk, inv, hB, h => by
    have h0 : ops[k]? = some o := by simpa using (hl 0 (by simp)).symm
    simp only [List.length_cons, Region.lexHead, Bool.and_eq_true] at hB
    have hkn : k < n := by simp only [List.length_cons] at hk; omega
    have hr' : k ∈ Region.ready md ops listed := by simpa using hB.1.1
    have hst : qOp P ops C k (wpQuiet P ops C Lq l) a := by unfold qOp; simp only [h0]; exact h
    obtain ⟨v, hy, hK⟩ := yieldsIn_of_qOp h0 hst
    exact headQ_first h0 (Region.noSelect_spec hsel) hs hc hn hkn (fun listed' a' hL => seqB_ready hL.1) l.length listed a inv (Region.free_spec h0 hB.1.2) hr' hy
      (headQ_lex hsel hs hc hn l (k + 1) _ _ (fun j hj => by have := hl (j + 1) (by simp; omega); simpa [Nat.add_assoc, Nat.add_comm 1 j] using this) (by simp only [List.length_cons] at hk; omega) (inv.set hr' hkn) hB.2 hK)

/-- The head walked once, in every world of the class; then the tail. -/
theorem wp_region_quiet_tail {id : Nat} {Q : Exit → Act → World → Prop} {a : Act} {w : World} {l : List Oper} (n : Nat) (hm : P.follows .mixedOrders = true) (hB : Region.lexTailB .any l.toArray n = true) (hC : C { w with drawn := w.drawn + 1 })
    (h : wpQuiet P l.toArray C (fun a' => ∀ w', C w' → wpList P l.toArray Q (l.drop n) a' w') (l.take n) a) : (Code.region id l.toArray true).wp P Q a w := by
  simp only [Region.lexTailB, Bool.and_eq_true, decide_eq_true_eq] at hB
  obtain ⟨⟨⟨⟨hsel, hn⟩, hs⟩, hc⟩, hlex⟩ := hB
  have hn' : n < l.length := by simpa using hn
  have htl : (l.take n).length = n := by simp; omega
  have hdl : (l.drop n).length = l.toArray.size - n := by simp
  have inv0 : HeadInv .any l.toArray n (Array.replicate l.toArray.size false) :=
    ⟨by simp, fun j oj _ hl => (by rw [getD_replicate_false] at hl; cases hl), fun t _ ht => getD_in (by simpa using ht) (getD_replicate_false _ _)⟩
  have H := headQ_lex (md := .any) (g := l.toArray.size - n) hsel hs hc hn (l.take n) 0 _ a (fun j hj => by
    have hj' : j < n := by rw [htl] at hj; exact hj
    simp [hj']) (by simpa using htl) inv0 (by rw [htl]; exact hlex) h
  refine wp_region_any hm ?_
  have := wpAny_headQ (Q' := Q) (g := l.toArray.size - n) (fun listed a' w' hw' hL => by
    have := wpAny_of_seq (md := .any) (Q' := Q) (l.drop n) n listed a' w' (fun j => by simp [List.getElem?_drop]) (by rw [hdl]; exact hL.1) (hL.2 w' hw')
    rwa [hdl] at this) _ _ _ _ hC H
  rw [htl, show n + (l.toArray.size - n) = l.toArray.size by omega] at this
  exact this
/-- At the worlds behind w. -/
theorem wp_region_below_tail {id : Nat} {Q : Exit → Act → World → Prop} {a : Act} {w : World} {l : List Oper} (n : Nat) (hm : P.follows .mixedOrders = true) (hB : Region.lexTailB .any l.toArray n = true)
    (h : wpQuiet P l.toArray (fun w' => ∃ p : BelowBy w, w' = p.world) (fun a' => ∀ w', (∃ p : BelowBy w, w' = p.world) → wpList P l.toArray Q (l.drop n) a' w') (l.take n) a) : (Code.region id l.toArray true).wp P Q a w :=
  wp_region_quiet_tail n hm hB ⟨⟨w.drew, (Below.refl _ _).drew⟩, rfl⟩ h
end

end Go.Proofs.Ytocklmiappppgaa

/- The program's add, and its PolyAdd. -/

namespace Go.Proofs.Ytocklmiappppgaa
open Go.RowKit

set_option maxRecDepth 100000 in
set_option maxHeartbeats 4000000 in
theorem add_any (base g N capN : Nat) (f : Int → Int) (la lb : Int) (y : List Int) (a2 : Option Addr) (c2 n2 : Nat) (w : World)
    (hr : w.ownsRow base 3 1 (.slice (some ⟨g, 0, none⟩) N capN) N (intsV (listP f la N))) (h2 : Ints w a2 n2 y)
    (hla : -100000 ≤ la ∧ la ≤ 100000) (hlb : -100000 ≤ lb ∧ lb ≤ 100000) (hN : N ≤ 300000) (hn2 : n2 ≤ 100000) (hin : n2 = 0 ∨ (la ≤ lb ∧ lb + n2 ≤ la + N)) (hne : n2 = 0 ∨ ∀ x, a2 = some x → x.block ≠ g)
    (hf : ∀ z, -4000000000000000000 ≤ f z ∧ f z ≤ 4000000000000000000) (hy : ∀ i, -4000000000000000000 ≤ y.getD i 0 ∧ y.getD i 0 ≤ 4000000000000000000) :
    Calls Try.prog 79 #[plV la (.slice (some ⟨g, 0, none⟩) N capN), plV lb (.slice a2 n2 c2)] w fun e w' => e = .returned (.tuple #[]) ∧ w'.ownsRow base 3 1 (.slice (some ⟨g, 0, none⟩) N capN) N (intsV (listP (fun z => f z + pat ⟨lb, y⟩ z) la N)) ∧ w.grownBy w' (some g) := by
  obtain ⟨W, hW⟩ : ∃ W, (w.alloc (.cells #[.int .i64 la, .slice (some ⟨g, 0, none⟩) N capN] 25)).alloc (.cells #[.int .i64 lb, .slice a2 n2 c2] 25) = W := ⟨_, rfl⟩
  have hsz : W.heap.size = w.heap.size + 2 := by rw [← hW]; simp
  have hbW : Below w.heap.size w W := by rw [← hW]; exact ((Below.refl _ w).alloc (Nat.le_refl _) _).alloc (by simp) _
  have hgl : g < w.heap.size := own_lt hr g rfl
  have HC : Hid (∀ w1, W.grownBy w1 (some g) → w1.cell? ⟨w.heap.size, 0, none⟩ = some (.int .i64 la) ∧ w1.cell? ⟨w.heap.size, 1, none⟩ = some (.slice (some ⟨g, 0, none⟩) N capN) ∧ w1.cell? ⟨w.heap.size + 1, 0, none⟩ = some (.int .i64 lb) ∧ w1.cell? ⟨w.heap.size + 1, 1, none⟩ = some (.slice a2 n2 c2)) := Lib.hid fun w1 hg => by
    have e0 := hg.block w.heap.size (by omega) (by simp; omega)
    have e1 := hg.block (w.heap.size + 1) (by omega) (by simp; omega)
    have d0 : W.heap[w.heap.size]? = some (.cells #[.int .i64 la, .slice (some ⟨g, 0, none⟩) N capN] 25 (0, 0)) := by
      rw [← hW, Below.heap_alloc _ _ _ (by simp)]
      exact World.alloc_heap_new w _
    have d1 : W.heap[w.heap.size + 1]? = some (.cells #[.int .i64 lb, .slice a2 n2 c2] 25 (0, 0)) := by
      rw [← hW]
      have h := World.alloc_heap_new (w.alloc (.cells #[.int .i64 la, .slice (some ⟨g, 0, none⟩) N capN] 25)) (.cells #[.int .i64 lb, .slice a2 n2 c2] 25)
      rwa [World.size_alloc] at h
    rw [d0] at e0
    rw [d1] at e1
    refine ⟨?_, ?_, ?_, ?_⟩ <;> simp [World.cell?, e0, e1]
  have hC := HC.out W (World.grownBy.refl _ _)
  rw [← hW] at hC
  obtain ⟨p0, p1, q0, q1⟩ := hC
  have HGW : Hid (w.grownBy W (some g)) := Lib.hid ⟨hbW.os, hbW.tape, hbW.output, hbW.size, fun i hi _ => hbW.block i hi⟩
  have HS2 : Hid (∀ w1, W.grownBy w1 (some g) → ∀ k, k < n2 → ∀ x, a2 = some x → ∀ z, y.getD k 0 = z → w1.cell? (x.add k) = some (.int .i64 z)) := Lib.hid fun w1 hg k hk x hx z hz => by
    obtain ⟨x', e, hb, hc⟩ := h2.at_ (by omega)
    obtain rfl : x = x' := by rw [hx] at e; simpa using e
    have hl := h2.len
    have hne' : (x.add k).block ≠ g := by rw [addr_add_block]; exact (hne.resolve_left (by omega)) x hx
    have hbk := hbW.cell (p := x.add k) (by rw [addr_add_block]; exact hb)
    have hbl : (x.add k).block < W.heap.size := by rw [addr_add_block]; omega
    have e1 := hg.block (x.add k).block hbl (by simp; exact hne')
    have e2 : w1.cell? (x.add k) = W.cell? (x.add k) := by unfold World.cell?; rw [e1]
    rw [e2, hbk, hc k (by omega), ← hz, List.getD_eq_getElem?_getD, List.getElem?_eq_getElem (by omega)]
    rfl
  have HAT : Hid (0 < n2 → ∃ x, a2 = some x) := Lib.hid fun h => by obtain ⟨x, e, _⟩ := h2.at_ h; exact ⟨x, e⟩
  have HR0 : Hid (W.ownsRow base 3 1 (.slice (some ⟨g, 0, none⟩) N capN) N (intsV (listP (fun z => f z + upto (pat ⟨lb, y⟩) (lb + ((0 : Nat) : Int)) z) la N))) := Lib.hid (by
    have e : listP (fun z => f z + upto (pat ⟨lb, y⟩) (lb + ((0 : Nat) : Int)) z) la N = listP f la N := listP_congr fun z _ _ => by
      rw [show lb + ((0 : Nat) : Int) = lb by omega]
      show f z + upto (pat ⟨lb, y⟩) (⟨lb, y⟩ : Pl).low z = f z
      rw [upto_low, Int.add_zero]
    rw [e]
    exact hr.kept ⟨hbW.os, hbW.tape, hbW.output, hbW.size, fun j hj _ => hbW.block j hj⟩ (row := none) (.inr (by simp [Value.ownBlock])))
  have HN2 := Lib.hid h2.len
  have HF := Lib.hid hf
  have HY := Lib.hid hy
  have HW := Lib.hid hW
  have HIN := Lib.hid hin
  clear hW hbW h2 hf hy hsz hne hr hin hgl
  go_enter Try.func79, Try.ntmps79
  go_wp2_with fail
  rw [HW.out]
  clear p0 p1 q0 q1
  go_loopw [4, 5, 9] (fun _ _ i wr => ∃ k : Nat, k ≤ n2 ∧ i = .int .i64 (k : Int) ∧ Hid (wr.ownsRow base 3 1 (.slice (some ⟨g, 0, none⟩) N capN) N (intsV (listP (fun z => f z + upto (pat ⟨lb, y⟩) (lb + (k : Int)) z) la N))) ∧ Hid (W.grownBy wr (some g))) (fun _ _ i _ => n2 - (intOf i).toNat)
  case atStart => exact ⟨0, Nat.zero_le _, rfl, HR0, Lib.hid (World.grownBy.refl _ _)⟩
  case round =>
    obtain ⟨k, hk, rfl, HR, HG⟩ := hrel
    obtain ⟨p0, p1, q0, q1⟩ := HC.out wr HG.out
    by_cases hlt : k < n2
    · obtain ⟨x, rfl⟩ := HAT.out (by omega)
      obtain ⟨z, hz⟩ : ∃ z, y.getD k 0 = z := ⟨_, rfl⟩
      have hcz := HS2.out wr HG.out k hlt x rfl z hz
      have hin := HIN.out.resolve_left (by omega)
      obtain ⟨hin1, hin2⟩ := hin
      obtain ⟨u, hu⟩ : ∃ u, f (lb + (k : Int)) = u := ⟨_, rfl⟩
      have hub := HF.out (lb + (k : Int))
      rw [hu] at hub
      have hzb := HY.out k
      rw [hz] at hzb
      obtain ⟨hub1, hub2⟩ := hub
      obtain ⟨hzb1, hzb2⟩ := hzb
      obtain ⟨d, hd⟩ : ∃ d : Nat, lb - la = (d : Int) := ⟨(lb - la).toNat, by omega⟩
      obtain ⟨j, hj⟩ : ∃ j : Nat, d + k = j := ⟨_, rfl⟩
      have hjN : j < N := by omega
      have hjNi : (j : Int) < (N : Int) := by omega
      have hj0 : (0 : Int) ≤ (j : Int) := by omega
      have hki : (k : Int) < (n2 : Int) := by omega
      have hk0 : (0 : Int) ≤ (k : Int) := by omega
      have hw1 : IntKind.i64.wrap (lb - la) = (d : Int) := by rw [IntWalk.i64_in _ (by omega)]; exact hd
      have hw2 : IntKind.i64.wrap ((d : Int) + (k : Int)) = (j : Int) := by rw [IntWalk.i64_in _ (by omega)]; omega
      have hw4 : IntKind.i64.wrap (u + z) = u + z := IntWalk.i64_in _ (by omega)
      have hlj : la + (j : Int) = lb + (k : Int) := by omega
      have hck : wr.cell? ⟨g, j, none⟩ = some (.int .i64 u) := by
        rw [HR.out.cellAt _ (by omega), listP_cell hjN, hlj, upto_here, hu, Int.add_zero]
      have hfk := HR.out.frozenAt j
      have HST : Hid ((intsV (listP (fun z => f z + upto (pat ⟨lb, y⟩) (lb + (k : Int)) z) la N)).set j (.int .i64 (u + z)) = intsV (listP (fun z => f z + upto (pat ⟨lb, y⟩) (lb + ((k + 1 : Nat) : Int)) z) la N)) := Lib.hid (listP_set (fun p hp => by
          rw [show lb + ((k + 1 : Nat) : Int) = lb + (k : Int) + 1 by omega, upto_next (by omega)]) (by
          rw [show lb + ((k + 1 : Nat) : Int) = lb + (k : Int) + 1 by omega, hlj, upto_at, hu]
          rw [show pat ⟨lb, y⟩ (lb + (k : Int)) = z from (pat_at ⟨lb, y⟩ k).trans hz]))
      clear hz hd hj hlj hu
      go_wp2
      go_roundw
      case rel =>
        have h1 := HR.out.stored j (.int .i64 (u + z))
        refine ⟨k + 1, by omega, by go_num, Lib.hid ?_, Lib.hid (HG.out.trans h1.2)⟩
        rw [← HST.out]
        exact h1.1
      case measure => simp [intOf]; omega
    · obtain rfl : k = n2 := by omega
      have e : listP (fun z => f z + upto (pat ⟨lb, y⟩) (lb + (k : Int)) z) la N = listP (fun z => f z + pat ⟨lb, y⟩ z) la N := listP_congr fun z _ _ => by
        have h1 := upto_high ⟨lb, y⟩ z
        rw [show (⟨lb, y⟩ : Pl).low + ((⟨lb, y⟩ : Pl).cs.length : Int) = lb + (k : Int) by show lb + (y.length : Int) = _; rw [HN2.out]] at h1
        rw [h1]
      have hr := HR.out
      rw [e] at hr
      have HRR := Lib.hid hr
      clear hr e HR
      go_wp2
      go_end0
      exact ⟨rfl, HRR.out, HGW.out.trans HG.out⟩

end Go.Proofs.Ytocklmiappppgaa

/- The program's PolyAdd. -/

namespace Go.Proofs.Ytocklmiappppgaa
open Go.RowKit

theorem listP_tidy {f : Int → Int} {low : Int} {n : Nat} {q : Pl} (hq : Trim q) (h1 : ∀ k, k < low → f k = 0) (h2 : ∀ k, low + n ≤ k → f k = 0) (h : ∀ k, pat q k = f k) : tidyP low (listP f low n) = q :=
  trim_unique (tidy_trim _ _) hq fun k => by rw [tidy_pat, listP_pat h1 h2, h]
theorem pat_bound {p : Pl} {M : Int} (h0 : 0 ≤ M) (h : ∀ i, -M ≤ p.cs.getD i 0 ∧ p.cs.getD i 0 ≤ M) (k : Int) : -M ≤ pat p k ∧ pat p k ≤ M := by
  unfold pat
  split
  · exact h _
  · omega

set_option maxRecDepth 100000 in
set_option maxHeartbeats 8000000 in
theorem iPolyAdd_any (l1 l2 : Int) (x y : List Int) (a1 a2 : Option Addr) (c1 c2 n1 n2 : Nat) (ba bb t : Bool) (w : World) (h1 : Ints w a1 n1 x) (h2 : Ints w a2 n2 y) (hc1 : n1 ≤ c1) (hc2 : n2 ≤ c2)
    (hba : polyB ⟨l1, x⟩ = ba) (hbb : polyB ⟨l2, y⟩ = bb) (ht : (ba && (bb && polyB (sumP ⟨l1, x⟩ 1 ⟨l2, y⟩))) = t) :
    Calls Try.prog 32 #[plV l1 (.slice a1 n1 c1), plV l2 (.slice a2 n2 c2)] w fun e w' => (∃ v, e = .returned (.tuple #[plV (doneP t (sumP ⟨l1, x⟩ 1 ⟨l2, y⟩)).low v, .bool t]) ∧ IntRow w.heap.size w' v (doneP t (sumP ⟨l1, x⟩ 1 ⟨l2, y⟩)).cs) ∧ Below w.heap.size w w' := by
  obtain ⟨i0, hi, hz0, hz1, hz2⟩ := info_parts infoInt
  have hmx : Try.prog.follows .mixedOrders = true := by kernel_rfl
  have hzm := told_zm
  have hzn := told_zn
  have hpm := told_pm
  have hpn := told_pn
  obtain ⟨W, hW⟩ : ∃ W, ((w.alloc (.cells #[.int .i64 l1, .slice a1 n1 c1] 25)).alloc (.cells #[.int .i64 l2, .slice a2 n2 c2] 25)).alloc (.cells #[.int .i64 0, .slice none 0 0] 25) = W := ⟨_, rfl⟩
  obtain ⟨hbW, hsz⟩ := boxes3Below hW
  have HC : Hid (∀ w1, Below W.heap.size W w1 → _) := Lib.hid fun w1 (hg : Below W.heap.size W w1) => boxes3 hW hg
  have hC := boxes3 hW (Below.refl _ _)
  rw [← hW] at hC
  obtain ⟨⟨p0, p1⟩, ⟨q0, q1⟩, _⟩ := hC
  have H1 := Lib.hid (h1.below hbW)
  have H2 := Lib.hid (h2.below hbW)
  have HBA := Lib.hid hba
  have HBB := Lib.hid hbb
  have HN1 := Lib.hid h1.len
  have HN2 := Lib.hid h2.len
  have HBW := Lib.hid hbW
  have HW := Lib.hid hW
  have HSZ := Lib.hid hsz
  have HT := Lib.hid ht
  clear hW hbW h1 h2 hba hbb hsz ht
  go_enter Try.func32, Try.ntmps32
  go_wp2_with fail
  rw [HW.out]
  clear p0 p1 q0 q1
  refine (iPolyIn_any l1 x a1 c1 n1 ba W H1.out hc1 HBA.out).mono ?_
  rintro e w1 ⟨rfl, hb1⟩
  have HB1 := Lib.hid hb1
  obtain ⟨⟨p0, p1⟩, ⟨q0, q1⟩, d0, d1, f0, f1⟩ := HC.out w1 hb1
  have hs1 := hb1.size
  clear hb1
  cases ba with
  | false =>
    obtain rfl : t = false := by rw [← HT.out]; rfl
    go_wp2
    have hss := HSZ.out
    refine bodyPost_ret (v := .tuple #[plV 0 (.slice none 0 0), .bool false]) ?_ rfl ⟨⟨_, rfl, intNil _ _⟩, resBelow2 (.int .i64 0) (.slice none 0 0) (HBW.out.trans (HB1.out.mono HBW.out.size))⟩
    simp [results, Try.results32, go_sem, d0, d1, plV]
  | true =>
    go_wp2_with fail
    refine (iPolyIn_any l2 y a2 c2 n2 bb w1 (H2.out.below HB1.out) hc2 HBB.out).mono ?_
    rintro e w2 ⟨rfl, hb2⟩
    have HB2 := Lib.hid (HB1.out.trans (hb2.mono hs1))
    have hs2 := HB2.out.size
    clear hb2 p0 p1 q0 q1 d0 d1 f0 f1
    obtain ⟨⟨p0, p1⟩, ⟨q0, q1⟩, d0, d1, f0, f1⟩ := HC.out w2 HB2.out
    cases bb with
    | false =>
      obtain rfl : t = false := by rw [← HT.out]; rfl
      go_wp2
      refine bodyPost_ret (v := .tuple #[plV 0 (.slice none 0 0), .bool false]) ?_ rfl ⟨⟨_, rfl, intNil _ _⟩, resBelow2 (.int .i64 0) (.slice none 0 0) (HBW.out.trans (HB2.out.mono HBW.out.size))⟩
      simp [results, Try.results32, go_sem, d0, d1, plV]
    | true =>
      obtain ⟨hT1, hx200, hxl1, hxl2, hxc⟩ := polyB_trim HBA.out
      obtain ⟨_, hy200, hyl1, hyl2, hyc⟩ := polyB_trim HBB.out
      have hx200 : x.length ≤ 200 := hx200
      have hy200 : y.length ≤ 200 := hy200
      have hxl1 : -300 ≤ l1 := hxl1
      have hxl2 : l1 ≤ 300 := hxl2
      have hyl1 : -300 ≤ l2 := hyl1
      have hyl2 : l2 ≤ 300 := hyl2
      have hx1 := HN1.out
      have hx2 := HN2.out
      have HXC : Hid (∀ i, -1000000000 ≤ x.getD i 0 ∧ x.getD i 0 ≤ 1000000000) := Lib.hid hxc
      have HYC : Hid (∀ i, -1000000000 ≤ y.getD i 0 ∧ y.getD i 0 ≤ 1000000000) := Lib.hid hyc
      have HPT : Hid (polyB (sumP ⟨l1, x⟩ 1 ⟨l2, y⟩) = t) := Lib.hid (by have := HT.out; rwa [Bool.true_and, Bool.true_and] at this)
      have HTR : Hid (Trim (sumP ⟨l1, x⟩ 1 ⟨l2, y⟩)) := Lib.hid (sum_trim 1 ⟨l2, y⟩ hT1)
      obtain ⟨LO, hLO⟩ : ∃ LO, (if l1 ≤ l2 then l1 else l2) = LO := ⟨_, rfl⟩
      obtain ⟨HI, hHI⟩ : ∃ HI, (if l2 + (n2 : Int) ≤ l1 + (n1 : Int) then l1 + (n1 : Int) else l2 + (n2 : Int)) = HI := ⟨_, rfl⟩
      have hmin : ∀ V : World, (Builtin.min_ #[3, 3] 3 #[.int .i64 l1, .int .i64 l2]).run Try.prog V = .ok (.int .i64 LO) V := fun V => by rw [min_int, hLO]
      have hmax : ∀ V : World, (Builtin.max_ #[3, 3] 3 #[.int .i64 (l1 + (n1 : Int)), .int .i64 (l2 + (n2 : Int))]).run Try.prog V = .ok (.int .i64 HI) V := fun V => by rw [max_int, hHI]
      have hLr : LO ≤ l1 ∧ LO ≤ l2 ∧ l1 + n1 ≤ HI ∧ l2 + n2 ≤ HI ∧ -300 ≤ LO ∧ HI ≤ 500 := by
        rw [← hLO, ← hHI]
        refine ⟨?_, ?_, ?_, ?_, ?_, ?_⟩ <;> split <;> omega
      obtain ⟨hr1, hr2, hr3, hr4, hr5, hr6⟩ := hLr
      obtain ⟨N, hN⟩ : ∃ N : Nat, HI - LO = (N : Int) := ⟨(HI - LO).toNat, by omega⟩
      have hwN : IntKind.i64.wrap (HI - LO) = (N : Int) := by rw [IntWalk.i64_in _ (by omega)]; exact hN
      have hNb : N ≤ 800 := by omega
      have HNI := Lib.hid hN
      have hn1 : n1 ≤ 1048576 := by omega
      have hn2 : n2 ≤ 1048576 := by omega
      have hl1' : -1000000000 ≤ l1 := by omega
      have hl1'' : l1 ≤ 1000000000 := by omega
      have hl2' : -1000000000 ≤ l2 := by omega
      have hl2'' : l2 ≤ 1000000000 := by omega
      clear hLO hHI hT1 hxc hyc hN
      have hb0 : w.heap.size < w2.heap.size := by have := HSZ.out; omega
      have hb1 : w.heap.size + 1 < w2.heap.size := by have := HSZ.out; omega
      have HEND1 : Hid (∀ V : World, Calls Try.prog 78 #[plV l1 (.slice a1 n1 c1)] V fun e w' => e = .returned (.int .i64 (l1 + (n1 : Int))) ∧ Below V.heap.size V w') := Lib.hid fun V => end_any l1 a1 c1 n1 V hl1' hl1'' hn1
      have HEND2 : Hid (∀ V : World, Calls Try.prog 78 #[plV l2 (.slice a2 n2 c2)] V fun e w' => e = .returned (.int .i64 (l2 + (n2 : Int))) ∧ Below V.heap.size V w') := Lib.hid fun V => end_any l2 a2 c2 n2 V hl2' hl2'' hn2
      have HBk : Hid (Below w2.heap.size w2 w2) := Lib.hid (Below.refl _ _)
      obtain ⟨mc, hmc⟩ : ∃ mc, madeCells (Value.cells (.int .i64 0)) (N * 1) = mc := ⟨_, rfl⟩
      have hmk : ∀ V : World, (Instr.makeSlice 23 (.int .i64 (N : Int)) (.int .i64 (N : Int))).run Try.prog V = .ok (.slice (some ⟨V.heap.size, 0, none⟩) N N) (V.alloc (.cells mc 3)) := fun V => by rw [← hmc]; exact run_makeI N (by omega) V
      have HMC := Lib.hid hmc
      have HNM : Hid (N ≤ maxLen) := Lib.hid (by unfold maxLen; omega)
      have HMS : Hid (mc.size = N * 1) := Lib.hid (by rw [← hmc]; exact made_size N)
      clear hmc
      obtain ⟨m1, m2, m3, m4, m5, m6⟩ := two_ahead hb1
      go_upto_region 4 with fail
      go_cut [7] (fun s7 wx => RegMk w2 wx s7 (.int .i64 LO) N mc)
      case first =>
        go_region_held3 (fun w' : World => w'.cell? ⟨w.heap.size, 0, none⟩ = some (.int .i64 l1) ∧ w'.cell? ⟨w.heap.size, 1, none⟩ = some (.slice a1 n1 c1) ∧ w'.cell? ⟨w.heap.size + 1, 0, none⟩ = some (.int .i64 l2) ∧ w'.cell? ⟨w.heap.size + 1, 1, none⟩ = some (.slice a2 n2 c2)) (first | go_keep | exact ⟨k0, k1, k2, k3⟩)
          (first
            | (go_at_call 78
               first | refine (HEND1.out _).mono ?_ | refine (HEND2.out _).mono ?_
               rintro e V ⟨rfl, hbv⟩
               have hbn : Below w2.heap.size w2 V := by
                 first
                 | exact HBk.out.trans (hbv.mono HBk.out.size)
                 | exact HBk.out.drew.trans (hbv.mono HBk.out.size)
                 | exact below_alloc HBk.out HBk.out.size hbv
                 | exact below_alloc HBk.out.drew HBk.out.size hbv
               first
               | (have HZ : Hid (BoxZ V w2.heap.size) := Lib.hid (BoxZ.of (w := w2.drew) hbv); obtain ⟨_, z0, z1, z2, z3⟩ := HZ.out)
               | (have HZ : Hid (BoxZ V w2.heap.size) := Lib.hid (BoxZ.ofd (w := w2) hbv); obtain ⟨_, z0, z1, z2, z3⟩ := HZ.out)
               | (have HZ := Lib.hid (BoxZ.of hbv); have HZL := Lib.hid HBk.out.size; obtain ⟨_, z0, z1, z2, z3⟩ := HZ.out)
               | (have HZ' := Lib.hid (HZ.out.below hbv); clear HZ z0 z1 z2 z3; have HZ := HZ'; clear HZ'; obtain ⟨_, z0, z1, z2, z3⟩ := HZ.out)
               | skip
               obtain ⟨o1, o2, o3, o4, o5, o6⟩ := two_ahead (Nat.lt_of_lt_of_le hb1 hbn.size)
               clear HBk
               have HBk := Lib.hid hbn
               obtain ⟨⟨k0, k1⟩, ⟨k2, k3⟩, _⟩ := HC.out V (HB2.out.trans (hbn.mono hs2))
               clear hbv hbn))
        all_goals (go_wp2_with fail; go_meet)
        all_goals first
          | exact regA HBk.out HNM.out HMS.out
          | exact regB HBk.out HNM.out HMS.out
          | exact regC HBk.out HZ.out (by have := HBk.out.size; omega) HNM.out HMS.out
          | exact regC HBk.out HZ.out (Nat.le_refl _) HNM.out HMS.out
          | exact regC HBk.out HZ.out HZL.out HNM.out HMS.out
      case rest =>
      obtain ⟨j, g, hs7, hbox, hj, hrow, hgj, hbx⟩ := hcut
      subst hs7
      clear HEND1 HEND2 hmk HBk m1 m2 m3 m4 m5 m6 p0 p1 q0 q1 d0 d1 f0 f1 hmin hmax
      have HBx := Lib.hid (HB2.out.trans (hbx.mono hs2))
      have hgge := own_ge hrow g rfl
      have hsx := hbx.size
      rw [← HMC.out, made_zero LO N] at hrow
      have HROW := Lib.hid hrow
      have HBOX := Lib.hid hbox
      obtain ⟨⟨p0, p1⟩, ⟨q0, q1⟩, _⟩ := HC.out wc HBx.out
      obtain ⟨_, b0, b1⟩ := hbox
      have hNI := HNI.out
      have hne1 : n1 = 0 ∨ ∀ z, a1 = some z → z.block ≠ g := by
        by_cases h0 : n1 = 0
        · exact .inl h0
        · refine .inr fun z hz => ?_
          obtain ⟨z', e, hb, _⟩ := (H1.out.below HB2.out).at_ (by omega)
          obtain rfl : z = z' := by rw [hz] at e; simpa using e
          omega
      have hne2 : n2 = 0 ∨ ∀ z, a2 = some z → z.block ≠ g := by
        by_cases h0 : n2 = 0
        · exact .inl h0
        · refine .inr fun z hz => ?_
          obtain ⟨z', e, hb, _⟩ := (H2.out.below HB2.out).at_ (by omega)
          obtain rfl : z = z' := by rw [hz] at e; simpa using e
          omega
      have HADD1 := Lib.hid (add_any w2.heap.size g N N (fun _ => 0) LO l1 x a1 c1 n1 wc HROW.out (H1.out.below HBx.out) (by omega) (by omega) (by omega) (by omega) (.inr (by omega)) hne1 (fun z => by omega) (fun i => by have := HXC.out i; omega))
      clear hrow hbx hne1
      go_wp2_with fail
      refine HADD1.out.mono ?_
      rintro e w3 ⟨rfl, hr3, hg3⟩
      have HB3 := Lib.hid (HBx.out.grown hg3 (by omega) (fun k e => by simp at e; omega))
      have HBOX3 := Lib.hid (HBOX.out.grown hg3 (by simp; exact hgj))
      have HR3 := Lib.hid hr3
      have hs3 := hg3.size
      clear p0 p1 q0 q1 b0 b1 hr3 hg3 HADD1
      obtain ⟨⟨p0, p1⟩, ⟨q0, q1⟩, _⟩ := HC.out w3 HB3.out
      obtain ⟨_, b0, b1⟩ := HBOX3.out
      have HPB1 : Hid (∀ z, -1000000000 ≤ pat ⟨l1, x⟩ z ∧ pat ⟨l1, x⟩ z ≤ 1000000000) := Lib.hid (pat_bound (p := ⟨l1, x⟩) (by omega) HXC.out)
      have HADD2 := Lib.hid (add_any w2.heap.size g N N (fun z => 0 + pat ⟨l1, x⟩ z) LO l2 y a2 c2 n2 w3 HR3.out (H2.out.below HB3.out) (by omega) (by omega) (by omega) (by omega) (.inr (by omega)) hne2 (fun z => by have := HPB1.out z; omega) (fun i => by have := HYC.out i; omega))
      clear hne2
      go_wp2_with fail
      refine HADD2.out.mono ?_
      rintro e w4 ⟨rfl, hr4, hg4⟩
      have HB4 := Lib.hid (HB3.out.grown hg4 (by omega) (fun k e => by simp at e; omega))
      have HBOX4 := Lib.hid (HBOX3.out.grown hg4 (by simp; exact hgj))
      have hs4 := hg4.size
      clear p0 p1 q0 q1 b0 b1 hg4 HADD2
      obtain ⟨_, b0, b1⟩ := HBOX4.out
      have HPB2 : Hid (∀ z, -1000000000 ≤ pat ⟨l2, y⟩ z ∧ pat ⟨l2, y⟩ z ≤ 1000000000) := Lib.hid (pat_bound (p := ⟨l2, y⟩) (by omega) HYC.out)
      have hwf : ∀ z ∈ listP (fun z => 0 + pat ⟨l1, x⟩ z + pat ⟨l2, y⟩ z) LO N, -9223372036854775808 ≤ z ∧ z ≤ 9223372036854775807 := fun z hz => by
        unfold listP at hz
        obtain ⟨i, _, rfl⟩ := List.mem_map.1 hz
        have e1 := HPB1.out (LO + (i : Int))
        have e2 := HPB2.out (LO + (i : Int))
        show -9223372036854775808 ≤ 0 + pat ⟨l1, x⟩ (LO + (i : Int)) + pat ⟨l2, y⟩ (LO + (i : Int)) ∧ 0 + pat ⟨l1, x⟩ (LO + (i : Int)) + pat ⟨l2, y⟩ (LO + (i : Int)) ≤ 9223372036854775807
        omega
      have hrr : IntRow w2.heap.size w4 (.slice (some ⟨g, 0, none⟩) N N) (listP (fun z => 0 + pat ⟨l1, x⟩ z + pat ⟨l2, y⟩ z) LO N) := rowI hr4 (listP_len _ _ _)
      obtain ⟨a5, c5, hv, hc5, hi5⟩ := hrr.readc hwf
      rw [listP_len] at hv hc5 hi5
      simp at hv
      obtain ⟨rfl, rfl⟩ := hv
      have HTD : Hid (tidyP LO (listP (fun z => 0 + pat ⟨l1, x⟩ z + pat ⟨l2, y⟩ z) LO N) = sumP ⟨l1, x⟩ 1 ⟨l2, y⟩) := Lib.hid (listP_tidy HTR.out (fun k hk => by
          rw [pat_low ⟨l1, x⟩ (by show k < l1; omega), pat_low ⟨l2, y⟩ (by show k < l2; omega)]; rfl) (fun k hk => by
          rw [pat_high ⟨l1, x⟩ (by show l1 + (x.length : Int) ≤ k; omega), pat_high ⟨l2, y⟩ (by show l2 + (y.length : Int) ≤ k; omega)]; rfl) (fun k => by
          rw [sum_pat, Int.one_mul, Int.zero_add]))
      have HA := Lib.hid (apart_in LO (listP (fun z => 0 + pat ⟨l1, x⟩ z + pat ⟨l2, y⟩ z) LO N) (some ⟨g, 0, none⟩) N N w4 hi5 (Nat.le_refl _) (by omega) (by omega) (by omega))
      clear hwf hrr hr4 hc5 hi5
      go_wp2_with fail
      refine HA.out.mono ?_
      rintro e w5 ⟨⟨v, rfl, hA⟩, hb5⟩
      have HB5 := Lib.hid (HB4.out.trans (hb5.mono (by omega)))
      have hs5 := hb5.size
      clear hb5 b0 b1
      rw [HTD.out] at hA
      have hss := HSZ.out
      rcases hA with ⟨hq, rfl⟩ | ⟨hq, a6, c6, rfl, hc6, hi6⟩
      · obtain ⟨rfl, hq0⟩ := told_zero HTR.out hq HPT.out
        have HQ0 := Lib.hid hq0
        clear hq hq0
        go_wp2_with fail
        refine (toldZ_any _).mono ?_
        rintro e w6 ⟨⟨v, rfl, hr⟩, hb6⟩
        obtain ⟨_, _, d0, d1, f0, f1⟩ := HC.out w6 (HB5.out.trans (hb6.mono (by omega)))
        have HR := Lib.hid hr
        have HB6 := Lib.hid (HBW.out.trans ((HB5.out.trans (hb6.mono (by omega))).mono HBW.out.size))
        obtain ⟨g4, gg, cap4, rfl, _⟩ := hr.shape
        clear hr hb6
        go_wp2
        refine bodyPost_ret (v := .tuple #[plV 0 (.slice g4 0 cap4), .bool true]) ?_ rfl ⟨⟨.slice g4 0 cap4, by rw [HQ0.out]; rfl, by rw [HQ0.out]; exact resRow2 (.int .i64 0) (.slice g4 0 cap4) HR.out (by omega)⟩, resBelow2 (.int .i64 0) (.slice g4 0 cap4) HB6.out⟩
        simp [results, Try.results32, go_sem, d0, d1, plV]
      · have HTO := Lib.hid (toldP_any (sumP ⟨l1, x⟩ 1 ⟨l2, y⟩).low (sumP ⟨l1, x⟩ 1 ⟨l2, y⟩).cs a6 c6 _ t w5 hi6 (by rw [fits_polyB HTR.out hq]; exact HPT.out))
        clear hi6
        go_wp2_with fail
        refine HTO.out.mono ?_
        rintro e w6 ⟨⟨v, rfl, hr⟩, hb6⟩
        obtain ⟨_, _, d0, d1, f0, f1⟩ := HC.out w6 (HB5.out.trans (hb6.mono (by omega)))
        have HR := Lib.hid hr
        have HB6 := Lib.hid (HBW.out.trans ((HB5.out.trans (hb6.mono (by omega))).mono HBW.out.size))
        obtain ⟨g4, gg, cap4, rfl, _⟩ := hr.shape
        clear hr hb6
        go_wp2
        refine bodyPost_ret (v := .tuple #[plV (doneP t (sumP ⟨l1, x⟩ 1 ⟨l2, y⟩)).low (.slice g4 (doneP t (sumP ⟨l1, x⟩ 1 ⟨l2, y⟩)).cs.length cap4), .bool t]) ?_ rfl ⟨⟨_, rfl, resRow2 (.int .i64 (doneP t (sumP ⟨l1, x⟩ 1 ⟨l2, y⟩)).low) (.slice g4 (doneP t (sumP ⟨l1, x⟩ 1 ⟨l2, y⟩)).cs.length cap4) HR.out (by omega)⟩, resBelow2 (.int .i64 (doneP t (sumP ⟨l1, x⟩ 1 ⟨l2, y⟩)).low) (.slice g4 (doneP t (sumP ⟨l1, x⟩ 1 ⟨l2, y⟩)).cs.length cap4) HB6.out⟩
        simp [results, Try.results32, go_sem, d0, d1, plV]

end Go.Proofs.Ytocklmiappppgaa

/- How PolyAdd and the model's answer, for the law. -/

namespace Go.Proofs.Ytocklmiappppgaa
open Go.RowKit

theorem addP_fit {w : World} {l1 l2 : Int} {x y : List Int} {a1 a2 : Option Addr} {n1 n2 : Nat} {b : Bool} {p : Pl} (_ : Ints w a1 n1 x) (_ : Ints w a2 n2 y) (_ : addPB ⟨l1, x⟩ ⟨l2, y⟩ = b) (hp : addP ⟨l1, x⟩ ⟨l2, y⟩ = p) : p.cs.length ≤ 200 := by
  unfold addP at hp
  refine doneP_len (fun h => ?_) hp
  unfold addPB at h
  simp only [Bool.and_eq_true] at h
  exact h.2.2
theorem sPolyAdd_law {l1 l2 : Int} {x y : List Int} {a1 a2 : Option Addr} {n1 n2 : Nat} {b : Bool} {pl : Int} {pc : List Int} {w : World} (h1 : Ints w a1 n1 x) (h2 : Ints w a2 n2 y) (hb : addPB ⟨l1, x⟩ ⟨l2, y⟩ = b) (hp : addP ⟨l1, x⟩ ⟨l2, y⟩ = ⟨pl, pc⟩) :
    Calls Try.prog 33 #[plV l1 (.slice a1 n1 n1), plV l2 (.slice a2 n2 n2)] w fun e w' => (∃ v, e = .returned (.tuple #[plV pl v, .bool b]) ∧ IntRow w.heap.size w' v pc) ∧ Below w.heap.size w w' := by
  have h := sPolyAdd_any l1 l2 x y a1 a2 n1 n2 n1 n2 _ _ b w h1 h2 (Nat.le_refl _) rfl rfl hb
  unfold addP at hp
  rwa [← hb, hp, hb] at h
theorem iPolyAdd_law {l1 l2 : Int} {x y : List Int} {a1 a2 : Option Addr} {n1 n2 : Nat} {b : Bool} {pl : Int} {pc : List Int} {w : World} (h1 : Ints w a1 n1 x) (h2 : Ints w a2 n2 y) (hb : addPB ⟨l1, x⟩ ⟨l2, y⟩ = b) (hp : addP ⟨l1, x⟩ ⟨l2, y⟩ = ⟨pl, pc⟩) :
    Calls Try.prog 32 #[plV l1 (.slice a1 n1 n1), plV l2 (.slice a2 n2 n2)] w fun e w' => (∃ v, e = .returned (.tuple #[plV pl v, .bool b]) ∧ IntRow w.heap.size w' v pc) ∧ Below w.heap.size w w' := by
  have h := iPolyAdd_any l1 l2 x y a1 a2 n1 n2 n1 n2 _ _ b w h1 h2 (Nat.le_refl _) (Nat.le_refl _) rfl rfl hb
  unfold addP at hp
  rwa [← hb, hp, hb] at h

end Go.Proofs.Ytocklmiappppgaa

/- The program's totals: add and number. -/

namespace Go.Proofs.Ytocklmiappppgaa
open Go.RowKit

theorem tdiv_parts (p : Int) : p.tdiv 1000000000 * 1000000000 + p.tmod 1000000000 = p ∧ -1000000000 < p.tmod 1000000000 ∧ p.tmod 1000000000 < 1000000000 := by
  have h1 := Int.mul_tdiv_add_tmod p 1000000000
  have h2 := Int.tmod_lt_of_pos p (show (0 : Int) < 1000000000 by omega)
  have h3 := Int.lt_tmod_of_pos p (show (0 : Int) < 1000000000 by omega)
  omega
theorem num_no {c r : Int} (h : inR (-1) 1 (c + r.tdiv 1000000000) = false) : coefIn (c * 1000000000 + r) = false := by
  have h1 := tdiv_parts r
  unfold inR at h
  simp only [Bool.and_eq_false_iff, decide_eq_false_iff_not] at h
  exact coefIn_no (by omega)
theorem num_yes {c r : Int} : (c + r.tdiv 1000000000) * 1000000000 + r.tmod 1000000000 = c * 1000000000 + r := by
  have h1 := tdiv_parts r
  omega

set_option maxHeartbeats 2000000 in
theorem number_any (c r : Int) (b : Bool) (w : World) (hc : -4000000000000000 ≤ c ∧ c ≤ 4000000000000000) (hr : -4000000000000000 ≤ r ∧ r ≤ 4000000000000000) (hb : inR (-1) 1 (c + r.tdiv 1000000000) = b) :
    Calls Try.prog 71 #[.agg #[.int .i64 c, .int .i64 r]] w fun e w' => e = .returned (.tuple #[.int .i64 (if b then c * 1000000000 + r else 0), .bool b]) ∧ Below w.heap.size w w' := by
  obtain ⟨q, hq⟩ : ∃ q, r.tdiv 1000000000 = q := ⟨_, rfl⟩
  obtain ⟨m, hm⟩ : ∃ m, r.tmod 1000000000 = m := ⟨_, rfl⟩
  have hp := tdiv_parts r
  rw [hq, hm] at hp
  obtain ⟨hp1, hp2, hp3⟩ := hp
  rw [hq] at hb
  have hw1 : IntKind.i64.wrap q = q := IntWalk.i64_in _ (by omega)
  have hw2 : IntKind.i64.wrap (c + q) = c + q := IntWalk.i64_in _ (by omega)
  have hbW : Below w.heap.size w (w.alloc (.cells #[.int .i64 c, .int .i64 r] 70)) := (Below.refl _ w).alloc (Nat.le_refl _) _
  have HBW := Lib.hid hbW
  have HB := Lib.hid hb
  clear hbW hb
  cases b with
  | false =>
    go_enter Try.func71, Try.ntmps71
    go_wp2_with fail
    refine (within_any (c + q) 1 false _ (by omega) (by omega) HB.out).mono ?_
    rintro e w1 ⟨rfl, rfl⟩
    go_wp2
    go_ret2
    exact ⟨rfl, HBW.out⟩
  | true =>
    have hx : -1 ≤ c + q ∧ c + q ≤ 1 := by have := HB.out; unfold inR at this; simpa using this
    obtain ⟨hx1, hx2⟩ := hx
    have hw3 : IntKind.i64.wrap ((c + q) * 1000000000) = (c + q) * 1000000000 := IntWalk.i64_in _ (by omega)
    have hw4 : IntKind.i64.wrap ((c + q) * 1000000000 + m) = (c + q) * 1000000000 + m := IntWalk.i64_in _ (by omega)
    have hs : (c + q) * 1000000000 + m = c * 1000000000 + r := by omega
    have HS := Lib.hid hs
    have HP := Lib.hid hp1
    clear hs hp1
    go_enter Try.func71, Try.ntmps71
    go_wp2_with fail
    refine (within_any (c + q) 1 true _ (by omega) (by omega) HB.out).mono ?_
    rintro e w1 ⟨rfl, rfl⟩
    go_wp2
    go_ret2
    exact ⟨by rw [HS.out]; rfl, HBW.out⟩

end Go.Proofs.Ytocklmiappppgaa

/- The model's l6pProduct. -/

namespace Go.Proofs.Ytocklmiappppgaa
open Go.RowKit

theorem conv_bound {x y : List Int} (hx : ∀ i, -1000000000 ≤ x.getD i 0 ∧ x.getD i 0 ≤ 1000000000) (hy : ∀ i, -1000000000 ≤ y.getD i 0 ∧ y.getD i 0 ≤ 1000000000) (i j : Nat) : -1000000000000000000 ≤ x.getD i 0 * y.getD j 0 ∧ x.getD i 0 * y.getD j 0 ≤ 1000000000000000000 := by
  obtain ⟨a1, a2⟩ := hx i
  obtain ⟨b1, b2⟩ := hy j
  generalize x.getD i 0 = a at a1 a2
  generalize y.getD j 0 = b at b1 b2
  have e1 := Int.mul_nonneg (show 0 ≤ 1000000000 - a by omega) (show 0 ≤ 1000000000 + b by omega)
  have e2 := Int.mul_nonneg (show 0 ≤ 1000000000 + a by omega) (show 0 ≤ 1000000000 - b by omega)
  have e3 := Int.mul_nonneg (show 0 ≤ 1000000000 - a by omega) (show 0 ≤ 1000000000 - b by omega)
  have e4 := Int.mul_nonneg (show 0 ≤ 1000000000 + a by omega) (show 0 ≤ 1000000000 + b by omega)
  rw [Int.sub_mul, Int.mul_add, Int.mul_add] at e1
  rw [Int.add_mul, Int.mul_sub, Int.mul_sub] at e2
  rw [Int.sub_mul, Int.mul_sub, Int.mul_sub] at e3
  rw [Int.add_mul, Int.mul_add, Int.mul_add] at e4
  omega
theorem tdiv_bound {p : Int} (h1 : -1000000000000000000 ≤ p) (h2 : p ≤ 1000000000000000000) : -1000000000 ≤ p.tdiv 1000000000 ∧ p.tdiv 1000000000 ≤ 1000000000 := by
  have := tdiv_parts p
  omega
/-- What the model's sum is held at. -/
theorem held_high {h l c : Int} (hs : h * 1000000000 + l = c) (hl : -1000000000 < l ∧ l < 1000000000) : (inR (-2) 2 h = true → Heldc (h * 1000000000 + l) c) ∧ (inR (-2) 2 h = false → Heldc (2 * 1000000000 + 0) c) := by
  refine ⟨fun _ => .inl hs, fun e => .inr ⟨by decide, ?_⟩⟩
  unfold inR at e
  simp only [Bool.and_eq_false_iff, decide_eq_false_iff_not] at e
  exact coefIn_no (by omega)
theorem convN_top {x y : List Int} {i m : Nat} (h : m = i + 1 ∨ m = x.length) (h1 : m ≤ i + 1) (h2 : m ≤ x.length) : convN x y i m = convN x y i x.length := by
  rcases h with rfl | rfl
  · have e := convN_stop x y i (x.length - (i + 1))
    rw [show i + 1 + (x.length - (i + 1)) = x.length by omega] at e
    exact e.symm
  · rfl
theorem held_set {os : List Int} {N k : Nat} (hl : os.length = k) (hk : k < N) (o : Int) : (intsV (os ++ List.replicate (N - k) 0)).set k (.int .i64 o) = intsV ((os ++ [o]) ++ List.replicate (N - (k + 1)) 0) := by
  unfold intsV
  rw [List.map_append, List.set_append_right _ _ (by rw [List.length_map, hl]; exact Nat.le_refl _), List.length_map, hl, Nat.sub_self, show N - k = (N - (k + 1)) + 1 by omega, List.replicate_succ, List.map_cons, List.set_cons_zero, List.map_append, List.map_append, List.append_assoc]
  rfl

theorem held_next {os : List Int} {k : Nat} {f : Nat → Int} {o : Int} (h : os.length = k ∧ (∀ j, j < k → Heldc (os.getD j 0) (f j)) ∧ ∀ z ∈ os, -4000000000000000000 ≤ z ∧ z ≤ 4000000000000000000) (ho : Heldc o (f k)) (hb : -4000000000000000000 ≤ o ∧ o ≤ 4000000000000000000) :
    (os ++ [o]).length = k + 1 ∧ (∀ j, j < k + 1 → Heldc ((os ++ [o]).getD j 0) (f j)) ∧ ∀ z ∈ os ++ [o], -4000000000000000000 ≤ z ∧ z ≤ 4000000000000000000 := by
  obtain ⟨h1, h2, h3⟩ := h
  refine ⟨by simp [h1], fun j hj => ?_, fun z hz => ?_⟩
  · by_cases e : j = k
    · subst e
      rw [List.getD_eq_getElem?_getD, List.getElem?_append_right (by omega), h1, Nat.sub_self]
      exact ho
    · rw [List.getD_eq_getElem?_getD, List.getElem?_append_left (by omega), ← List.getD_eq_getElem?_getD]
      exact h2 j (by omega)
  · rcases List.mem_append.1 hz with h | h
    · exact h3 z h
    · obtain rfl := List.mem_singleton.1 h
      exact hb

set_option maxRecDepth 100000 in
set_option maxHeartbeats 8000000 in
theorem l6pProduct_some (l1 l2 : Int) (x y : List Int) (a1 a2 : Option Addr) (c1 c2 n1 n2 : Nat) (w : World) (h1 : Ints w a1 n1 x) (h2 : Ints w a2 n2 y) (h01 : 0 < n1) (h02 : 0 < n2)
    (hl1 : -300 ≤ l1 ∧ l1 ≤ 300) (hl2 : -300 ≤ l2 ∧ l2 ≤ 300) (hn1 : n1 ≤ 200) (hn2 : n2 ≤ 200)
    (hx : ∀ i, -1000000000 ≤ x.getD i 0 ∧ x.getD i 0 ≤ 1000000000) (hy : ∀ i, -1000000000 ≤ y.getD i 0 ∧ y.getD i 0 ≤ 1000000000) :
    Calls Try.prog 81 #[plV l1 (.slice a1 n1 c1), plV l2 (.slice a2 n2 c2)] w fun e w' => (∃ v os, e = .returned (plV (tidyP (l1 + l2) os).low v) ∧ IntRow w.heap.size w' v (tidyP (l1 + l2) os).cs ∧ os.length = n1 + n2 - 1 ∧ (∀ i, i < os.length → Heldc (os.getD i 0) (convN x y i n1)) ∧ ∀ z ∈ os, -4000000000000000000 ≤ z ∧ z ≤ 4000000000000000000) ∧ Below w.heap.size w w' := by
  obtain ⟨i0, hi, hz0, hz1, hz2⟩ := info_parts infoInt
  obtain ⟨W, hW⟩ : ∃ W, ((w.alloc (.cells #[.int .i64 l1, .slice a1 n1 c1] 25)).alloc (.cells #[.int .i64 l2, .slice a2 n2 c2] 25)).alloc (.cells #[.int .i64 0, .slice none 0 0] 25) = W := ⟨_, rfl⟩
  obtain ⟨hbW, hsz⟩ := boxes3Below hW
  have HC : Hid (∀ w1, Below W.heap.size W w1 → _) := Lib.hid fun w1 (hg : Below W.heap.size W w1) => boxes3 hW hg
  have hC := boxes3 hW (Below.refl _ _)
  rw [← hW] at hC
  obtain ⟨⟨p0, p1⟩, ⟨q0, q1⟩, _⟩ := hC
  have H1 := Lib.hid (h1.below hbW)
  have H2 := Lib.hid (h2.below hbW)
  have HN1 := Lib.hid h1.len
  have HN2 := Lib.hid h2.len
  have HX := Lib.hid hx
  have HY := Lib.hid hy
  have HBW := Lib.hid hbW
  have HW := Lib.hid hW
  have HSZ := Lib.hid hsz
  have h01i : ¬ (n1 : Int) = 0 := by omega
  have h02i : ¬ (n2 : Int) = 0 := by omega
  have h01b : ((n1 : Int) == 0) = false := by simpa using h01i
  have h02b : ((n2 : Int) == 0) = false := by simpa using h02i
  obtain ⟨N, hN⟩ : ∃ N, n1 + n2 - 1 = N := ⟨_, rfl⟩
  have hwa : IntKind.i64.wrap ((n1 : Int) + (n2 : Int)) = (n1 : Int) + (n2 : Int) := IntWalk.i64_in _ (by omega)
  have hwb : IntKind.i64.wrap ((n1 : Int) + (n2 : Int) - 1) = (N : Int) := by rw [IntWalk.i64_in _ (by omega)]; omega
  have hNb : N ≤ 400 := by omega
  clear hW hbW h1 h2 hx hy hsz
  go_enter Try.func81, Try.ntmps81
  go_upto_if 20 with fail
  rw [HW.out]
  clear p0 p1 q0 q1
  obtain ⟨⟨p0, p1⟩, ⟨q0, q1⟩, _⟩ := HC.out W (Below.refl _ _)
  go_wp2_with (at_make; refine wpList_make_full _ rfl _ _ 23 rfl W.heap.size 3 i0 (.int .i64 0) 1 Try.underlying23 hi hz0 hz1 .i64 .i64 _ _ N rfl rfl rfl rfl (by rw [hz2]; omega) (by unfold maxLen; omega) (Nat.le_refl _) ?_; intro w1 hrow hgrow)
  rw [made_zero 0 N, listP_zero] at hrow
  have HR1 : Hid (w1.ownsRow W.heap.size 3 1 (.slice (some ⟨W.heap.size, 0, none⟩) N N) N (intsV ([] ++ List.replicate (N - 0) 0))) := Lib.hid hrow
  have HB1 : Hid (Below W.heap.size W w1) := Lib.hid ((Below.refl _ _).grown hgrow (Nat.le_refl _) (fun k e => by cases e))
  clear hrow hgrow hwa hwb p0 p1 q0 q1
  obtain ⟨⟨p0, p1⟩, ⟨q0, q1⟩, _⟩ := HC.out w1 HB1.out
  go_loopw [6, 7, 8, 9, 10] (fun i _ _ _ _ wr => ∃ (k : Nat) (os : List Int), k ≤ N ∧ i = .int .i64 (k : Int) ∧ Hid (os.length = k ∧ (∀ j, j < k → Heldc (os.getD j 0) (convN x y j n1)) ∧ ∀ z ∈ os, -4000000000000000000 ≤ z ∧ z ≤ 4000000000000000000) ∧ Hid (wr.ownsRow W.heap.size 3 1 (.slice (some ⟨W.heap.size, 0, none⟩) N N) N (intsV (os ++ List.replicate (N - k) 0))) ∧ Hid (Below W.heap.size W wr)) (fun i _ _ _ _ _ => N - (intOf i).toNat)
  case atStart => exact ⟨0, [], Nat.zero_le _, rfl, Lib.hid ⟨rfl, fun j h => absurd h (Nat.not_lt_zero _), fun z h => by cases h⟩, HR1, HB1⟩
  case round =>
    obtain ⟨k, os, hk, rfl, HO, HR, HB⟩ := hrel
    clear p0 p1 q0 q1
    obtain ⟨⟨p0, p1⟩, ⟨q0, q1⟩, _⟩ := HC.out wr HB.out
    by_cases hlt : k < N
    · have hki : (k : Int) < (N : Int) := by omega
      obtain ⟨K0, hK0⟩ : ∃ K0, k + 1 - n2 = K0 := ⟨_, rfl⟩
      have hw1 : IntKind.i64.wrap ((k : Int) - (n2 : Int)) = (k : Int) - (n2 : Int) := IntWalk.i64_in _ (by omega)
      have hw2 : IntKind.i64.wrap ((k : Int) - (n2 : Int) + 1) = (k : Int) - (n2 : Int) + 1 := IntWalk.i64_in _ (by omega)
      have hmax : ∀ V : World, (Builtin.max_ #[3, 3] 3 #[.int .i64 0, .int .i64 ((k : Int) - (n2 : Int) + 1)]).run Try.prog V = .ok (.int .i64 (K0 : Int)) V := fun V => by
        rw [max_int]
        congr 2
        split <;> omega
      have hK1 : K0 ≤ k + 1 := by omega
      have hK2 : K0 ≤ n1 := by omega
      have HC0 : Hid (convN x y k K0 = 0) := Lib.hid (by
        by_cases h0 : K0 = 0
        · rw [h0]; rfl
        · exact convN_from x y k K0 (by rw [HN2.out]; omega))
      have HK0 := Lib.hid hK0
      clear hK0
      go_wp2
      clear hw1 hw2 hmax p0 p1 q0 q1
      go_loopw [7, 8, 9, 10] (fun h l m _ wi => ∃ (m' : Nat) (H Lo : Int), K0 ≤ m' ∧ m' ≤ k + 1 ∧ m' ≤ n1 ∧ m = .int .i64 (m' : Int) ∧ h = .int .i64 H ∧ l = .int .i64 Lo ∧ Hid (H * 1000000000 + Lo = convN x y k m') ∧ -1000000000 * (m' : Int) ≤ H ∧ H ≤ 1000000000 * (m' : Int) ∧ -1000000000 * (m' : Int) ≤ Lo ∧ Lo ≤ 1000000000 * (m' : Int) ∧ Hid (wi.ownsRow W.heap.size 3 1 (.slice (some ⟨W.heap.size, 0, none⟩) N N) N (intsV (os ++ List.replicate (N - k) 0))) ∧ Hid (Below W.heap.size W wi)) (fun _ _ m _ _ => k + 1 - (intOf m).toNat)
      case atStart => exact ⟨K0, 0, 0, Nat.le_refl _, hK1, hK2, rfl, rfl, rfl, Lib.hid (by rw [HC0.out]; rfl), by omega, by omega, by omega, by omega, HR, HB⟩
      case round =>
        obtain ⟨m, H, Lo, hm0', hm1, hm2, rfl, rfl, rfl, HS, hH1, hH2, hL1, hL2, HRi, HBi⟩ := hrel
        obtain ⟨⟨p0, p1⟩, ⟨q0, q1⟩, _⟩ := HC.out _ HBi.out
        by_cases hgo : m ≤ k ∧ m < n1
        · obtain ⟨hmk, hmn⟩ := hgo
          have hmki : (m : Int) ≤ (k : Int) := by omega
          have hmni : (m : Int) < (n1 : Int) := by omega
          have hm0 : (0 : Int) ≤ (m : Int) := by omega
          obtain ⟨d, hd⟩ : ∃ d, k - m = d := ⟨_, rfl⟩
          have hdn : d < n2 := by have := HK0.out; omega
          have hdi : (d : Int) < (n2 : Int) := by omega
          have hd0 : (0 : Int) ≤ (d : Int) := by omega
          have hwd : IntKind.i64.wrap ((k : Int) - (m : Int)) = (d : Int) := by rw [IntWalk.i64_in _ (by omega)]; omega
          obtain ⟨xa, rfl, hxb, hxc⟩ := (H1.out.below HBi.out).at_ (by omega)
          obtain ⟨ya, rfl, hyb, hyc⟩ := (H2.out.below HBi.out).at_ (by omega)
          have hkx : m < x.length := by rw [HN1.out]; exact hmn
          have hky : d < y.length := by rw [HN2.out]; exact hdn
          obtain ⟨u, hu⟩ : ∃ u, x.getD m 0 = u := ⟨_, rfl⟩
          obtain ⟨v, hv⟩ : ∃ v, y.getD d 0 = v := ⟨_, rfl⟩
          have hcu := hxc m hkx
          have hcv := hyc d hky
          rw [show x[m] = u by rw [← hu, List.getD_eq_getElem?_getD, List.getElem?_eq_getElem hkx]; rfl] at hcu
          rw [show y[d] = v by rw [← hv, List.getD_eq_getElem?_getD, List.getElem?_eq_getElem hky]; rfl] at hcv
          have hpb := conv_bound HX.out HY.out m d
          rw [hu, hv] at hpb
          obtain ⟨p, hp⟩ : ∃ p, u * v = p := ⟨_, rfl⟩
          rw [hp] at hpb
          obtain ⟨hp1, hp2⟩ := hpb
          have htb := tdiv_bound hp1 hp2
          have htp := tdiv_parts p
          obtain ⟨q, hq⟩ : ∃ q, p.tdiv 1000000000 = q := ⟨_, rfl⟩
          obtain ⟨r, hr⟩ : ∃ r, p.tmod 1000000000 = r := ⟨_, rfl⟩
          rw [hq] at htb htp
          rw [hr] at htp
          obtain ⟨hq1, hq2⟩ := htb
          obtain ⟨hqr, hr1, hr2⟩ := htp
          have hwp : IntKind.i64.wrap (u * v) = p := by rw [hp]; exact IntWalk.i64_in _ (by omega)
          have hwq : IntKind.i64.wrap q = q := IntWalk.i64_in _ (by omega)
          have hwH : IntKind.i64.wrap (H + q) = H + q := IntWalk.i64_in _ (by omega)
          have hwL : IntKind.i64.wrap (Lo + r) = Lo + r := IntWalk.i64_in _ (by omega)
          have HS2 : Hid ((H + q) * 1000000000 + (Lo + r) = convN x y k (m + 1)) := Lib.hid (by
            rw [convN, if_pos hmk, hd, hu, hv, hp, ← HS.out]
            omega)
          clear hu hv hxc hyc hp hd hqr hxb hyb
          go_wp2
          go_quiet (fail)
          go_wp2
          go_roundw
          case rel => exact ⟨m + 1, H + q, Lo + r, by omega, by omega, by omega, by go_num, rfl, rfl, HS2, by omega, by omega, by omega, by omega, Lib.hid (rowPast HRi.out (below_drewN (Below.refl _ _) _)), Lib.hid (below_drewN HBi.out _)⟩
          case measure => simp [intOf]; omega
        · have HTOP := Lib.hid (convN_top (x := x) (y := y) (i := k) (m := m) (by rw [HN1.out]; omega) hm1 (by rw [HN1.out]; exact hm2))
          have hstop : ¬ ((m : Int) ≤ (k : Int)) ∨ ((m : Int) ≤ (k : Int) ∧ ¬ (m : Int) < (n1 : Int)) := by omega
          have htp := tdiv_parts Lo
          obtain ⟨q, hq⟩ : ∃ q, Lo.tdiv 1000000000 = q := ⟨_, rfl⟩
          obtain ⟨r, hr⟩ : ∃ r, Lo.tmod 1000000000 = r := ⟨_, rfl⟩
          rw [hq, hr] at htp
          obtain ⟨hqr, hr1, hr2⟩ := htp
          have hwq : IntKind.i64.wrap q = q := IntWalk.i64_in _ (by omega)
          have hwH : IntKind.i64.wrap (H + q) = H + q := IntWalk.i64_in _ (by omega)
          have hos := HO.out.1
          have hck : wr.cell? ⟨W.heap.size, k, none⟩ = some (.int .i64 0) := by
            rw [HRi.out.cellAt _ (by omega)]
            simp only [intsV, List.getElem?_map]
            rw [List.getElem?_append_right (by rw [hos]; exact Nat.le_refl _), hos, Nat.sub_self, List.getElem?_replicate, if_pos (by omega)]
            rfl
          have hfk := HRi.out.frozenAt k
          have hk0 : (0 : Int) ≤ (k : Int) := by omega
          have hsum : (H + q) * 1000000000 + r = convN x y k n1 := by
            have h1 := HS.out
            rw [HTOP.out, HN1.out] at h1
            omega
          obtain ⟨b, hb⟩ : ∃ b, inR (-2) 2 (H + q) = b := ⟨_, rfl⟩
          have hheld := held_high hsum ⟨hr1, hr2⟩
          rw [hb] at hheld
          have HB2 := Lib.hid hb
          have HHE := Lib.hid hheld
          have HOO := HO
          clear hsum hheld hqr hos hb hH1 hH2 hL1 hL2
          have hstopd : (decide ((m : Int) ≤ (k : Int)) && decide ((m : Int) < (n1 : Int))) = false := by
            rcases hstop with h | ⟨_, h⟩
            · rw [decide_eq_false h]; rfl
            · rw [decide_eq_false h, Bool.and_false]
          cases b with
          | true =>
            have hin : -2 ≤ H + q ∧ H + q ≤ 2 := by have := HB2.out; unfold inR at this; simpa using this
            obtain ⟨hin1, hin2⟩ := hin
            have hwm : IntKind.i64.wrap ((H + q) * 1000000000) = (H + q) * 1000000000 := IntWalk.i64_in _ (by omega)
            have hws : IntKind.i64.wrap ((H + q) * 1000000000 + r) = (H + q) * 1000000000 + r := IntWalk.i64_in _ (by omega)
            have hob : -4000000000000000000 ≤ (H + q) * 1000000000 + r ∧ (H + q) * 1000000000 + r ≤ 4000000000000000000 := by omega
            have hhe := HHE.out.1 rfl
            have HOB := Lib.hid hob
            have HH := Lib.hid hhe
            clear hob hhe
            rcases hstop with hs1 | ⟨hs1, hs2⟩
            · have hs1d : decide ((m : Int) ≤ (k : Int)) = false := decide_eq_false hs1
              go_wp2_with fail
              refine (l6In_eq _ _ _ true _ HB2.out).mono ?_
              rintro e w2 ⟨rfl, rfl⟩
              go_wp2
              go_roundw
              case rel => exact ⟨k + 1, os ++ [(H + q) * 1000000000 + r], by omega, by go_num, Lib.hid (held_next HO.out HH.out HOB.out), Lib.hid (by rw [← held_set HO.out.1 hlt ((H + q) * 1000000000 + r)]; exact (HRi.out.stored k (.int .i64 ((H + q) * 1000000000 + r))).1), Lib.hid (HBi.out.setCell (p := ⟨W.heap.size, k, none⟩) (Nat.le_refl _) _)⟩
              case measure => simp [intOf]; omega
            · have hs2d : decide ((m : Int) < (n1 : Int)) = false := decide_eq_false hs2
              go_wp2_with fail
              refine (l6In_eq _ _ _ true _ HB2.out).mono ?_
              rintro e w2 ⟨rfl, rfl⟩
              go_wp2
              go_roundw
              case rel => exact ⟨k + 1, os ++ [(H + q) * 1000000000 + r], by omega, by go_num, Lib.hid (held_next HO.out HH.out HOB.out), Lib.hid (by rw [← held_set HO.out.1 hlt ((H + q) * 1000000000 + r)]; exact (HRi.out.stored k (.int .i64 ((H + q) * 1000000000 + r))).1), Lib.hid (HBi.out.setCell (p := ⟨W.heap.size, k, none⟩) (Nat.le_refl _) _)⟩
              case measure => simp [intOf]; omega
          | false =>
            have hhe : Heldc 2000000000 (convN x y k n1) := HHE.out.2 rfl
            have HH := Lib.hid hhe
            clear hhe
            rcases hstop with hs1 | ⟨hs1, hs2⟩
            · have hs1d : decide ((m : Int) ≤ (k : Int)) = false := decide_eq_false hs1
              go_wp2_with fail
              refine (l6In_eq _ _ _ false _ HB2.out).mono ?_
              rintro e w2 ⟨rfl, rfl⟩
              go_wp2
              go_roundw
              case rel => exact ⟨k + 1, os ++ [2000000000], by omega, by go_num, Lib.hid (held_next HO.out HH.out (by omega)), Lib.hid (by rw [← held_set HO.out.1 hlt 2000000000]; exact (HRi.out.stored k (.int .i64 2000000000)).1), Lib.hid (HBi.out.setCell (p := ⟨W.heap.size, k, none⟩) (Nat.le_refl _) _)⟩
              case measure => simp [intOf]; omega
            · have hs2d : decide ((m : Int) < (n1 : Int)) = false := decide_eq_false hs2
              go_wp2_with fail
              refine (l6In_eq _ _ _ false _ HB2.out).mono ?_
              rintro e w2 ⟨rfl, rfl⟩
              go_wp2
              go_roundw
              case rel => exact ⟨k + 1, os ++ [2000000000], by omega, by go_num, Lib.hid (held_next HO.out HH.out (by omega)), Lib.hid (by rw [← held_set HO.out.1 hlt 2000000000]; exact (HRi.out.stored k (.int .i64 2000000000)).1), Lib.hid (HBi.out.setCell (p := ⟨W.heap.size, k, none⟩) (Nat.le_refl _) _)⟩
              case measure => simp [intOf]; omega
    · obtain rfl : k = N := by omega
      have hr := HR.out
      rw [Nat.sub_self, List.replicate_zero, List.append_nil] at hr
      obtain ⟨ho1, ho2, ho3⟩ := HO.out
      have hrr : IntRow W.heap.size wr (.slice (some ⟨W.heap.size, 0, none⟩) k k) os := rowI hr ho1
      obtain ⟨a3, c3, hv, hc3, hi3⟩ := hrr.readc (fun z hz => by have := ho3 z hz; omega)
      rw [ho1] at hv hc3 hi3
      simp at hv
      obtain ⟨rfl, rfl⟩ := hv
      have hwl : IntKind.i64.wrap (l1 + l2) = l1 + l2 := IntWalk.i64_in _ (by omega)
      have HT := Lib.hid (l6pTidy_any (l1 + l2) os (some ⟨W.heap.size, 0, none⟩) k k wr hi3 (Nat.le_refl _) (by omega) (by omega) (by omega))
      have hsr := HB.out.size
      clear hr hrr hi3 hc3 ho1 ho2 ho3
      go_wp2_with fail
      refine HT.out.mono ?_
      rintro e w3 ⟨⟨v, rfl, hr⟩, hb3⟩
      obtain ⟨_, _, d0, d1, f0, f1⟩ := HC.out w3 (HB.out.trans (hb3.mono hsr))
      have HR3 := Lib.hid hr
      have HB3 := Lib.hid (HBW.out.trans ((HB.out.trans (hb3.mono hsr)).mono HBW.out.size))
      obtain ⟨g2, gg, cap3, rfl, _⟩ := hr.shape
      clear hr hb3
      go_wp2
      have hss := HSZ.out
      refine bodyPost_ret (v := plV (tidyP (l1 + l2) os).low (.slice g2 (tidyP (l1 + l2) os).cs.length cap3)) ?_ rfl ⟨⟨_, os, rfl, resRow2 (.int .i64 (tidyP (l1 + l2) os).low) (.slice g2 (tidyP (l1 + l2) os).cs.length cap3) HR3.out (by omega), by rw [HO.out.1]; exact hN.symm, fun i hi => HO.out.2.1 i (by rw [← HO.out.1]; exact hi), HO.out.2.2⟩, resBelow2 (.int .i64 (tidyP (l1 + l2) os).low) (.slice g2 (tidyP (l1 + l2) os).cs.length cap3) HB3.out⟩
      simp [results, Try.results81, go_sem, d0, d1, plV]

end Go.Proofs.Ytocklmiappppgaa

/- The model's PolyTimes. -/

namespace Go.Proofs.Ytocklmiappppgaa
open Go.RowKit

set_option maxRecDepth 100000 in
set_option maxHeartbeats 4000000 in
theorem l6pProduct_none (l1 l2 : Int) (a1 a2 : Option Addr) (c1 c2 n1 n2 : Nat) (w : World) (h0 : n1 = 0 ∨ n2 = 0) :
    Calls Try.prog 81 #[plV l1 (.slice a1 n1 c1), plV l2 (.slice a2 n2 c2)] w fun e w' => (∃ v, e = .returned (plV 0 v) ∧ IntRow w.heap.size w' v []) ∧ Below w.heap.size w w' := by
  obtain ⟨W, hW⟩ : ∃ W, ((w.alloc (.cells #[.int .i64 l1, .slice a1 n1 c1] 25)).alloc (.cells #[.int .i64 l2, .slice a2 n2 c2] 25)).alloc (.cells #[.int .i64 0, .slice none 0 0] 25) = W := ⟨_, rfl⟩
  obtain ⟨hbW, hsz⟩ := boxes3Below hW
  have hC := boxes3 hW (Below.refl _ _)
  have HC : Hid (∀ w1, Below W.heap.size W w1 → _) := Lib.hid fun w1 (hg : Below W.heap.size W w1) => boxes3 hW hg
  rw [← hW] at hC
  obtain ⟨⟨p0, p1⟩, ⟨q0, q1⟩, _⟩ := hC
  have HBW := Lib.hid hbW
  have HW := Lib.hid hW
  have HSZ := Lib.hid hsz
  have HM := Lib.hid (made_at W W.heap.size rfl W.heap.size (Nat.le_refl _))
  have HB1 := Lib.hid ((Below.refl W.heap.size W).alloc (Nat.le_refl _) (.cells #[] 3))
  clear hW hbW hsz
  go_enter Try.func81, Try.ntmps81
  by_cases h1 : n1 = 0
  · subst h1
    go_upto_if 20 with fail
    rw [HW.out]
    clear p0 p1 q0 q1
    obtain ⟨_, _, d0, d1, f0, f1⟩ := HC.out _ HB1.out
    go_wp2
    have hss := HSZ.out
    refine bodyPost_ret (v := plV 0 (.slice (some ⟨W.heap.size, 0, none⟩) 0 0)) ?_ rfl ⟨⟨_, rfl, resRow2 (.int .i64 0) (.slice (some ⟨W.heap.size, 0, none⟩) 0 0) HM.out (by omega)⟩, resBelow2 (.int .i64 0) (.slice (some ⟨W.heap.size, 0, none⟩) 0 0) (HBW.out.trans (HB1.out.mono HBW.out.size))⟩
    simp [results, Try.results81, go_sem, d0, d1, plV]
  · obtain rfl : n2 = 0 := h0.resolve_left h1
    have h1i : ¬ (n1 : Int) = 0 := by omega
    have h1b : ((n1 : Int) == 0) = false := by simpa using h1
    go_upto_if 20 with fail
    rw [HW.out]
    clear p0 p1 q0 q1
    obtain ⟨_, _, d0, d1, f0, f1⟩ := HC.out _ HB1.out
    go_wp2
    have hss := HSZ.out
    refine bodyPost_ret (v := plV 0 (.slice (some ⟨W.heap.size, 0, none⟩) 0 0)) ?_ rfl ⟨⟨_, rfl, resRow2 (.int .i64 0) (.slice (some ⟨W.heap.size, 0, none⟩) 0 0) HM.out (by omega)⟩, resBelow2 (.int .i64 0) (.slice (some ⟨W.heap.size, 0, none⟩) 0 0) (HBW.out.trans (HB1.out.mono HBW.out.size))⟩
    simp [results, Try.results81, go_sem, d0, d1, plV]

theorem l6pProduct_any (l1 l2 : Int) (x y : List Int) (a1 a2 : Option Addr) (c1 c2 n1 n2 : Nat) (w : World) (h1 : Ints w a1 n1 x) (h2 : Ints w a2 n2 y)
    (hl1 : -300 ≤ l1 ∧ l1 ≤ 300) (hl2 : -300 ≤ l2 ∧ l2 ≤ 300) (hn1 : n1 ≤ 200) (hn2 : n2 ≤ 200)
    (hx : ∀ i, -1000000000 ≤ x.getD i 0 ∧ x.getD i 0 ≤ 1000000000) (hy : ∀ i, -1000000000 ≤ y.getD i 0 ∧ y.getD i 0 ≤ 1000000000) :
    Calls Try.prog 81 #[plV l1 (.slice a1 n1 c1), plV l2 (.slice a2 n2 c2)] w fun e w' => (∃ v q, e = .returned (plV q.low v) ∧ IntRow w.heap.size w' v q.cs ∧ (q = prodP ⟨l1, x⟩ ⟨l2, y⟩ ∨ (polyB q = false ∧ polyB (prodP ⟨l1, x⟩ ⟨l2, y⟩) = false)) ∧ q.cs.length ≤ 400 ∧ ∀ z ∈ q.cs, -9223372036854775808 ≤ z ∧ z ≤ 9223372036854775807) ∧ Below w.heap.size w w' := by
  have e1 := h1.len
  have e2 := h2.len
  by_cases h0 : n1 = 0 ∨ n2 = 0
  · have e : prodP ⟨l1, x⟩ ⟨l2, y⟩ = ⟨0, []⟩ := by
      unfold prodP
      exact if_pos (by show x.length = 0 ∨ y.length = 0; rw [e1, e2]; exact h0)
    refine (l6pProduct_none l1 l2 a1 a2 c1 c2 n1 n2 w h0).mono ?_
    rintro e3 w1 ⟨⟨v, rfl, hr⟩, hb⟩
    exact ⟨⟨v, ⟨0, []⟩, rfl, hr, .inl e.symm, Nat.zero_le _, fun z hz => by cases hz⟩, hb⟩
  · refine (l6pProduct_some l1 l2 x y a1 a2 c1 c2 n1 n2 w h1 h2 (by omega) (by omega) hl1 hl2 hn1 hn2 hx hy).mono ?_
    rintro e3 w1 ⟨⟨v, os, rfl, hr, hol, hoh, hob⟩, hb⟩
    have e : prodP ⟨l1, x⟩ ⟨l2, y⟩ = tidyP (l1 + l2) (convL x y) := by
      unfold prodP
      exact if_neg (by show ¬ (x.length = 0 ∨ y.length = 0); rw [e1, e2]; exact h0)
    refine ⟨⟨v, tidyP (l1 + l2) os, rfl, hr, ?_, ?_, fun z hz => ?_⟩, hb⟩
    · rw [e]
      refine held_lists (l1 + l2) (by rw [hol, convL_len, e1, e2]) fun i hi => ?_
      rw [convL_len] at hi
      rw [convL_get x y i hi, e1]
      exact hoh i (by rw [hol]; omega)
    · have := tidy_len (l1 + l2) os
      omega
    · rcases tidy_mem hz with rfl | h
      · omega
      · have := hob z h
        omega

def timesPB (a b : Pl) : Bool := polyB a && (polyB b && polyB (prodP a b))
def timesP (a b : Pl) : Pl := doneP (timesPB a b) (prodP a b)

set_option maxRecDepth 100000 in
set_option maxHeartbeats 4000000 in
theorem sPolyTimes_any (l1 l2 : Int) (x y : List Int) (a1 a2 : Option Addr) (c1 c2 n1 n2 : Nat) (ba bb t : Bool) (w : World) (h1 : Ints w a1 n1 x) (h2 : Ints w a2 n2 y)
    (hba : polyB ⟨l1, x⟩ = ba) (hbb : polyB ⟨l2, y⟩ = bb) (ht : (ba && (bb && polyB (prodP ⟨l1, x⟩ ⟨l2, y⟩))) = t) :
    Calls Try.prog 36 #[plV l1 (.slice a1 n1 c1), plV l2 (.slice a2 n2 c2)] w fun e w' => (∃ v, e = .returned (.tuple #[plV (doneP t (prodP ⟨l1, x⟩ ⟨l2, y⟩)).low v, .bool t]) ∧ IntRow w.heap.size w' v (doneP t (prodP ⟨l1, x⟩ ⟨l2, y⟩)).cs) ∧ Below w.heap.size w w' := by
  obtain ⟨W, hW⟩ : ∃ W, ((w.alloc (.cells #[.int .i64 l1, .slice a1 n1 c1] 25)).alloc (.cells #[.int .i64 l2, .slice a2 n2 c2] 25)).alloc (.cells #[.int .i64 0, .slice none 0 0] 25) = W := ⟨_, rfl⟩
  obtain ⟨hbW, hsz⟩ := boxes3Below hW
  have HC : Hid (∀ w1, Below W.heap.size W w1 → _) := Lib.hid fun w1 (hg : Below W.heap.size W w1) => boxes3 hW hg
  have hC := boxes3 hW (Below.refl _ _)
  rw [← hW] at hC
  obtain ⟨⟨p0, p1⟩, ⟨q0, q1⟩, _⟩ := hC
  have H1 := Lib.hid (h1.below hbW)
  have H2 := Lib.hid (h2.below hbW)
  have HBA := Lib.hid hba
  have HBB := Lib.hid hbb
  have HN1 := Lib.hid h1.len
  have HN2 := Lib.hid h2.len
  have HBW := Lib.hid hbW
  have HW := Lib.hid hW
  have HSZ := Lib.hid hsz
  have HT := Lib.hid ht
  clear hW hbW h1 h2 hba hbb hsz ht
  go_enter Try.func36, Try.ntmps36
  go_wp2_with fail
  rw [HW.out]
  clear p0 p1 q0 q1
  refine (sPolyIn_any l1 x a1 c1 n1 ba W H1.out HBA.out).mono ?_
  rintro e w1 ⟨rfl, hb1⟩
  have HB1 := Lib.hid hb1
  obtain ⟨⟨p0, p1⟩, ⟨q0, q1⟩, d0, d1, f0, f1⟩ := HC.out w1 hb1
  have hs1 := hb1.size
  clear hb1
  cases ba with
  | false =>
    obtain rfl : t = false := by rw [← HT.out]; rfl
    go_wp2_with fail
    refine (l6pNone_any _).mono ?_
    rintro e w2 ⟨⟨v, rfl, hr⟩, hb2⟩
    obtain ⟨_, _, d0, d1, f0, f1⟩ := HC.out w2 (HB1.out.trans (hb2.mono hs1))
    have HR := Lib.hid hr
    have HB2 := Lib.hid (HBW.out.trans ((HB1.out.trans (hb2.mono hs1)).mono HBW.out.size))
    obtain ⟨g1, gg, cap1, rfl, _⟩ := hr.shape
    clear hr hb2
    go_wp2
    have hss := HSZ.out
    refine bodyPost_ret (v := .tuple #[plV 0 (.slice g1 0 cap1), .bool false]) ?_ rfl ⟨⟨_, rfl, resRow2 (.int .i64 0) (.slice g1 0 cap1) HR.out (by omega)⟩, resBelow2 (.int .i64 0) (.slice g1 0 cap1) HB2.out⟩
    simp [results, Try.results36, go_sem, d0, d1, plV]
  | true =>
    go_wp2_with fail
    refine (sPolyIn_any l2 y a2 c2 n2 bb w1 (H2.out.below HB1.out) HBB.out).mono ?_
    rintro e w2 ⟨rfl, hb2⟩
    have HB2 := Lib.hid (HB1.out.trans (hb2.mono hs1))
    have hs2 := HB2.out.size
    clear hb2 p0 p1 q0 q1 d0 d1 f0 f1
    obtain ⟨⟨p0, p1⟩, ⟨q0, q1⟩, d0, d1, f0, f1⟩ := HC.out w2 HB2.out
    cases bb with
    | false =>
      obtain rfl : t = false := by rw [← HT.out]; rfl
      go_wp2_with fail
      refine (l6pNone_any _).mono ?_
      rintro e w3 ⟨⟨v, rfl, hr⟩, hb3⟩
      clear d0 d1 f0 f1
      obtain ⟨_, _, d0, d1, f0, f1⟩ := HC.out w3 (HB2.out.trans (hb3.mono hs2))
      have HR := Lib.hid hr
      have HB3 := Lib.hid (HBW.out.trans ((HB2.out.trans (hb3.mono hs2)).mono HBW.out.size))
      obtain ⟨g1, gg, cap1, rfl, _⟩ := hr.shape
      clear hr hb3
      go_wp2
      have hss := HSZ.out
      refine bodyPost_ret (v := .tuple #[plV 0 (.slice g1 0 cap1), .bool false]) ?_ rfl ⟨⟨_, rfl, resRow2 (.int .i64 0) (.slice g1 0 cap1) HR.out (by omega)⟩, resBelow2 (.int .i64 0) (.slice g1 0 cap1) HB3.out⟩
      simp [results, Try.results36, go_sem, d0, d1, plV]
    | true =>
      obtain ⟨_, hx200, hxl1, hxl2, hxc⟩ := polyB_trim HBA.out
      obtain ⟨_, hy200, hyl1, hyl2, hyc⟩ := polyB_trim HBB.out
      have hx200 : x.length ≤ 200 := hx200
      have hy200 : y.length ≤ 200 := hy200
      have hxl1 : -300 ≤ l1 := hxl1
      have hxl2 : l1 ≤ 300 := hxl2
      have hyl1 : -300 ≤ l2 := hyl1
      have hyl2 : l2 ≤ 300 := hyl2
      have hxc : ∀ i, -1000000000 ≤ x.getD i 0 ∧ x.getD i 0 ≤ 1000000000 := hxc
      have hyc : ∀ i, -1000000000 ≤ y.getD i 0 ∧ y.getD i 0 ≤ 1000000000 := hyc
      have hx1 := HN1.out
      have hx2 := HN2.out
      have HS := Lib.hid (l6pProduct_any l1 l2 x y a1 a2 c1 c2 n1 n2 w2 (H1.out.below HB2.out) (H2.out.below HB2.out) (by omega) (by omega) (by omega) (by omega) hxc hyc)
      clear hxc hyc hx1 hx2
      go_wp2_with fail
      refine HS.out.mono ?_
      rintro e w3 ⟨⟨v, q, rfl, hr3, hq, hql, hqw⟩, hb3⟩
      obtain ⟨a3, c3, rfl, hc3, hi3⟩ := hr3.readc hqw
      obtain ⟨hd1, hd2⟩ := held_done hq
      have HB3 := Lib.hid (HB2.out.trans (hb3.mono hs2))
      have hs3 := HB3.out.size
      have hpt : polyB q = t := by have := HT.out; rw [Bool.true_and, Bool.true_and] at this; rw [hd1]; exact this
      have HDQ : Hid (doneP t q = doneP t (prodP ⟨l1, x⟩ ⟨l2, y⟩)) := Lib.hid (by rw [← hpt, hd2, hd1])
      clear hr3 hq hqw hd1 hd2
      have HD := Lib.hid (l6pDone_any q.low q.cs a3 c3 _ t w3 hi3 (by omega) hpt)
      clear hb3 hi3 hpt
      go_wp2_with fail
      refine HD.out.mono ?_
      rintro e w4 ⟨⟨v, rfl, hr⟩, hb4⟩
      rw [show (⟨q.low, q.cs⟩ : Pl) = q from rfl, HDQ.out] at hr ⊢
      clear d0 d1 f0 f1
      obtain ⟨_, _, d0, d1, f0, f1⟩ := HC.out w4 (HB3.out.trans (hb4.mono hs3))
      have HR := Lib.hid hr
      have HB4 := Lib.hid (HBW.out.trans ((HB3.out.trans (hb4.mono hs3)).mono HBW.out.size))
      obtain ⟨g1, gg, cap1, rfl, _⟩ := hr.shape
      clear hr hb4
      go_wp2
      have hss := HSZ.out
      refine bodyPost_ret (v := .tuple #[plV (doneP t (prodP ⟨l1, x⟩ ⟨l2, y⟩)).low (.slice g1 (doneP t (prodP ⟨l1, x⟩ ⟨l2, y⟩)).cs.length cap1), .bool t]) ?_ rfl ⟨⟨_, rfl, resRow2 (.int .i64 (doneP t (prodP ⟨l1, x⟩ ⟨l2, y⟩)).low) (.slice g1 (doneP t (prodP ⟨l1, x⟩ ⟨l2, y⟩)).cs.length cap1) HR.out (by omega)⟩, resBelow2 (.int .i64 (doneP t (prodP ⟨l1, x⟩ ⟨l2, y⟩)).low) (.slice g1 (doneP t (prodP ⟨l1, x⟩ ⟨l2, y⟩)).cs.length cap1) HB4.out⟩
      simp [results, Try.results36, go_sem, d0, d1, plV]

end Go.Proofs.Ytocklmiappppgaa

/- The program's total.add; the coefficients of a product, as the program's loops come to them. -/

namespace Go.Proofs.Ytocklmiappppgaa
open Go.RowKit

theorem infoTotal : (Try.prog.info? 70).map (fun i => (i.zero, i.size, i.bytes)) = some (some (.agg #[.int .i64 0, .int .i64 0]), 2, 16) := by kernel_rfl

set_option maxRecDepth 100000 in
set_option maxHeartbeats 2000000 in
theorem totAdd_any (g o : Nat) (c r p q m : Int) (w : World) (h0 : w.cell? ⟨g, o, none⟩ = some (.int .i64 c)) (h1 : w.cell? ⟨g, o + 1, none⟩ = some (.int .i64 r)) (f0 : w.frozen? ⟨g, o, none⟩ = false) (f1 : w.frozen? ⟨g, o + 1, none⟩ = false)
    (hq : p.tdiv 1000000000 = q) (hm : p.tmod 1000000000 = m) (hcq : -9000000000000000000 ≤ c + q ∧ c + q ≤ 9000000000000000000) (hrm : -9000000000000000000 ≤ r + m ∧ r + m ≤ 9000000000000000000) (hqb : -9000000000000000000 ≤ q ∧ q ≤ 9000000000000000000) :
    Calls Try.prog 70 #[.pointer (some ⟨g, o, none⟩), .int .i64 p] w fun e w' => e = .returned (.tuple #[]) ∧ w' = (w.setCell ⟨g, o, none⟩ (.int .i64 (c + q))).setCell ⟨g, o + 1, none⟩ (.int .i64 (r + m)) := by
  have hw0 : IntKind.i64.wrap q = q := IntWalk.i64_in _ (by omega)
  have hw1 : IntKind.i64.wrap (c + q) = c + q := IntWalk.i64_in _ (by omega)
  have hw2 : IntKind.i64.wrap (r + m) = r + m := IntWalk.i64_in _ (by omega)
  have hx : (w.setCell ⟨g, o, none⟩ (.int .i64 (c + q))).cell? ⟨g, o + 1, none⟩ = some (.int .i64 r) := by rw [World.cell?_setCell_other]; exact h1; simp
  go_enter Try.func70, Try.ntmps70
  go_wp2
  go_end0
  exact ⟨rfl, rfl⟩

/-- What stands at place j when the first i coefficients have been taken with all others, and the next one with the first k. -/
def partN (x y : List Int) (i k j : Nat) : Int := convN x y j i + (if i ≤ j ∧ j - i < k then x.getD i 0 * y.getD (j - i) 0 else 0)
theorem part_zero (x y : List Int) (i j : Nat) : partN x y i 0 j = convN x y j i := by
  unfold partN
  rw [if_neg (by omega), Int.add_zero]
theorem part_all (x y : List Int) (i j : Nat) : partN x y i y.length j = convN x y j (i + 1) := by
  unfold partN
  rw [convN]
  by_cases h : i ≤ j
  · rw [if_pos h]
    by_cases h2 : j - i < y.length
    · rw [if_pos ⟨h, h2⟩]
    · rw [if_neg (fun e => h2 e.2), getD_far (l := y) (by omega), Int.mul_zero]
  · rw [if_neg h, if_neg (fun e => h e.1)]
theorem part_next {x y : List Int} {i k j : Nat} (h : j ≠ i + k) : partN x y i (k + 1) j = partN x y i k j := by
  unfold partN
  by_cases h1 : i ≤ j ∧ j - i < k
  · rw [if_pos h1, if_pos (by omega)]
  · rw [if_neg h1, if_neg (by omega)]
theorem part_here (x y : List Int) (i k : Nat) : partN x y i (k + 1) (i + k) = partN x y i k (i + k) + x.getD i 0 * y.getD k 0 := by
  unfold partN
  rw [if_pos (by omega), if_neg (by omega), Int.add_zero, show i + k - i = k by omega]
theorem conv_nil (x : List Int) (i : Nat) : ∀ m, convN x [] i m = 0
  | 0 => rfl
  | m + 1 => by
    rw [convN, conv_nil x i m]
    split
    · simp
    · rfl
theorem prod_list (l1 l2 : Int) (x y : List Int) : tidyP (l1 + l2) (listN (fun j => convN x y j x.length) (x.length + y.length)) = prodP ⟨l1, x⟩ ⟨l2, y⟩ := by
  refine trim_unique (tidy_trim _ _) (prod_trim _ _) fun k => ?_
  unfold prodP
  by_cases h0 : x.length = 0 ∨ y.length = 0
  · rw [if_pos h0, tidy_pat, pat_nil]
    unfold pat
    split
    · show (listN _ _).getD _ 0 = 0
      generalize (k - (l1 + l2)).toNat = i
      by_cases hi : i < x.length + y.length
      · rw [listN_get hi]
        rcases h0 with h | h
        · rw [h]; rfl
        · rw [List.length_eq_zero_iff.1 h]; exact conv_nil x i _
      · exact getD_far (by rw [listN_len]; omega)
    · rfl
  · rw [if_neg h0, tidy_pat, tidy_pat]
    unfold pat
    show (if l1 + l2 ≤ k then (listN _ _).getD (k - (l1 + l2)).toNat 0 else 0) = if l1 + l2 ≤ k then (convL x y).getD (k - (l1 + l2)).toNat 0 else 0
    split
    · generalize (k - (l1 + l2)).toNat = i
      by_cases hi : i < x.length + y.length - 1
      · rw [listN_get (by omega), convL_get x y i hi]
      · rw [getD_far (l := convL x y) (by rw [convL_len]; omega)]
        by_cases hi2 : i < x.length + y.length
        · rw [listN_get hi2]
          exact convN_from x y i _ (by omega)
        · exact getD_far (by rw [listN_len]; omega)
    · rfl
theorem made_totals (n : Nat) : (madeCells (Value.cells (.agg #[.int .i64 0, .int .i64 0])) (n * 2)).toList = intsV (listN (fun _ => 0) (n * 2)) := by
  rw [show Value.cells (.agg #[.int .i64 0, .int .i64 0]) = #[.int .i64 0, .int .i64 0] from rfl]
  refine List.ext_getElem (by simp [madeCells, intsV, listN]) fun j h1 h2 => ?_
  have hj : j < n * 2 := by simpa [madeCells] using h1
  rcases Nat.mod_two_eq_zero_or_one j with h | h <;> simp [madeCells, intsV, listN, h]

end Go.Proofs.Ytocklmiappppgaa

/- The program's PolyTimes. -/

namespace Go.Proofs.Ytocklmiappppgaa
open Go.RowKit

set_option maxRecDepth 100000 in
set_option maxHeartbeats 8000000 in
theorem iPolyTimes_any (l1 l2 : Int) (x y : List Int) (a1 a2 : Option Addr) (c1 c2 n1 n2 : Nat) (ba bb t : Bool) (w : World) (h1 : Ints w a1 n1 x) (h2 : Ints w a2 n2 y) (hc1 : n1 ≤ c1) (hc2 : n2 ≤ c2)
    (hba : polyB ⟨l1, x⟩ = ba) (hbb : polyB ⟨l2, y⟩ = bb) (ht : (ba && (bb && polyB (prodP ⟨l1, x⟩ ⟨l2, y⟩))) = t) :
    Calls Try.prog 27 #[plV l1 (.slice a1 n1 c1), plV l2 (.slice a2 n2 c2)] w fun e w' => (∃ v, e = .returned (.tuple #[plV (doneP t (prodP ⟨l1, x⟩ ⟨l2, y⟩)).low v, .bool t]) ∧ IntRow w.heap.size w' v (doneP t (prodP ⟨l1, x⟩ ⟨l2, y⟩)).cs) ∧ Below w.heap.size w w' := by
  obtain ⟨i0, hi, hz0, hz1, hz2⟩ := info_parts infoInt
  obtain ⟨it, hit, hit0, hit1, hit2⟩ := info_parts infoTotal
  have hzm := told_zm
  have hzn := told_zn
  have hpm := told_pm
  have hpn := told_pn
  obtain ⟨W, hW⟩ : ∃ W, ((w.alloc (.cells #[.int .i64 l1, .slice a1 n1 c1] 25)).alloc (.cells #[.int .i64 l2, .slice a2 n2 c2] 25)).alloc (.cells #[.int .i64 0, .slice none 0 0] 25) = W := ⟨_, rfl⟩
  obtain ⟨hbW, hsz⟩ := boxes3Below hW
  have HC : Hid (∀ w1, Below W.heap.size W w1 → _) := Lib.hid fun w1 (hg : Below W.heap.size W w1) => boxes3 hW hg
  have hC := boxes3 hW (Below.refl _ _)
  rw [← hW] at hC
  obtain ⟨⟨p0, p1⟩, ⟨q0, q1⟩, _⟩ := hC
  have H1 := Lib.hid (h1.below hbW)
  have H2 := Lib.hid (h2.below hbW)
  have HBA := Lib.hid hba
  have HBB := Lib.hid hbb
  have HN1 := Lib.hid h1.len
  have HN2 := Lib.hid h2.len
  have HBW := Lib.hid hbW
  have HW := Lib.hid hW
  have HSZ := Lib.hid hsz
  have HT := Lib.hid ht
  clear hW hbW h1 h2 hba hbb hsz ht
  go_enter Try.func27, Try.ntmps27
  go_wp2_with fail
  rw [HW.out]
  clear p0 p1 q0 q1
  refine (iPolyIn_any l1 x a1 c1 n1 ba W H1.out hc1 HBA.out).mono ?_
  rintro e w1 ⟨rfl, hb1⟩
  have HB1 := Lib.hid hb1
  obtain ⟨⟨p0, p1⟩, ⟨q0, q1⟩, d0, d1, f0, f1⟩ := HC.out w1 hb1
  have hs1 := hb1.size
  clear hb1
  cases ba with
  | false =>
    obtain rfl : t = false := by rw [← HT.out]; rfl
    go_wp2
    have hss := HSZ.out
    refine bodyPost_ret (v := .tuple #[plV 0 (.slice none 0 0), .bool false]) ?_ rfl ⟨⟨_, rfl, intNil _ _⟩, resBelow2 (.int .i64 0) (.slice none 0 0) (HBW.out.trans (HB1.out.mono HBW.out.size))⟩
    simp [results, Try.results27, go_sem, d0, d1, plV]
  | true =>
    go_wp2_with fail
    refine (iPolyIn_any l2 y a2 c2 n2 bb w1 (H2.out.below HB1.out) hc2 HBB.out).mono ?_
    rintro e w2 ⟨rfl, hb2⟩
    have HB2 := Lib.hid (HB1.out.trans (hb2.mono hs1))
    have hs2 := HB2.out.size
    clear hb2 p0 p1 q0 q1 d0 d1 f0 f1
    obtain ⟨⟨p0, p1⟩, ⟨q0, q1⟩, d0, d1, f0, f1⟩ := HC.out w2 HB2.out
    cases bb with
    | false =>
      obtain rfl : t = false := by rw [← HT.out]; rfl
      go_wp2
      refine bodyPost_ret (v := .tuple #[plV 0 (.slice none 0 0), .bool false]) ?_ rfl ⟨⟨_, rfl, intNil _ _⟩, resBelow2 (.int .i64 0) (.slice none 0 0) (HBW.out.trans (HB2.out.mono HBW.out.size))⟩
      simp [results, Try.results27, go_sem, d0, d1, plV]
    | true =>
      obtain ⟨_, hx200, hxl1, hxl2, hxc⟩ := polyB_trim HBA.out
      obtain ⟨_, hy200, hyl1, hyl2, hyc⟩ := polyB_trim HBB.out
      have hx200 : x.length ≤ 200 := hx200
      have hy200 : y.length ≤ 200 := hy200
      have hxl1 : -300 ≤ l1 := hxl1
      have hxl2 : l1 ≤ 300 := hxl2
      have hyl1 : -300 ≤ l2 := hyl1
      have hyl2 : l2 ≤ 300 := hyl2
      have hx1 := HN1.out
      have hx2 := HN2.out
      have HXC : Hid (∀ i, -1000000000 ≤ x.getD i 0 ∧ x.getD i 0 ≤ 1000000000) := Lib.hid hxc
      have HYC : Hid (∀ i, -1000000000 ≤ y.getD i 0 ∧ y.getD i 0 ≤ 1000000000) := Lib.hid hyc
      have HPT : Hid (polyB (prodP ⟨l1, x⟩ ⟨l2, y⟩) = t) := Lib.hid (by have := HT.out; rwa [Bool.true_and, Bool.true_and] at this)
      obtain ⟨N, hN⟩ : ∃ N, n1 + n2 = N := ⟨_, rfl⟩
      have hwN : IntKind.i64.wrap ((n1 : Int) + (n2 : Int)) = (N : Int) := by rw [IntWalk.i64_in _ (by omega)]; omega
      have hNb : N ≤ 400 := by omega
      clear hxc hyc
      go_wp2_with (at_make; refine wpList_make_full _ rfl _ _ 68 rfl w2.heap.size 70 it (.agg #[.int .i64 0, .int .i64 0]) 2 Try.underlying68 hit hit0 hit1 .i64 .i64 _ _ N rfl rfl rfl rfl (by rw [hit2]; omega) (by unfold maxLen; omega) (Nat.le_refl _) ?_; intro wt hrow hgrow; have HBt := Lib.hid (HB2.out.trans ((below_of_grown hgrow).mono hs2)); clear p0 p1 q0 q1 d0 d1 f0 f1; obtain ⟨⟨p0, p1⟩, ⟨q0, q1⟩, _⟩ := HC.out wt HBt.out)
      rw [made_totals N] at hrow
      have HRt := Lib.hid hrow
      have HBt2 : Hid (Below w2.heap.size w2 wt) := Lib.hid (below_of_grown hgrow)
      clear hrow hgrow hwN
      go_loopw [7, 8, 9, 10, 36] (fun _ _ _ _ i wr => ∃ (k : Nat) (f : Nat → Int), k ≤ n1 ∧ i = .int .i64 (k : Int) ∧ Hid (∀ j, j < N → f (j * 2) * 1000000000 + f (j * 2 + 1) = convN x y j k) ∧ Hid (∀ j, -(1000000000 * (200 * (k : Int))) ≤ f j ∧ f j ≤ 1000000000 * (200 * (k : Int))) ∧ Hid (wr.ownsRow w2.heap.size 70 2 (.slice (some ⟨w2.heap.size, 0, none⟩) N N) N (intsV (listN f (N * 2)))) ∧ Hid (Below w2.heap.size w2 wr)) (fun _ _ _ _ i _ => n1 - (intOf i).toNat)
      case atStart => exact ⟨0, fun _ => 0, Nat.zero_le _, rfl, Lib.hid fun j _ => rfl, Lib.hid fun j => by simp, HRt, HBt2⟩
      case round =>
        obtain ⟨k, f, hk, rfl, HF, HFB, HR, HB⟩ := hrel
        have HBx := Lib.hid (HB2.out.trans (HB.out.mono hs2))
        clear p0 p1 q0 q1
        obtain ⟨⟨p0, p1⟩, ⟨q0, q1⟩, _⟩ := HC.out wr HBx.out
        by_cases hlt : k < n1
        · obtain ⟨xa, rfl, hxb, hxa⟩ := (H1.out.below HBx.out).at_ (by omega)
          have hkx : k < x.length := by rw [HN1.out]; exact hlt
          obtain ⟨u, hu⟩ : ∃ u, x.getD k 0 = u := ⟨_, rfl⟩
          have hcu := hxa k hkx
          rw [show x[k] = u by rw [← hu, List.getD_eq_getElem?_getD, List.getElem?_eq_getElem hkx]; rfl] at hcu
          have HU := Lib.hid hu
          clear hu hxa hxb
          have HF0 : Hid (∀ j, j < N → f (j * 2) * 1000000000 + f (j * 2 + 1) = partN x y k 0 j) := Lib.hid fun j hj => by rw [part_zero]; exact HF.out j hj
          go_wp2
          go_loopw [9, 10, 44] (fun _ _ i wr => ∃ (k' : Nat) (f : Nat → Int), k' ≤ n2 ∧ i = .int .i64 (k' : Int) ∧ Hid (∀ j, j < N → f (j * 2) * 1000000000 + f (j * 2 + 1) = partN x y k k' j) ∧ Hid (∀ j, -(1000000000 * (200 * (k : Int) + (k' : Int))) ≤ f j ∧ f j ≤ 1000000000 * (200 * (k : Int) + (k' : Int))) ∧ Hid (wr.ownsRow w2.heap.size 70 2 (.slice (some ⟨w2.heap.size, 0, none⟩) N N) N (intsV (listN f (N * 2)))) ∧ Hid (Below w2.heap.size w2 wr)) (fun _ _ i _ => n2 - (intOf i).toNat)
          case atStart => exact ⟨0, f, Nat.zero_le _, rfl, HF0, Lib.hid fun j => by have := HFB.out j; omega, HR, HB⟩
          case round =>
            obtain ⟨m, f', hm, rfl, HF', HFB', HR', HB'⟩ := hrel
            have HBx' := Lib.hid (HB2.out.trans (HB'.out.mono hs2))
            clear p0 p1 q0 q1 hcu
            obtain ⟨⟨p0, p1⟩, ⟨q0, q1⟩, _⟩ := HC.out wr HBx'.out
            by_cases hlt2 : m < n2
            · obtain ⟨ya, rfl, hyb, hya⟩ := (H2.out.below HBx'.out).at_ (by omega)
              have hky : m < y.length := by rw [HN2.out]; exact hlt2
              obtain ⟨v, hv⟩ : ∃ v, y.getD m 0 = v := ⟨_, rfl⟩
              have hcv := hya m hky
              rw [show y[m] = v by rw [← hv, List.getD_eq_getElem?_getD, List.getElem?_eq_getElem hky]; rfl] at hcv
              have hpb := conv_bound HXC.out HYC.out k m
              rw [HU.out, hv] at hpb
              obtain ⟨p, hp⟩ : ∃ p, u * v = p := ⟨_, rfl⟩
              rw [hp] at hpb
              obtain ⟨hp1, hp2⟩ := hpb
              have htb := tdiv_bound hp1 hp2
              have htp := tdiv_parts p
              obtain ⟨q, hq⟩ : ∃ q, p.tdiv 1000000000 = q := ⟨_, rfl⟩
              obtain ⟨r, hr⟩ : ∃ r, p.tmod 1000000000 = r := ⟨_, rfl⟩
              rw [hq] at htb htp
              rw [hr] at htp
              obtain ⟨hq1, hq2⟩ := htb
              obtain ⟨hqr, hr1, hr2⟩ := htp
              obtain ⟨j, hj⟩ : ∃ j, k + m = j := ⟨_, rfl⟩
              have hjN : j < N := by omega
              have hjNi : (j : Int) < (N : Int) := by omega
              have hj0 : (0 : Int) ≤ (j : Int) := by omega
              have hwj : IntKind.i64.wrap ((k : Int) + (m : Int)) = (j : Int) := by rw [IntWalk.i64_in _ (by omega)]; omega
              have hwp : IntKind.i64.wrap (u * v) = p := by rw [hp]; exact IntWalk.i64_in _ (by omega)
              have hf0 := HFB'.out (j * 2)
              have hf1 := HFB'.out (j * 2 + 1)
              have HCA : Hid (∀ j', j' < N → (if j' * 2 = j * 2 then f' (j * 2) + q else if j' * 2 = j * 2 + 1 then f' (j * 2 + 1) + r else f' (j' * 2)) * 1000000000 + (if j' * 2 + 1 = j * 2 then f' (j * 2) + q else if j' * 2 + 1 = j * 2 + 1 then f' (j * 2 + 1) + r else f' (j' * 2 + 1)) = partN x y k (m + 1) j') := Lib.hid fun j' hj' => by
                have h1 := HF'.out j' hj'
                by_cases e : j' = j
                · subst e
                  rw [if_pos rfl, if_neg (by omega), if_pos rfl]
                  subst hj
                  rw [part_here, HU.out, hv, hp, ← h1]
                  omega
                · rw [if_neg (by omega), if_neg (by omega), if_neg (by omega), if_neg (by omega), part_next (by omega)]
                  exact h1
              have HCAL := Lib.hid (totAdd_any w2.heap.size (j * 2) (f' (j * 2)) (f' (j * 2 + 1)) p q r wr (by rw [HR'.out.cellAt _ (by omega), listN_cell (by omega)]) (by rw [HR'.out.cellAt _ (by omega), listN_cell (by omega)]) (HR'.out.frozenAt _) (HR'.out.frozenAt _) hq hr (by omega) (by omega) (by omega))
              clear hv hya hyb hp hqr hq hr hj
              go_wp2_with fail
              refine HCAL.out.mono ?_
              rintro e w3 ⟨rfl, rfl⟩
              go_wp2
              go_roundw
              case rel =>
                have h1 := HR'.out.stored (j * 2) (.int .i64 (f' (j * 2) + q))
                have h2 := h1.1.stored (j * 2 + 1) (.int .i64 (f' (j * 2 + 1) + r))
                refine ⟨m + 1, fun i => if i = j * 2 then f' (j * 2) + q else if i = j * 2 + 1 then f' (j * 2 + 1) + r else f' i, by omega, by go_num, HCA, Lib.hid fun i => ?_, Lib.hid ?_, Lib.hid ((HB'.out.setCell (p := ⟨w2.heap.size, j * 2, none⟩) (Nat.le_refl _) _).setCell (p := ⟨w2.heap.size, j * 2 + 1, none⟩) (Nat.le_refl _) _)⟩
                · have h3 := HFB'.out i
                  dsimp only
                  split
                  · omega
                  · split
                    · omega
                    · omega
                · rw [listN_set (f := f') (g := fun i => if i = j * 2 then f' (j * 2) + q else f' i) (fun i hi => if_neg hi) (if_pos rfl), listN_set (g := fun i => if i = j * 2 then f' (j * 2) + q else if i = j * 2 + 1 then f' (j * 2 + 1) + r else f' i) (fun i hi => by
                    by_cases e : i = j * 2
                    · rw [if_pos e, if_pos e]
                    · rw [if_neg e, if_neg e, if_neg hi]) (by rw [if_neg (by omega), if_pos rfl])] at h2
                  exact h2.1
              case measure => simp [intOf]; omega
            · obtain rfl : m = n2 := by omega
              go_wp2
              go_roundw
              case rel => exact ⟨k + 1, f', by omega, by go_num, Lib.hid fun j hj => by rw [HF'.out j hj, ← HN2.out, part_all], Lib.hid fun j => by have := HFB'.out j; omega, HR', HB'⟩
              case measure => simp [intOf]; omega
        · obtain rfl : k = n1 := by omega
          obtain ⟨U, hU⟩ : ∃ U, U = wr := ⟨_, rfl⟩
          subst hU
          have HCF : Hid (∀ j, j < N → f (j * 2) * 1000000000 + f (j * 2 + 1) = convN x y j x.length) := Lib.hid fun j hj => by rw [HF.out j hj, HN1.out]
          have HRT := HR
          have HBU := HBx
          have hsU := HBx.out.size
          clear HF HR
          go_wp2_with (at_make; refine wpList_make_full _ rfl _ _ 23 rfl U.heap.size 3 i0 (.int .i64 0) 1 Try.underlying23 hi hz0 hz1 .i64 .i64 _ _ N rfl rfl rfl rfl (by rw [hz2]; omega) (by unfold maxLen; omega) (Nat.le_refl _) ?_; intro wv hrow hgrow; have HBV := Lib.hid (below_of_grown hgrow); clear p0 p1 q0 q1)
          rw [made_zero 0 N, listP_zero] at hrow
          have HRV : Hid (wv.ownsRow U.heap.size 3 1 (.slice (some ⟨U.heap.size, 0, none⟩) N N) N (intsV (listN (fun j => if j < 0 then convN x y j x.length else 0) N))) := Lib.hid (by
            have e : List.replicate N (0 : Int) = listN (fun j => if j < 0 then convN x y j x.length else 0) N := by
              rw [← listP_zero 0 N]
              exact List.map_congr_left fun i _ => (if_neg (Nat.not_lt_zero _)).symm
            rw [← e]
            exact hrow)
          clear hrow hgrow
          go_loopw [12, 13, 14, 15, 65] (fun _ _ _ _ i wq => ∃ k : Nat, k ≤ N ∧ i = .int .i64 (k : Int) ∧ Hid (∀ j, j < k → -4000000000 ≤ convN x y j x.length ∧ convN x y j x.length ≤ 4000000000) ∧ Hid (wq.ownsRow U.heap.size 3 1 (.slice (some ⟨U.heap.size, 0, none⟩) N N) N (intsV (listN (fun j => if j < k then convN x y j x.length else 0) N))) ∧ Hid (Below U.heap.size U wq)) (fun _ _ _ _ i _ => N - (intOf i).toNat)
          case atStart => exact ⟨0, Nat.zero_le _, rfl, Lib.hid fun j h => absurd h (Nat.not_lt_zero _), HRV, HBV⟩
          case round =>
            obtain ⟨k', hk', rfl, HCB, HRQ, HBQ⟩ := hrel
            have HBxq := Lib.hid (HBU.out.trans (HBQ.out.mono hsU))
            obtain ⟨⟨p0, p1⟩, ⟨q0, q1⟩, d0, d1, f0, f1⟩ := HC.out wr HBxq.out
            by_cases hlt3 : k' < N
            · have HRTq := Lib.hid (rowPast HRT.out HBQ.out)
              obtain ⟨c, hc⟩ : ∃ c, f (k' * 2) = c := ⟨_, rfl⟩
              obtain ⟨r, hr⟩ : ∃ r, f (k' * 2 + 1) = r := ⟨_, rfl⟩
              have hcb := HFB.out (k' * 2)
              have hrb := HFB.out (k' * 2 + 1)
              rw [hc] at hcb
              rw [hr] at hrb
              have e0 : wr.cell? ⟨w2.heap.size, k' * 2, none⟩ = some (.int .i64 c) := by rw [HRTq.out.cellAt _ (by omega), listN_cell (by omega), hc]
              have e1 : wr.cell? ⟨w2.heap.size, k' * 2 + 1, none⟩ = some (.int .i64 r) := by rw [HRTq.out.cellAt _ (by omega), listN_cell (by omega), hr]
              have hcs : c * 1000000000 + r = convN x y k' x.length := by rw [← hc, ← hr]; exact HCF.out k' hlt3
              have hki : (k' : Int) < (N : Int) := by omega
              have hk0 : (0 : Int) ≤ (k' : Int) := by omega
              obtain ⟨b, hb⟩ : ∃ b, inR (-1) 1 (c + r.tdiv 1000000000) = b := ⟨_, rfl⟩
              obtain ⟨V, hV⟩ : ∃ V, wr.alloc (.cells #[.int .i64 c, .int .i64 r] 70) = V := ⟨_, rfl⟩
              have hbV : Below wr.heap.size wr V := by rw [← hV]; exact (Below.refl _ _).alloc (Nat.le_refl _) _
              have HNUM := Lib.hid (number_any c r b V (by omega) (by omega) hb)
              have HV := Lib.hid hV
              have HBVV := Lib.hid hbV
              have HCS := Lib.hid hcs
              have HBB2 := Lib.hid hb
              clear hV hbV hb hc hr hcs hcb hrb p0 p1 q0 q1 d0 d1 f0 f1
              go_wp2_with fail
              rw [HV.out]
              refine HNUM.out.mono ?_
              rintro e w4 ⟨rfl, hb4⟩
              have hbw4 : Below wr.heap.size wr w4 := HBVV.out.trans (hb4.mono HBVV.out.size)
              have hsq := HBQ.out.size
              have HB4 := Lib.hid (HBQ.out.trans (hbw4.mono hsq))
              have HBx4 := Lib.hid (HBU.out.trans (HB4.out.mono hsU))
              clear e0 e1 hb4
              obtain ⟨_, _, d0, d1, f0, f1⟩ := HC.out w4 HBx4.out
              cases b with
              | false =>
                have hpf : polyB (prodP ⟨l1, x⟩ ⟨l2, y⟩) = false := by
                  have hn := num_no HBB2.out
                  rw [HCS.out] at hn
                  rw [← prod_list]
                  exact tidy_bad (i := k') (by rw [listN_get (by rw [HN1.out, HN2.out]; omega)]; exact hn)
                obtain rfl : t = false := by rw [← HPT.out, hpf]
                go_wp2
                refine bodyPost_ret (v := .tuple #[plV 0 (.slice none 0 0), .bool false]) ?_ rfl ⟨⟨_, rfl, intNil _ _⟩, resBelow2 (.int .i64 0) (.slice none 0 0) (HBW.out.trans (HBx4.out.mono HBW.out.size))⟩
                simp [results, Try.results27, go_sem, d0, d1, plV]
              | true =>
                rw [show (if true = true then c * 1000000000 + r else 0) = convN x y k' x.length from HCS.out]
                have HRQ4 := Lib.hid (rowPast HRQ.out hbw4)
                obtain ⟨o, ho⟩ : ∃ o, convN x y k' x.length = o := ⟨_, rfl⟩
                have hob : -4000000000 ≤ o ∧ o ≤ 4000000000 := by
                  have h1 := HCS.out
                  have h2 := HBB2.out
                  have h3 := tdiv_parts r
                  unfold inR at h2
                  simp only [Bool.and_eq_true, decide_eq_true_eq] at h2
                  omega
                have hck : w4.cell? ⟨U.heap.size, k', none⟩ = some (.int .i64 0) := by
                  rw [HRQ4.out.cellAt _ (by omega), listN_cell hlt3, if_neg (Nat.lt_irrefl _)]
                have hfk := HRQ4.out.frozenAt k'
                have HST : Hid ((intsV (listN (fun j => if j < k' then convN x y j x.length else 0) N)).set k' (.int .i64 o) = intsV (listN (fun j => if j < k' + 1 then convN x y j x.length else 0) N)) := Lib.hid (listN_set (fun i hi => by
                  by_cases h : i < k'
                  · rw [if_pos h, if_pos (by omega)]
                  · rw [if_neg h, if_neg (by omega)]) (by rw [if_pos (Nat.lt_succ_self k'), ho]))
                have HCB2 : Hid (∀ j, j < k' + 1 → -4000000000 ≤ convN x y j x.length ∧ convN x y j x.length ≤ 4000000000) := Lib.hid fun j hj => by
                  by_cases e : j = k'
                  · rw [e, ho]; exact hob
                  · exact HCB.out j (by omega)
                rw [ho]
                clear ho hob d0 d1 f0 f1
                go_wp2
                go_roundw
                case rel =>
                  refine ⟨k' + 1, by omega, by go_num, HCB2, Lib.hid ?_, Lib.hid (HB4.out.setCell (p := ⟨U.heap.size, k', none⟩) (Nat.le_refl _) _)⟩
                  rw [← HST.out]
                  exact (HRQ4.out.stored k' (.int .i64 o)).1
                case measure => simp [intOf]; omega
            · obtain rfl : k' = N := by omega
              have el : listN (fun j => if j < k' then convN x y j x.length else 0) k' = listN (fun j => convN x y j x.length) k' := listN_congr fun i hi => if_pos hi
              have hrr : IntRow U.heap.size wr (.slice (some ⟨U.heap.size, 0, none⟩) k' k') (listN (fun j => convN x y j x.length) k') := by
                have h := HRQ.out
                rw [el] at h
                exact rowI h (listN_len _ _)
              have hwf : ∀ z ∈ listN (fun j => convN x y j x.length) k', -9223372036854775808 ≤ z ∧ z ≤ 9223372036854775807 := fun z hz => by
                unfold listN at hz
                obtain ⟨i, hi, rfl⟩ := List.mem_map.1 hz
                have := HCB.out i (List.mem_range.1 hi)
                omega
              obtain ⟨a5, c5, hv, hc5, hi5⟩ := hrr.readc hwf
              rw [listN_len] at hv hc5 hi5
              simp at hv
              obtain ⟨rfl, rfl⟩ := hv
              have HTD : Hid (tidyP (l1 + l2) (listN (fun j => convN x y j x.length) k') = prodP ⟨l1, x⟩ ⟨l2, y⟩) := Lib.hid (by rw [← prod_list, show k' = x.length + y.length by rw [HN1.out, HN2.out]; exact hN.symm])
              have HTR : Hid (Trim (prodP ⟨l1, x⟩ ⟨l2, y⟩)) := Lib.hid (prod_trim _ _)
              have hwl : IntKind.i64.wrap (l1 + l2) = l1 + l2 := IntWalk.i64_in _ (by omega)
              have HA := Lib.hid (apart_in (l1 + l2) (listN (fun j => convN x y j x.length) k') (some ⟨U.heap.size, 0, none⟩) k' k' wr hi5 (Nat.le_refl _) (by omega) (by omega) (by omega))
              clear hwf hrr hc5 hi5 el
              go_wp2_with fail
              refine HA.out.mono ?_
              rintro e w5 ⟨⟨v, rfl, hA⟩, hb5⟩
              have hsq := HBQ.out.size
              have HB5 := Lib.hid (HBxq.out.trans (hb5.mono (by omega)))
              have hs5 := hb5.size
              clear hb5 p0 p1 q0 q1 d0 d1 f0 f1
              rw [HTD.out] at hA
              have hss := HSZ.out
              rcases hA with ⟨hq, rfl⟩ | ⟨hq, a6, c6, rfl, hc6, hi6⟩
              · obtain ⟨rfl, hq0⟩ := told_zero HTR.out hq HPT.out
                have HQ0 := Lib.hid hq0
                clear hq hq0
                go_wp2_with fail
                refine (toldZ_any _).mono ?_
                rintro e w6 ⟨⟨v, rfl, hr⟩, hb6⟩
                obtain ⟨_, _, d0, d1, f0, f1⟩ := HC.out w6 (HB5.out.trans (hb6.mono (by omega)))
                have HR := Lib.hid hr
                have HB6 := Lib.hid (HBW.out.trans ((HB5.out.trans (hb6.mono (by omega))).mono HBW.out.size))
                obtain ⟨g4, gg, cap4, rfl, _⟩ := hr.shape
                clear hr hb6
                go_wp2
                refine bodyPost_ret (v := .tuple #[plV 0 (.slice g4 0 cap4), .bool true]) ?_ rfl ⟨⟨.slice g4 0 cap4, by rw [HQ0.out]; rfl, by rw [HQ0.out]; exact resRow2 (.int .i64 0) (.slice g4 0 cap4) HR.out (by omega)⟩, resBelow2 (.int .i64 0) (.slice g4 0 cap4) HB6.out⟩
                simp [results, Try.results27, go_sem, d0, d1, plV]
              · have HTO := Lib.hid (toldP_any (prodP ⟨l1, x⟩ ⟨l2, y⟩).low (prodP ⟨l1, x⟩ ⟨l2, y⟩).cs a6 c6 _ t w5 hi6 (by rw [fits_polyB HTR.out hq]; exact HPT.out))
                clear hi6
                go_wp2_with fail
                refine HTO.out.mono ?_
                rintro e w6 ⟨⟨v, rfl, hr⟩, hb6⟩
                obtain ⟨_, _, d0, d1, f0, f1⟩ := HC.out w6 (HB5.out.trans (hb6.mono (by omega)))
                have HR := Lib.hid hr
                have HB6 := Lib.hid (HBW.out.trans ((HB5.out.trans (hb6.mono (by omega))).mono HBW.out.size))
                obtain ⟨g4, gg, cap4, rfl, _⟩ := hr.shape
                clear hr hb6
                go_wp2
                refine bodyPost_ret (v := .tuple #[plV (doneP t (prodP ⟨l1, x⟩ ⟨l2, y⟩)).low (.slice g4 (doneP t (prodP ⟨l1, x⟩ ⟨l2, y⟩)).cs.length cap4), .bool t]) ?_ rfl ⟨⟨_, rfl, resRow2 (.int .i64 (doneP t (prodP ⟨l1, x⟩ ⟨l2, y⟩)).low) (.slice g4 (doneP t (prodP ⟨l1, x⟩ ⟨l2, y⟩)).cs.length cap4) HR.out (by omega)⟩, resBelow2 (.int .i64 (doneP t (prodP ⟨l1, x⟩ ⟨l2, y⟩)).low) (.slice g4 (doneP t (prodP ⟨l1, x⟩ ⟨l2, y⟩)).cs.length cap4) HB6.out⟩
                simp [results, Try.results27, go_sem, d0, d1, plV]

theorem timesP_fit {w : World} {l1 l2 : Int} {x y : List Int} {a1 a2 : Option Addr} {n1 n2 : Nat} {b : Bool} {p : Pl} (_ : Ints w a1 n1 x) (_ : Ints w a2 n2 y) (_ : timesPB ⟨l1, x⟩ ⟨l2, y⟩ = b) (hp : timesP ⟨l1, x⟩ ⟨l2, y⟩ = p) : p.cs.length ≤ 200 := by
  unfold timesP at hp
  refine doneP_len (fun h => ?_) hp
  unfold timesPB at h
  simp only [Bool.and_eq_true] at h
  exact h.2.2
theorem sPolyTimes_law {l1 l2 : Int} {x y : List Int} {a1 a2 : Option Addr} {n1 n2 : Nat} {b : Bool} {pl : Int} {pc : List Int} {w : World} (h1 : Ints w a1 n1 x) (h2 : Ints w a2 n2 y) (hb : timesPB ⟨l1, x⟩ ⟨l2, y⟩ = b) (hp : timesP ⟨l1, x⟩ ⟨l2, y⟩ = ⟨pl, pc⟩) :
    Calls Try.prog 36 #[plV l1 (.slice a1 n1 n1), plV l2 (.slice a2 n2 n2)] w fun e w' => (∃ v, e = .returned (.tuple #[plV pl v, .bool b]) ∧ IntRow w.heap.size w' v pc) ∧ Below w.heap.size w w' := by
  have h := sPolyTimes_any l1 l2 x y a1 a2 n1 n2 n1 n2 _ _ b w h1 h2 rfl rfl hb
  unfold timesP at hp
  rwa [← hb, hp, hb] at h
theorem iPolyTimes_law {l1 l2 : Int} {x y : List Int} {a1 a2 : Option Addr} {n1 n2 : Nat} {b : Bool} {pl : Int} {pc : List Int} {w : World} (h1 : Ints w a1 n1 x) (h2 : Ints w a2 n2 y) (hb : timesPB ⟨l1, x⟩ ⟨l2, y⟩ = b) (hp : timesP ⟨l1, x⟩ ⟨l2, y⟩ = ⟨pl, pc⟩) :
    Calls Try.prog 27 #[plV l1 (.slice a1 n1 n1), plV l2 (.slice a2 n2 n2)] w fun e w' => (∃ v, e = .returned (.tuple #[plV pl v, .bool b]) ∧ IntRow w.heap.size w' v pc) ∧ Below w.heap.size w w' := by
  have h := iPolyTimes_any l1 l2 x y a1 a2 n1 n2 n1 n2 _ _ b w h1 h2 (Nat.le_refl _) (Nat.le_refl _) rfl rfl hb
  unfold timesP at hp
  rwa [← hb, hp, hb] at h

end Go.Proofs.Ytocklmiappppgaa

/- Being alike: slices.Equal at ints, the model's PolyAlike. -/

namespace Go.Proofs.Ytocklmiappppgaa
open Go.RowKit

set_option maxRecDepth 100000 in
set_option maxHeartbeats 4000000 in
theorem equalI_any (x y : List Int) (a1 a2 : Option Addr) (c1 c2 n1 n2 : Nat) (b : Bool) (w : World) (h1 : Ints w a1 n1 x) (h2 : Ints w a2 n2 y) (hb : decide (x = y) = b) :
    Calls Try.prog 89 #[.slice a1 n1 c1, .slice a2 n2 c2] w fun e w' => e = .returned (.bool b) ∧ Below w.heap.size w w' := by
  have hm := h1.max
  unfold maxLen at hm
  have H1 := Lib.hid h1
  have H2 := Lib.hid h2
  have HB := Lib.hid hb
  have HN1 := Lib.hid h1.len
  have HN2 := Lib.hid h2.len
  clear hb h1 h2
  go_enter Try.func89, Try.ntmps89
  by_cases hn : n1 = n2
  · subst hn
    have hnn : ((n1 : Int) != (n1 : Int)) = false := by simp
    go_wp2_with fail
    go_loopw [5, 13] (fun _ i wr => ∃ k : Nat, k ≤ n1 ∧ i = .int .i64 (k : Int) ∧ Hid (∀ i, i < k → x.getD i 0 = y.getD i 0) ∧ Below w.heap.size w wr) (fun _ i _ => n1 - (intOf i).toNat)
    case atStart => exact ⟨0, Nat.zero_le _, rfl, Lib.hid fun i h => absurd h (Nat.not_lt_zero _), Below.refl _ _⟩
    case round =>
      obtain ⟨k, hk, rfl, HK, hB⟩ := hrel
      have hki : (0 : Int) ≤ (k : Int) := Int.natCast_nonneg _
      by_cases hlt : k < n1
      · have hlti : (k : Int) < (n1 : Int) := by omega
        obtain ⟨z1, rfl, hb1, hc1⟩ := (H1.out.below hB).at_ (by omega)
        obtain ⟨z2, rfl, hb2, hc2⟩ := (H2.out.below hB).at_ (by omega)
        have hkx : k < x.length := by rw [HN1.out]; exact hlt
        have hky : k < y.length := by rw [HN2.out]; exact hlt
        obtain ⟨u, hu⟩ : ∃ u, x[k] = u := ⟨_, rfl⟩
        obtain ⟨v, hv⟩ : ∃ v, y[k] = v := ⟨_, rfl⟩
        have e1 := hc1 k hkx
        have e2 := hc2 k hky
        rw [hu] at e1
        rw [hv] at e2
        have hgu : x.getD k 0 = u := by rw [List.getD_eq_getElem?_getD, List.getElem?_eq_getElem hkx, hu]; rfl
        have hgv : y.getD k 0 = v := by rw [List.getD_eq_getElem?_getD, List.getElem?_eq_getElem hky, hv]; rfl
        have HGU := Lib.hid hgu
        have HGV := Lib.hid hgv
        clear hu hv hc1 hc2 hgu hgv
        by_cases huv : u = v
        · subst huv
          have hne : (u != u) = false := by simp
          go_wp2
          go_quiet (fail)
          go_wp2
          go_roundw
          case rel => exact ⟨k + 1, by omega, by go_num, Lib.hid fun i h => by
            by_cases e : i = k
            · rw [e, HGU.out, HGV.out]
            · exact HK.out i (by omega), below_drewN hB _⟩
          case measure => simp [intOf]; omega
        · have hne : (u != v) = true := by simpa using huv
          have hbf : b = false := by
            rw [← HB.out]
            refine decide_eq_false fun h => huv ?_
            rw [← HGU.out, ← HGV.out, h]
          subst hbf
          go_wp2
          go_quiet (fail)
          go_wp2
          go_ret
          exact ⟨rfl, below_drewN hB _⟩
      · obtain rfl : k = n1 := by omega
        have hbt : b = true := by
          rw [← HB.out]
          have e := eq_getD (x := x) (y := y) (by rw [HN1.out, HN2.out]) (fun i hi => HK.out i (by rw [← HN1.out]; exact hi))
          exact decide_eq_true e
        subst hbt
        go_wp2
        go_ret
        exact ⟨rfl, hB⟩
  · have hbf : b = false := by
      rw [← HB.out]
      exact decide_eq_false fun h => hn (by rw [← HN1.out, ← HN2.out, h])
    subst hbf
    have hni : ¬ (n1 : Int) = (n2 : Int) := by omega
    have hnn : ((n1 : Int) != (n2 : Int)) = true := by simpa using hni
    go_wp2
    go_ret
    exact ⟨rfl, Below.refl _ _⟩

theorem doneP_mem {b : Bool} {q p : Pl} (hb : b = true → polyB q = true) (hp : doneP b q = p) : ∀ z ∈ p.cs, -9223372036854775808 ≤ z ∧ z ≤ 9223372036854775807 := fun z hz => by
  subst hp
  cases b with
  | false => cases hz
  | true =>
    have := coefIn_yes (polyB_coef (hb rfl) z hz)
    omega
/-- Whether two polynomials differ by a unit only. -/
def alikeB (a b : Pl) : Bool := polyB a && (polyB b && decide ((plainP a).cs = (plainP b).cs))
theorem plain_zero {p : Pl} (h : polyB p = true) : (plainP p).low = 0 := by
  by_cases h0 : 0 < p.cs.length
  · exact plain_low h0
  · unfold plainP
    rw [if_pos (by omega)]
    rcases (polyB_trim h).1 with ⟨_, h⟩ | ⟨h, _⟩
    · exact h
    · exact absurd (List.length_eq_zero_iff.1 (by omega)) h

set_option maxRecDepth 100000 in
set_option maxHeartbeats 4000000 in
theorem sPolyAlike_any (l1 l2 : Int) (x y : List Int) (a1 a2 : Option Addr) (c1 c2 n1 n2 : Nat) (ba bb t : Bool) (w : World) (h1 : Ints w a1 n1 x) (h2 : Ints w a2 n2 y)
    (hba : polyB ⟨l1, x⟩ = ba) (hbb : polyB ⟨l2, y⟩ = bb) (ht : (ba && (bb && decide ((plainP ⟨l1, x⟩).cs = (plainP ⟨l2, y⟩).cs))) = t) :
    Calls Try.prog 50 #[plV l1 (.slice a1 n1 c1), plV l2 (.slice a2 n2 c2)] w fun e w' => e = .returned (.bool t) ∧ Below w.heap.size w w' := by
  have hmx : Try.prog.follows .mixedOrders = true := by kernel_rfl
  obtain ⟨W, hW⟩ : ∃ W, (w.alloc (.cells #[.int .i64 l1, .slice a1 n1 c1] 25)).alloc (.cells #[.int .i64 l2, .slice a2 n2 c2] 25) = W := ⟨_, rfl⟩
  have hsz : W.heap.size = w.heap.size + 2 := by rw [← hW]; simp
  have hbW : Below w.heap.size w W := by rw [← hW]; exact ((Below.refl _ w).alloc (Nat.le_refl _) _).alloc (by simp) _
  have HC : Hid (∀ w1, Below W.heap.size W w1 → _) := Lib.hid fun w1 (hg : Below W.heap.size W w1) => twoCells hW hg
  have H1 := Lib.hid (h1.below hbW)
  have H2 := Lib.hid (h2.below hbW)
  have HBA := Lib.hid hba
  have HBB := Lib.hid hbb
  have HN1 := Lib.hid h1.len
  have HN2 := Lib.hid h2.len
  have HBW := Lib.hid hbW
  have HT := Lib.hid ht
  have v0 : ∀ p : BelowBy W, p.world.cell? ⟨w.heap.size, 0, none⟩ = some (.int .i64 l1) := fun p => (HC.out _ p.below).1
  have v1 : ∀ p : BelowBy W, p.world.cell? ⟨w.heap.size, 1, none⟩ = some (.slice a1 n1 c1) := fun p => (HC.out _ p.below).2.1
  have v2 : ∀ p : BelowBy W, p.world.cell? ⟨w.heap.size + 1, 0, none⟩ = some (.int .i64 l2) := fun p => (HC.out _ p.below).2.2.1
  have v3 : ∀ p : BelowBy W, p.world.cell? ⟨w.heap.size + 1, 1, none⟩ = some (.slice a2 n2 c2) := fun p => (HC.out _ p.below).2.2.2
  have HA : Hid (∀ p : BelowBy W, Calls Try.prog 25 #[plV l1 (.slice a1 n1 c1)] p.world fun e w' => e = .returned (.bool ba) ∧ Below p.world.heap.size p.world w') := Lib.hid fun p => sPolyIn_any l1 x a1 c1 n1 ba _ (H1.out.below p.below) HBA.out
  have HD : Hid (∀ p : BelowBy W, Calls Try.prog 25 #[plV l2 (.slice a2 n2 c2)] p.world fun e w' => e = .returned (.bool bb) ∧ Below p.world.heap.size p.world w') := Lib.hid fun p => sPolyIn_any l2 y a2 c2 n2 bb _ (H2.out.below p.below) HBB.out
  have HW := Lib.hid hW
  clear hW hbW h1 h2 hba hbb hsz ht
  go_enter Try.func50, Try.ntmps50
  go_upto_region 1 with fail
  rw [HW.out]
  cases ba with
  | false =>
    obtain rfl : t = false := by rw [← HT.out]; rfl
    refine wp_region_below hmx (by kernel_rfl) ?_
    repeat (((with_reducible refine wpQuiet_step (fun K hK => ?_)); go_simp; first | ((with_reducible refine hK _ ?_); clear hK K) | (refine (if_neg (by decide)).mpr ?_; (with_reducible refine hK _ ?_); clear hK K) | (apply Exists.intro; (with_reducible refine ⟨fun _ => ?_, hK _ ?_⟩); (go_at_call 25; exact Calls.bel (HA.out _)); clear hK K)))
    with_reducible refine wpQuiet_nil ?_
    rintro _ ⟨⟨V, hV⟩, rfl⟩
    clear v0 v1 v2 v3
    go_wp2
    go_ret
    exact ⟨rfl, HBW.out.trans (hV.mono HBW.out.size)⟩
  | true =>
    cases bb with
    | false =>
      obtain rfl : t = false := by rw [← HT.out]; rfl
      refine wp_region_below hmx (by kernel_rfl) ?_
      repeat (((with_reducible refine wpQuiet_step (fun K hK => ?_)); go_simp; first | ((with_reducible refine hK _ ?_); clear hK K) | (refine (if_neg (by decide)).mpr ?_; (with_reducible refine hK _ ?_); clear hK K) | (apply Exists.intro; (with_reducible refine ⟨fun _ => ?_, hK _ ?_⟩); (go_at_call 25; first | with_reducible exact Calls.bel (HA.out _) | with_reducible exact Calls.bel (HD.out _)); clear hK K) | (refine (if_pos (by decide)).mpr ?_; apply Exists.intro; (with_reducible refine ⟨fun _ => ?_, hK _ ?_⟩); (go_at_call 25; first | with_reducible exact Calls.bel (HA.out _) | with_reducible exact Calls.bel (HD.out _)); clear hK K)))
      with_reducible refine wpQuiet_nil ?_
      rintro _ ⟨⟨V, hV⟩, rfl⟩
      clear v0 v1 v2 v3
      go_wp2
      go_ret
      exact ⟨rfl, HBW.out.trans (hV.mono HBW.out.size)⟩
    | true =>
      clear v0 v1 v2 v3
      have hz1 := plain_zero HBA.out
      have hz2 := plain_zero HBB.out
      obtain ⟨_, hx200, _, _, hxc⟩ := polyB_trim HBA.out
      obtain ⟨_, hy200, _, _, hyc⟩ := polyB_trim HBB.out
      have hx200 : x.length ≤ 200 := hx200
      have hy200 : y.length ≤ 200 := hy200
      have hxc : ∀ i, -1000000000 ≤ x.getD i 0 ∧ x.getD i 0 ≤ 1000000000 := hxc
      have hyc : ∀ i, -1000000000 ≤ y.getD i 0 ∧ y.getD i 0 ≤ 1000000000 := hyc
      have HXC := Lib.hid hxc
      have HYC := Lib.hid hyc
      rw [HN1.out] at hx200
      rw [HN2.out] at hy200
      have hlx := plain_len ⟨l1, x⟩
      have hly := plain_len ⟨l2, y⟩
      obtain ⟨p1, hp1⟩ : ∃ p, (plainP ⟨l1, x⟩).cs = p := ⟨_, rfl⟩
      obtain ⟨p2, hp2⟩ : ∃ p, (plainP ⟨l2, y⟩).cs = p := ⟨_, rfl⟩
      rw [hp1] at hlx
      rw [hp2] at hly
      have htt := HT.out
      rw [hp1, hp2, Bool.true_and, Bool.true_and] at htt
      have HTT : Hid (decide (p1 = p2) = t) := Lib.hid htt
      have HP1 : Hid (∀ V, Below W.heap.size W V → Calls Try.prog 88 #[plV l1 (.slice a1 n1 c1)] V fun e w' => (∃ a cap, e = .returned (plV 0 (.slice a n1 cap)) ∧ Ints w' a n1 p1) ∧ Below V.heap.size V w') := Lib.hid fun V hV => by
        have h := l6pPlain_any l1 x a1 c1 n1 V (H1.out.below hV) (by omega) HXC.out
        rw [hz1, hp1] at h
        exact h
      have HP2 : Hid (∀ V, Below W.heap.size W V → Calls Try.prog 88 #[plV l2 (.slice a2 n2 c2)] V fun e w' => (∃ a cap, e = .returned (plV 0 (.slice a n2 cap)) ∧ Ints w' a n2 p2) ∧ Below V.heap.size V w') := Lib.hid fun V hV => by
        have h := l6pPlain_any l2 y a2 c2 n2 V (H2.out.below hV) (by omega) HYC.out
        rw [hz2, hp2] at h
        exact h
      clear hz1 hz2 hp1 hp2 hxc hyc hlx hly htt
      obtain ⟨k0, k1, k2, k3⟩ := HC.out W (Below.refl _ _)
      have HBk : Hid (Below W.heap.size W W) := Lib.hid (Below.refl _ _)
      go_region_held3 (fun w' : World => w'.cell? ⟨w.heap.size, 0, none⟩ = some (.int .i64 l1) ∧ w'.cell? ⟨w.heap.size, 1, none⟩ = some (.slice a1 n1 c1) ∧ w'.cell? ⟨w.heap.size + 1, 0, none⟩ = some (.int .i64 l2) ∧ w'.cell? ⟨w.heap.size + 1, 1, none⟩ = some (.slice a2 n2 c2)) (first | go_keep | exact ⟨k0, k1, k2, k3⟩)
        (first
          | (go_at_call 25
             first
             | with_reducible refine (sPolyIn_any l1 x a1 c1 n1 true _ (H1.out.below (by first | exact HBk.out | exact HBk.out.drew)) HBA.out).mono ?_
             | with_reducible refine (sPolyIn_any l2 y a2 c2 n2 true _ (H2.out.below (by first | exact HBk.out | exact HBk.out.drew)) HBB.out).mono ?_
             rintro e V ⟨rfl, hbv⟩
             have hbn : Below W.heap.size W V := by
               first
               | exact HBk.out.trans (hbv.mono HBk.out.size)
               | exact HBk.out.drew.trans (hbv.mono HBk.out.size)
             clear HBk
             have HBk := Lib.hid hbn
             obtain ⟨k0, k1, k2, k3⟩ := HC.out V hbn
             clear hbv hbn)
          | (go_at_call 88
             with_reducible refine (HP1.out _ HBk.out).mono ?_
             rintro e V ⟨⟨g1, d1, rfl, hi⟩, hbv⟩
             have HI1 := Lib.hid hi
             have hbn : Below W.heap.size W V := HBk.out.trans (hbv.mono HBk.out.size)
             clear HBk
             have HBk := Lib.hid hbn
             obtain ⟨k0, k1, k2, k3⟩ := HC.out V hbn
             clear hbv hbn hi)
          | (go_at_call 88
             with_reducible refine (HP2.out _ HBk.out).mono ?_
             rintro e V ⟨⟨g2, d2, rfl, hi⟩, hbv⟩
             have HI1' := Lib.hid (HI1.out.below hbv)
             clear HI1
             have HI1 := HI1'
             clear HI1'
             have HI2 := Lib.hid hi
             have hbn : Below W.heap.size W V := HBk.out.trans (hbv.mono HBk.out.size)
             clear HBk
             have HBk := Lib.hid hbn
             obtain ⟨k0, k1, k2, k3⟩ := HC.out V hbn
             clear hbv hbn hi)
          | (go_at_call 90
             refine (l6pSame_any 0 0 p1 p2 g1 g2 d1 d2 n1 n2 t _ HI1.out HI2.out (by rw [← HTT.out]; simp)).mono ?_
             rintro e V ⟨rfl, hbv⟩
             have hbn : Below W.heap.size W V := HBk.out.trans (hbv.mono HBk.out.size)
             clear HBk
             have HBk := Lib.hid hbn
             obtain ⟨k0, k1, k2, k3⟩ := HC.out V hbn
             clear hbv hbn))
      go_wp2
      go_ret
      exact ⟨ret_bool (by cases t <;> rfl), HBW.out.trans (HBk.out.mono HBW.out.size)⟩

end Go.Proofs.Ytocklmiappppgaa

/- The program's PolyAlike; both sides as the law wants them. -/

namespace Go.Proofs.Ytocklmiappppgaa
open Go.RowKit

set_option maxRecDepth 100000 in
set_option maxHeartbeats 4000000 in
theorem iPolyAlike_any (l1 l2 : Int) (x y : List Int) (a1 a2 : Option Addr) (c1 c2 n1 n2 : Nat) (ba bb t : Bool) (w : World) (h1 : Ints w a1 n1 x) (h2 : Ints w a2 n2 y) (hc1 : n1 ≤ c1) (hc2 : n2 ≤ c2)
    (hba : polyB ⟨l1, x⟩ = ba) (hbb : polyB ⟨l2, y⟩ = bb) (ht : (ba && (bb && decide ((plainP ⟨l1, x⟩).cs = (plainP ⟨l2, y⟩).cs))) = t) :
    Calls Try.prog 44 #[plV l1 (.slice a1 n1 c1), plV l2 (.slice a2 n2 c2)] w fun e w' => e = .returned (.bool t) ∧ Below w.heap.size w w' := by
  obtain ⟨W, hW⟩ : ∃ W, (w.alloc (.cells #[.int .i64 l1, .slice a1 n1 c1] 25)).alloc (.cells #[.int .i64 l2, .slice a2 n2 c2] 25) = W := ⟨_, rfl⟩
  have hbW : Below w.heap.size w W := by rw [← hW]; exact ((Below.refl _ w).alloc (Nat.le_refl _) _).alloc (by simp) _
  have HC : Hid (∀ w1, Below W.heap.size W w1 → _) := Lib.hid fun w1 (hg : Below W.heap.size W w1) => twoCells hW hg
  have hC := twoCells hW (Below.refl _ _)
  rw [← hW] at hC
  obtain ⟨q0, q1, q2, q3⟩ := hC
  have H1 := Lib.hid (h1.below hbW)
  have H2 := Lib.hid (h2.below hbW)
  have HBA := Lib.hid hba
  have HBB := Lib.hid hbb
  have HBW := Lib.hid hbW
  have HT := Lib.hid ht
  have HW := Lib.hid hW
  clear hW hbW h1 h2 hba hbb ht
  obtain ⟨p1, hp1⟩ : ∃ p, doneP ba (plainP ⟨l1, x⟩) = p := ⟨_, rfl⟩
  obtain ⟨p2, hp2⟩ : ∃ p, doneP bb (plainP ⟨l2, y⟩) = p := ⟨_, rfl⟩
  have hm1 : ∀ z ∈ p1.cs, -9223372036854775808 ≤ z ∧ z ≤ 9223372036854775807 := doneP_mem (fun e => plain_polyB (HBA.out.trans e)) hp1
  have hm2 : ∀ z ∈ p2.cs, -9223372036854775808 ≤ z ∧ z ≤ 9223372036854775807 := doneP_mem (fun e => plain_polyB (HBB.out.trans e)) hp2
  have HM1 := Lib.hid hm1
  have HM2 := Lib.hid hm2
  have HA := Lib.hid (iPolyPlain_any l1 x a1 c1 n1 ba W H1.out hc1 HBA.out)
  rw [hp1] at HA
  have HD : Hid (∀ V, Below W.heap.size W V → Calls Try.prog 42 #[plV l2 (.slice a2 n2 c2)] V fun e w' => (∃ v, e = .returned (.tuple #[plV p2.low v, .bool bb]) ∧ IntRow V.heap.size w' v p2.cs) ∧ Below V.heap.size V w') := Lib.hid fun V hV => by
    have h := iPolyPlain_any l2 y a2 c2 n2 bb V (H2.out.below hV) hc2 HBB.out
    rwa [hp2] at h
  have htt : (ba && (bb && decide (p1.cs = p2.cs))) = t := by
    rw [← HT.out, ← hp1, ← hp2]
    cases ba with
    | false => rfl
    | true =>
      cases bb with
      | false => rfl
      | true => rfl
  have HTT := Lib.hid htt
  clear hm1 hm2 hp1 hp2 htt
  go_enter Try.func44, Try.ntmps44
  go_wp2_with fail
  rw [HW.out]
  clear q0 q1 q2 q3
  refine HA.out.mono ?_
  rintro e w1 ⟨⟨v, rfl, hr⟩, hb1⟩
  obtain ⟨g1, d1, rfl, hd1, hi1⟩ := hr.readc HM1.out
  obtain ⟨m1, hm1⟩ : ∃ m, p1.cs.length = m := ⟨_, rfl⟩
  rw [hm1] at hi1 hd1 ⊢
  have hs1 := hb1.size
  obtain ⟨V, hV⟩ : ∃ V, w1.alloc (.cells #[.int .i64 p1.low, .slice g1 m1 d1] 25) = V := ⟨_, rfl⟩
  have hbV : Below w1.heap.size w1 V := by rw [← hV]; exact (Below.refl _ _).alloc (Nat.le_refl _) _
  have HE : Hid (∀ w2, Below V.heap.size V w2 → _) := Lib.hid fun w2 (hg : Below V.heap.size V w2) => oneBox hV hg
  have HBV := Lib.hid (hb1.trans (hbV.mono hs1))
  have hsV := HBV.out.size
  have HI1 := Lib.hid (hi1.below hbV)
  have hp := HC.out V HBV.out
  rw [← hV] at hp
  obtain ⟨q0, q1, q2, q3⟩ := hp
  have HV := Lib.hid hV
  clear hr hb1 hi1 hm1 hV hbV
  cases ba with
  | false =>
    obtain rfl : t = false := by rw [← HT.out]; rfl
    go_wp2
    go_ret
    rw [HV.out]
    exact ⟨rfl, HBW.out.trans (HBV.out.mono HBW.out.size)⟩
  | true =>
    go_wp2_with fail
    rw [HV.out]
    clear q0 q1 q2 q3
    refine (HD.out V HBV.out).mono ?_
    rintro e w2 ⟨⟨v, rfl, hr⟩, hb2⟩
    obtain ⟨g2, d2, rfl, hd2, hi2⟩ := hr.readc HM2.out
    obtain ⟨m2, hm2⟩ : ∃ m, p2.cs.length = m := ⟨_, rfl⟩
    rw [hm2] at hi2 hd2 ⊢
    obtain ⟨U, hU⟩ : ∃ U, w2.alloc (.cells #[.int .i64 p2.low, .slice g2 m2 d2] 25) = U := ⟨_, rfl⟩
    have hbU : Below w2.heap.size w2 U := by rw [← hU]; exact (Below.refl _ _).alloc (Nat.le_refl _) _
    have hVU : Below V.heap.size V U := hb2.trans (hbU.mono hb2.size)
    have hq := HE.out U hVU
    have hq2 := oneBox hU (Below.refl _ _)
    rw [← hU] at hq hq2
    obtain ⟨q0, q1⟩ := hq
    obtain ⟨q2, q3⟩ := hq2
    have HBU := Lib.hid (HBW.out.trans ((HBV.out.trans (hVU.mono hsV)).mono HBW.out.size))
    have HI1U := Lib.hid (HI1.out.below hVU)
    have HI2U := Lib.hid (hi2.below hbU)
    have HU := Lib.hid hU
    clear hr hb2 hi2 hm2 hU hbU hVU
    cases bb with
    | false =>
      obtain rfl : t = false := by rw [← HT.out]; rfl
      go_wp2
      go_ret
      rw [HU.out]
      exact ⟨rfl, HBU.out⟩
    | true =>
      have hte : decide (p1.cs = p2.cs) = t := by have := HTT.out; rwa [Bool.true_and, Bool.true_and] at this
      have HEQ := Lib.hid (equalI_any p1.cs p2.cs g1 g2 d1 d2 m1 m2 t U HI1U.out HI2U.out hte)
      clear hte
      go_wp2_with fail
      rw [HU.out]
      refine HEQ.out.mono ?_
      rintro e w3 ⟨rfl, hb3⟩
      have HB3 := Lib.hid (HBU.out.trans (hb3.mono HBU.out.size))
      clear hb3 q0 q1 q2 q3
      go_wp2
      go_ret
      exact ⟨ret_bool (by cases t <;> rfl), HB3.out⟩

/-! ### As the law wants them -/
theorem sPolyAlike_law {l1 l2 : Int} {x y : List Int} {a1 a2 : Option Addr} {n1 n2 : Nat} {b : Bool} {w : World} (h1 : Ints w a1 n1 x) (h2 : Ints w a2 n2 y) (hb : alikeB ⟨l1, x⟩ ⟨l2, y⟩ = b) :
    Calls Try.prog 50 #[plV l1 (.slice a1 n1 n1), plV l2 (.slice a2 n2 n2)] w fun e w' => e = .returned (.bool b) ∧ Below w.heap.size w w' :=
  sPolyAlike_any l1 l2 x y a1 a2 n1 n2 n1 n2 _ _ b w h1 h2 rfl rfl hb
theorem iPolyAlike_law {l1 l2 : Int} {x y : List Int} {a1 a2 : Option Addr} {n1 n2 : Nat} {b : Bool} {w : World} (h1 : Ints w a1 n1 x) (h2 : Ints w a2 n2 y) (hb : alikeB ⟨l1, x⟩ ⟨l2, y⟩ = b) :
    Calls Try.prog 44 #[plV l1 (.slice a1 n1 n1), plV l2 (.slice a2 n2 n2)] w fun e w' => e = .returned (.bool b) ∧ Below w.heap.size w w' :=
  iPolyAlike_any l1 l2 x y a1 a2 n1 n2 n1 n2 _ _ b w h1 h2 (Nat.le_refl _) (Nat.le_refl _) rfl rfl hb

end Go.Proofs.Ytocklmiappppgaa

/- Division, one step after the other (mathematics). -/

namespace Go.Proofs.Ytocklmiappppgaa
open Go.RowKit

/-- What comes out when so many have been found and so much is left. -/
def divFrom (bs qs : List Int) (n : Nat) (left : List Int) : Option (List Int × List Int) := (divGo bs n left).map fun p => (qs ++ p.1, p.2)
theorem divFrom_start (bs : List Int) (n : Nat) (left : List Int) : divFrom bs [] n left = divGo bs n left := by
  unfold divFrom
  cases divGo bs n left with
  | none => rfl
  | some p => rfl
theorem divFrom_step {bs qs left : List Int} {n : Nat} (h : stepB bs left = true) : divFrom bs qs (n + 1) left = divFrom bs (qs ++ [stepQ bs left]) n (subQ (stepQ bs left) bs left).tail := by
  unfold divFrom
  rw [divGo, if_pos h]
  cases divGo bs n (subQ (stepQ bs left) bs left).tail with
  | none => rfl
  | some p => simp
theorem divFrom_fail {bs qs left : List Int} {n : Nat} (h : stepB bs left = false) : divFrom bs qs (n + 1) left = none := by
  unfold divFrom
  rw [divGo, if_neg (by rw [h]; exact Bool.false_ne_true)]
  rfl
theorem divFrom_end (bs qs left : List Int) : divFrom bs qs 0 left = some (qs, left) := by
  unfold divFrom
  simp [divGo]

def LeftOK (left : List Int) : Prop := ∀ i, -4000000000000000000 ≤ left.getD i 0 ∧ left.getD i 0 ≤ 4000000000000000000
theorem step_parts {bs left : List Int} (h : stepB bs left = true) : (left.getD 0 0).tmod (bs.getD 0 0) = 0 ∧ coefIn (stepQ bs left) = true ∧ ∀ i, i < bs.length → leftIn (left.getD i 0 - stepQ bs left * bs.getD i 0) = true := by
  unfold stepB at h
  simp only [Bool.and_eq_true, decide_eq_true_eq, List.all_eq_true, List.mem_range] at h
  exact ⟨h.1, h.2.1, h.2.2⟩
theorem step_yes {bs left : List Int} (h1 : (left.getD 0 0).tmod (bs.getD 0 0) = 0) (h2 : coefIn (stepQ bs left) = true) (h3 : ∀ i, i < bs.length → leftIn (left.getD i 0 - stepQ bs left * bs.getD i 0) = true) : stepB bs left = true := by
  unfold stepB
  simp only [Bool.and_eq_true, decide_eq_true_eq, List.all_eq_true, List.mem_range]
  exact ⟨h1, h2, h3⟩
theorem step_no1 {bs left : List Int} (h1 : ¬ (left.getD 0 0).tmod (bs.getD 0 0) = 0) : stepB bs left = false := by
  cases h : stepB bs left with
  | false => rfl
  | true => exact absurd (step_parts h).1 h1
theorem step_no2 {bs left : List Int} (h2 : coefIn (stepQ bs left) = false) : stepB bs left = false := by
  cases h : stepB bs left with
  | false => rfl
  | true => rw [(step_parts h).2.1] at h2; exact absurd h2 (by decide)
theorem step_no3 {bs left : List Int} {i : Nat} (hi : i < bs.length) (h3 : leftIn (left.getD i 0 - stepQ bs left * bs.getD i 0) = false) : stepB bs left = false := by
  cases h : stepB bs left with
  | false => rfl
  | true => rw [(step_parts h).2.2 i hi] at h3; exact absurd h3 (by decide)
theorem leftIn_yes {z : Int} (h : leftIn z = true) : -4000000000000000000 ≤ z ∧ z ≤ 4000000000000000000 := by
  unfold leftIn inR at h
  simpa using h
theorem step_left {bs left : List Int} (hb : bs.length ≤ left.length) (h : stepB bs left = true) (hl : LeftOK left) : LeftOK (subQ (stepQ bs left) bs left).tail := fun i => by
  rw [tail_get, subQ_get _ _ _ _ hb]
  by_cases hi : i + 1 < bs.length
  · exact leftIn_yes ((step_parts h).2.2 (i + 1) hi)
  · rw [getD_far (l := bs) (by omega), Int.mul_zero, Int.sub_zero]
    exact hl _
theorem step_tail_len {bs left : List Int} (q : Int) {n : Nat} (h : left.length = n + 1) : (subQ q bs left).tail.length = n := by
  rw [List.length_tail, subQ_len, h]
  rfl
theorem step_head {bs left : List Int} (hb : bs.length ≤ left.length) (h : (left.getD 0 0).tmod (bs.getD 0 0) = 0) : (subQ (stepQ bs left) bs left).getD 0 0 = 0 := by
  rw [subQ_get _ _ _ _ hb]
  have e := Int.mul_tdiv_add_tmod (left.getD 0 0) (bs.getD 0 0)
  rw [h, Int.add_zero, Int.mul_comm] at e
  unfold stepQ
  omega
theorem tdiv_size {z b : Int} : -(z.natAbs : Int) ≤ z.tdiv b ∧ z.tdiv b ≤ (z.natAbs : Int) := by
  have h : (z.tdiv b).natAbs ≤ z.natAbs := by
    rw [Int.natAbs_tdiv]
    exact Nat.div_le_self _ _
  omega
theorem tmod_size {z b : Int} : -(z.natAbs : Int) ≤ z.tmod b ∧ z.tmod b ≤ (z.natAbs : Int) := by
  have h : (z.tmod b).natAbs ≤ z.natAbs := by
    rw [Int.natAbs_tmod]
    exact Nat.mod_le _ _
  omega

/-! ### The row in which what is left stands -/
def rowG (i : Nat) (left : List Int) (j : Nat) : Int := if j < i then 0 else left.getD (j - i) 0
def rowF (i k : Nat) (q : Int) (bs left : List Int) (j : Nat) : Int := if j < i then 0 else if j < i + k then left.getD (j - i) 0 - q * bs.getD (j - i) 0 else left.getD (j - i) 0
theorem rowG_zero (left : List Int) (n : Nat) (h : left.length = n) : listN (rowG 0 left) n = left := by
  subst h
  rw [listN_congr (g := fun i => left.getD i 0) (fun i _ => by unfold rowG; rw [if_neg (by omega), Nat.sub_zero]), listN_self]
theorem rowF_zero (i : Nat) (q : Int) (bs left : List Int) (n : Nat) : listN (rowF i 0 q bs left) n = listN (rowG i left) n :=
  listN_congr fun j _ => by
    unfold rowF rowG
    by_cases h : j < i
    · rw [if_pos h, if_pos h]
    · rw [if_neg h, if_neg h, if_neg (by omega)]
theorem rowF_next (i k : Nat) (q : Int) (bs left : List Int) (n : Nat) {x : Int} (hx : left.getD k 0 - q * bs.getD k 0 = x) : (intsV (listN (rowF i k q bs left) n)).set (i + k) (.int .i64 x) = intsV (listN (rowF i (k + 1) q bs left) n) :=
  listN_set (fun j hj => by
    unfold rowF
    by_cases h : j < i
    · rw [if_pos h, if_pos h]
    · rw [if_neg h, if_neg h]
      by_cases h2 : j < i + k
      · rw [if_pos h2, if_pos (by omega)]
      · rw [if_neg h2, if_neg (by omega)]) (by
    unfold rowF
    rw [if_neg (by omega), if_pos (by omega), show i + k - i = k by omega, hx])
theorem rowF_at (i k : Nat) (q : Int) (bs left : List Int) : rowF i k q bs left (i + k) = left.getD k 0 := by
  unfold rowF
  rw [if_neg (by omega), if_neg (by omega), show i + k - i = k by omega]
theorem rowG_at (i k : Nat) (left : List Int) : rowG i left (i + k) = left.getD k 0 := by
  unfold rowG
  rw [if_neg (by omega), show i + k - i = k by omega]
theorem rowF_done (i : Nat) (bs left : List Int) (n : Nat) (hb : bs.length ≤ left.length) (h : (left.getD 0 0).tmod (bs.getD 0 0) = 0) : listN (rowF i bs.length (stepQ bs left) bs left) n = listN (rowG (i + 1) (subQ (stepQ bs left) bs left).tail) n :=
  listN_congr fun j _ => by
    unfold rowF rowG
    by_cases h1 : j < i
    · rw [if_pos h1, if_pos (by omega)]
    · rw [if_neg h1]
      have e : (if j < i + bs.length then left.getD (j - i) 0 - stepQ bs left * bs.getD (j - i) 0 else left.getD (j - i) 0) = (subQ (stepQ bs left) bs left).getD (j - i) 0 := by
        rw [subQ_get _ _ _ _ hb]
        by_cases h2 : j < i + bs.length
        · rw [if_pos h2]
        · rw [if_neg h2, getD_far (l := bs) (by omega), Int.mul_zero, Int.sub_zero]
      rw [e]
      by_cases h3 : j = i
      · subst h3
        rw [if_pos (by omega), Nat.sub_self, step_head hb h]
      · rw [if_neg (by omega), tail_get, show j - (i + 1) + 1 = j - i by omega]
theorem zeroL_yes {l : List Int} (h : ∀ i, i < l.length → l.getD i 0 = 0) : zeroL l = true := by
  unfold zeroL
  rw [List.all_eq_true]
  intro z hz
  obtain ⟨i, hi, rfl⟩ := List.mem_iff_getElem.1 hz
  have := h i hi
  rw [List.getD_eq_getElem?_getD, List.getElem?_eq_getElem hi] at this
  exact decide_eq_true this
theorem zeroL_no {l : List Int} {i : Nat} (h : l.getD i 0 ≠ 0) : zeroL l = false := by
  have hi := getD_lt h
  cases e : zeroL l with
  | false => rfl
  | true =>
    unfold zeroL at e
    rw [List.all_eq_true] at e
    have := e _ (List.getElem_mem hi)
    rw [List.getD_eq_getElem?_getD, List.getElem?_eq_getElem hi] at h
    exact absurd (of_decide_eq_true this) h

theorem trim_nonzero {a : Pl} (h : Trim a) (h0 : 0 < a.cs.length) : a.cs.getD 0 0 ≠ 0 ∧ a.cs.getD (a.cs.length - 1) 0 ≠ 0 := by
  rcases h with ⟨h, _⟩ | ⟨_, h1, h2⟩
  · rw [h] at h0; exact absurd h0 (Nat.lt_irrefl _)
  · exact ⟨h1, h2⟩

/-! ### The answer -/
def dividedB (a b : Pl) : Bool := polyB a && (polyB b && (decide (0 < b.cs.length) && overB a b))
def dividedP (a b : Pl) : Pl := doneP (dividedB a b) (overP a b)
/-- What the answer is when the division has gone through. -/
def outQ (low : Int) : Option (List Int × List Int) → Option Pl
  | some p => if zeroL p.2 then some (tidyP low p.1) else none
  | none => none
theorem overQ_some {a b : Pl} (h : 0 < a.cs.length) : overQ a b = outQ (a.low - b.low) (divGo b.cs (a.cs.length + 1 - b.cs.length) a.cs) := by
  unfold overQ outQ
  rw [if_neg (by omega)]
  cases divGo b.cs (a.cs.length + 1 - b.cs.length) a.cs <;> rfl
theorem over_none {a b : Pl} (h : overQ a b = none) : overB a b = false ∧ overP a b = ⟨0, []⟩ := by
  unfold overB overP
  rw [h]
  exact ⟨rfl, rfl⟩
theorem over_some {a b p : Pl} (h : overQ a b = some p) : overB a b = polyB p ∧ overP a b = doneP (polyB p) p := by
  unfold overB overP
  rw [h]
  exact ⟨rfl, rfl⟩
theorem divided_fit {w : World} {l1 l2 : Int} {x y : List Int} {a1 a2 : Option Addr} {n1 n2 : Nat} {b : Bool} {p : Pl} (_ : Ints w a1 n1 x) (_ : Ints w a2 n2 y) (_ : dividedB ⟨l1, x⟩ ⟨l2, y⟩ = b) (hp : dividedP ⟨l1, x⟩ ⟨l2, y⟩ = p) : p.cs.length ≤ 200 := by
  unfold dividedP at hp
  refine doneP_len (fun h => ?_) hp
  unfold dividedB at h
  simp only [Bool.and_eq_true] at h
  have h := h.2.2.2
  unfold overB at h
  unfold overP
  cases e : overQ ⟨l1, x⟩ ⟨l2, y⟩ with
  | none => rw [e] at h; exact absurd h (by decide)
  | some q =>
    rw [e] at h
    have h : polyB q = true := h
    show polyB (doneP (polyB q) q) = true
    rw [h]
    exact h

end Go.Proofs.Ytocklmiappppgaa

/- The program's takeOut. -/

namespace Go.Proofs.Ytocklmiappppgaa
open Go.RowKit

theorem boxKept {w w1 W : World} {t : TypeId} {x y : Value} {g : Nat} (hW : w.alloc (.cells #[x, y] t) = W) (hg : W.grownBy w1 (some g)) (hgl : g < w.heap.size) : w1.cell? ⟨w.heap.size, 0, none⟩ = some x ∧ w1.cell? ⟨w.heap.size, 1, none⟩ = some y := by
  have hsz : W.heap.size = w.heap.size + 1 := by rw [← hW]; simp
  have e0 := hg.block w.heap.size (by omega) (by simp; omega)
  rw [← hW, World.alloc_heap_new] at e0
  exact ⟨by simp [World.cell?, e0], by simp [World.cell?, e0]⟩
/-- Ints that lie in another block than the one that is written. -/
theorem Ints.keptBut {w W w1 : World} {a : Option Addr} {n g : Nat} {zs : List Int} (h : Ints w a n zs) (hbW : Below w.heap.size w W) (hg : W.grownBy w1 (some g)) (hne : n = 0 ∨ ∀ x, a = some x → x.block ≠ g) : ∀ k, k < n → ∀ x, a = some x → ∀ z, zs.getD k 0 = z → w1.cell? (x.add k) = some (.int .i64 z) := fun k hk x hx z hz => by
  obtain ⟨x', e, hb, hc⟩ := h.at_ (by omega)
  obtain rfl : x = x' := by rw [hx] at e; simpa using e
  have hl := h.len
  have hne' : (x.add k).block ≠ g := by rw [addr_add_block]; exact (hne.resolve_left (by omega)) x hx
  have hbk := hbW.cell (p := x.add k) (by rw [addr_add_block]; exact hb)
  have hbl : (x.add k).block < W.heap.size := by rw [addr_add_block]; have := hbW.size; omega
  have e1 := hg.block (x.add k).block hbl (by simp; exact hne')
  have e2 : w1.cell? (x.add k) = W.cell? (x.add k) := by unfold World.cell?; rw [e1]
  rw [e2, hbk, hc k (by omega), ← hz, List.getD_eq_getElem?_getD, List.getElem?_eq_getElem (by omega)]
  rfl
theorem mul_in {q b : Int} (h1 : -1000000000 ≤ q ∧ q ≤ 1000000000) (h2 : -1000000000 ≤ b ∧ b ≤ 1000000000) : -1000000000000000000 ≤ q * b ∧ q * b ≤ 1000000000000000000 := by
  have h := conv_bound (x := [q]) (y := [b]) (fun i => by cases i with | zero => exact h1 | succ i => simp) (fun i => by cases i with | zero => exact h2 | succ i => simp) 0 0
  exact h

/-- What takeOut comes to: the number that it tells, and the row. -/
def Taken (base g n1 capN i : Nat) (bs left : List Int) (s : Bool) (e : Ending) (w' : World) : Prop :=
  (s = true ∧ e = .returned (.tuple #[.int .i64 (stepQ bs left), .bool true]) ∧ w'.ownsRow base 3 1 (.slice (some ⟨g, 0, none⟩) n1 capN) n1 (intsV (listN (rowG (i + 1) (subQ (stepQ bs left) bs left).tail) n1))) ∨ (s = false ∧ e = .returned (.tuple #[.int .i64 0, .bool false]))

set_option maxRecDepth 100000 in
set_option maxHeartbeats 4000000 in
theorem takeOut_any (base g i m n1 capN capL : Nat) (left bs : List Int) (l2 : Int) (a2 : Option Addr) (c2 n2 : Nat) (s : Bool) (w : World)
    (hr : w.ownsRow base 3 1 (.slice (some ⟨g, 0, none⟩) n1 capN) n1 (intsV (listN (rowG i left) n1))) (hb : Ints w a2 n2 bs) (hblk : n2 = 0 ∨ ∀ x, a2 = some x → x.block ≠ g)
    (hm : i + m = n1) (hlen : left.length = m) (hle : n2 ≤ m) (h0 : 0 < n2) (hn1 : n1 ≤ 300) (hb0 : bs.getD 0 0 ≠ 0) (hbb : ∀ k, -1000000000 ≤ bs.getD k 0 ∧ bs.getD k 0 ≤ 1000000000) (hl : LeftOK left) (hs : stepB bs left = s) :
    Calls Try.prog 106 #[plV l2 (.slice a2 n2 c2), .slice (some ⟨g, i, none⟩) m capL] w fun e w' => Taken base g n1 capN i bs left s e w' ∧ w.grownBy w' (some g) := by
  obtain ⟨W, hW⟩ : ∃ W, w.alloc (.cells #[.int .i64 l2, .slice a2 n2 c2] 64) = W := ⟨_, rfl⟩
  have hsz : W.heap.size = w.heap.size + 1 := by rw [← hW]; simp
  have hbW : Below w.heap.size w W := by rw [← hW]; exact (Below.refl _ w).alloc (Nat.le_refl _) _
  have hgl : g < w.heap.size := own_lt hr g rfl
  have HC : Hid (∀ w1, W.grownBy w1 (some g) → _) := Lib.hid fun w1 (hg : W.grownBy w1 (some g)) => boxKept hW hg hgl
  have HGW : Hid (w.grownBy W (some g)) := Lib.hid ⟨hbW.os, hbW.tape, hbW.output, hbW.size, fun i hi _ => hbW.block i hi⟩
  obtain ⟨x, rfl, hxb, _⟩ := hb.at_ h0
  have HX : Hid (∀ w1, W.grownBy w1 (some g) → ∀ k, k < n2 → ∀ z, bs.getD k 0 = z → w1.cell? (x.add k) = some (.int .i64 z)) := Lib.hid fun w1 hg k hk z hz => hb.keptBut hbW hg hblk k hk x rfl z hz
  have hr0 : W.ownsRow base 3 1 (.slice (some ⟨g, 0, none⟩) n1 capN) n1 (intsV (listN (rowG i left) n1)) := hr.kept ⟨hbW.os, hbW.tape, hbW.output, hbW.size, fun j hj _ => hbW.block j hj⟩ (row := none) (.inr (by simp [Value.ownBlock]))
  obtain ⟨z0, hz0⟩ : ∃ z, left.getD 0 0 = z := ⟨_, rfl⟩
  obtain ⟨b0, hb0'⟩ : ∃ z, bs.getD 0 0 = z := ⟨_, rfl⟩
  have hzb := hl 0
  rw [hz0] at hzb
  obtain ⟨hzb1, hzb2⟩ := hzb
  rw [hb0'] at hb0
  obtain ⟨q, hq⟩ : ∃ q, z0.tdiv b0 = q := ⟨_, rfl⟩
  obtain ⟨r, hr'⟩ : ∃ r, z0.tmod b0 = r := ⟨_, rfl⟩
  have hqs := tdiv_size (z := z0) (b := b0)
  have hrs := tmod_size (z := z0) (b := b0)
  rw [hq] at hqs
  rw [hr'] at hrs
  obtain ⟨hqs1, hqs2⟩ := hqs
  obtain ⟨hrs1, hrs2⟩ := hrs
  have hbz : (b0 == 0) = false := by simpa using hb0
  have hwq : wrap64 (z0.tdiv b0) = q := by rw [hq]; exact IntWalk.wrap64_in _ (by omega)
  have HRE := Lib.hid hr'
  have HQ : Hid (stepQ bs left = q) := Lib.hid (by unfold stepQ; rw [hz0, hb0', hq])
  have HRM : Hid ((left.getD 0 0).tmod (bs.getD 0 0) = r) := Lib.hid (by rw [hz0, hb0', hr'])
  have pz : W.cell? ⟨g, i, none⟩ = some (.int .i64 z0) := by
    rw [hr0.cellAt _ (by omega), listN_cell (by omega), show rowG i left i = z0 from by have := rowG_at i 0 left; rw [Nat.add_zero] at this; rw [this, hz0]]
  have pb : W.cell? x = some (.int .i64 b0) := by
    have h := HX.out W (World.grownBy.refl _ _) 0 h0 b0 hb0'
    rwa [show x.add 0 = x by unfold Addr.add; simp] at h
  obtain ⟨q0, q1⟩ := HC.out W (World.grownBy.refl _ _)
  have HS := Lib.hid hs
  have HR0 := Lib.hid hr0
  have HLN := Lib.hid hlen
  have HBB := Lib.hid hbb
  have HLO := Lib.hid hl
  have HLB := Lib.hid hb.len
  have HW := Lib.hid hW
  have hm0 : (0 : Int) < (m : Int) := by omega
  have hn0 : (0 : Int) < (n2 : Int) := by omega
  have hxb : x.block < W.heap.size := by omega
  clear hW hbW hb hblk hr hr0 hlen hbb hl hs hz0 hb0' hsz hq hr'
  go_enter Try.func106, Try.ntmps106
  go_upto_region 1 with fail
  rw [HW.out]
  go_quiet (fail)
  obtain ⟨V, hV⟩ : ∃ V, W.drewN nq = V := ⟨_, rfl⟩
  have hbV : Below W.heap.size W V := by rw [← hV]; exact below_drewN (Below.refl _ _) nq
  have hgV : W.grownBy V (some g) := grownBelow _ hbV
  have HRV := Lib.hid (rowPast HR0.out hbV)
  have pz := hbV.cell (p := ⟨g, i, none⟩) (by show g < W.heap.size; have := HGW.out.size; omega) |>.trans pz
  have pb := hbV.cell (p := x) hxb |>.trans pb
  rw [hV, hwq]
  clear hV q0 q1 hbV hwq
  obtain ⟨q0, q1⟩ := HC.out V hgV
  have HGV := Lib.hid hgV
  clear hgV
  by_cases hr0 : r = 0
  · subst hr0
    have hrb : (z0.tmod b0 != 0) = false := by rw [HRE.out]; rfl
    obtain ⟨ci, hci⟩ : ∃ b, coefIn q = b := ⟨_, rfl⟩
    have HCI := Lib.hid hci
    clear hci
    have hwn : ∀ W' : World, Calls Try.prog 104 #[.int .i64 q, .int .i64 1000000000] W' fun e w' => e = .returned (.bool ci) ∧ w' = W' := fun W' => (within_any q 1000000000 ci W' (by omega) (by omega) HCI.out).mono fun _ _ ⟨h1, h2⟩ => ⟨h1, h2.symm⟩
    have HWN := Lib.hid hwn
    clear hwn
    go_wp2
    go_quiet ((go_at_call 104; exact Calls.quiet_of_same (HWN.out _)))
    obtain ⟨U, hU⟩ : ∃ U, V.drewN nq = U := ⟨_, rfl⟩
    have hbU : Below V.heap.size V U := by rw [← hU]; exact below_drewN (Below.refl _ _) nq
    have HRU := Lib.hid (rowPast HRV.out hbU)
    have HGU := Lib.hid (grownTrans HGV.out (grownBelow _ hbU))
    rw [hU]
    clear hU q0 q1 hbU pz pb
    obtain ⟨q0, q1⟩ := HC.out U HGU.out
    cases ci with
    | false =>
      have hsf : s = false := by rw [← HS.out]; exact step_no2 (by rw [HQ.out]; exact HCI.out)
      go_wp2
      go_ret2
      exact ⟨.inr ⟨hsf, rfl⟩, grownTrans HGW.out HGU.out⟩
    | true =>
      obtain ⟨hq1, hq2⟩ := coefIn_yes HCI.out
      clear hqs1 hqs2 hrs1 hrs2 hbz hb0 hrb
      rw [show (!true) = false from rfl]
      go_wp2
      go_loopw [7, 8, 34] (fun _ _ j wr => ∃ k : Nat, k ≤ n2 ∧ j = .int .i64 (k : Int) ∧ Hid (∀ j, j < k → leftIn (left.getD j 0 - q * bs.getD j 0) = true) ∧ Hid (wr.ownsRow base 3 1 (.slice (some ⟨g, 0, none⟩) n1 capN) n1 (intsV (listN (rowF i k q bs left) n1))) ∧ Hid (W.grownBy wr (some g))) (fun _ _ j _ => n2 - (intOf j).toNat)
      case atStart => exact ⟨0, Nat.zero_le _, rfl, Lib.hid fun j h => absurd h (Nat.not_lt_zero _), Lib.hid (by rw [rowF_zero]; exact HRU.out), HGU⟩
      case round =>
        obtain ⟨k, hk, rfl, HK, HR, HG⟩ := hrel
        by_cases hlt : k < n2
        · obtain ⟨z, hz⟩ : ∃ z, bs.getD k 0 = z := ⟨_, rfl⟩
          have hcz := HX.out wr HG.out k hlt z hz
          obtain ⟨u, hu⟩ : ∃ u, left.getD k 0 = u := ⟨_, rfl⟩
          have hub := HLO.out k
          rw [hu] at hub
          have hzb := HBB.out k
          rw [hz] at hzb
          obtain ⟨p, hp⟩ : ∃ p, q * z = p := ⟨_, rfl⟩
          have hpb := mul_in ⟨hq1, hq2⟩ hzb
          rw [hp] at hpb
          obtain ⟨hub1, hub2⟩ := hub
          obtain ⟨hpb1, hpb2⟩ := hpb
          obtain ⟨y, hy⟩ : ∃ y, u - p = y := ⟨_, rfl⟩
          have hw1 : IntKind.i64.wrap (q * z) = p := by rw [hp]; exact IntWalk.i64_in _ (by omega)
          have hw2 : IntKind.i64.wrap (u - p) = y := by rw [hy]; exact IntWalk.i64_in _ (by omega)
          have hck : wr.cell? ⟨g, i + k, none⟩ = some (.int .i64 u) := by
            rw [HR.out.cellAt _ (by omega), listN_cell (by omega), rowF_at, hu]
          have hfk := HR.out.frozenAt (i + k)
          have hki : (k : Int) < (n2 : Int) := by omega
          have hkm : (k : Int) < (m : Int) := by omega
          have hk0 : (0 : Int) ≤ (k : Int) := by omega
          have HST := Lib.hid (rowF_next i k q bs left n1 (x := y) (by rw [hu, hz, hp, hy]))
          obtain ⟨bl, hbl⟩ : ∃ b, leftIn y = b := ⟨_, rfl⟩
          have HBL := Lib.hid hbl
          have HY : Hid (left.getD k 0 - stepQ bs left * bs.getD k 0 = y) := Lib.hid (by rw [hu, hz, HQ.out, hp, hy])
          clear hz hu hp hy hbl hub1 hub2 hpb1 hpb2 hzb
          go_wp2_with fail
          refine (within_any y 4000000000000000000 bl _ (by omega) (by omega) HBL.out).mono ?_
          rintro e w1 ⟨rfl, rfl⟩
          have h1 := HR.out.stored (i + k) (.int .i64 y)
          rw [HST.out] at h1
          have HR1 := Lib.hid h1.1
          have HG1 := Lib.hid (HG.out.trans h1.2)
          clear h1
          cases bl with
          | false =>
            have hsf : s = false := by rw [← HS.out]; exact step_no3 (i := k) (by rw [HLB.out]; exact hlt) (by rw [HY.out]; exact HBL.out)
            go_wp2
            go_ret2
            exact ⟨.inr ⟨hsf, rfl⟩, HGW.out.trans HG1.out⟩
          | true =>
            have HK1 : Hid (∀ j, j < k + 1 → leftIn (left.getD j 0 - q * bs.getD j 0) = true) := Lib.hid fun j hj => by
              by_cases e : j = k
              · subst e
                have := HY.out
                rw [HQ.out] at this
                rw [this]
                exact HBL.out
              · exact HK.out j (by omega)
            go_wp2
            go_roundw
            case rel => exact ⟨k + 1, by omega, by go_num, HK1, HR1, HG1⟩
            case measure => simp [intOf]; omega
        · obtain rfl : k = n2 := by omega
          have hst : s = true := by
            rw [← HS.out]
            refine step_yes HRM.out (by rw [HQ.out]; exact HCI.out) fun j hj => ?_
            rw [HQ.out]
            exact HK.out j (by rw [← HLB.out]; exact hj)
          have hrr := HR.out
          rw [← HLB.out, ← HQ.out, rowF_done i bs left n1 (by rw [HLB.out, HLN.out]; exact hle) HRM.out] at hrr
          have HRR := Lib.hid hrr
          clear hrr
          go_wp2
          go_ret2
          exact ⟨.inl ⟨hst, by rw [HQ.out]; rfl, HRR.out⟩, HGW.out.trans HG.out⟩
  · have hrb : (z0.tmod b0 != 0) = true := by rw [HRE.out]; simpa using hr0
    have hsf : s = false := by rw [← HS.out]; exact step_no1 (by rw [HRM.out]; exact hr0)
    go_wp2
    go_quiet (fail)
    have HGU := Lib.hid (grownTrans HGV.out (grownBelow (some g) (below_drewN (Below.refl V.heap.size V) nq)))
    go_wp2
    go_ret2
    exact ⟨.inr ⟨hsf, rfl⟩, grownTrans HGW.out HGU.out⟩

end Go.Proofs.Ytocklmiappppgaa

/- The program's over. -/

namespace Go.Proofs.Ytocklmiappppgaa
open Go.RowKit

def sliceLen : Value → Nat
  | .slice _ n _ => n
  | _ => 0
theorem drop_row {i m n : Nat} {left : List Int} (h : i + m = n) (hl : left.length = m) : ((listN (rowG i left) n).drop i).take m = left := by
  refine eq_getD (by rw [List.length_take, List.length_drop, listN_len]; omega) fun k hk => ?_
  rw [List.length_take, List.length_drop, listN_len] at hk
  rw [List.getD_eq_getElem?_getD, List.getElem?_take_of_lt (by omega), List.getElem?_drop, ← List.getD_eq_getElem?_getD, listN_get (by omega), rowG_at]
theorem any_zero (l : List Int) : (l.any fun z => !decide (z = 0)) = !zeroL l := by
  unfold zeroL
  rw [List.not_all_eq_any_not]
theorem rowG_in {i n : Nat} {left : List Int} (hl : LeftOK left) : ∀ z ∈ listN (rowG i left) n, -9223372036854775808 ≤ z ∧ z ≤ 9223372036854775807 := fun z hz => by
  unfold listN at hz
  obtain ⟨j, _, rfl⟩ := List.mem_map.1 hz
  unfold rowG
  split
  · omega
  · have := hl (j - i)
    omega
theorem coefs_in {qs : List Int} (h : ∀ z ∈ qs, coefIn z = true) : ∀ z ∈ qs, -9223372036854775808 ≤ z ∧ z ≤ 9223372036854775807 := fun z hz => by
  have := coefIn_yes (h z hz)
  omega

set_option maxRecDepth 100000 in
set_option maxHeartbeats 1500000 in
theorem over_any (l1 l2 : Int) (x y : List Int) (a1 a2 : Option Addr) (c1 c2 n1 n2 : Nat) (t : Bool) (w : World) (h1 : Ints w a1 n1 x) (h2 : Ints w a2 n2 y) (h01 : 0 < n1) (h02 : 0 < n2) (hn1 : n1 ≤ 200) (hn2 : n2 ≤ 200)
    (hl1 : -300 ≤ l1 ∧ l1 ≤ 300) (hl2 : -300 ≤ l2 ∧ l2 ≤ 300) (hy0 : y.getD 0 0 ≠ 0)
    (hx : ∀ i, -1000000000 ≤ x.getD i 0 ∧ x.getD i 0 ≤ 1000000000) (hy : ∀ i, -1000000000 ≤ y.getD i 0 ∧ y.getD i 0 ≤ 1000000000) (ht : overB ⟨l1, x⟩ ⟨l2, y⟩ = t) :
    Calls Try.prog 82 #[plV l1 (.slice a1 n1 c1), plV l2 (.slice a2 n2 c2)] w fun e w' => (∃ v, e = .returned (.tuple #[plV (overP ⟨l1, x⟩ ⟨l2, y⟩).low v, .bool t]) ∧ IntRow w.heap.size w' v (overP ⟨l1, x⟩ ⟨l2, y⟩).cs) ∧ Below w.heap.size w w' := by
  obtain ⟨i0, hi, hz0, hz1, hz2⟩ := info_parts infoInt
  have hmx : Try.prog.follows .mixedOrders = true := by kernel_rfl
  have hzm := told_zm
  have hzn := told_zn
  have hpm := told_pm
  have hpn := told_pn
  obtain ⟨W, hW⟩ : ∃ W, ((w.alloc (.cells #[.int .i64 l1, .slice a1 n1 c1] PT)).alloc (.cells #[.int .i64 l2, .slice a2 n2 c2] PT)).alloc (.cells #[.int .i64 0, .slice none 0 0] 25) = W := ⟨_, rfl⟩
  obtain ⟨hbW, hsz⟩ := boxes3Below hW
  have HC : Hid (∀ w1, Below W.heap.size W w1 → _) := Lib.hid fun w1 (hg : Below W.heap.size W w1) => boxes3 hW hg
  have hC := boxes3 hW (Below.refl _ _)
  rw [← hW] at hC
  obtain ⟨⟨p0, p1⟩, ⟨q0, q1⟩, _⟩ := hC
  obtain ⟨N, hN⟩ : ∃ N, n1 + 1 - n2 = N := ⟨_, rfl⟩
  obtain ⟨D, hD⟩ : ∃ D, divGo y N x = D := ⟨_, rfl⟩
  have hov : overQ ⟨l1, x⟩ ⟨l2, y⟩ = outQ (l1 - l2) D := by
    rw [overQ_some (by show 0 < x.length; rw [h1.len]; exact h01)]
    show outQ (l1 - l2) (divGo y (x.length + 1 - y.length) x) = _
    rw [h1.len, h2.len, hN, hD]
  have HOV := Lib.hid hov
  have H2 := Lib.hid (h2.below hbW)
  have HCL := Lib.hid (cloneI_any a1 c1 n1 x W (h1.below hbW) (by omega))
  have HN1 := Lib.hid h1.len
  have HN2 := Lib.hid h2.len
  have HX : Hid (LeftOK x) := Lib.hid fun i => by have := hx i; omega
  have HY := Lib.hid hy
  have HY0 := Lib.hid hy0
  have HT := Lib.hid ht
  have HD := Lib.hid hD
  have HBW := Lib.hid hbW
  have HW := Lib.hid hW
  have HSZ := Lib.hid hsz
  obtain ⟨P, hP⟩ : ∃ P, overP ⟨l1, x⟩ ⟨l2, y⟩ = P := ⟨_, rfl⟩
  rw [hP]
  have HP := Lib.hid hP
  clear hW hbW h1 h2 hx hy hsz hy0 ht hD hov hP
  go_enter Try.func82, Try.ntmps82
  go_wp2_with fail
  rw [HW.out]
  clear p0 p1 q0 q1
  refine HCL.out.mono ?_
  rintro e w1 ⟨⟨v, rfl, hr⟩, hb1⟩
  unfold IntRow at hr
  rw [HN1.out] at hr
  obtain ⟨g, capg, rfl⟩ := Go.Joins.ownsRow_form hr (by omega)
  have hcap := (ownsRow_cap hr).1
  have hgge := own_ge hr g rfl
  have hglt := own_lt hr g rfl
  have hs1 := hb1.size
  have HR1 : Hid (w1.ownsRow W.heap.size 3 1 (.slice (some ⟨g, 0, none⟩) n1 capg) n1 (intsV (listN (rowG 0 x) n1))) := Lib.hid (by rw [rowG_zero x n1 HN1.out]; exact hr)
  have HB1 := Lib.hid hb1
  obtain ⟨⟨p0, p1⟩, ⟨q0, q1⟩, d0, d1, f0, f1⟩ := HC.out w1 hb1
  clear hr hb1
  have HSTART : Hid (divFrom y [] (N - 0) x = D) := Lib.hid (by rw [divFrom_start, Nat.sub_zero]; exact HD.out)
  go_wp2_with fail
  go_loopw [6, 7, 8, 9] (fun l c _ _ wr => ∃ (i m capl o : Nat) (qs left : List Int), i + m = n1 ∧ i ≤ N ∧ m ≤ capl ∧ (m = 0 ∨ o = i) ∧ l = .slice (some ⟨g, o, none⟩) m capl ∧ Hid (left.length = m ∧ LeftOK left ∧ qs.length = i ∧ (∀ z ∈ qs, coefIn z = true) ∧ divFrom y qs (N - i) left = D) ∧ Hid (wr.ownsRow W.heap.size 3 1 (.slice (some ⟨g, 0, none⟩) n1 capg) n1 (intsV (listN (rowG i left) n1))) ∧ Hid (wr.ownsRow w1.heap.size 3 1 c i (intsV qs)) ∧ w1.heap.size ≤ wr.heap.size ∧ Hid (Below W.heap.size W wr)) (fun l _ _ _ _ => sliceLen l)
  case atStart => exact ⟨0, n1, capg, 0, [], x, by omega, by omega, hcap, .inr rfl, rfl, Lib.hid ⟨HN1.out, HX.out, rfl, fun z h => (by cases h), HSTART.out⟩, HR1, Lib.hid (World.ownsRow_nil _ _ _ _), Nat.le_refl _, HB1⟩
  case round =>
    obtain ⟨i, m, capl, o, qs, left, him, hiN, hmc, ho, rfl, HI, HR, HQ, hsz, HB⟩ := hrel
    clear p0 p1 q0 q1 d0 d1 f0 f1
    obtain ⟨⟨p0, p1⟩, ⟨q0, q1⟩, d0, d1, f0, f1⟩ := HC.out wr HB.out
    by_cases hgo : n2 ≤ m
    · obtain rfl : o = i := by omega
      have hgi : (n2 : Int) ≤ (m : Int) := by omega
      obtain ⟨s, hs⟩ : ∃ s, stepB y left = s := ⟨_, rfl⟩
      have hne : n2 = 0 ∨ ∀ z, a2 = some z → z.block ≠ g := by
        refine .inr fun z hz => ?_
        obtain ⟨z', e, hb, _⟩ := H2.out.at_ (by omega)
        obtain rfl : z = z' := by rw [hz] at e; simpa using e
        omega
      have HTK := Lib.hid (takeOut_any W.heap.size g o m n1 capg capl left y l2 a2 c2 n2 s wr HR.out (H2.out.below HB.out) hne him HI.out.1 hgo h02 (by omega) HY0.out HY.out HI.out.2.1 hs)
      have HS := Lib.hid hs
      obtain ⟨r, hr⟩ : ∃ r, N - o = r + 1 := ⟨N - o - 1, by omega⟩
      have hrr : N - (o + 1) = r := by omega
      have hdv := HI.out.2.2.2.2
      rw [hr] at hdv
      have HDV := Lib.hid hdv
      have HRR := Lib.hid hrr
      clear hs hne hr hrr hdv
      go_wp2_with fail
      refine HTK.out.mono ?_
      rintro e w2 ⟨hT, hg2⟩
      have HB2 := Lib.hid (HB.out.grown hg2 (by have := HB.out.size; omega) (fun k e => by simp at e; omega))
      have hs2 := hg2.size
      have HQ2 : Hid (w2.ownsRow w1.heap.size 3 1 u7 o (intsV qs)) := Lib.hid (HQ.out.kept hg2 (.inr fun e => by have := own_ge HQ.out g e; omega))
      clear p0 p1 q0 q1 d0 d1 f0 f1
      obtain ⟨⟨p0, p1⟩, ⟨q0, q1⟩, d0, d1, f0, f1⟩ := HC.out w2 HB2.out
      clear hg2 HTK
      rcases hT with ⟨rfl, rfl, hr2⟩ | ⟨rfl, rfl⟩
      · have HR2 := Lib.hid hr2
        have HSP := Lib.hid (step_parts HS.out)
        obtain ⟨q, hq⟩ : ∃ q, stepQ y left = q := ⟨_, rfl⟩
        have hqin := HSP.out.2.1
        rw [hq] at hqin ⊢
        have hqb := coefIn_yes hqin
        have HQI := Lib.hid hqin
        have HQQ := Lib.hid hq
        have HRA := Lib.hid (HQ2.out.alloc (.cells #[.int .i64 q] 3))
        have HNB := Lib.hid (World.news_of_block (cs := #[.int .i64 q]) (t := 3) (fr := (0, 0)) (World.alloc_heap_new w2 (.cells #[.int .i64 q] 3)))
        have HOG := Lib.hid (own_ge HQ2.out)
        have hm1 : (1 : Int) ≤ (m : Int) := by omega
        have hmci : (m : Int) ≤ (capl : Int) := by omega
        have h1c : (1 : Int) ≤ (capl : Int) := by omega
        clear hr2 hq hqin hqb
        go_wp2_with (at_builtin; refine wpList_append_own _ rfl _ _ 23 rfl w1.heap.size 3 i0 (.int .i64 0) 1 8 Try.underlying23 hi hz0 hz1 hz2 rfl (by decide) _ o _ rfl HRA.out ⟨w2.heap.size, 0, none⟩ 1 1 [.int .i64 q] rfl rfl HNB.out (fun u hu => by simp at hu; rcases hu with rfl; rfl) (by unfold maxLen; omega) (by omega) (by simp; omega) ?_; intro v1 w3 hrow hgrow hnil)
        have HB3 := Lib.hid ((HB2.out.alloc HB2.out.size (.cells #[.int .i64 q] 3)).grown hgrow (by have := HB2.out.size; simp; omega) (fun j e => by have := HOG.out j e; omega))
        have HR3 : Hid (w3.ownsRow W.heap.size 3 1 (.slice (some ⟨g, 0, none⟩) n1 capg) n1 (intsV (listN (rowG (o + 1) (subQ q y left).tail) n1))) := Lib.hid (by
          rw [← HQQ.out]
          exact (HR2.out.alloc _).kept hgrow (.inr fun e => by have := HOG.out g e.symm; omega))
        have HQ3 : Hid (w3.ownsRow w1.heap.size 3 1 v1 (o + 1) (intsV (qs ++ [q]))) := Lib.hid (by
          have h := hrow
          unfold intsV at h ⊢
          rw [List.map_append]
          exact h)
        have hs3 := hgrow.size
        rw [World.size_alloc] at hs3
        clear hrow hgrow hnil
        refine ⟨⟨o + 1, m - 1, capl - 1, if capl = 1 then o else o + 1, qs ++ [q], (subQ q y left).tail, by omega, by omega, by omega, ?_, ?_, Lib.hid ?_, HR3, HQ3, by omega, HB3⟩, ?_⟩
        · split <;> omega
        · split <;> rfl
        · obtain ⟨i1, i2, i3, i4, _⟩ := HI.out
          have hle : y.length ≤ left.length := by rw [HN2.out, i1]; exact hgo
          rw [← HQQ.out]
          refine ⟨by rw [List.length_tail, subQ_len, i1], step_left hle HS.out i2, by rw [List.length_append, i3]; rfl, fun z hz => ?_, ?_⟩
          · rcases List.mem_append.1 hz with h | h
            · exact i4 z h
            · rw [List.mem_singleton.1 h]; exact HSP.out.2.1
          · rw [HRR.out, ← divFrom_step HS.out]
            exact HDV.out
        · show m - 1 < m
          omega
      · have hdn : D = none := by rw [← HDV.out]; exact divFrom_fail HS.out
        have hno := over_none (HOV.out.trans (by rw [hdn]; rfl))
        obtain rfl : t = false := by rw [← HT.out]; exact hno.1
        obtain rfl : P = ⟨0, []⟩ := HP.out.symm.trans hno.2
        clear hno
        go_wp2
        refine bodyPost_ret (v := .tuple #[plV 0 (.slice none 0 0), .bool false]) ?_ rfl ⟨⟨_, rfl, intNil _ _⟩, resBelow2 (.int .i64 0) (.slice none 0 0) (HBW.out.trans (HB2.out.mono HBW.out.size))⟩
        simp [results, Try.results82, go_sem, d0, d1, plV]
    · have hgi : ¬ (n2 : Int) ≤ (m : Int) := by omega
      have hiN' : i = N := by omega
      have hiE : Ints wr (some ⟨g, o, none⟩) m left := by
        obtain ⟨i1, i2, _⟩ := HI.out
        by_cases hm0 : m = 0
        · subst hm0
          obtain rfl : left = [] := List.length_eq_zero_iff.1 i1
          exact ⟨rfl, by unfold maxLen; omega, fun h => absurd h (Nat.lt_irrefl _), fun z hz => by cases hz⟩
        · obtain rfl : o = i := by omega
          have hrow : IntRow W.heap.size wr (.slice (some ⟨g, 0, none⟩) n1 capg) (listN (rowG o left) n1) := rowI HR.out (listN_len _ _)
          obtain ⟨a5, c5, hv, _, hi5⟩ := hrow.readc (rowG_in i2)
          rw [listN_len] at hv hi5
          simp at hv
          obtain ⟨rfl, rfl⟩ := hv
          have h := hi5.part (f := o) (m := m) (by omega) (by omega)
          rw [drop_row him i1, show (⟨g, 0, none⟩ : Addr).add o = ⟨g, o, none⟩ by unfold Addr.add; simp; intro h; omega] at h
          exact h
      obtain ⟨b, hb⟩ : ∃ b, zeroL left = b := ⟨_, rfl⟩
      have HCF := Lib.hid (containsI_any NZF _ nz_ok (some ⟨g, o, none⟩) capl m left (!b) wr hiE (by rw [any_zero, hb]))
      have hdv := HI.out.2.2.2.2
      rw [hiN', Nat.sub_self, divFrom_end] at hdv
      have HDV := Lib.hid hdv
      have HZ := Lib.hid hb
      clear hiE hdv hb
      go_wp2_with fail
      refine HCF.out.mono ?_
      rintro e w2 ⟨rfl, rfl⟩
      cases b with
      | false =>
        have hno := over_none (HOV.out.trans (by rw [← HDV.out]; show (if zeroL left then _ else none) = none; rw [HZ.out]; rfl))
        obtain rfl : t = false := by rw [← HT.out]; exact hno.1
        obtain rfl : P = ⟨0, []⟩ := HP.out.symm.trans hno.2
        clear hno
        go_wp2
        refine bodyPost_ret (v := .tuple #[plV 0 (.slice none 0 0), .bool false]) ?_ rfl ⟨⟨_, rfl, intNil _ _⟩, resBelow2 (.int .i64 0) (.slice none 0 0) (HBW.out.trans (HB.out.mono HBW.out.size))⟩
        simp [results, Try.results82, go_sem, d0, d1, plV]
      | true =>
        have hsome := over_some (HOV.out.trans (by rw [← HDV.out]; show (if zeroL left then some (tidyP (l1 - l2) qs) else none) = _; rw [HZ.out]; rfl))
        obtain ⟨Q, hQ⟩ : ∃ Q, tidyP (l1 - l2) qs = Q := ⟨_, rfl⟩
        have hTR : Trim Q := by rw [← hQ]; exact tidy_trim _ _
        rw [hQ] at hsome
        have hPT : polyB Q = t := by rw [← HT.out]; exact hsome.1.symm
        obtain rfl : P = doneP t Q := by rw [← HP.out, hsome.2, hPT]
        have HTR := Lib.hid hTR
        have HPT := Lib.hid hPT
        have HTD := Lib.hid hQ
        have hqr : IntRow w1.heap.size wr u7 qs := rowI HQ.out HI.out.2.2.1
        obtain ⟨a5, c5, rfl, hc5, hi5⟩ := hqr.readc (coefs_in HI.out.2.2.2.1)
        have hql : qs.length = N := by rw [HI.out.2.2.1, hiN']
        rw [hql] at hc5 hi5
        have hwl : IntKind.i64.wrap (l1 - l2) = l1 - l2 := IntWalk.i64_in _ (by omega)
        have HA := Lib.hid (apart_in (l1 - l2) qs a5 c5 N wr hi5 hc5 (by omega) (by omega) (by omega))
        clear hsome hQ hTR hPT hqr hi5 hc5
        go_wp2_with fail
        refine HA.out.mono ?_
        rintro e w5 ⟨⟨v, rfl, hA⟩, hb5⟩
        have hsq := HB.out.size
        have HB5 := Lib.hid (HB.out.trans (hb5.mono (by omega)))
        have hs5 := hb5.size
        clear hb5 p0 p1 q0 q1 d0 d1 f0 f1
        rw [HTD.out] at hA
        have hss := HSZ.out
        rcases hA with ⟨hq, rfl⟩ | ⟨hq, a6, c6, rfl, hc6, hi6⟩
        · obtain ⟨rfl, hq0⟩ := told_zero HTR.out hq HPT.out
          have HQ0 := Lib.hid hq0
          clear hq hq0
          go_wp2_with fail
          refine (toldZ_any _).mono ?_
          rintro e w6 ⟨⟨v, rfl, hr⟩, hb6⟩
          obtain ⟨_, _, d0, d1, f0, f1⟩ := HC.out w6 (HB5.out.trans (hb6.mono (by omega)))
          have HR := Lib.hid hr
          have HB6 := Lib.hid (HBW.out.trans ((HB5.out.trans (hb6.mono (by omega))).mono HBW.out.size))
          obtain ⟨g4, gg, cap4, rfl, _⟩ := hr.shape
          clear hr hb6
          go_wp2
          refine bodyPost_ret (v := .tuple #[plV 0 (.slice g4 0 cap4), .bool true]) ?_ rfl ⟨⟨.slice g4 0 cap4, by rw [HQ0.out]; rfl, by rw [HQ0.out]; exact resRow2 (.int .i64 0) (.slice g4 0 cap4) HR.out (by omega)⟩, resBelow2 (.int .i64 0) (.slice g4 0 cap4) HB6.out⟩
          simp [results, Try.results82, go_sem, d0, d1, plV]
        · have HTO := Lib.hid (toldP_any Q.low Q.cs a6 c6 _ t w5 hi6 (by rw [fits_polyB HTR.out hq]; exact HPT.out))
          clear hi6
          go_wp2_with fail
          refine HTO.out.mono ?_
          rintro e w6 ⟨⟨v, rfl, hr⟩, hb6⟩
          obtain ⟨_, _, d0, d1, f0, f1⟩ := HC.out w6 (HB5.out.trans (hb6.mono (by omega)))
          have HR := Lib.hid hr
          have HB6 := Lib.hid (HBW.out.trans ((HB5.out.trans (hb6.mono (by omega))).mono HBW.out.size))
          obtain ⟨g4, gg, cap4, rfl, _⟩ := hr.shape
          clear hr hb6
          go_wp2
          refine bodyPost_ret (v := .tuple #[plV (doneP t Q).low (.slice g4 (doneP t Q).cs.length cap4), .bool t]) ?_ rfl ⟨⟨_, rfl, resRow2 (.int .i64 (doneP t Q).low) (.slice g4 (doneP t Q).cs.length cap4) HR.out (by omega)⟩, resBelow2 (.int .i64 (doneP t Q).low) (.slice g4 (doneP t Q).cs.length cap4) HB6.out⟩
          simp [results, Try.results82, go_sem, d0, d1, plV]

end Go.Proofs.Ytocklmiappppgaa

/- The program's PolyOver. -/

namespace Go.Proofs.Ytocklmiappppgaa
open Go.RowKit

theorem over_done {a b : Pl} {t : Bool} (h : overB a b = t) : doneP t (overP a b) = overP a b := by
  cases t with
  | true => rfl
  | false =>
    cases e : overQ a b with
    | none => rw [(over_none e).2]; rfl
    | some p =>
      obtain ⟨h1, h2⟩ := over_some e
      rw [h2, ← h1, h]
      rfl
theorem divided_over {a b : Pl} {t : Bool} (h : dividedB a b = t) (ha : polyB a = true) (hb : polyB b = true) (h0 : 0 < b.cs.length) : overB a b = t ∧ dividedP a b = overP a b := by
  have e : overB a b = t := by
    rw [← h]
    unfold dividedB
    rw [ha, hb, decide_eq_true h0]
    rfl
  refine ⟨e, ?_⟩
  unfold dividedP
  rw [h]
  exact over_done e
theorem divided_no {a b : Pl} {t : Bool} (h : dividedB a b = t) (h0 : polyB a = false ∨ polyB b = false ∨ b.cs.length = 0) : t = false ∧ dividedP a b = ⟨0, []⟩ := by
  have e : dividedB a b = false := by
    unfold dividedB
    rcases h0 with h0 | h0 | h0
    · rw [h0]; rfl
    · rw [h0, Bool.false_and, Bool.and_false]
    · rw [decide_eq_false (by omega), Bool.false_and, Bool.and_false, Bool.and_false]
  refine ⟨h.symm.trans e, ?_⟩
  unfold dividedP
  rw [e]
  rfl
theorem divided_zero {a b : Pl} {t : Bool} (h : dividedB a b = t) (ha : polyB a = true) (hb : polyB b = true) (h0 : 0 < b.cs.length) (h1 : a.cs.length = 0) : t = true ∧ dividedP a b = ⟨0, []⟩ := by
  have ea : a = ⟨0, []⟩ := trim_unique (polyB_trim ha).1 (.inl ⟨rfl, rfl⟩) fun k => by rw [pat_none h1, pat_nil]
  obtain ⟨e1, e2⟩ := divided_over h ha hb h0
  have e : overQ a b = some a := by unfold overQ; rw [if_pos h1]
  obtain ⟨e3, e4⟩ := over_some e
  refine ⟨by rw [← e1, e3, ha], ?_⟩
  rw [e2, e4, ha, ea]
  rfl

set_option maxRecDepth 100000 in
set_option maxHeartbeats 1500000 in
theorem iPolyOver_any (l1 l2 : Int) (x y : List Int) (a1 a2 : Option Addr) (c1 c2 n1 n2 : Nat) (t : Bool) (w : World) (h1 : Ints w a1 n1 x) (h2 : Ints w a2 n2 y) (hc1 : n1 ≤ c1) (hc2 : n2 ≤ c2) (ht : dividedB ⟨l1, x⟩ ⟨l2, y⟩ = t) :
    Calls Try.prog 37 #[plV l1 (.slice a1 n1 c1), plV l2 (.slice a2 n2 c2)] w fun e w' => (∃ v, e = .returned (.tuple #[plV (dividedP ⟨l1, x⟩ ⟨l2, y⟩).low v, .bool t]) ∧ IntRow w.heap.size w' v (dividedP ⟨l1, x⟩ ⟨l2, y⟩).cs) ∧ Below w.heap.size w w' := by
  have hY := assert_yes
  have hN := assert_no
  obtain ⟨W, hW⟩ : ∃ W, ((w.alloc (.cells #[.int .i64 l1, .slice a1 n1 c1] 25)).alloc (.cells #[.int .i64 l2, .slice a2 n2 c2] 25)).alloc (.cells #[.int .i64 0, .slice none 0 0] 25) = W := ⟨_, rfl⟩
  obtain ⟨hbW, hsz⟩ := boxes3Below hW
  have HC : Hid (∀ w1, Below W.heap.size W w1 → _) := Lib.hid fun w1 (hg : Below W.heap.size W w1) => boxes3 hW hg
  have hC := boxes3 hW (Below.refl _ _)
  rw [← hW] at hC
  obtain ⟨⟨p0, p1⟩, ⟨q0, q1⟩, _⟩ := hC
  have H1 := Lib.hid (h1.below hbW)
  have H2 := Lib.hid (h2.below hbW)
  have HN1 := Lib.hid h1.len
  have HN2 := Lib.hid h2.len
  have HBW := Lib.hid hbW
  have HW := Lib.hid hW
  have HSZ := Lib.hid hsz
  have HT := Lib.hid ht
  obtain ⟨P, hP⟩ : ∃ P, dividedP ⟨l1, x⟩ ⟨l2, y⟩ = P := ⟨_, rfl⟩
  rw [hP]
  have HP := Lib.hid hP
  obtain ⟨ba, hba⟩ : ∃ b, polyB ⟨l1, x⟩ = b := ⟨_, rfl⟩
  obtain ⟨bb, hbb⟩ : ∃ b, polyB ⟨l2, y⟩ = b := ⟨_, rfl⟩
  have HBA := Lib.hid hba
  have HBB := Lib.hid hbb
  clear hW hbW h1 h2 hba hbb hsz ht hP
  go_enter Try.func37, Try.ntmps37
  go_wp2_with fail
  rw [HW.out]
  clear p0 p1 q0 q1
  refine (iPolyIn_any l1 x a1 c1 n1 ba W H1.out hc1 HBA.out).mono ?_
  rintro e w1 ⟨rfl, hb1⟩
  have HB1 := Lib.hid hb1
  obtain ⟨⟨p0, p1⟩, ⟨q0, q1⟩, d0, d1, f0, f1⟩ := HC.out w1 hb1
  have hs1 := hb1.size
  clear hb1
  cases ba with
  | false =>
    obtain ⟨rfl, hp⟩ := divided_no HT.out (.inl HBA.out)
    obtain rfl : P = ⟨0, []⟩ := HP.out.symm.trans hp
    clear hp
    go_wp2
    refine bodyPost_ret (v := .tuple #[plV 0 (.slice none 0 0), .bool false]) ?_ rfl ⟨⟨_, rfl, intNil _ _⟩, resBelow2 (.int .i64 0) (.slice none 0 0) (HBW.out.trans (HB1.out.mono HBW.out.size))⟩
    simp [results, Try.results37, go_sem, d0, d1, plV]
  | true =>
    go_wp2_with fail
    refine (iPolyIn_any l2 y a2 c2 n2 bb w1 (H2.out.below HB1.out) hc2 HBB.out).mono ?_
    rintro e w2 ⟨rfl, hb2⟩
    have HB2 := Lib.hid (HB1.out.trans (hb2.mono hs1))
    have hs2 := HB2.out.size
    clear hb2 p0 p1 q0 q1 d0 d1 f0 f1
    obtain ⟨⟨p0, p1⟩, ⟨q0, q1⟩, d0, d1, f0, f1⟩ := HC.out w2 HB2.out
    cases bb with
    | false =>
      obtain ⟨rfl, hp⟩ := divided_no HT.out (.inr (.inl HBB.out))
      obtain rfl : P = ⟨0, []⟩ := HP.out.symm.trans hp
      clear hp
      go_wp2
      refine bodyPost_ret (v := .tuple #[plV 0 (.slice none 0 0), .bool false]) ?_ rfl ⟨⟨_, rfl, intNil _ _⟩, resBelow2 (.int .i64 0) (.slice none 0 0) (HBW.out.trans (HB2.out.mono HBW.out.size))⟩
      simp [results, Try.results37, go_sem, d0, d1, plV]
    | true =>
      obtain ⟨hT1, hx200, hxl1, hxl2, hxc⟩ := polyB_trim HBA.out
      obtain ⟨hT2, hy200, hyl1, hyl2, hyc⟩ := polyB_trim HBB.out
      have hx200 : x.length ≤ 200 := hx200
      have hy200 : y.length ≤ 200 := hy200
      rw [HN1.out] at hx200
      rw [HN2.out] at hy200
      have hxl1 : -300 ≤ l1 := hxl1
      have hxl2 : l1 ≤ 300 := hxl2
      have hyl1 : -300 ≤ l2 := hyl1
      have hyl2 : l2 ≤ 300 := hyl2
      have HXC : Hid (∀ i, -1000000000 ≤ x.getD i 0 ∧ x.getD i 0 ≤ 1000000000) := Lib.hid hxc
      have HYC : Hid (∀ i, -1000000000 ≤ y.getD i 0 ∧ y.getD i 0 ≤ 1000000000) := Lib.hid hyc
      have HSF1 : Hid (tidyP l1 x = ⟨l1, x⟩) := Lib.hid (tidy_self hT1)
      have HSF2 : Hid (tidyP l2 y = ⟨l2, y⟩) := Lib.hid (tidy_self hT2)
      have HT2 := Lib.hid hT2
      have HA2 := Lib.hid (apart_in l2 y a2 c2 n2 w2 (H2.out.below HB2.out) hc2 (by omega) (by omega) (by omega))
      have HA1 : Hid (∀ V, Below W.heap.size W V → _) := Lib.hid fun V (hV : Below W.heap.size W V) => apart_in l1 x a1 c1 n1 V (H1.out.below hV) hc1 (by omega) (by omega) (by omega)
      clear hxc hyc hT1 hT2
      go_wp2_with fail
      refine HA2.out.mono ?_
      rintro e w3 ⟨⟨v, rfl, hA⟩, hb3⟩
      rw [HSF2.out] at hA
      have HB3 := Lib.hid (HB2.out.trans (hb3.mono hs2))
      have hs3 := hb3.size
      clear hb3
      rcases hA with ⟨hq, rfl⟩ | ⟨hq, a3, c3, rfl, hc3, hi3⟩
      · obtain ⟨rfl, hp⟩ := divided_no HT.out (.inr (.inr hq))
        obtain rfl : P = ⟨0, []⟩ := HP.out.symm.trans hp
        obtain ⟨V, hV⟩ : ∃ V, w3.alloc (.cells #[.int .i64 0, .slice none 0 0] PT) = V := ⟨_, rfl⟩
        have hbV : Below w3.heap.size w3 V := by rw [← hV]; exact (Below.refl _ _).alloc (Nat.le_refl _) _
        have HBV := Lib.hid (HB3.out.trans (hbV.mono (by omega)))
        clear p0 p1 q0 q1 d0 d1 f0 f1
        obtain ⟨⟨p0, p1⟩, ⟨q0, q1⟩, d0, d1, f0, f1⟩ := HC.out V HBV.out
        have e0 := d0
        have e1 := d1
        have g0 := f0
        have g1 := f1
        rw [← hV] at d0 d1 f0 f1
        have HV := Lib.hid hV
        clear hp hq hV hbV
        go_wp2_with fail
        rw [HV.out]
        clear d0 d1 f0 f1
        refine bodyPost_ret (v := .tuple #[plV 0 (.slice none 0 0), .bool false]) ?_ rfl ⟨⟨_, rfl, intNil _ _⟩, resBelow2 (.int .i64 0) (.slice none 0 0) (HBW.out.trans (HBV.out.mono HBW.out.size))⟩
        simp [results, Try.results37, go_sem, e0, e1, plV]
      · have hq : 0 < y.length := hq
        have hi3 : Ints w3 a3 y.length y := hi3
        rw [show (⟨l2, y⟩ : Pl).cs.length = n2 from HN2.out]
        rw [HN2.out] at hq hi3
        obtain ⟨hy0, _⟩ := trim_nonzero HT2.out (by show 0 < y.length; rw [HN2.out]; exact hq)
        have HY0 : Hid (y.getD 0 0 ≠ 0) := Lib.hid hy0
        obtain ⟨V, hV⟩ : ∃ V, w3.alloc (.cells #[.int .i64 l2, .slice a3 n2 c3] PT) = V := ⟨_, rfl⟩
        have hbV : Below w3.heap.size w3 V := by rw [← hV]; exact (Below.refl _ _).alloc (Nat.le_refl _) _
        have HBV := Lib.hid (HB3.out.trans (hbV.mono (by omega)))
        have HE : Hid (∀ w4, Below V.heap.size V w4 → _) := Lib.hid fun w4 (hg : Below V.heap.size V w4) => oneBox hV hg
        have hsV := HBV.out.size
        have HI3 := Lib.hid (hi3.below hbV)
        clear p0 p1 q0 q1 d0 d1 f0 f1
        obtain ⟨⟨p0, p1⟩, ⟨q0, q1⟩, d0, d1, f0, f1⟩ := HC.out V HBV.out
        rw [← hV] at p0 p1 q0 q1 d0 d1 f0 f1
        have HV := Lib.hid hV
        have hlw : (⟨l2, y⟩ : Pl).low = l2 := rfl
        rw [hlw]
        clear hV hbV hi3 hy0 hlw
        go_wp2_with fail
        rw [HV.out]
        clear p0 p1 q0 q1 d0 d1 f0 f1
        refine (HA1.out V HBV.out).mono ?_
        rintro e w4 ⟨⟨v, rfl, hA⟩, hb4⟩
        rw [HSF1.out] at hA
        have HB4 := Lib.hid (HBV.out.trans (hb4.mono hsV))
        have HI4 := Lib.hid (HI3.out.below hb4)
        have hs4 := HB4.out.size
        have HE4 := Lib.hid (HE.out w4 hb4)
        obtain ⟨⟨p0, p1⟩, ⟨q0, q1⟩, d0, d1, f0, f1⟩ := HC.out w4 HB4.out
        rcases hA with ⟨hq1, rfl⟩ | ⟨hq1, a5, c5, rfl, hc5, hi5⟩
        · obtain ⟨rfl, hp⟩ := divided_zero HT.out HBA.out HBB.out (by show 0 < y.length; rw [HN2.out]; exact hq) hq1
          obtain rfl : P = ⟨0, []⟩ := HP.out.symm.trans hp
          clear hp hq1 hb4
          go_wp2
          refine bodyPost_ret (v := .tuple #[plV 0 (.slice none 0 0), .bool true]) ?_ rfl ⟨⟨_, rfl, intNil _ _⟩, resBelow2 (.int .i64 0) (.slice none 0 0) (HBW.out.trans (HB4.out.mono HBW.out.size))⟩
          simp [results, Try.results37, go_sem, d0, d1, plV]
        · have hq1 : 0 < x.length := hq1
          have hi5 : Ints w4 a5 x.length x := hi5
          rw [show (⟨l1, x⟩ : Pl).cs.length = n1 from HN1.out, show (⟨l1, x⟩ : Pl).low = l1 from rfl]
          rw [HN1.out] at hq1 hi5
          obtain ⟨U, hU⟩ : ∃ U, w4.alloc (.cells #[.int .i64 l1, .slice a5 n1 c5] PT) = U := ⟨_, rfl⟩
          have hbU : Below w4.heap.size w4 U := by rw [← hU]; exact (Below.refl _ _).alloc (Nat.le_refl _) _
          have HBU := Lib.hid (HB4.out.trans (hbU.mono hs4))
          have hsU := HBU.out.size
          have hVU : Below V.heap.size V U := hb4.trans (hbU.mono hb4.size)
          obtain ⟨e0, e1⟩ := HE.out U hVU
          obtain ⟨g0, g1⟩ := oneBox hU (Below.refl _ _)
          clear p0 p1 q0 q1 d0 d1 f0 f1
          rw [← hU] at e0 e1 g0 g1
          obtain ⟨hov, hpp⟩ := divided_over HT.out HBA.out HBB.out (by show 0 < y.length; rw [HN2.out]; exact hq)
          rw [HP.out] at hpp
          have hcall := over_any l1 l2 x y a5 a3 c5 c3 n1 n2 t U (hi5.below hbU) (HI4.out.below hbU) hq1 hq (by omega) (by omega) (by omega) (by omega) HY0.out HXC.out HYC.out hov
          rw [← hpp] at hcall
          have HOV := Lib.hid hcall
          have HU := Lib.hid hU
          clear hU hbU hVU hcall hov hpp hb4 hi5
          go_wp2_with fail
          rw [HU.out]
          clear e0 e1 g0 g1
          refine HOV.out.mono ?_
          rintro e w6 ⟨⟨v, rfl, hr⟩, hb6⟩
          have hss := HSZ.out
          obtain ⟨_, _, d0, d1, f0, f1⟩ := HC.out w6 (HBU.out.trans (hb6.mono (by omega)))
          have HR := Lib.hid hr
          have HB6 := Lib.hid (HBW.out.trans ((HBU.out.trans (hb6.mono (by omega))).mono HBW.out.size))
          obtain ⟨g4, gg, cap4, rfl, _⟩ := hr.shape
          clear hr hb6
          go_wp2
          refine bodyPost_ret (v := .tuple #[plV P.low (.slice g4 P.cs.length cap4), .bool t]) ?_ rfl ⟨⟨_, rfl, resRow2 (.int .i64 P.low) (.slice g4 P.cs.length cap4) HR.out (by omega)⟩, resBelow2 (.int .i64 P.low) (.slice g4 P.cs.length cap4) HB6.out⟩
          simp [results, Try.results37, go_sem, d0, d1, plV]

end Go.Proofs.Ytocklmiappppgaa

/- The model's PolyOver. -/

namespace Go.Proofs.Ytocklmiappppgaa
open Go.RowKit

set_option maxRecDepth 100000 in
set_option maxHeartbeats 3000000 in
theorem sPolyOver_some (l1 l2 : Int) (x y : List Int) (a1 a2 : Option Addr) (c1 c2 n1 n2 : Nat) (t : Bool) (P : Pl) (w : World) (h1 : Ints w a1 n1 x) (h2 : Ints w a2 n2 y) (h01 : 0 < n1) (h02 : 0 < n2)
    (hba : polyB ⟨l1, x⟩ = true) (hbb : polyB ⟨l2, y⟩ = true) (ht : overB ⟨l1, x⟩ ⟨l2, y⟩ = t) (hp : overP ⟨l1, x⟩ ⟨l2, y⟩ = P) :
    Calls Try.prog 48 #[plV l1 (.slice a1 n1 c1), plV l2 (.slice a2 n2 c2)] w fun e w' => (∃ v, e = .returned (.tuple #[plV P.low v, .bool t]) ∧ IntRow w.heap.size w' v P.cs) ∧ Below w.heap.size w w' := by
  obtain ⟨i0, hi, hz0, hz1, hz2⟩ := info_parts infoInt
  have hmx : Try.prog.follows .mixedOrders = true := by kernel_rfl
  obtain ⟨W, hW⟩ : ∃ W, ((w.alloc (.cells #[.int .i64 l1, .slice a1 n1 c1] 25)).alloc (.cells #[.int .i64 l2, .slice a2 n2 c2] 25)).alloc (.cells #[.int .i64 0, .slice none 0 0] 25) = W := ⟨_, rfl⟩
  obtain ⟨hbW, hsz⟩ := boxes3Below hW
  have HC : Hid (∀ w1, Below W.heap.size W w1 → _) := Lib.hid fun w1 (hg : Below W.heap.size W w1) => boxes3 hW hg
  have hC := boxes3 hW (Below.refl _ _)
  rw [← hW] at hC
  obtain ⟨⟨p0, p1⟩, ⟨q0, q1⟩, _⟩ := hC
  obtain ⟨hT1, hx200, hxl1, hxl2, hxc⟩ := polyB_trim hba
  obtain ⟨hT2, hy200, hyl1, hyl2, hyc⟩ := polyB_trim hbb
  have hx200 : x.length ≤ 200 := hx200
  have hy200 : y.length ≤ 200 := hy200
  rw [h1.len] at hx200
  rw [h2.len] at hy200
  have hxl1 : -300 ≤ l1 := hxl1
  have hxl2 : l1 ≤ 300 := hxl2
  have hyl1 : -300 ≤ l2 := hyl1
  have hyl2 : l2 ≤ 300 := hyl2
  have HX : Hid (LeftOK x) := Lib.hid fun i => by have := hxc i; have : -1000000000 ≤ x.getD i 0 ∧ x.getD i 0 ≤ 1000000000 := this; omega
  have HY : Hid (∀ i, -1000000000 ≤ y.getD i 0 ∧ y.getD i 0 ≤ 1000000000) := Lib.hid hyc
  obtain ⟨hy0, _⟩ := trim_nonzero hT2 (by show 0 < y.length; rw [h2.len]; exact h02)
  have hy0 : y.getD 0 0 ≠ 0 := hy0
  obtain ⟨N, hN⟩ : ∃ N, n1 + 1 - n2 = N := ⟨_, rfl⟩
  obtain ⟨D, hD⟩ : ∃ D, divGo y N x = D := ⟨_, rfl⟩
  have hov : overQ ⟨l1, x⟩ ⟨l2, y⟩ = outQ (l1 - l2) D := by
    rw [overQ_some (by show 0 < x.length; rw [h1.len]; exact h01)]
    show outQ (l1 - l2) (divGo y (x.length + 1 - y.length) x) = _
    rw [h1.len, h2.len, hN, hD]
  have HOV := Lib.hid hov
  obtain ⟨xa, rfl, _, _⟩ := h1.at_ h01
  obtain ⟨ya, rfl, hyb, _⟩ := h2.at_ h02
  have H1 := Lib.hid (h1.below hbW)
  have H2 := Lib.hid (h2.below hbW)
  have HN1 := Lib.hid h1.len
  have HN2 := Lib.hid h2.len
  have HLV : Hid ((intsV x).length = n1 * 1) := Lib.hid (by rw [intsV_len, h1.len, Nat.mul_one])
  have HYC : Hid (∀ w1, Below W.heap.size W w1 → ∀ k, k < n2 → ∀ z, y.getD k 0 = z → w1.cell? (ya.add k) = some (.int .i64 z)) := Lib.hid fun w1 hb k hk z hz => by
    have h := Ints.keptBut (g := w1.heap.size + 1) (h2.below hbW) (Below.refl _ _) (grownBelow _ hb) (.inr fun x' e => by
      obtain rfl : ya = x' := by simpa using e
      have := hb.size
      have := hbW.size
      omega) k hk ya rfl z hz
    exact h
  have HBA := Lib.hid hba
  have HBB := Lib.hid hbb
  have HT := Lib.hid ht
  have HP := Lib.hid hp
  have HD := Lib.hid hD
  have HBW := Lib.hid hbW
  have HW := Lib.hid hW
  have HSZ := Lib.hid hsz
  obtain ⟨b0, hb0'⟩ : ∃ z, y.getD 0 0 = z := ⟨_, rfl⟩
  have hb0 : b0 ≠ 0 := by rw [← hb0']; exact hy0
  have hbz : (b0 == 0) = false := by simpa using hb0
  have HB0 := Lib.hid hb0'
  clear hW hbW h1 h2 hsz ht hp hD hov hxc hyc hT1 hT2 hba hbb hyb hy0 hb0'
  have h01i : ¬ (n1 : Int) = 0 := by omega
  have h02i : ¬ (n2 : Int) = 0 := by omega
  have h01b : ((n1 : Int) == 0) = false := by simpa using h01i
  have h02b : ((n2 : Int) == 0) = false := by simpa using h02i
  have hwa : IntKind.i64.wrap ((n1 : Int) - (n2 : Int)) = (n1 : Int) - (n2 : Int) := IntWalk.i64_in _ (by omega)
  have hwb : IntKind.i64.wrap ((n1 : Int) - (n2 : Int) + 1) = (n1 : Int) - (n2 : Int) + 1 := IntWalk.i64_in _ (by omega)
  go_enter Try.func48, Try.ntmps48
  go_wp2_with fail
  rw [HW.out]
  clear p0 p1 q0 q1
  refine (sPolyIn_any l1 x _ c1 n1 true W H1.out HBA.out).mono ?_
  rintro e w1 ⟨rfl, hb1⟩
  have HB1 := Lib.hid hb1
  obtain ⟨⟨p0, p1⟩, ⟨q0, q1⟩, d0, d1, f0, f1⟩ := HC.out w1 hb1
  have hs1 := hb1.size
  clear hb1
  go_wp2_with fail
  refine (sPolyIn_any l2 y _ c2 n2 true w1 (H2.out.below HB1.out) HBB.out).mono ?_
  rintro e w2 ⟨rfl, hb2⟩
  have HB2 := Lib.hid (HB1.out.trans (hb2.mono hs1))
  have hs2 := HB2.out.size
  clear hb2 p0 p1 q0 q1 d0 d1 f0 f1
  obtain ⟨⟨p0, p1⟩, ⟨q0, q1⟩, d0, d1, f0, f1⟩ := HC.out w2 HB2.out
  go_upto_region 6 with fail
  obtain ⟨V, hV⟩ : ∃ V, w2.alloc (.cells #[] 3) = V := ⟨_, rfl⟩
  have hbV : Below w2.heap.size w2 V := by rw [← hV]; exact (Below.refl _ _).alloc (Nat.le_refl _) _
  have hVs : V.heap.size = w2.heap.size + 1 := by rw [← hV]; simp
  have HBV := Lib.hid (HB2.out.trans (hbV.mono hs2))
  have HM : Hid (V.ownsRow w2.heap.size 3 1 (.slice (some ⟨w2.heap.size, 0, none⟩) 0 0) 0 []) := Lib.hid (by rw [← hV]; exact made_at w2 w2.heap.size rfl w2.heap.size (Nat.le_refl _))
  have HXN := Lib.hid (Ints.news (H1.out.below HBV.out) h01)
  clear p0 p1 q0 q1 d0 d1 f0 f1
  obtain ⟨⟨p0, p1⟩, ⟨q0, q1⟩, d0, d1, f0, f1⟩ := HC.out V HBV.out
  rw [← hV] at p0 p1 q0 q1 d0 d1 f0 f1
  have HV := Lib.hid hV
  have HVS := Lib.hid hVs
  clear hV hbV hVs
  go_wp2_with (at_builtin; rw [HV.out]; refine wpList_append_own _ rfl _ _ 23 rfl w2.heap.size 3 i0 (.int .i64 0) 1 8 Try.underlying23 hi hz0 hz1 hz2 rfl (by decide) _ 0 _ rfl HM.out xa n1 c1 (intsV x) rfl HLV.out HXN.out (intsV_one x) (by unfold maxLen; omega) (by omega) (by have := HVS.out; omega) ?_; intro v1 w3 hrow hgrow hnil; clear p0 p1 q0 q1 d0 d1 f0 f1)
  rw [Nat.zero_add, List.nil_append] at hrow
  obtain ⟨g, capg, rfl⟩ := Go.Joins.ownsRow_form hrow (by omega)
  have hcap := (ownsRow_cap hrow).1
  have hgge := own_ge hrow g rfl
  have hglt := own_lt hrow g rfl
  have HB3 : Hid (Below W.heap.size W w3) := Lib.hid (HBV.out.grown hgrow (by have := HVS.out; omega) (fun j e => Nat.le_trans hs2 (own_ge HM.out j e)))
  have hs3 := hgrow.size
  have hVS := HVS.out
  have HR3 : Hid (w3.ownsRow W.heap.size 3 1 (.slice (some ⟨g, 0, none⟩) n1 capg) n1 (intsV (listN (rowG 0 x) n1))) := Lib.hid (by rw [rowG_zero x n1 HN1.out]; exact ownsRow_base hrow hs2)
  clear hrow hgrow hnil
  obtain ⟨⟨p0, p1⟩, ⟨q0, q1⟩, d0, d1, f0, f1⟩ := HC.out w3 HB3.out
  obtain ⟨U, hU⟩ : ∃ U, w3.alloc (.cells #[] 3) = U := ⟨_, rfl⟩
  have hbU : Below w3.heap.size w3 U := by rw [← hU]; exact (Below.refl _ _).alloc (Nat.le_refl _) _
  have hUs : U.heap.size = w3.heap.size + 1 := by rw [← hU]; simp
  have HBU := Lib.hid (HB3.out.trans (hbU.mono HB3.out.size))
  have HRU := Lib.hid (rowPast HR3.out hbU)
  have HQU : Hid (U.ownsRow w3.heap.size 3 1 (.slice (some ⟨w3.heap.size, 0, none⟩) 0 0) 0 (intsV [])) := Lib.hid (by rw [← hU]; exact made_at w3 w3.heap.size rfl w3.heap.size (Nat.le_refl _))
  have HU := Lib.hid hU
  have HUS := Lib.hid hUs
  clear hU hbU hUs
  have HSTART : Hid (divFrom y [] (N - 0) x = D) := Lib.hid (by rw [divFrom_start, Nat.sub_zero]; exact HD.out)
  go_wp2_with fail
  rw [HU.out]
  have hUs := HUS.out
  clear p0 p1 q0 q1 d0 d1 f0 f1
  go_loopw [8, 9] (fun c j wr => ∃ (i m : Nat) (qs left : List Int), i + m = n1 ∧ i ≤ N ∧ j = .int .i64 (i : Int) ∧ Hid (left.length = m ∧ LeftOK left ∧ qs.length = i ∧ (∀ z ∈ qs, coefIn z = true) ∧ divFrom y qs (N - i) left = D) ∧ Hid (wr.ownsRow W.heap.size 3 1 (.slice (some ⟨g, 0, none⟩) n1 capg) n1 (intsV (listN (rowG i left) n1))) ∧ Hid (wr.ownsRow w3.heap.size 3 1 c i (intsV qs)) ∧ w3.heap.size ≤ wr.heap.size ∧ Hid (Below W.heap.size W wr)) (fun _ j _ => N - (intOf j).toNat)
  case atStart => exact ⟨0, n1, [], x, by omega, by omega, rfl, Lib.hid ⟨HN1.out, HX.out, rfl, fun z h => (by cases h), HSTART.out⟩, HRU, HQU, by omega, HBU⟩
  case round =>
    obtain ⟨i, m, qs, left, him, hiN, rfl, HI, HR, HQ, hsz, HB⟩ := hrel
    obtain ⟨⟨p0, p1⟩, ⟨q0, q1⟩, d0, d1, f0, f1⟩ := HC.out wr HB.out
    by_cases hgo : i < N
    · have hle : n2 ≤ m := by omega
      have hgi : (i : Int) < (n1 : Int) - (n2 : Int) + 1 := by omega
      have hii : (0 : Int) ≤ (i : Int) := by omega
      have hi1 : (i : Int) < (n1 : Int) := by omega
      have h0n2 : (0 : Int) < (n2 : Int) := by omega
      obtain ⟨z0, hz0'⟩ : ∃ z, left.getD 0 0 = z := ⟨_, rfl⟩
      have hzb := HI.out.2.1 0
      rw [hz0'] at hzb
      obtain ⟨hzb1, hzb2⟩ := hzb
      obtain ⟨q, hq⟩ : ∃ q, z0.tdiv b0 = q := ⟨_, rfl⟩
      obtain ⟨r, hr'⟩ : ∃ r, z0.tmod b0 = r := ⟨_, rfl⟩
      have hqs := tdiv_size (z := z0) (b := b0)
      rw [hq] at hqs
      obtain ⟨hqs1, hqs2⟩ := hqs
      have hwq : wrap64 (z0.tdiv b0) = q := by rw [hq]; exact IntWalk.wrap64_in _ (by omega)
      have HRE := Lib.hid hr'
      have HQS : Hid (stepQ y left = q) := Lib.hid (by unfold stepQ; rw [hz0', HB0.out, hq])
      have HRM : Hid ((left.getD 0 0).tmod (y.getD 0 0) = r) := Lib.hid (by rw [hz0', HB0.out, hr'])
      have pz : wr.cell? ⟨g, i, none⟩ = some (.int .i64 z0) := by
        rw [HR.out.cellAt _ (by omega), listN_cell (by omega), show rowG i left i = z0 from by have := rowG_at i 0 left; rw [Nat.add_zero] at this; rw [this, hz0']]
      have pb : wr.cell? ya = some (.int .i64 b0) := by
        have h := HYC.out wr HB.out 0 h02 b0 HB0.out
        rwa [show ya.add 0 = ya by unfold Addr.add; simp] at h
      obtain ⟨rr, hrr⟩ : ∃ r, N - i = r + 1 := ⟨N - i - 1, by omega⟩
      have hrr2 : N - (i + 1) = rr := by omega
      have hdv := HI.out.2.2.2.2
      rw [hrr] at hdv
      have HDV := Lib.hid hdv
      have HRR := Lib.hid hrr2
      clear hz0' hq hr' hrr hrr2 hdv
      go_wp2
      go_quiet (fail)
      obtain ⟨X, hX⟩ : ∃ X, wr.drewN nq = X := ⟨_, rfl⟩
      have hbX : Below wr.heap.size wr X := by rw [← hX]; exact below_drewN (Below.refl _ _) nq
      have pz := (hbX.cell (p := ⟨g, i, none⟩) (by show g < wr.heap.size; omega)).trans pz
      have pb := HYC.out X (HB.out.trans (hbX.mono HB.out.size)) 0 h02 b0 HB0.out
      rw [show ya.add 0 = ya by unfold Addr.add; simp] at pb
      have HBX := Lib.hid (HB.out.trans (hbX.mono HB.out.size))
      have HRX := Lib.hid (rowPast HR.out hbX)
      have HQX := Lib.hid (rowPast HQ.out hbX)
      have hsX := hbX.size
      rw [hX, hwq]
      clear hX hbX p0 p1 q0 q1 d0 d1 f0 f1 hwq
      obtain ⟨⟨p0, p1⟩, ⟨q0, q1⟩, d0, d1, f0, f1⟩ := HC.out X HBX.out
      by_cases hr0 : r = 0
      · subst hr0
        have hrb : (z0.tmod b0 != 0) = false := by rw [HRE.out]; rfl
        obtain ⟨ci, hci⟩ : ∃ b, coefIn q = b := ⟨_, rfl⟩
        have HCI := Lib.hid hci
        clear hci
        have hwn : ∀ W' : World, Calls Try.prog 69 #[.int .i64 q, .int .i64 (-1000000000), .int .i64 1000000000] W' fun e w' => e = .returned (.bool ci) ∧ w' = W' := fun W' => (l6In_eq q (-1000000000) 1000000000 ci W' HCI.out).mono fun _ _ ⟨h1, h2⟩ => ⟨h1, h2.symm⟩
        have HWN := Lib.hid hwn
        clear hwn
        go_wp2
        go_quiet ((go_at_call 69; exact Calls.quiet_of_same (HWN.out _)))
        obtain ⟨Y, hY'⟩ : ∃ Y, X.drewN nq = Y := ⟨_, rfl⟩
        have hbY : Below X.heap.size X Y := by rw [← hY']; exact below_drewN (Below.refl _ _) nq
        have HBY := Lib.hid (HBX.out.trans (hbY.mono HBX.out.size))
        have HRY := Lib.hid (rowPast HRX.out hbY)
        have HQY := Lib.hid (rowPast HQX.out hbY)
        have hsY := hbY.size
        rw [hY']
        clear hY' hbY p0 p1 q0 q1 d0 d1 f0 f1 pz pb
        obtain ⟨⟨p0, p1⟩, ⟨q0, q1⟩, d0, d1, f0, f1⟩ := HC.out Y HBY.out
        cases ci with
        | false =>
          have hsf : stepB y left = false := step_no2 (by rw [HQS.out]; exact HCI.out)
          have hno := over_none (HOV.out.trans (by rw [show D = none by rw [← HDV.out]; exact divFrom_fail hsf]; rfl))
          obtain rfl : t = false := by rw [← HT.out]; exact hno.1
          obtain rfl : P = ⟨0, []⟩ := HP.out.symm.trans hno.2
          clear hno
          go_wp2_with fail
          refine (l6pNone_any _).mono ?_
          rintro e w9 ⟨⟨v, rfl, hr⟩, hb9⟩
          clear d0 d1 f0 f1
          have hsb := HBY.out.size
          have hss := HSZ.out
          obtain ⟨_, _, d0, d1, f0, f1⟩ := HC.out w9 ((HBY.out).trans (hb9.mono hsb))
          have HR9 := Lib.hid hr
          have HB9 := Lib.hid (HBW.out.trans (((HBY.out).trans (hb9.mono hsb)).mono HBW.out.size))
          obtain ⟨g9, gg, cap9, rfl, _⟩ := hr.shape
          clear hr hb9
          go_wp2
          refine bodyPost_ret (v := .tuple #[plV 0 (.slice g9 0 cap9), .bool false]) ?_ rfl ⟨⟨_, rfl, resRow2 (.int .i64 0) (.slice g9 0 cap9) HR9.out (by omega)⟩, resBelow2 (.int .i64 0) (.slice g9 0 cap9) HB9.out⟩
          simp [results, Try.results48, go_sem, d0, d1, plV]
        | true =>
          obtain ⟨hq1, hq2⟩ := coefIn_yes HCI.out
          have HRA := Lib.hid (HQY.out.alloc (.cells #[.int .i64 q] 3))
          have HNB := Lib.hid (World.news_of_block (cs := #[.int .i64 q]) (t := 3) (fr := (0, 0)) (World.alloc_heap_new Y (.cells #[.int .i64 q] 3)))
          have HOG := Lib.hid (own_ge HQY.out)
          rw [show (!true) = false from rfl]
          clear hrb hbz hb0 hqs1 hqs2 hzb1 hzb2 p0 p1 q0 q1 d0 d1 f0 f1
          go_wp2_with (at_builtin; refine wpList_append_own _ rfl _ _ 23 rfl w3.heap.size 3 i0 (.int .i64 0) 1 8 Try.underlying23 hi hz0 hz1 hz2 rfl (by decide) _ i _ rfl HRA.out ⟨Y.heap.size, 0, none⟩ 1 1 [.int .i64 q] rfl rfl HNB.out (fun u hu => by simp at hu; rcases hu with rfl; rfl) (by unfold maxLen; omega) (by omega) (by simp; omega) ?_; intro v1 w4 hrow hgrow hnil)
          have HB4 : Hid (Below W.heap.size W w4) := Lib.hid ((HBY.out.alloc HBY.out.size (.cells #[.int .i64 q] 3)).grown hgrow (by have := HBY.out.size; simp; omega) (fun j e => by have := HOG.out j e; have := HB3.out.size; omega))
          have HR4 : Hid (w4.ownsRow W.heap.size 3 1 (.slice (some ⟨g, 0, none⟩) n1 capg) n1 (intsV (listN (rowF i 0 q y left) n1))) := Lib.hid (by
            rw [rowF_zero]
            exact (HRY.out.alloc _).kept hgrow (.inr fun e => by have := HOG.out g e.symm; omega))
          have HQ4 : Hid (w4.ownsRow w3.heap.size 3 1 v1 (i + 1) (intsV (qs ++ [q]))) := Lib.hid (by
            have h := hrow
            unfold intsV at h ⊢
            rw [List.map_append]
            exact h)
          have hs4 := hgrow.size
          rw [World.size_alloc] at hs4
          have hs34 : w3.heap.size ≤ w4.heap.size := by omega
          clear hrow hgrow hnil
          go_loopw [11] (fun kk wi => ∃ k : Nat, k ≤ n2 ∧ kk = .int .i64 (k : Int) ∧ Hid (∀ j, j < k → leftIn (left.getD j 0 - q * y.getD j 0) = true) ∧ Hid (wi.ownsRow W.heap.size 3 1 (.slice (some ⟨g, 0, none⟩) n1 capg) n1 (intsV (listN (rowF i k q y left) n1))) ∧ Hid (wi.ownsRow w3.heap.size 3 1 v1 (i + 1) (intsV (qs ++ [q]))) ∧ w3.heap.size ≤ wi.heap.size ∧ Hid (Below W.heap.size W wi)) (fun kk _ => n2 - (intOf kk).toNat)
          case atStart => exact ⟨0, Nat.zero_le _, rfl, Lib.hid fun j h => absurd h (Nat.not_lt_zero _), HR4, HQ4, hs34, HB4⟩
          case round =>
            obtain ⟨k, hk, rfl, HK, HRi, HQi, hsi, HBi⟩ := hrel
            obtain ⟨⟨p0, p1⟩, ⟨q0, q1⟩, d0, d1, f0, f1⟩ := HC.out wr HBi.out
            by_cases hlt : k < n2
            · obtain ⟨z, hz⟩ : ∃ z, y.getD k 0 = z := ⟨_, rfl⟩
              have hcz := HYC.out wr HBi.out k hlt z hz
              obtain ⟨u, hu⟩ : ∃ u, left.getD k 0 = u := ⟨_, rfl⟩
              have hub := HI.out.2.1 k
              rw [hu] at hub
              have hzb := HY.out k
              rw [hz] at hzb
              obtain ⟨pp, hp⟩ : ∃ p, q * z = p := ⟨_, rfl⟩
              have hpb := mul_in ⟨hq1, hq2⟩ hzb
              rw [hp] at hpb
              obtain ⟨hub1, hub2⟩ := hub
              obtain ⟨hpb1, hpb2⟩ := hpb
              obtain ⟨yy, hy⟩ : ∃ y, u - pp = y := ⟨_, rfl⟩
              obtain ⟨j, hj⟩ : ∃ j, i + k = j := ⟨_, rfl⟩
              have hw0 : IntKind.i64.wrap ((i : Int) + (k : Int)) = (j : Int) := by rw [IntWalk.i64_in _ (by omega)]; omega
              have hw1 : IntKind.i64.wrap (q * z) = pp := by rw [hp]; exact IntWalk.i64_in _ (by omega)
              have hw2 : IntKind.i64.wrap (u - pp) = yy := by rw [hy]; exact IntWalk.i64_in _ (by omega)
              have hck : wr.cell? ⟨g, j, none⟩ = some (.int .i64 u) := by
                rw [HRi.out.cellAt _ (by omega), listN_cell (by omega), ← hj, rowF_at, hu]
              have hfk := HRi.out.frozenAt j
              have hki : (k : Int) < (n2 : Int) := by omega
              have hk0 : (0 : Int) ≤ (k : Int) := by omega
              have hjn : (j : Int) < (n1 : Int) := by omega
              have hj0 : (0 : Int) ≤ (j : Int) := by omega
              have hst := rowF_next i k q y left n1 (x := yy) (by rw [hu, hz, hp, hy])
              rw [hj] at hst
              have HST := Lib.hid hst
              obtain ⟨bl, hbl⟩ : ∃ b, leftIn yy = b := ⟨_, rfl⟩
              have HBL := Lib.hid hbl
              have HY2 : Hid (left.getD k 0 - stepQ y left * y.getD k 0 = yy) := Lib.hid (by rw [hu, hz, HQS.out, hp, hy])
              clear hz hu hp hy hbl hub1 hub2 hpb1 hpb2 hzb hst hj
              go_wp2
              go_still_tail 19, hmx
              change wpList _ _ _ _ _ wr.drew
              obtain ⟨wd, hwd⟩ : ∃ wd, wr.drew = wd := ⟨_, rfl⟩
              have ec : wd.cell? ⟨g, j, none⟩ = some (.int .i64 u) := by rw [← hwd]; exact hck
              have ef : wd.frozen? ⟨g, j, none⟩ = false := by rw [← hwd]; exact hfk
              have HRd : Hid (wd.ownsRow W.heap.size 3 1 (.slice (some ⟨g, 0, none⟩) n1 capg) n1 (intsV (listN (rowF i k q y left) n1))) := Lib.hid (by rw [← hwd]; exact HRi.out.drew)
              have HQd : Hid (wd.ownsRow w3.heap.size 3 1 v1 (i + 1) (intsV (qs ++ [q]))) := Lib.hid (by rw [← hwd]; exact HQi.out.drew)
              have HBd : Hid (Below W.heap.size W wd) := Lib.hid (by rw [← hwd]; exact HBi.out.drew)
              have hsd : w3.heap.size ≤ wd.heap.size := by rw [← hwd]; exact hsi
              have ez : wd.cell? (ya.add k) = some (.int .i64 z) := by rw [← hwd]; exact hcz
              clear hck hfk hcz p0 p1 q0 q1 d0 d1 f0 f1
              obtain ⟨⟨p0, p1⟩, ⟨q0, q1⟩, d0, d1, f0, f1⟩ := HC.out wd HBd.out
              rw [hwd]
              clear hwd
              have hwn : ∀ W' : World, Calls Try.prog 69 #[.int .i64 yy, .int .i64 (-4000000000000000000), .int .i64 4000000000000000000] W' fun e w' => e = .returned (.bool bl) ∧ W' = w' := fun W' => l6In_eq yy (-4000000000000000000) 4000000000000000000 bl W' HBL.out
              have HWN2 := Lib.hid hwn
              clear hwn
              go_wp2_with fail
              refine (HWN2.out _).mono ?_
              rintro e w5 ⟨rfl, rfl⟩
              have h1 := HRd.out.stored j (.int .i64 yy)
              rw [HST.out] at h1
              have HRs := Lib.hid h1.1
              have HQs : Hid ((wd.setCell ⟨g, j, none⟩ (.int .i64 yy)).ownsRow w3.heap.size 3 1 v1 (i + 1) (intsV (qs ++ [q]))) := Lib.hid (HQd.out.kept h1.2 (.inr fun e => by have := own_ge HQd.out g e; omega))
              have HBs : Hid (Below W.heap.size W (wd.setCell ⟨g, j, none⟩ (.int .i64 yy))) := Lib.hid (HBd.out.setCell (p := ⟨g, j, none⟩) (show W.heap.size ≤ g by omega) _)
              have hss2 := h1.2.size
              clear h1
              cases bl with
              | false =>
                have hsf : stepB y left = false := step_no3 (i := k) (by rw [HN2.out]; exact hlt) (by rw [HY2.out]; exact HBL.out)
                clear p0 p1 q0 q1 d0 d1 f0 f1
                obtain ⟨⟨p0, p1⟩, ⟨q0, q1⟩, d0, d1, f0, f1⟩ := HC.out _ HBs.out
                have hno := over_none (HOV.out.trans (by rw [show D = none by rw [← HDV.out]; exact divFrom_fail hsf]; rfl))
                obtain rfl : t = false := by rw [← HT.out]; exact hno.1
                obtain rfl : P = ⟨0, []⟩ := HP.out.symm.trans hno.2
                clear hno
                go_wp2_with fail
                refine (l6pNone_any _).mono ?_
                rintro e w9 ⟨⟨v, rfl, hr⟩, hb9⟩
                clear d0 d1 f0 f1
                have hsb := HBs.out.size
                have hss := HSZ.out
                obtain ⟨_, _, d0, d1, f0, f1⟩ := HC.out w9 ((HBs.out).trans (hb9.mono hsb))
                have HR9 := Lib.hid hr
                have HB9 := Lib.hid (HBW.out.trans (((HBs.out).trans (hb9.mono hsb)).mono HBW.out.size))
                obtain ⟨g9, gg, cap9, rfl, _⟩ := hr.shape
                clear hr hb9
                go_wp2
                refine bodyPost_ret (v := .tuple #[plV 0 (.slice g9 0 cap9), .bool false]) ?_ rfl ⟨⟨_, rfl, resRow2 (.int .i64 0) (.slice g9 0 cap9) HR9.out (by omega)⟩, resBelow2 (.int .i64 0) (.slice g9 0 cap9) HB9.out⟩
                simp [results, Try.results48, go_sem, d0, d1, plV]
              | true =>
                have HK1 : Hid (∀ j, j < k + 1 → leftIn (left.getD j 0 - q * y.getD j 0) = true) := Lib.hid fun j hj => by
                  by_cases e : j = k
                  · subst e
                    have := HY2.out
                    rw [HQS.out] at this
                    rw [this]
                    exact HBL.out
                  · exact HK.out j (by omega)
                go_wp2
                go_roundw
                case rel => exact ⟨k + 1, by omega, by go_num, HK1, HRs, HQs, by omega, HBs⟩
                case measure => simp [intOf]; omega
            · obtain rfl : k = n2 := by omega
              have hst : stepB y left = true := by
                refine step_yes HRM.out (by rw [HQS.out]; exact HCI.out) fun j hj => ?_
                rw [HQS.out]
                exact HK.out j (by rw [← HN2.out]; exact hj)
              have HSP := Lib.hid hst
              have hlm := HI.out.1
              have hle2 : y.length ≤ left.length := by rw [HN2.out, hlm]; exact hle
              have hrr := HRi.out
              rw [← HN2.out, ← HQS.out, rowF_done i y left n1 hle2 HRM.out] at hrr
              have HRR2 := Lib.hid hrr
              have HLE2 := Lib.hid hle2
              clear hrr hlm hle2 hst
              go_wp2
              go_roundw
              case rel =>
                obtain ⟨i1, i2, i3, i4, _⟩ := HI.out
                refine ⟨i + 1, m - 1, qs ++ [q], (subQ (stepQ y left) y left).tail, by omega, by omega, by go_num, Lib.hid ⟨by rw [List.length_tail, subQ_len, i1], step_left HLE2.out HSP.out i2, by rw [List.length_append, i3]; rfl, fun z hz => ?_, ?_⟩, HRR2, HQi, hsi, HBi⟩
                · rcases List.mem_append.1 hz with h | h
                  · exact i4 z h
                  · rw [List.mem_singleton.1 h]; exact HCI.out
                · have hd := divFrom_step (qs := qs) (n := rr) HSP.out
                  rw [HQS.out] at hd ⊢
                  rw [HRR.out, ← hd]
                  exact HDV.out
              case measure => simp [intOf]; omega
      · have hrb : (z0.tmod b0 != 0) = true := by rw [HRE.out]; simpa using hr0
        have hsf : stepB y left = false := step_no1 (by rw [HRM.out]; exact hr0)
        go_wp2
        go_quiet (fail)
        obtain ⟨Y, hY'⟩ : ∃ Y, X.drewN nq = Y := ⟨_, rfl⟩
        have hbY : Below X.heap.size X Y := by rw [← hY']; exact below_drewN (Below.refl _ _) nq
        have HBY := Lib.hid (HBX.out.trans (hbY.mono HBX.out.size))
        rw [hY']
        clear hY' hbY p0 p1 q0 q1 d0 d1 f0 f1 pz pb
        obtain ⟨⟨p0, p1⟩, ⟨q0, q1⟩, d0, d1, f0, f1⟩ := HC.out Y HBY.out
        have hno := over_none (HOV.out.trans (by rw [show D = none by rw [← HDV.out]; exact divFrom_fail hsf]; rfl))
        obtain rfl : t = false := by rw [← HT.out]; exact hno.1
        obtain rfl : P = ⟨0, []⟩ := HP.out.symm.trans hno.2
        clear hno
        go_wp2_with fail
        refine (l6pNone_any _).mono ?_
        rintro e w9 ⟨⟨v, rfl, hr⟩, hb9⟩
        clear d0 d1 f0 f1
        have hsb := HBY.out.size
        have hss := HSZ.out
        obtain ⟨_, _, d0, d1, f0, f1⟩ := HC.out w9 ((HBY.out).trans (hb9.mono hsb))
        have HR9 := Lib.hid hr
        have HB9 := Lib.hid (HBW.out.trans (((HBY.out).trans (hb9.mono hsb)).mono HBW.out.size))
        obtain ⟨g9, gg, cap9, rfl, _⟩ := hr.shape
        clear hr hb9
        go_wp2
        refine bodyPost_ret (v := .tuple #[plV 0 (.slice g9 0 cap9), .bool false]) ?_ rfl ⟨⟨_, rfl, resRow2 (.int .i64 0) (.slice g9 0 cap9) HR9.out (by omega)⟩, resBelow2 (.int .i64 0) (.slice g9 0 cap9) HB9.out⟩
        simp [results, Try.results48, go_sem, d0, d1, plV]
    · obtain rfl : i = N := by omega
      have hgi : ¬ (i : Int) < (n1 : Int) - (n2 : Int) + 1 := by omega
      have hdv := HI.out.2.2.2.2
      rw [Nat.sub_self, divFrom_end] at hdv
      have HDV := Lib.hid hdv
      clear hdv
      obtain ⟨Z, hZ⟩ : ∃ Z, Z = wr := ⟨_, rfl⟩
      subst hZ
      go_wp2
      go_loopw [12] (fun j wz => ∃ k : Nat, k ≤ n1 ∧ j = .int .i64 (k : Int) ∧ Hid (∀ j, j < k → rowG i left j = 0) ∧ Z = wz) (fun j _ => n1 - (intOf j).toNat)
      case atStart => exact ⟨0, Nat.zero_le _, rfl, Lib.hid fun j h => absurd h (Nat.not_lt_zero _), rfl⟩
      case round =>
        obtain ⟨k, hk, rfl, HK, rfl⟩ := hrel
        by_cases hlt : k < n1
        · have hki : (k : Int) < (n1 : Int) := by omega
          have hk0 : (0 : Int) ≤ (k : Int) := by omega
          obtain ⟨v, hv⟩ : ∃ v, rowG i left k = v := ⟨_, rfl⟩
          have hck : Z.cell? ⟨g, k, none⟩ = some (.int .i64 v) := by
            rw [HR.out.cellAt _ (by omega), listN_cell hlt, hv]
          by_cases hv0 : v = 0
          · subst hv0
            have HV0 := Lib.hid hv
            clear hv
            have hvb : ((0 : Int) != 0) = false := rfl
            go_wp2
            go_roundw
            case rel => exact ⟨k + 1, by omega, by go_num, Lib.hid fun j hj => by
              by_cases e : j = k
              · rw [e]; exact HV0.out
              · exact HK.out j (by omega), by first | trivial | rfl⟩
            case measure => simp [intOf]; omega
          · have hvb : (v != 0) = true := by simpa using hv0
            have hzf : zeroL left = false := by
              refine zeroL_no (i := k - i) fun e => hv0 ?_
              rw [← hv]
              unfold rowG
              split
              · rfl
              · exact e
            clear hv
            have hno := over_none (HOV.out.trans (by rw [← HDV.out]; show (if zeroL left then _ else none) = none; rw [hzf]; rfl))
            obtain rfl : t = false := by rw [← HT.out]; exact hno.1
            obtain rfl : P = ⟨0, []⟩ := HP.out.symm.trans hno.2
            clear hno
            go_wp2_with fail
            refine (l6pNone_any _).mono ?_
            rintro e w9 ⟨⟨v, rfl, hr⟩, hb9⟩
            clear d0 d1 f0 f1
            have hsb := HB.out.size
            have hss := HSZ.out
            obtain ⟨_, _, d0, d1, f0, f1⟩ := HC.out w9 ((HB.out).trans (hb9.mono hsb))
            have HR9 := Lib.hid hr
            have HB9 := Lib.hid (HBW.out.trans (((HB.out).trans (hb9.mono hsb)).mono HBW.out.size))
            obtain ⟨g9, gg, cap9, rfl, _⟩ := hr.shape
            clear hr hb9
            go_wp2
            refine bodyPost_ret (v := .tuple #[plV 0 (.slice g9 0 cap9), .bool false]) ?_ rfl ⟨⟨_, rfl, resRow2 (.int .i64 0) (.slice g9 0 cap9) HR9.out (by omega)⟩, resBelow2 (.int .i64 0) (.slice g9 0 cap9) HB9.out⟩
            simp [results, Try.results48, go_sem, d0, d1, plV]
        · obtain rfl : k = n1 := by omega
          have hzl : zeroL left = true := zeroL_yes fun j hj => by
            have h := HK.out (i + j) (by have := HI.out.1; omega)
            rwa [rowG_at] at h
          have hsome := over_some (HOV.out.trans (by rw [← HDV.out]; show (if zeroL left then some (tidyP (l1 - l2) qs) else none) = _; rw [hzl]; rfl))
          obtain ⟨Q, hQ⟩ : ∃ Q, tidyP (l1 - l2) qs = Q := ⟨_, rfl⟩
          rw [hQ] at hsome
          have hPT : polyB Q = t := by rw [← HT.out]; exact hsome.1.symm
          obtain rfl : P = doneP t Q := by rw [← HP.out, hsome.2, hPT]
          have HPT := Lib.hid hPT
          have HTD := Lib.hid hQ
          have hql := HI.out.2.2.1
          have HCO := Lib.hid HI.out.2.2.2.1
          have hqr : IntRow w3.heap.size Z u8 qs := rowI HQ.out hql
          obtain ⟨a5, c5, rfl, hc5, hi5⟩ := hqr.readc (coefs_in HCO.out)
          rw [hql] at hc5 hi5 ⊢
          have hwl : IntKind.i64.wrap (l1 - l2) = l1 - l2 := IntWalk.i64_in _ (by omega)
          have HTI := Lib.hid (l6pTidy_any (l1 - l2) qs a5 c5 i Z hi5 hc5 (by omega) (by omega) (by omega))
          have hqm : ∀ z ∈ Q.cs, -9223372036854775808 ≤ z ∧ z ≤ 9223372036854775807 := fun z hz => by
            rw [← hQ] at hz
            rcases tidy_mem hz with rfl | h
            · omega
            · exact coefs_in HCO.out z h
          have hqn : Q.cs.length ≤ 1048576 := by rw [← hQ]; have := tidy_len (l1 - l2) qs; omega
          have HQM := Lib.hid hqm
          clear hsome hQ hPT hqr hi5 hc5 hzl hqm hql
          go_wp2_with fail
          refine HTI.out.mono ?_
          rintro e w5 ⟨⟨v, rfl, hr5⟩, hb5⟩
          rw [HTD.out] at hr5 ⊢
          obtain ⟨a6, c6, rfl, hc6, hi6⟩ := hr5.readc HQM.out
          have hsq := HB.out.size
          have HB5 := Lib.hid (HB.out.trans (hb5.mono hsq))
          have hs5 := HB5.out.size
          have HDN := Lib.hid (l6pDone_any Q.low Q.cs a6 c6 _ t w5 hi6 hqn HPT.out)
          clear hb5 hr5 hi6 hc6 p0 p1 q0 q1 d0 d1 f0 f1
          go_wp2_with fail
          refine HDN.out.mono ?_
          rintro e w6 ⟨⟨v, rfl, hr⟩, hb6⟩
          obtain ⟨_, _, d0, d1, f0, f1⟩ := HC.out w6 (HB5.out.trans (hb6.mono hs5))
          have HR6 := Lib.hid hr
          have HB6 := Lib.hid (HBW.out.trans ((HB5.out.trans (hb6.mono hs5)).mono HBW.out.size))
          obtain ⟨g4, gg, cap4, rfl, _⟩ := hr.shape
          clear hr hb6
          go_wp2
          have hss := HSZ.out
          refine bodyPost_ret (v := .tuple #[plV (doneP t Q).low (.slice g4 (doneP t Q).cs.length cap4), .bool t]) ?_ rfl ⟨⟨_, rfl, resRow2 (.int .i64 (doneP t Q).low) (.slice g4 (doneP t Q).cs.length cap4) HR6.out (by omega)⟩, resBelow2 (.int .i64 (doneP t Q).low) (.slice g4 (doneP t Q).cs.length cap4) HB6.out⟩
          simp [results, Try.results48, go_sem, d0, d1, plV]

end Go.Proofs.Ytocklmiappppgaa

/- The model's PolyOver whatever comes in; both sides as the law wants them. -/

namespace Go.Proofs.Ytocklmiappppgaa
open Go.RowKit

set_option maxRecDepth 100000 in
set_option maxHeartbeats 3000000 in
theorem sPolyOver_any (l1 l2 : Int) (x y : List Int) (a1 a2 : Option Addr) (c1 c2 n1 n2 : Nat) (t : Bool) (w : World) (h1 : Ints w a1 n1 x) (h2 : Ints w a2 n2 y) (ht : dividedB ⟨l1, x⟩ ⟨l2, y⟩ = t) :
    Calls Try.prog 48 #[plV l1 (.slice a1 n1 c1), plV l2 (.slice a2 n2 c2)] w fun e w' => (∃ v, e = .returned (.tuple #[plV (dividedP ⟨l1, x⟩ ⟨l2, y⟩).low v, .bool t]) ∧ IntRow w.heap.size w' v (dividedP ⟨l1, x⟩ ⟨l2, y⟩).cs) ∧ Below w.heap.size w w' := by
  obtain ⟨P, hP⟩ : ∃ P, dividedP ⟨l1, x⟩ ⟨l2, y⟩ = P := ⟨_, rfl⟩
  rw [hP]
  obtain ⟨ba, hba⟩ : ∃ b, polyB ⟨l1, x⟩ = b := ⟨_, rfl⟩
  obtain ⟨bb, hbb⟩ : ∃ b, polyB ⟨l2, y⟩ = b := ⟨_, rfl⟩
  by_cases hyes : (ba = true ∧ bb = true) ∧ 0 < n1 ∧ 0 < n2
  · obtain ⟨⟨rfl, rfl⟩, h01, h02⟩ := hyes
    obtain ⟨e1, e2⟩ := divided_over ht hba hbb (by show 0 < y.length; rw [h2.len]; exact h02)
    exact sPolyOver_some l1 l2 x y a1 a2 c1 c2 n1 n2 t P w h1 h2 h01 h02 hba hbb e1 (e2.symm.trans hP)
  · obtain ⟨W, hW⟩ : ∃ W, ((w.alloc (.cells #[.int .i64 l1, .slice a1 n1 c1] 25)).alloc (.cells #[.int .i64 l2, .slice a2 n2 c2] 25)).alloc (.cells #[.int .i64 0, .slice none 0 0] 25) = W := ⟨_, rfl⟩
    obtain ⟨hbW, hsz⟩ := boxes3Below hW
    have HC : Hid (∀ w1, Below W.heap.size W w1 → _) := Lib.hid fun w1 (hg : Below W.heap.size W w1) => boxes3 hW hg
    have hC := boxes3 hW (Below.refl _ _)
    rw [← hW] at hC
    obtain ⟨⟨p0, p1⟩, ⟨q0, q1⟩, _⟩ := hC
    have H1 := Lib.hid (h1.below hbW)
    have H2 := Lib.hid (h2.below hbW)
    have HN1 := Lib.hid h1.len
    have HN2 := Lib.hid h2.len
    have HT := Lib.hid ht
    have HP := Lib.hid hP
    have HBA := Lib.hid hba
    have HBB := Lib.hid hbb
    have HBW := Lib.hid hbW
    have HW := Lib.hid hW
    have HSZ := Lib.hid hsz
    have HYES := Lib.hid hyes
    clear hW hbW h1 h2 hba hbb hsz ht hP hyes
    go_enter Try.func48, Try.ntmps48
    go_wp2_with fail
    rw [HW.out]
    clear p0 p1 q0 q1
    refine (sPolyIn_any l1 x a1 c1 n1 ba W H1.out HBA.out).mono ?_
    rintro e w1 ⟨rfl, hb1⟩
    have HB1 := Lib.hid hb1
    obtain ⟨⟨p0, p1⟩, ⟨q0, q1⟩, d0, d1, f0, f1⟩ := HC.out w1 hb1
    have hs1 := hb1.size
    clear hb1
    cases ba with
    | false =>
      obtain ⟨rfl, hp⟩ := divided_no HT.out (.inl HBA.out)
      obtain rfl : P = ⟨0, []⟩ := HP.out.symm.trans hp
      clear hp
      go_wp2_with fail
      refine (l6pNone_any _).mono ?_
      rintro e w9 ⟨⟨v, rfl, hr⟩, hb9⟩
      clear p0 p1 q0 q1 d0 d1 f0 f1
      have hss := HSZ.out
      obtain ⟨_, _, d0, d1, f0, f1⟩ := HC.out w9 (HB1.out.trans (hb9.mono hs1))
      have HR9 := Lib.hid hr
      have HB9 := Lib.hid (HBW.out.trans ((HB1.out.trans (hb9.mono hs1)).mono HBW.out.size))
      obtain ⟨g9, gg, cap9, rfl, _⟩ := hr.shape
      clear hr hb9
      go_wp2
      refine bodyPost_ret (v := .tuple #[plV 0 (.slice g9 0 cap9), .bool false]) ?_ rfl ⟨⟨_, rfl, resRow2 (.int .i64 0) (.slice g9 0 cap9) HR9.out (by omega)⟩, resBelow2 (.int .i64 0) (.slice g9 0 cap9) HB9.out⟩
      simp [results, Try.results48, go_sem, d0, d1, plV]
    | true =>
      go_wp2_with fail
      refine (sPolyIn_any l2 y a2 c2 n2 bb w1 (H2.out.below HB1.out) HBB.out).mono ?_
      rintro e w2 ⟨rfl, hb2⟩
      have HB2 := Lib.hid (HB1.out.trans (hb2.mono hs1))
      have hs2 := HB2.out.size
      clear hb2 p0 p1 q0 q1 d0 d1 f0 f1
      obtain ⟨⟨p0, p1⟩, ⟨q0, q1⟩, d0, d1, f0, f1⟩ := HC.out w2 HB2.out
      by_cases hno : bb = false ∨ n2 = 0
      · obtain ⟨rfl, hp⟩ := divided_no HT.out (.inr (hno.imp (fun e => by rw [HBB.out, e]) (fun e => by show y.length = 0; rw [HN2.out, e])))
        obtain rfl : P = ⟨0, []⟩ := HP.out.symm.trans hp
        clear hp
        have hcond : (!bb) = true ∨ ((!bb) = false ∧ ((n2 : Int) == 0) = true) := by
          cases bb with
          | false => exact .inl rfl
          | true =>
            have : n2 = 0 := by simpa using hno
            exact .inr ⟨rfl, by rw [this]; rfl⟩
        rcases hcond with hc | ⟨hc, hcz⟩
        · obtain rfl : bb = false := by simpa using hc
          clear hno hc
          go_wp2_with fail
          refine (l6pNone_any _).mono ?_
          rintro e w9 ⟨⟨v, rfl, hr⟩, hb9⟩
          clear p0 p1 q0 q1 d0 d1 f0 f1
          have hss := HSZ.out
          obtain ⟨_, _, d0, d1, f0, f1⟩ := HC.out w9 (HB2.out.trans (hb9.mono hs2))
          have HR9 := Lib.hid hr
          have HB9 := Lib.hid (HBW.out.trans ((HB2.out.trans (hb9.mono hs2)).mono HBW.out.size))
          obtain ⟨g9, gg, cap9, rfl, _⟩ := hr.shape
          clear hr hb9
          go_wp2
          refine bodyPost_ret (v := .tuple #[plV 0 (.slice g9 0 cap9), .bool false]) ?_ rfl ⟨⟨_, rfl, resRow2 (.int .i64 0) (.slice g9 0 cap9) HR9.out (by omega)⟩, resBelow2 (.int .i64 0) (.slice g9 0 cap9) HB9.out⟩
          simp [results, Try.results48, go_sem, d0, d1, plV]
        · obtain rfl : bb = true := by simpa using hc
          obtain rfl : n2 = 0 := by simpa using hno
          clear hno hc hcz
          go_wp2_with fail
          refine (l6pNone_any _).mono ?_
          rintro e w9 ⟨⟨v, rfl, hr⟩, hb9⟩
          clear p0 p1 q0 q1 d0 d1 f0 f1
          have hss := HSZ.out
          obtain ⟨_, _, d0, d1, f0, f1⟩ := HC.out w9 (HB2.out.trans (hb9.mono hs2))
          have HR9 := Lib.hid hr
          have HB9 := Lib.hid (HBW.out.trans ((HB2.out.trans (hb9.mono hs2)).mono HBW.out.size))
          obtain ⟨g9, gg, cap9, rfl, _⟩ := hr.shape
          clear hr hb9
          go_wp2
          refine bodyPost_ret (v := .tuple #[plV 0 (.slice g9 0 cap9), .bool false]) ?_ rfl ⟨⟨_, rfl, resRow2 (.int .i64 0) (.slice g9 0 cap9) HR9.out (by omega)⟩, resBelow2 (.int .i64 0) (.slice g9 0 cap9) HB9.out⟩
          simp [results, Try.results48, go_sem, d0, d1, plV]
      · obtain rfl : bb = true := by
          cases bb with
          | true => rfl
          | false => exact absurd (.inl rfl) hno
        have h02 : ¬ n2 = 0 := fun e => hno (.inr e)
        obtain rfl : n1 = 0 := by
          by_cases h : n1 = 0
          · exact h
          · exact absurd (by refine ⟨?_, ?_, ?_⟩ <;> first | (constructor <;> first | trivial | rfl) | omega) HYES.out
        obtain ⟨rfl, hp⟩ := divided_zero HT.out HBA.out HBB.out (by show 0 < y.length; rw [HN2.out]; omega) HN1.out
        obtain rfl : P = ⟨0, []⟩ := HP.out.symm.trans hp
        have hT1 := (polyB_trim HBA.out).1
        obtain rfl : x = [] := List.length_eq_zero_iff.1 HN1.out
        obtain rfl : l1 = 0 := by
          rcases hT1 with ⟨_, h⟩ | ⟨h, _⟩
          · exact h
          · exact absurd rfl h
        have h02i : ¬ (n2 : Int) = 0 := by omega
        have h02b : ((n2 : Int) == 0) = false := by simpa using h02i
        have HCP := Lib.hid (l6pCopy_any 0 [] a1 c1 0 w2 (H1.out.below HB2.out) (by omega))
        clear hp hT1 hno
        go_wp2_with fail
        refine HCP.out.mono ?_
        rintro e w9 ⟨⟨v, rfl, hr⟩, hb9⟩
        clear p0 p1 q0 q1 d0 d1 f0 f1
        have hss := HSZ.out
        obtain ⟨_, _, d0, d1, f0, f1⟩ := HC.out w9 (HB2.out.trans (hb9.mono hs2))
        have HR9 := Lib.hid hr
        have HB9 := Lib.hid (HBW.out.trans ((HB2.out.trans (hb9.mono hs2)).mono HBW.out.size))
        obtain ⟨g9, gg, cap9, rfl, _⟩ := hr.shape
        clear hr hb9
        go_wp2
        refine bodyPost_ret (v := .tuple #[plV 0 (.slice g9 0 cap9), .bool true]) ?_ rfl ⟨⟨_, rfl, resRow2 (.int .i64 0) (.slice g9 0 cap9) HR9.out (by omega)⟩, resBelow2 (.int .i64 0) (.slice g9 0 cap9) HB9.out⟩
        simp [results, Try.results48, go_sem, d0, d1, plV]

theorem sPolyOver_law {l1 l2 : Int} {x y : List Int} {a1 a2 : Option Addr} {n1 n2 : Nat} {b : Bool} {pl : Int} {pc : List Int} {w : World} (h1 : Ints w a1 n1 x) (h2 : Ints w a2 n2 y) (hb : dividedB ⟨l1, x⟩ ⟨l2, y⟩ = b) (hp : dividedP ⟨l1, x⟩ ⟨l2, y⟩ = ⟨pl, pc⟩) :
    Calls Try.prog 48 #[plV l1 (.slice a1 n1 n1), plV l2 (.slice a2 n2 n2)] w fun e w' => (∃ v, e = .returned (.tuple #[plV pl v, .bool b]) ∧ IntRow w.heap.size w' v pc) ∧ Below w.heap.size w w' := by
  have h := sPolyOver_any l1 l2 x y a1 a2 n1 n2 n1 n2 b w h1 h2 hb
  rwa [hp] at h
theorem iPolyOver_law {l1 l2 : Int} {x y : List Int} {a1 a2 : Option Addr} {n1 n2 : Nat} {b : Bool} {pl : Int} {pc : List Int} {w : World} (h1 : Ints w a1 n1 x) (h2 : Ints w a2 n2 y) (hb : dividedB ⟨l1, x⟩ ⟨l2, y⟩ = b) (hp : dividedP ⟨l1, x⟩ ⟨l2, y⟩ = ⟨pl, pc⟩) :
    Calls Try.prog 37 #[plV l1 (.slice a1 n1 n1), plV l2 (.slice a2 n2 n2)] w fun e w' => (∃ v, e = .returned (.tuple #[plV pl v, .bool b]) ∧ IntRow w.heap.size w' v pc) ∧ Below w.heap.size w w' := by
  have h := iPolyOver_any l1 l2 x y a1 a2 n1 n2 n1 n2 b w h1 h2 (Nat.le_refl _) (Nat.le_refl _) hb
  rwa [hp] at h

end Go.Proofs.Ytocklmiappppgaa

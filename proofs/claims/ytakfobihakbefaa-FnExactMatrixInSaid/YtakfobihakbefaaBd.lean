/- What the laws' proofs stand on, part 4 of 4. -/
import Derived.Deep.RegionHeld3
import Derived.Deep.AppendLies
import Derived.Deep.RegionLaw
import Derived.Laws.CopyRow
import Derived.BigQuiet
import Derived.Test.YtakfobihakbefaaBa
import Derived.Test.YtakfobihakbefaaBb
import Derived.Test.YtakfobihakbefaaBc

/- The program's matrixOf: a list as a matrix. -/

namespace Go.Proofs.Ytakfobihakbefaa
open Go.RowKit

theorem MatW.put {lo B : Nat} {w w2 : World} {g k : Nat → Option Addr} {n m : Nat} {P : Nat → Nat → Pl} {pv : Nat → Nat → Value} (h : MatW lo w g n m P pv) (hp : PutM w w2 B k) (hB : B < lo) : MatW lo w2 g n m P pv :=
  ⟨h.shp, fun i k hi hk => by
    obtain ⟨j, h1, h2, h3, h4, h5, h6⟩ := h.at_ i k hi hk
    have hc : ∀ o, w2.cell? ⟨j, o, none⟩ = w.cell? ⟨j, o, none⟩ := fun o => by simp only [World.cell?]; rw [hp.off _ (by omega)]
    exact ⟨j, h1, h2, by rw [hp.size]; exact h3, (hc 0).trans h4, (hc 1).trans h5, ownsRow_touched h6 fun b hb _ => hp.off _ (by have := (ownsRow_lt h6 b hb).1; omega)⟩, h.apart⟩
theorem MatW.congr {lo : Nat} {w : World} {g : Nat → Option Addr} {n m : Nat} {P Q : Nat → Nat → Pl} {pv : Nat → Nat → Value} (h : MatW lo w g n m P pv) (e : ∀ i k, i < n → k < m → P i k = Q i k) : MatW lo w g n m Q pv :=
  ⟨h.shp, fun i k hi hk => by
    obtain ⟨j, h1, h2, h3, h4, h5, h6⟩ := h.at_ i k hi hk
    rw [e i k hi hk] at h4 h6
    exact ⟨j, h1, h2, h3, h4, h5, h6⟩, h.apart⟩
/-- What matrixOf comes to. -/
def MatR (w : World) (rows : Mx) (e : Ending) (w' : World) : Prop :=
  ((matB rows = true ∧ ∃ g pv, e = .returned (.agg (mC g)) ∧ MatW w.heap.size w' g rows.length (colsM rows) (at2 rows) pv) ∨ (matB rows = false ∧ e = .returned (.agg (mC fun _ => none)))) ∧ Below w.heap.size w w'
theorem MatR.no {w w' : World} {rows : Mx} (h : matB rows = false) (hb : Below w.heap.size w w') : MatR w rows (.returned (.agg (mC fun _ => none))) w' := ⟨.inr ⟨h, rfl⟩, hb⟩
theorem matB_no {rows : Mx} (h : ¬ ((1 ≤ rows.length ∧ rows.length ≤ 4) ∧ (1 ≤ colsM rows ∧ colsM rows ≤ 4) ∧ ∀ r ∈ rows, r.length = colsM rows ∧ ∀ p ∈ r, polyB p = true)) : matB rows = false := by
  cases e : matB rows with
  | false => rfl
  | true => exact absurd (matB_iff.1 e) h

set_option maxRecDepth 100000 in
set_option maxHeartbeats 4000000 in
theorem matrixOf_any (a : Option Addr) (c n : Nat) (rows : Mx) (w : World) (hs : IsPSS w a n rows) :
    Calls Try.prog 83 #[.slice a n c] w (MatR w rows) := by
  have hmf : ∀ (fn : Fn) (first cap : Array Value) (w : World), (Instr.makeFunc fn first cap).run Try.prog w = .ok (.func fn first cap) w := fun _ _ _ _ => rfl
  have hmax := hs.max
  unfold maxLen at hmax
  obtain ⟨W, hW⟩ : ∃ W, (w.alloc (.cells #[.slice a n c] 33)).alloc (.cells (mC fun _ => none) MA) = W := ⟨_, rfl⟩
  have hsz : W.heap.size = w.heap.size + 2 := by rw [← hW]; simp
  have hbW : Below w.heap.size w W := by rw [← hW]; exact ((Below.refl _ w).alloc (Nat.le_refl _) _).alloc (by simp) _
  have hres : W.heap[w.heap.size + 1]? = some (.cells (mC fun _ => none) MA (0, 0)) := by
    rw [← hW]
    have h := World.alloc_heap_new (w.alloc (.cells #[.slice a n c] 33)) (.cells (mC fun _ => none) MA)
    rwa [World.size_alloc] at h
  have hbox : W.cell? ⟨w.heap.size, 0, none⟩ = some (.slice a n c) := by
    have h : W.heap[w.heap.size]? = some (.cells #[.slice a n c] 33 (0, 0)) := by
      rw [← hW, Below.heap_alloc _ _ _ (by simp)]
      exact World.alloc_heap_new w _
    simp [World.cell?, h]
  have HBOX := Lib.hid hbox
  have HRES := Lib.hid hres
  have HBW := Lib.hid hbW
  have HS := Lib.hid hs
  have HSW := Lib.hid (hs.below hbW)
  have HL := Lib.hid hs.len
  have hW2 := hW
  simp only [mC] at hW2
  have HW := Lib.hid hW2
  clear hres hbW hbox hW2
  by_cases h0 : n = 0
  · subst h0
    have HN : Hid (matB rows = false) := Lib.hid (matB_no fun h => by have := HL.out; omega)
    clear hs hW
    go_enter Try.func83, Try.ntmps83
    go_wp2_with (refine wpList_store_mat rfl _ _ rfl (w.heap.size + 1) (fun _ => none) (fun _ => none) rfl rfl (by rw [HW.out]; exact HRES.out) ?_; rw [HW.out]; intro w3 hp3)
    have hld := loadM hp3.heap
    refine bodyPost_ret (v := .agg (mC fun _ => none)) ?_ rfl (MatR.no HN.out (hp3.below HBW.out (by omega)))
    simp [results, Try.results83, Act.put, asAddr, hld]
  by_cases h4 : 4 < n
  · have HN : Hid (matB rows = false) := Lib.hid (matB_no fun h => by have := HL.out; omega)
    have h4i : (4 : Int) < (n : Int) := by omega
    have hd0 : decide ((n : Int) = 0) = false := decide_eq_false (by omega)
    have hd4 : decide ((4 : Int) < (n : Int)) = true := decide_eq_true h4i
    clear hs hW
    go_enter Try.func83, Try.ntmps83
    go_wp2_with (refine wpList_store_mat rfl _ _ rfl (w.heap.size + 1) (fun _ => none) (fun _ => none) rfl rfl (by rw [HW.out]; exact HRES.out) ?_; rw [HW.out]; intro w3 hp3)
    have hld := loadM hp3.heap
    refine bodyPost_ret (v := .agg (mC fun _ => none)) ?_ rfl (MatR.no HN.out (hp3.below HBW.out (by omega)))
    simp [results, Try.results83, Act.put, asAddr, hld]
  have hd0 : decide ((n : Int) = 0) = false := decide_eq_false (by omega)
  have hd4 : decide ((4 : Int) < (n : Int)) = false := decide_eq_false (by omega)
  have h0i : (0 : Int) < (n : Int) := by omega
  obtain ⟨x, rfl, hxb, hx⟩ := hs.at_ (by omega)
  obtain ⟨a0, c0, hc0, hI0⟩ := hx 0 (by rw [hs.len]; omega)
  rw [show x.add 0 = x by simp [Addr.add]] at hc0
  have hcols : (rows[0]'(by rw [hs.len]; omega)).length = colsM rows := by
    unfold colsM
    simp [List.getD_eq_getElem?_getD, show 0 < rows.length by rw [hs.len]; omega]
  rw [hcols] at hc0
  have hm0 := hI0.max
  rw [hcols] at hm0
  unfold maxLen at hm0
  obtain ⟨m, hm⟩ : ∃ m, colsM rows = m := ⟨_, rfl⟩
  have HM := Lib.hid hm
  rw [hm] at hc0 hm0
  have q0 : W.cell? x = some (.slice a0 m c0) := (HBW.out.cell (p := x) hxb).trans hc0
  rw [← hW] at q0
  simp only [mC] at q0
  by_cases h5 : 4 < m
  · have HN : Hid (matB rows = false) := Lib.hid (matB_no fun h => by have := HM.out; omega)
    have hd5 : decide ((4 : Int) < (m : Int)) = true := decide_eq_true (by omega)
    clear hs hW hx hxb hc0 hI0 hcols hm
    go_enter Try.func83, Try.ntmps83
    go_wp2_with (refine wpList_store_mat rfl _ _ rfl (w.heap.size + 1) (fun _ => none) (fun _ => none) rfl rfl (by rw [HW.out]; exact HRES.out) ?_; rw [HW.out]; intro w3 hp3)
    have hld := loadM hp3.heap
    refine bodyPost_ret (v := .agg (mC fun _ => none)) ?_ rfl (MatR.no HN.out (hp3.below HBW.out (by omega)))
    simp [results, Try.results83, Act.put, asAddr, hld]
  have hd5 : decide ((4 : Int) < (m : Int)) = false := decide_eq_false (by omega)
  have HX : Hid (∀ i (h : i < rows.length), ∃ ai ci, w.cell? (x.add i) = some (.slice ai rows[i].length ci) ∧ IsPS w ai rows[i].length rows[i]) := Lib.hid hx
  have HXB := Lib.hid hxb
  clear hs hx hxb hc0 hI0 hcols hm
  go_enter Try.func83, Try.ntmps83
  go_wp2
  go_loop [28] (fun i => ∃ k : Nat, k ≤ n ∧ i = .int .i64 k ∧ Hid (∀ j (h : j < rows.length), j < k → rows[j].length = m)) (fun i => n - (intOf i).toNat)
  case atStart => exact ⟨0, Nat.zero_le _, rfl, Lib.hid fun j _ h => absurd h (Nat.not_lt_zero _)⟩
  case round =>
    obtain ⟨k, hk, rfl, HE⟩ := hrel
    by_cases hlt : k < n
    · have hkr : k < rows.length := by rw [HL.out]; exact hlt
      obtain ⟨ai, ci, hc, hI⟩ := HX.out k hkr
      have q1 : W.cell? (x.add k) = some (.slice ai rows[k].length ci) := (HBW.out.cell (p := x.add k) (by rw [addr_add_block]; exact HXB.out)).trans hc
      have hmk := hI.max
      obtain ⟨r, hr⟩ : ∃ r, rows[k].length = r := ⟨_, rfl⟩
      rw [hr] at q1 hmk
      unfold maxLen at hmk
      rw [← hW] at q1
      simp only [mC] at q1
      have HR := Lib.hid hr
      clear hc hI hr
      by_cases hrm : r = m
      · have hdr : decide ((r : Int) = (m : Int)) = true := decide_eq_true (by omega)
        subst hrm
        clear hW
        go_wp2
        go_round
        case rel =>
          refine ⟨k + 1, by omega, by go_num, Lib.hid fun j hj hjk => ?_⟩
          by_cases e : j = k
          · subst e; exact HR.out
          · exact HE.out j hj (by omega)
        case measure => simp [intOf]; omega
      · have hdr : decide ((r : Int) = (m : Int)) = false := decide_eq_false (by omega)
        have HN : Hid (matB rows = false) := Lib.hid (matB_no fun h => hrm (by rw [← HR.out, ← HM.out]; exact (h.2.2 _ (List.getElem_mem hkr)).1))
        clear hW
        go_wp2_with (refine wpList_store_mat rfl _ _ rfl (w.heap.size + 1) (fun _ => none) (fun _ => none) rfl rfl (by rw [HW.out]; exact HRES.out) ?_; rw [HW.out]; intro w3 hp3)
        have hld := loadM hp3.heap
        refine bodyPost_ret (v := .agg (mC fun _ => none)) ?_ rfl (MatR.no HN.out (hp3.below HBW.out (by omega)))
        simp [results, Try.results83, asAddr, hld]
    · obtain rfl : k = n := by omega
      have hall : ∀ r ∈ rows, r.length = m := fun r hr => by
        obtain ⟨j, hj, rfl⟩ := List.getElem_of_mem hr
        exact HE.out j hj (by rw [← HL.out]; exact hj)
      have HALL := Lib.hid hall
      have hat2 : ∀ i j, i < k → j < m → ofO rows i j = none → matB rows = false := fun i j hi hj ho => matB_no fun h => by
        have hir : i < rows.length := by rw [HL.out]; exact hi
        have hjr : j < rows[i].length := by rw [hall _ (List.getElem_mem hir)]; exact hj
        have := (h.2.2 _ (List.getElem_mem hir)).2 _ (List.getElem_mem hjr)
        unfold ofO at ho
        rw [at2_eq hir hjr, if_pos this] at ho
        cases ho
      have HAT2 := Lib.hid hat2
      have hmf2 : Hid (∀ (i j : Nat) (W' : World), i < k → j < m → Below W.heap.size W W' → Calls Try.prog 126 (#[.int .i64 (i : Int), .int .i64 (j : Int)] ++ #[.pointer (some ⟨w.heap.size, 0, none⟩)]) W' (AtE W' (ofO rows i j))) := Lib.hid fun i j W' hi hj hb =>
        matrixOf1_any w.heap.size (some x) c k rows i j W' ((hb.cell (p := ⟨w.heap.size, 0, none⟩) (by show w.heap.size < W.heap.size; omega)).trans HBOX.out) (by have := hb.size; omega) (HSW.out.below hb) hi fun h => by rw [hall _ (List.getElem_mem h)]; exact hj
      clear hW hall hat2
      by_cases hz : m = 0
      · subst hz
        have HN : Hid (matB rows = false) := Lib.hid (matB_no fun h => by have := HM.out; omega)
        go_wp2_with fail
        rw [HW.out]
        refine (matrixBy_bare _ _ k W (by omega) (fun _ _ => by go_simp)).mono ?_
        rintro e w2 ⟨rfl, hb2⟩
        have HB2 := Lib.hid (HBW.out.trans (hb2.mono HBW.out.size))
        have HR2 := Lib.hid ((hb2.block _ (by omega)).trans HRES.out)
        clear hb2
        go_wp2_with (refine wpList_store_mat rfl _ _ rfl (w.heap.size + 1) (fun _ => none) (fun _ => none) rfl rfl HR2.out ?_; intro w3 hp3)
        have hld := loadM hp3.heap
        refine bodyPost_ret (v := .agg (mC fun _ => none)) ?_ rfl (MatR.no HN.out (hp3.below HB2.out (by omega)))
        simp [results, Try.results83, Act.put, asAddr, hld]
      · go_wp2_with fail
        rw [HW.out]
        refine (matrixBy_any _ _ k m (ofO rows) W (by omega) (by omega) (by omega) (fun _ _ => by go_simp) hmf2.out).mono ?_
        rintro e w2 ⟨⟨⟨i, j, hi, hj, ho⟩, rfl⟩ | ⟨g, P, pv, hP, rfl, hMW⟩, hb2⟩
        · have HN : Hid (matB rows = false) := Lib.hid (HAT2.out i j hi hj ho)
          have HB2 := Lib.hid (HBW.out.trans (hb2.mono HBW.out.size))
          have HR2 := Lib.hid ((hb2.block _ (by omega)).trans HRES.out)
          clear hb2 ho
          go_wp2_with (refine wpList_store_mat rfl _ _ rfl (w.heap.size + 1) (fun _ => none) (fun _ => none) rfl rfl HR2.out ?_; intro w3 hp3)
          have hld := loadM hp3.heap
          refine bodyPost_ret (v := .agg (mC fun _ => none)) ?_ rfl (MatR.no HN.out (hp3.below HB2.out (by omega)))
          simp [results, Try.results83, Act.put, asAddr, hld]
        · have hY : matB rows = true := matB_iff.2 ⟨⟨by have := HL.out; omega, by have := HL.out; omega⟩, ⟨by have := HM.out; omega, by have := HM.out; omega⟩, fun r hr => ⟨by rw [HALL.out r hr, HM.out], fun p hp => by
            obtain ⟨i, hi, rfl⟩ := List.getElem_of_mem hr
            obtain ⟨j, hj, rfl⟩ := List.getElem_of_mem hp
            have h1 := hP i j (by rw [← HL.out]; exact hi) (by rw [← HALL.out _ hr]; exact hj)
            unfold ofO at h1
            rw [at2_eq hi hj] at h1
            split at h1
            · assumption
            · cases h1⟩⟩
          have hM2 := hMW.congr (Q := at2 rows) fun i j hi hj => by
            have h1 := hP i j hi hj
            unfold ofO at h1
            split at h1
            · exact (Option.some.inj h1).symm
            · cases h1
          have HY := Lib.hid hY
          have HMW := Lib.hid hM2
          have HB2 := Lib.hid (HBW.out.trans (hb2.mono HBW.out.size))
          have HR2 := Lib.hid ((hb2.block _ (by omega)).trans HRES.out)
          clear hb2 hP hMW hM2 hY
          go_wp2_with (refine wpList_store_mat rfl _ _ rfl (w.heap.size + 1) (fun _ => none) g rfl rfl HR2.out ?_; intro w3 hp3)
          have hld := loadM hp3.heap
          have hR : MatR w rows (.returned (.agg (mC g))) w3 := ⟨.inl ⟨HY.out, g, pv, rfl, by rw [HL.out, HM.out]; exact (HMW.out.put hp3 (by omega)).mono (by omega)⟩, hp3.below HB2.out (by omega)⟩
          refine bodyPost_ret (v := .agg (mC g)) ?_ rfl hR
          simp [results, Try.results83, Act.put, asAddr, hld]

end Go.Proofs.Ytakfobihakbefaa

/- The program's columns; a matrix compared with the empty one; MatrixIn. -/

namespace Go.Proofs.Ytakfobihakbefaa
open Go.RowKit

theorem flipG_at (g : Nat → Option Addr) {i k : Nat} (hi : i < 4) (_hk : k < 4) : flipG g (k * 4 + i) = g (i * 4 + k) := by
  unfold flipG
  congr 1
  omega
theorem ShapeM.flip {g : Nat → Option Addr} {n m : Nat} (h : ShapeM g n m) : ShapeM (flipG g) m n := by
  have h1 := h.n4
  have h2 := h.m4
  have h3 := h.both
  refine ⟨h.m4, h.n4, by omega, fun k i hk hi => ?_, fun k i hk hi hno => ?_⟩
  · rw [flipG_at g (by omega) (by omega)]; exact h.yes i k hi hk
  · rw [flipG_at g hi hk]; exact h.no i k hi hk (by omega)
theorem ShapeM.none : ShapeM (fun _ => none) 0 0 := ⟨by omega, by omega, Iff.rfl, fun _ _ h => absurd h (Nat.not_lt_zero _), fun _ _ _ _ _ => rfl⟩

set_option maxRecDepth 100000 in
set_option maxHeartbeats 2000000 in
theorem columns_any (g : Nat → Option Addr) (n m : Nat) (hs : ShapeM g n m) (w : World) :
    Calls Try.prog 88 #[.agg (mC g)] w fun e w' => e = .returned (.int .i64 m) ∧ Below w.heap.size w w' := by
  have HS := Lib.hid hs
  clear hs
  go_enter Try.func88, Try.ntmps88
  go_wp2_with (refine wpList_load_mat rfl _ rfl w.heap.size g rfl (World.alloc_heap_new w _) ?_)
  refine (flipped_any g _).mono ?_
  rintro e w1 ⟨rfl, hb1⟩
  have HB1 := Lib.hid (((Below.refl _ w).alloc (Nat.le_refl _) (.cells (mC g) MA)).trans (hb1.mono (by simp)))
  clear hb1
  go_wp2_with fail
  refine (rows_any (flipG g) m n HS.out.flip _).mono ?_
  rintro e w2 ⟨rfl, hb2⟩
  have HB2 := Lib.hid (HB1.out.trans (hb2.mono HB1.out.size))
  clear hb2
  go_wp2
  go_ret
  exact ⟨rfl, HB2.out⟩

theorem mat_yes (w : World) : (Op.equalIn 10000 MA (.agg (mC fun _ => none)) (.agg #[.pointer none, .pointer none, .pointer none, .pointer none, .pointer none, .pointer none, .pointer none, .pointer none, .pointer none, .pointer none, .pointer none, .pointer none, .pointer none, .pointer none, .pointer none, .pointer none])).run Try.prog w = .ok true w := by
  show (Op.equalIn 10000 MA (.agg (mC fun _ => none)) (.agg (mC fun _ => none))).run Try.prog w = .ok true w
  rw [mat_eq 9997 w fun _ => none]
  rfl
theorem mat_no {g : Nat → Option Addr} {n m : Nat} (hs : ShapeM g n m) (hn : 0 < n) (w : World) : (Op.equalIn 10000 MA (.agg (mC g)) (.agg #[.pointer none, .pointer none, .pointer none, .pointer none, .pointer none, .pointer none, .pointer none, .pointer none, .pointer none, .pointer none, .pointer none, .pointer none, .pointer none, .pointer none, .pointer none, .pointer none])).run Try.prog w = .ok false w := by
  show (Op.equalIn 10000 MA (.agg (mC g)) (.agg (mC fun _ => none))).run Try.prog w = .ok false w
  rw [mat_eq 9997 w g]
  have hm : 0 < m := by have := hs.both; omega
  obtain ⟨p, hp⟩ := hs.yes 0 0 hn hm
  have e : (List.range 16).all (fun i => (g i).isNone) = false := by
    rw [List.all_eq_false]
    exact ⟨0, by simp, by rw [show g 0 = some p from hp]; simp⟩
  rw [e]

set_option maxRecDepth 100000 in
set_option maxHeartbeats 2000000 in
theorem iMatrixIn_any (a : Option Addr) (c n : Nat) (rows : Mx) (b : Bool) (w : World) (hs : IsPSS w a n rows) (hb : matB rows = b) :
    Calls Try.prog 32 #[.slice a n c] w fun e w' => e = .returned (.bool b) ∧ Below w.heap.size w w' := by
  have HS := Lib.hid hs
  have HB := Lib.hid hb
  clear hs hb
  go_enter Try.func32, Try.ntmps32
  go_wp2_with fail
  refine (matrixOf_any a c n rows w HS.out).mono ?_
  rintro e w1 ⟨⟨hy, g, pv, rfl, hM⟩ | ⟨hn, rfl⟩, hb1⟩
  · have hq := mat_no hM.shp (by have := (matB_iff.1 hy).1; omega)
    have HY := Lib.hid (show true = b by rw [← hy]; exact HB.out)
    have HB1 := Lib.hid hb1
    clear hM hb1 hy
    go_wp2
    go_ret
    exact ⟨by rw [← HY.out]; rfl, HB1.out⟩
  · have hq := mat_yes
    have HY := Lib.hid (show false = b by rw [← hn]; exact HB.out)
    have HB1 := Lib.hid hb1
    clear hb1 hn
    go_wp2
    go_ret
    exact ⟨by rw [← HY.out]; rfl, HB1.out⟩

end Go.Proofs.Ytakfobihakbefaa

/- The program's 'told' of a matrix. -/

namespace Go.Proofs.Ytakfobihakbefaa
open Go.RowKit Go.Shelf

def rowPv (P : Nat → Nat → Pl) (pv : Nat → Nat → Value) (j c : Nat) : List Pv := (List.range c).map fun k => ⟨P j k, pv j k⟩
theorem rowPv_len (P : Nat → Nat → Pl) (pv : Nat → Nat → Value) (j c : Nat) : (rowPv P pv j c).length = c := by simp [rowPv]
theorem rowPv_get (P : Nat → Nat → Pl) (pv : Nat → Nat → Value) (j c k : Nat) (h : k < c) : (rowPv P pv j c)[k]'(by rw [rowPv_len]; exact h) = ⟨P j k, pv j k⟩ := by simp [rowPv]
theorem rowPv_succ (P : Nat → Nat → Pl) (pv : Nat → Nat → Value) (j c : Nat) : cellsP (rowPv P pv j (c + 1)) = cellsP (rowPv P pv j c) ++ [.int .i64 (P j c).low, pv j c] := by
  unfold rowPv
  rw [List.range_succ, List.map_append, cellsP_append]
  rfl
def cntT (m i k j : Nat) : Nat := if j < i then m else if j = i then k else 0
/-- The rows that were told so far, in the block B. -/
structure TellAt (w : World) (B n m i k : Nat) (P : Nat → Nat → Pl) (pv : Nat → Nat → Value) (us : Nat → Value) (wr : World) : Prop where
  below : Below w.heap.size w wr
  base : w.heap.size ≤ B
  row : wr.ownsRow w.heap.size PR 1 (.slice (some ⟨B, 0, none⟩) n n) n ((List.range n).map us)
  each : ∀ j, j < n → wr.ownsRow w.heap.size PO 2 (us j) (cntT m i k j) (cellsP (rowPv P pv j (cntT m i k j)))
  apart : ∀ j l b, j < n → l < n → j ≠ l → (us j).ownBlock = some b → (us l).ownBlock = some b → False
  head : ∀ j, j < n → (us j).ownBlock ≠ some B
theorem TellAt.row_done {w wr : World} {B n m i : Nat} {P : Nat → Nat → Pl} {pv : Nat → Nat → Value} {us : Nat → Value} (h : TellAt w B n m i m P pv us wr) : TellAt w B n m (i + 1) 0 P pv us wr :=
  ⟨h.below, h.base, h.row, fun j hj => by
    have := h.each j hj
    have e : cntT m (i + 1) 0 j = cntT m i m j := by
      unfold cntT
      repeat' split
      all_goals omega
    rw [e]
    exact this, h.apart, h.head⟩
theorem TellAt.bel {w wr w2 : World} {B n m i k : Nat} {P : Nat → Nat → Pl} {pv : Nat → Nat → Value} {us : Nat → Value} (h : TellAt w B n m i k P pv us wr) (hb : Below wr.heap.size wr w2) : TellAt w B n m i k P pv us w2 :=
  ⟨h.below.trans (hb.mono h.below.size), h.base, ownsRow_bel h.row hb, fun j hj => ownsRow_bel (h.each j hj) hb, h.apart, h.head⟩
theorem TellAt.start {w w1 w2 : World} {n m : Nat} {P : Nat → Nat → Pl} {pv : Nat → Nat → Value} (hb1 : Below w.heap.size w w1) (hb2 : Below w1.heap.size w1 w2) (hrow : w2.ownsRow w1.heap.size PR 1 (.slice (some ⟨w1.heap.size, 0, none⟩) n n) n (List.replicate n (.slice none 0 0))) : TellAt w w1.heap.size n m 0 0 P pv (fun _ => .slice none 0 0) w2 := by
  refine ⟨hb1.trans (hb2.mono hb1.size), hb1.size, by rw [List.map_const', List.length_range]; exact ownsRow_base hrow hb1.size, fun j _ => ?_, fun _ _ _ _ _ _ e => ?_, fun _ _ e => ?_⟩
  · have e : cntT m 0 0 j = 0 := by
      unfold cntT
      rw [if_neg (Nat.not_lt_zero _)]
      split <;> rfl
    rw [e]
    exact ⟨rfl, .inl ⟨rfl, rfl⟩⟩
  · cases e
  · cases e
/-- One polynomial more. -/
theorem TellAt.next {w wr wA w2 : World} {B n m i k g1 : Nat} {P : Nat → Nat → Pl} {pv : Nat → Nat → Value} {us : Nat → Value} {u2 : Value} (h : TellAt w B n m i k P pv us wr) (hi : i < n) (hb : Below wr.heap.size wr wA)
    (hown : w2.ownsRow w.heap.size PO 2 u2 (k + 1) (cellsP (rowPv P pv i k) ++ [.int .i64 (P i k).low, pv i k])) (hg : wA.grownBy w2 (us i).ownBlock) (hu : u2.ownBlock = some g1) (hat : (us i).ownBlock = some g1 ∨ wr.heap.size ≤ g1) :
    TellAt w B n m i (k + 1) P pv (fun j => if j = i then u2 else us j) (w2.setCell ⟨B, i, none⟩ u2) := by
  have hBl := (ownsRow_lt h.row B rfl).2
  have hlt : ∀ j, j < n → ∀ b, (us j).ownBlock = some b → b < wr.heap.size := fun j hj b e => (ownsRow_lt (h.each j hj) b e).2
  have hgB : g1 ≠ B := by
    rcases hat with e | e
    · intro e2; exact h.head i hi (by rw [e, e2])
    · omega
  have hrow2 : w2.ownsRow w.heap.size PR 1 (.slice (some ⟨B, 0, none⟩) n n) n ((List.range n).map us) := ownsRow_touched (ownsRow_bel h.row hb) fun b hb2 hl => by
    have e : b = B := by simpa [Value.ownBlock] using hb2.symm
    subst e
    exact hg.block b hl fun e => h.head i hi e.symm
  have hkeep : ∀ {e : TypeId} {sz N : Nat} {v : Value} {xs : List Value}, w2.ownsRow w.heap.size e sz v N xs → v.ownBlock ≠ some B → (w2.setCell ⟨B, i, none⟩ u2).ownsRow w.heap.size e sz v N xs := fun hv hne => ownsRow_touched hv fun b hb2 _ => heap_off w2 _ _ fun e => hne (by rw [hb2, e])
  refine ⟨?_, h.base, ?_, fun j hj => ?_, fun j l b hj hl hne h1 h2 => ?_, fun j hj => ?_⟩
  · exact (((h.below.trans (hb.mono h.below.size)).grown hg (Nat.le_trans h.below.size hb.size) fun b e => (ownsRow_lt (h.each i hi) b e).1)).setCell (p := ⟨B, i, none⟩) h.base u2
  · have e : (List.range n).map (fun j => if j = i then u2 else us j) = ((List.range n).map us).set i u2 := by
      apply List.ext_getElem (by simp)
      intro j h1 h2
      rw [List.getElem_set]
      simp only [List.getElem_map, List.getElem_range]
      by_cases e : i = j
      · rw [if_pos e, if_pos e.symm]
      · rw [if_neg e, if_neg fun e2 => e e2.symm]
    rw [e]
    exact (hrow2.stored i u2).1
  · by_cases e : j = i
    · subst e
      have ec : cntT m j (k + 1) j = k + 1 := by unfold cntT; rw [if_neg (Nat.lt_irrefl _), if_pos rfl]
      rw [ec, if_pos rfl, rowPv_succ]
      exact hkeep hown fun e => hgB (by rw [hu] at e; exact Option.some.inj e)
    · have ec : cntT m i (k + 1) j = cntT m i k j := by unfold cntT; simp only [if_neg e]
      rw [ec, if_neg e]
      refine hkeep (ownsRow_touched (ownsRow_bel (h.each j hj) hb) fun b hb2 hl => hg.block b hl fun e2 => h.apart j i b hj hi e hb2 e2.symm) (h.head j hj)
  · have hnew : ∀ l, l < n → l ≠ i → ∀ b, (us l).ownBlock = some b → u2.ownBlock = some b → False := fun l hl hne b e1 e2 => by
      rw [hu] at e2
      obtain rfl : g1 = b := Option.some.inj e2
      rcases hat with e | e
      · exact h.apart l i g1 hl hi hne e1 e
      · have := hlt l hl g1 e1; omega
    by_cases e1 : j = i
    · rw [if_pos e1] at h1
      rw [if_neg (by omega)] at h2
      exact hnew l hl (by omega) b h2 h1
    · rw [if_neg e1] at h1
      by_cases e2 : l = i
      · rw [if_pos e2] at h2
        exact hnew j hj e1 b h1 h2
      · rw [if_neg e2] at h2
        exact h.apart j l b hj hl hne h1 h2
  · by_cases e : j = i
    · rw [if_pos e, hu]; exact fun e => hgB (Option.some.inj e)
    · rw [if_neg e]; exact h.head j hj
def gridL (P : Nat → Nat → Pl) (n m : Nat) : Mx := (List.range n).map fun i => (List.range m).map (P i)
def rowsT (n m : Nat) (P : Nat → Nat → Pl) (pv : Nat → Nat → Value) (us : Nat → Value) : List Rv := (List.range n).map fun j => ⟨us j, rowPv P pv j m⟩
theorem rowsT_of (n m : Nat) (P : Nat → Nat → Pl) (pv : Nat → Nat → Value) (us : Nat → Value) : rowsOf (rowsT n m P pv us) = gridL P n m := by
  unfold rowsOf rowsT gridL rowPv
  simp
/-- All rows are told. -/
theorem TellAt.done {lo : Nat} {w wr : World} {B n m : Nat} {g : Nat → Option Addr} {P : Nat → Nat → Pl} {pv : Nat → Nat → Value} {us : Nat → Value} (h : TellAt w B n m n 0 P pv us wr) (hM : MatW lo w g n m P pv) (hlo : lo ≤ w.heap.size) : OwnM lo wr (.slice (some ⟨B, 0, none⟩) n n) (rowsT n m P pv us) := by
  have hlen : (rowsT n m P pv us).length = n := by simp [rowsT]
  have hget : ∀ j (hj : j < (rowsT n m P pv us).length), (rowsT n m P pv us)[j] = ⟨us j, rowPv P pv j m⟩ := fun j hj => by simp [rowsT]
  have hpv : ∀ j, j < n → ∀ k, k < m → IntRow lo wr (pv j k) (P j k).cs ∧ ∀ b, (pv j k).ownBlock = some b → b < w.heap.size := fun j hj k hk => by
    obtain ⟨_, _, _, _, _, _, q⟩ := hM.at_ j k hj hk
    exact ⟨ownsRow_touched q fun b _ hl => h.below.block b hl, fun b e => (ownsRow_lt q b e).2⟩
  have hus : ∀ j, j < n → wr.ownsRow w.heap.size PO 2 (us j) m (cellsP (rowPv P pv j m)) := fun j hj => by
    have := h.each j hj
    have e : cntT m n 0 j = m := by unfold cntT; rw [if_pos hj]
    rw [e] at this
    exact this
  have hfoot : ∀ j, j < n → ∀ b, FootR (us j) (rowPv P pv j m) b → ((us j).ownBlock = some b ∧ w.heap.size ≤ b) ∨ (∃ k, k < m ∧ (pv j k).ownBlock = some b ∧ b < w.heap.size) := fun j hj b hb => by
    rcases hb with hb | ⟨k, hk, hb⟩
    · exact .inl ⟨hb, (ownsRow_lt (hus j hj) b hb).1⟩
    · rw [rowPv_len] at hk
      rw [rowPv_get P pv j m k hk] at hb
      exact .inr ⟨k, hk, hb, (hpv j hj k hk).2 b hb⟩
  refine ⟨?_, fun j hj => ?_, fun j hj b hb1 hb2 => ?_, fun j l hj hl b hne h1 h2 => ?_⟩
  · rw [hlen]
    have e : (rowsT n m P pv us).map (·.u) = (List.range n).map us := by simp [rowsT]
    rw [e]
    exact ownsRow_base h.row hlo
  · rw [hget j hj]
    rw [hlen] at hj
    refine ⟨by rw [rowPv_len]; exact ownsRow_base (hus j hj) hlo, fun k hk => ?_, fun k hk b hb1 hb2 => ?_, fun k l hk hl b hne h1 h2 => ?_⟩
    · rw [rowPv_len] at hk
      rw [rowPv_get P pv j m k hk]
      exact (hpv j hj k hk).1
    · rw [rowPv_len] at hk
      rw [rowPv_get P pv j m k hk] at hb2
      have := (hpv j hj k hk).2 b hb2
      have := (ownsRow_lt (hus j hj) b hb1).1
      omega
    · rw [rowPv_len] at hk hl
      rw [rowPv_get P pv j m k hk] at h1
      rw [rowPv_get P pv j m l hl] at h2
      exact hM.apart j k j l b hj hk hj hl (by omega) h1 h2
  · rw [hget j hj] at hb2
    rw [hlen] at hj
    have e : b = B := by simpa [Value.ownBlock] using hb1.symm
    subst e
    rcases hfoot j hj b hb2 with ⟨e, _⟩ | ⟨k, _, _, e⟩
    · exact h.head j hj e
    · have := h.base; omega
  · rw [hget j hj] at h1
    rw [hget l hl] at h2
    rw [hlen] at hj hl
    rcases hfoot j hj b h1 with ⟨e1, q1⟩ | ⟨k, hk, e1, q1⟩
    · rcases hfoot l hl b h2 with ⟨e2, q2⟩ | ⟨k2, _, _, q2⟩
      · exact h.apart j l b hj hl hne e1 e2
      · omega
    · rcases hfoot l hl b h2 with ⟨e2, q2⟩ | ⟨k2, hk2, e2, q2⟩
      · omega
      · exact hM.apart j k l k2 b hj hk hl hk2 (by omega) e1 e2

end Go.Proofs.Ytakfobihakbefaa

/- The program's 'told' of a matrix: its contract. -/

namespace Go.Proofs.Ytakfobihakbefaa
open Go.RowKit Go.Shelf

set_option maxRecDepth 100000 in
set_option maxHeartbeats 2000000 in
theorem toldM_none (w : World) :
    Calls Try.prog 87 #[.agg (mC fun _ => none)] w fun e w' => e = .returned (.tuple #[.slice none 0 0, .bool false]) ∧ Below w.heap.size w w' := by
  have hq := mat_yes
  go_enter Try.func87, Try.ntmps87
  go_wp2_with (refine wpList_load_mat rfl _ rfl w.heap.size (fun _ => none) rfl (World.alloc_heap_new w _) ?_)
  go_ret2
  exact ⟨rfl, (Below.refl _ w).alloc (Nat.le_refl _) _⟩

set_option maxRecDepth 100000 in
set_option maxHeartbeats 8000000 in
theorem toldM_any (g : Nat → Option Addr) (n m lo : Nat) (P : Nat → Nat → Pl) (pv : Nat → Nat → Value) (w : World) (h : MatW lo w g n m P pv) (hlo : lo ≤ w.heap.size) (hn : 0 < n) :
    Calls Try.prog 87 #[.agg (mC g)] w fun e w' => ∃ v rs, e = .returned (.tuple #[v, .bool true]) ∧ OwnM lo w' v rs ∧ rowsOf rs = gridL P n m ∧ Below w.heap.size w w' := by
  obtain ⟨i0, hi, hz0, hz1, hz2⟩ := info_parts infoPolyS
  have hq := mat_no h.shp hn
  have hmx : Try.prog.follows .mixedOrders = true := by kernel_rfl
  obtain ⟨W, hW⟩ : ∃ W, w.alloc (.cells (mC g) MA) = W := ⟨_, rfl⟩
  have hbW : Below w.heap.size w W := by rw [← hW]; exact (Below.refl _ w).alloc (Nat.le_refl _) _
  have hsz : W.heap.size = w.heap.size + 1 := by rw [← hW]; simp
  have hbox : W.heap[w.heap.size]? = some (.cells (mC g) MA (0, 0)) := by rw [← hW]; exact World.alloc_heap_new w _
  have hn4 := h.shp.n4
  have hm4 := h.shp.m4
  have HBOX := Lib.hid hbox
  have HM := Lib.hid h
  have HBW := Lib.hid hbW
  have HW := Lib.hid hW
  clear hbW hbox h hW
  go_enter Try.func87, Try.ntmps87
  go_wp2_with (refine wpList_load_mat rfl _ rfl w.heap.size g rfl (World.alloc_heap_new w _) ?_)
  rw [HW.out]
  refine (rows_any g n m HM.out.shp W).mono ?_
  rintro e w1 ⟨rfl, hb1⟩
  have hs1 := hb1.size
  go_wp2_with (at_make; refine wpList_make_full _ rfl _ _ 33 rfl w1.heap.size PR i0 (.slice none 0 0) 1 Try.underlying33 hi hz0 hz1 .i64 .i64 _ _ n rfl rfl rfl rfl (by rw [hz2]; omega) (by unfold maxLen; omega) (Nat.le_refl _) ?_; intro w2 hrow hgrow)
  rw [show Value.cells (.slice none 0 0) = #[.slice none 0 0] from rfl, toList_madeCells_one, Nat.mul_one] at hrow
  have hB2 : Below w1.heap.size w1 w2 := (Below.refl _ _).grown hgrow (Nat.le_refl _) (fun k e => by cases e)
  have HT0 : Hid (TellAt W w1.heap.size n m 0 0 P pv (fun _ => .slice none 0 0) w2) := Lib.hid (TellAt.start hb1 hB2 hrow)
  clear hrow hgrow hB2 hb1
  go_wp2
  go_loopw [16] (fun x wr => ∃ (i : Nat) (us : Nat → Value), i ≤ n ∧ x = .int .i64 i ∧ Hid (TellAt W w1.heap.size n m i 0 P pv us wr)) (fun x _ => n - (intOf x).toNat)
  case atStart => exact ⟨0, _, Nat.zero_le _, rfl, HT0⟩
  case round =>
    obtain ⟨i, us, hin, rfl, HT⟩ := hrel
    obtain ⟨wo, rfl⟩ : ∃ wo, wr = wo := ⟨_, rfl⟩
    by_cases hlt : i < n
    · have HBX := Lib.hid ((HT.out.below.block w.heap.size (by omega)).trans HBOX.out)
      have HSH := Lib.hid HM.out.shp
      have hi4 : (i : Int) < 4 := by omega
      have hm4i : (m : Int) ≤ 4 := by omega
      have HCOL : Hid (∀ p : BelowBy wr, Calls Try.prog 88 #[.agg (mC g)] p.world fun e w' => e = .returned (.int .i64 m) ∧ Below p.world.heap.size p.world w') := Lib.hid fun p => columns_any g n m HSH.out p.world
      go_wp2
      refine wp_region_below hmx (by kernel_rfl) ?_
      repeat (first
        | (refine wpQuiet_load_mat rfl _ rfl w.heap.size g rfl HBX.out ?_)
        | ((with_reducible refine wpQuiet_step (fun K hK => ?_)); go_simp; first | ((with_reducible refine hK _ ?_); clear hK K) | (refine (if_neg (by decide)).mpr ?_; (with_reducible refine hK _ ?_); clear hK K) | (apply Exists.intro; (with_reducible refine ⟨fun _ => ?_, hK _ ?_⟩); (go_at_call 88; exact Calls.bel (HCOL.out _)); clear hK K)))
      with_reducible refine wpQuiet_nil ?_
      rintro _ ⟨⟨V, hV⟩, rfl⟩
      have HV := Lib.hid (HT.out.bel hV)
      clear hV
      go_wp2
      go_loopw [25] (fun x wr => ∃ (k : Nat) (us : Nat → Value), k ≤ m ∧ x = .int .i64 k ∧ Hid (TellAt W w1.heap.size n m i k P pv us wr)) (fun x _ => m - (intOf x).toNat)
      case atStart => exact ⟨0, _, Nat.zero_le _, rfl, HV⟩
      case round =>
        obtain ⟨k, us, hkm, rfl, HI⟩ := hrel
        by_cases hkt : k < m
        · obtain ⟨jb, hgj, hj1, hj2, hj3w, hj4w, hj5⟩ := HM.out.at_ i k hlt hkt
          have hbw : Below w.heap.size w wr := HBW.out.trans (HI.out.below.mono HBW.out.size)
          have hj3 := (hbw.cell (p := ⟨jb, 0, none⟩) hj2).trans hj3w
          have hj4 := (hbw.cell (p := ⟨jb, 1, none⟩) hj2).trans hj4w
          have hjr : jb < wr.heap.size := Nat.lt_of_lt_of_le hj2 hbw.size
          obtain ⟨hq0, _⟩ := cell_of16 ((HI.out.below.block w.heap.size (by omega)).trans HBOX.out) (i := i) (k := k) (by omega) (by omega)
          rw [hgj] at hq0
          obtain ⟨av, gv, cv, hpv, _, _, _⟩ := hj5.shape
          have hui := HI.out.each i hlt
          have eci : cntT m i k i = k := by
            unfold cntT
            rw [if_neg (Nat.lt_irrefl _), if_pos rfl]
          rw [eci] at hui
          obtain ⟨ai, ci, hus⟩ : ∃ ai ci, us i = .slice ai k ci := by
            rcases hui.2 with ⟨e, e0⟩ | ⟨g, cap, cur, e, _⟩
            · exact ⟨none, 0, by rw [e, e0]⟩
            · exact ⟨_, _, e⟩
          have hcl : wr.cell? ⟨w1.heap.size, i, none⟩ = some (.slice ai k ci) := by
            rw [HI.out.row.cellAt i (by omega), List.getElem?_map, List.getElem?_range hlt, Option.map_some, hus]
          have hfz := HI.out.row.frozenAt i
          have hBl := (ownsRow_lt HI.out.row w1.heap.size rfl).2
          rw [hus] at hui
          obtain ⟨N, hN⟩ : ∃ N, (P i k).cs.length = N := ⟨_, rfl⟩
          rw [hN] at hpv
          rw [hpv] at hj4
          have HU := Lib.hid hui
          have HUS := Lib.hid hus
          have HPV := Lib.hid hpv
          have hk63 : k ≤ 4 := by omega
          have HROW : Hid (∀ b, (Value.slice ai k ci).ownBlock = some b → W.heap.size ≤ b) := Lib.hid fun b e => (ownsRow_lt HU.out b e).1
          have HNB : Hid ((Value.slice ai k ci).ownBlock ≠ some w1.heap.size) := Lib.hid (by rw [← HUS.out]; exact HI.out.head i hlt)
          have hbA := ((Below.refl wr.heap.size wr).alloc (Nat.le_refl _) (.cells #[.int .i64 (P i k).low, .slice av N cv] PO)).drew
          have HBA := Lib.hid hbA
          have hWr : W.heap.size ≤ wr.heap.size := HI.out.below.size
          obtain ⟨p0, hp0, hp1, hp2, hp3⟩ := info_parts infoPoly
          have hwr : wr.drew.heap.size = wr.heap.size := rfl
          clear hui hus hj5 hpv hgj eci hN hbA hj3w hj4w hbw
          go_wp2_with fail
          go_region_law
            ((refine step_append_lies _ (by rfl) _ _ _ (by rfl) W.heap.size PO p0 _ 2 32 Try.underlying38 hp0 hp1 hp2 hp3 rfl (by omega) (.slice ai k ci) k (cellsP (rowPv P pv i k)) (by rfl) ((HU.out.alloc _).drew)
                ⟨wr.heap.size, 0, none⟩ 1 1 [.int .i64 (P i k).low, .slice av N cv] (by rfl) (by rfl) (World.news_of_block (cs := #[.int .i64 (P i k).low, .slice av N cv]) (t := PO) (fr := (0, 0)) (heap_alloc_new wr _)) (by simp [Value.oneCell']) (by omega) (by unfold maxLen; omega) (by omega) (by simp; omega) (wr.heap.size + 1) (by simp) ?_; intro g1 cap1 w3 hown hgrow hat hlt3
              have k0 := (hgrow.cell_far ⟨w1.heap.size, i, none⟩ (Nat.lt_of_lt_of_le hBl HBA.out.size) (fun e => HNB.out e.symm)).trans ((HBA.out.cell (p := ⟨w1.heap.size, i, none⟩) hBl).trans hcl)
              have k3 : w3.frozen? ⟨w1.heap.size, i, none⟩ = false := (hgrow.frozen_far ⟨w1.heap.size, i, none⟩ (Nat.lt_of_lt_of_le hBl HBA.out.size) (fun e => HNB.out e.symm)).trans ((HBA.out.frozen (p := ⟨w1.heap.size, i, none⟩) hBl).trans hfz)
              have HN := Lib.hid (HI.out.next hlt HBA.out (by rw [HPV.out]; exact hown) (by rw [HUS.out]; exact hgrow) rfl (hat.elim (fun e => .inl (by rw [HUS.out]; exact e)) fun e => .inr (by rw [e]; exact Nat.le_succ _)))
              clear hown hgrow hat hlt3))
          all_goals
            go_wp2
            go_roundw
            case rel => exact ⟨k + 1, _, by omega, by go_num, HN⟩
            case measure => simp [intOf]; omega
        · obtain rfl : k = m := by omega
          go_wp2
          go_roundw
          case rel => exact ⟨i + 1, us, by omega, by go_num, Lib.hid HI.out.row_done⟩
          case measure => simp [intOf]; omega
    · obtain rfl : i = n := by omega
      go_wp2
      go_ret2
      exact ⟨_, _, rfl, HT.out.done (HM.out.below HBW.out) (by omega), rowsT_of _ _ _ _ _, HBW.out.trans (HT.out.below.mono HBW.out.size)⟩

end Go.Proofs.Ytakfobihakbefaa

/- The program's withoutRow and cut. -/

namespace Go.Proofs.Ytakfobihakbefaa
open Go.RowKit Go.Shelf

abbrev RS : TypeId := 125
theorem run_copy_rows (w : World) (ty : TypeId) (B o dLen dCap : Nat) (a : Addr) (sLen sCap : Nat) (cur : Array Value) (t : TypeId) (cs : List Value)
    (hg : w.heap[B]? = some (.cells cur t (0, 0))) (hn : cs.length = Nat.min sLen dLen * 4)
    (hsrc : ∀ j v, cs[j]? = some v → w.cell? (a.add j) = some v) (hfit : o + cs.length ≤ cur.size) (h1 : ∀ v ∈ cs, v.oneCell' = true) :
    (Builtin.copy_ #[RS, RS] ty #[.slice (some ⟨B, o, none⟩) dLen dCap, .slice (some a) sLen sCap]).run Try.prog w =
      .ok (goInt (Nat.min sLen dLen)) (w.setRow B (cur.toList.take o ++ cs ++ cur.toList.drop (o + cs.length)).toArray) := by
  have hu : Try.prog.underlying RS = some (.slice RA) := by kernel_rfl
  have hz : (sizeOf RA).run Try.prog w = .ok 4 w := by kernel_rfl
  have hl := run_loadCells_list (P := Try.prog) w a cs hsrc
  have hst := run_storeCells_at Try.prog B o t cs 0 cur w hg (by simpa using hfit) h1
  rw [hn] at hl
  simp [Builtin.copy_, run_underlying hu, Builtin.lenOf, Builtin.firstCells, hz, hl, hst]
/-- The rows behind the row i moved to the front. -/
def shiftG (g : Nat → Option Addr) (i j : Nat) : Option Addr := if j / 4 < i then g j else if j / 4 < 3 then g (j + 4) else g j
def dropG (g : Nat → Option Addr) (i j : Nat) : Option Addr := if j / 4 < i then g j else if j / 4 < 3 then g (j + 4) else none
theorem putM_of {w : World} {B : Nat} {k : Nat → Option Addr} {cs : Array Value} {g : Nat → Option Addr} (h : w.heap[B]? = some (.cells (mC g) MA (0, 0))) (e : cs = mC k) : PutM w (w.setRow B cs) B k := by
  subst e
  refine ⟨rfl, rfl, rfl, by simp [World.setRow], ?_, fun b hb => ?_⟩
  · simp only [World.setRow, Array.getElem?_modify, if_true, h]
    rfl
  · simp only [World.setRow, Array.getElem?_modify]
    rw [if_neg (fun e => hb e.symm)]
theorem copyM0 {w : World} {B : Nat} {g : Nat → Option Addr} (ty : TypeId) (h : w.heap[B]? = some (.cells (mC g) MA (0, 0))) :
    ∃ w2, (Builtin.copy_ #[RS, RS] ty #[.slice (some ⟨B, 0, none⟩) 4 4, .slice (some ⟨B, 4, none⟩) 3 3]).run Try.prog w = .ok (goInt 3) w2 ∧ PutM w w2 B (shiftG g 0) := by
  refine ⟨_, run_copy_rows w ty B 0 4 4 ⟨B, 4, none⟩ 3 3 (mC g) MA [.pointer (g 4), .pointer (g 5), .pointer (g 6), .pointer (g 7), .pointer (g 8), .pointer (g 9), .pointer (g 10), .pointer (g 11), .pointer (g 12), .pointer (g 13), .pointer (g 14), .pointer (g 15)] h rfl (fun j v hj => ?_) (by simp [mC]) (fun v hv => ?_), putM_of h (by simp [mC, shiftG])⟩
  · have hj2 : j < 12 := by have := (List.getElem?_eq_some_iff.1 hj).1; simpa using this
    have e : (⟨B, 4, none⟩ : Addr).add j = ⟨B, 4 + j, none⟩ := by unfold Addr.add; split <;> simp_all
    rw [e]
    have hx : j = 0 ∨ j = 1 ∨ j = 2 ∨ j = 3 ∨ j = 4 ∨ j = 5 ∨ j = 6 ∨ j = 7 ∨ j = 8 ∨ j = 9 ∨ j = 10 ∨ j = 11 := by omega
    rcases hx with rfl | rfl | rfl | rfl | rfl | rfl | rfl | rfl | rfl | rfl | rfl | rfl <;> (simp at hj; subst hj; simp [World.cell?, h, mC])
  · simp at hv
    rcases hv with rfl | rfl | rfl | rfl | rfl | rfl | rfl | rfl | rfl | rfl | rfl | rfl <;> rfl
theorem copyM1 {w : World} {B : Nat} {g : Nat → Option Addr} (ty : TypeId) (h : w.heap[B]? = some (.cells (mC g) MA (0, 0))) :
    ∃ w2, (Builtin.copy_ #[RS, RS] ty #[.slice (some ⟨B, 4, none⟩) 3 3, .slice (some ⟨B, 8, none⟩) 2 2]).run Try.prog w = .ok (goInt 2) w2 ∧ PutM w w2 B (shiftG g 1) := by
  refine ⟨_, run_copy_rows w ty B 4 3 3 ⟨B, 8, none⟩ 2 2 (mC g) MA [.pointer (g 8), .pointer (g 9), .pointer (g 10), .pointer (g 11), .pointer (g 12), .pointer (g 13), .pointer (g 14), .pointer (g 15)] h rfl (fun j v hj => ?_) (by simp [mC]) (fun v hv => ?_), putM_of h (by simp [mC, shiftG])⟩
  · have hj2 : j < 8 := by have := (List.getElem?_eq_some_iff.1 hj).1; simpa using this
    have e : (⟨B, 8, none⟩ : Addr).add j = ⟨B, 8 + j, none⟩ := by unfold Addr.add; split <;> simp_all
    rw [e]
    have hx : j = 0 ∨ j = 1 ∨ j = 2 ∨ j = 3 ∨ j = 4 ∨ j = 5 ∨ j = 6 ∨ j = 7 := by omega
    rcases hx with rfl | rfl | rfl | rfl | rfl | rfl | rfl | rfl <;> (simp at hj; subst hj; simp [World.cell?, h, mC])
  · simp at hv
    rcases hv with rfl | rfl | rfl | rfl | rfl | rfl | rfl | rfl <;> rfl
theorem copyM2 {w : World} {B : Nat} {g : Nat → Option Addr} (ty : TypeId) (h : w.heap[B]? = some (.cells (mC g) MA (0, 0))) :
    ∃ w2, (Builtin.copy_ #[RS, RS] ty #[.slice (some ⟨B, 8, none⟩) 2 2, .slice (some ⟨B, 12, none⟩) 1 1]).run Try.prog w = .ok (goInt 1) w2 ∧ PutM w w2 B (shiftG g 2) := by
  refine ⟨_, run_copy_rows w ty B 8 2 2 ⟨B, 12, none⟩ 1 1 (mC g) MA [.pointer (g 12), .pointer (g 13), .pointer (g 14), .pointer (g 15)] h rfl (fun j v hj => ?_) (by simp [mC]) (fun v hv => ?_), putM_of h (by simp [mC, shiftG])⟩
  · have hj2 : j < 4 := by have := (List.getElem?_eq_some_iff.1 hj).1; simpa using this
    have e : (⟨B, 12, none⟩ : Addr).add j = ⟨B, 12 + j, none⟩ := by unfold Addr.add; split <;> simp_all
    rw [e]
    have hx : j = 0 ∨ j = 1 ∨ j = 2 ∨ j = 3 := by omega
    rcases hx with rfl | rfl | rfl | rfl <;> (simp at hj; subst hj; simp [World.cell?, h, mC])
  · simp at hv
    rcases hv with rfl | rfl | rfl | rfl <;> rfl
theorem copyM3 {w : World} {B : Nat} {g : Nat → Option Addr} (ty : TypeId) (h : w.heap[B]? = some (.cells (mC g) MA (0, 0))) :
    ∃ w2, (Builtin.copy_ #[RS, RS] ty #[.slice (some ⟨B, 12, none⟩) 1 1, .slice (some ⟨B, 0, none⟩) 0 0]).run Try.prog w = .ok (goInt 0) w2 ∧ PutM w w2 B (shiftG g 3) := by
  refine ⟨_, run_copy_rows w ty B 12 1 1 ⟨B, 0, none⟩ 0 0 (mC g) MA [] h rfl (fun j v hj => ?_) (by simp [mC]) (fun v hv => ?_), putM_of h (by simp [mC, shiftG])⟩
  · simp at hj
  · simp at hv
/-- The last row emptied. -/
theorem storeRow {w : World} {B : Nat} {g k : Nat → Option Addr} (h : w.heap[B]? = some (.cells (mC g) MA (0, 0))) (hk : ((mC g).toList.take 12 ++ [Value.pointer none, Value.pointer none, Value.pointer none, Value.pointer none]).toArray = mC k) : ∃ w', (storeVar RA ⟨B, 12, none⟩ (.agg #[.pointer none, .pointer none, .pointer none, .pointer none])).run Try.prog w = .ok () w' ∧ PutM w w' B k := by
  have hst := run_storeCells_at Try.prog B 12 MA [.pointer none, .pointer none, .pointer none, .pointer none] 0 (mC g) w h (by simp [mC]) (by simp [Value.oneCell'])
  refine ⟨w.setRow B ((mC g).toList.take (12 + 0) ++ [Value.pointer none, Value.pointer none, Value.pointer none, Value.pointer none] ++ (mC g).toList.drop (12 + 0 + [Value.pointer none, Value.pointer none, Value.pointer none, Value.pointer none].length)).toArray, ?_, putM_of h ?_⟩
  · cases hq : Try.prog.info? RA with
    | none => exact absurd (show (Try.prog.info? RA).map (·.size) = some 4 by kernel_rfl) (by simp [hq])
    | some i =>
      have hs : i.size = 4 := by
        have : (Try.prog.info? RA).map (·.size) = some 4 := by kernel_rfl
        simpa [hq] using this
      rw [← hst]
      simp [storeVar, sizeOf, typeInfo, hq, Value.cells, hs]
  · rw [← hk]
    simp [mC]
theorem wpList_store_row {ops : Array Oper} {rest : List Oper} {o : Oper} {a : Act} {w : World} {Q : Exit → Act → World → Prop} (hg : o.guard = none) (x y : Operand) (ho : o.op = .store RA x y) (B : Nat) (g k : Nat → Option Addr) (hx : a.eval x = .pointer (some ⟨B, 12, none⟩)) (hy : a.eval y = .agg #[.pointer none, .pointer none, .pointer none, .pointer none]) (hh : w.heap[B]? = some (.cells (mC g) MA (0, 0)))
    (hk : ((mC g).toList.take 12 ++ [Value.pointer none, Value.pointer none, Value.pointer none, Value.pointer none]).toArray = mC k)
    (h : ∀ w', PutM w w' B k → wpList Try.prog ops Q rest (a.put o.dst undef) w') : wpList Try.prog ops Q (o :: rest) a w := by
  refine wpList_plain hg fun K hK => ?_
  obtain ⟨w', hl, hp⟩ := storeRow hh hk
  unfold Oper.wp
  simp [execOp, ho, hx, hy, Instr.storeAt, Instr.sureAddr, hl, Result.andThen]
  exact hK _ _ (h w' hp)
theorem drop_of_shift (g : Nat → Option Addr) {i : Nat} (hi : i < 4) : ((mC (shiftG g i)).toList.take 12 ++ [Value.pointer none, Value.pointer none, Value.pointer none, Value.pointer none]).toArray = mC (dropG g i) := by
  have h4 : i = 0 ∨ i = 1 ∨ i = 2 ∨ i = 3 := by omega
  rcases h4 with rfl | rfl | rfl | rfl <;> simp [mC, shiftG, dropG]

set_option maxRecDepth 100000 in
set_option maxHeartbeats 1000000 in
theorem withoutRow_any (g : Nat → Option Addr) (i : Nat) (hi : i < 4) (w : World) :
    Calls Try.prog 130 #[.agg (mC g), .int .i64 (i : Int)] w fun e w' => e = .returned (.agg (mC (dropG g i))) ∧ Below w.heap.size w w' := by
  obtain ⟨V, hV⟩ : ∃ V, (w.alloc (.cells (mC g) MA)).alloc (.cells (mC fun _ => none) MA) = V := ⟨_, rfl⟩
  have hbV : Below w.heap.size w V := by rw [← hV]; exact ((Below.refl _ w).alloc (Nat.le_refl _) _).alloc (by simp) _
  have hbox : V.drew.heap[w.heap.size]? = some (.cells (mC g) MA (0, 0)) := by
    show V.heap[w.heap.size]? = _
    rw [← hV, Below.heap_alloc _ _ _ (by simp)]
    exact World.alloc_heap_new w _
  have hres : V.drew.heap[w.heap.size + 1]? = some (.cells (mC fun _ => none) MA (0, 0)) := by
    show V.heap[w.heap.size + 1]? = _
    rw [← hV]
    have h := World.alloc_heap_new (w.alloc (.cells (mC g) MA)) (.cells (mC fun _ => none) MA)
    rwa [World.size_alloc] at h
  have HB := Lib.hid (hbV.drew)
  have HRES := Lib.hid hres
  have h4 : i = 0 ∨ i = 1 ∨ i = 2 ∨ i = 3 := by omega
  rcases h4 with rfl | rfl | rfl | rfl
  · obtain ⟨w2, hrun, hp⟩ := copyM0 3 hbox
    rw [← hV, show (mC fun _ => none) = #[.pointer none, .pointer none, .pointer none, .pointer none, .pointer none, .pointer none, .pointer none, .pointer none, .pointer none, .pointer none, .pointer none, .pointer none, .pointer none, .pointer none, .pointer none, .pointer none] from rfl] at hrun
    have HP := Lib.hid hp
    have HB2 := Lib.hid (hp.below HB.out (Nat.le_refl _))
    have HR2 := Lib.hid ((hp.off (w.heap.size + 1) (by omega)).trans HRES.out)
    clear hp hbox hres hV hbV
    go_enter Try.func130, Try.ntmps130
    go_wp2
    go_region
    clear hrun
    go_wp2_with (first | (refine wpList_store_row rfl _ _ rfl w.heap.size (shiftG g 0) (dropG g 0) rfl rfl HP.out.heap (drop_of_shift g (by omega)) ?_; intro w3 hp3; have HP3 := Lib.hid hp3; clear hp3) | (refine wpList_load_mat rfl _ rfl w.heap.size (dropG g 0) rfl HP3.out.heap ?_) | (refine wpList_store_mat rfl _ _ rfl (w.heap.size + 1) (fun _ => none) (dropG g 0) rfl rfl ((HP3.out.off _ (by omega)).trans HR2.out) ?_; intro w4 hp4))
    have hld := loadM hp4.heap
    refine bodyPost_ret (v := .agg (mC (dropG g 0))) ?_ rfl ⟨rfl, hp4.below (HP3.out.below HB2.out (Nat.le_refl _)) (Nat.le_succ _)⟩
    simp [results, Try.results130, Act.put, asAddr, hld]
  · obtain ⟨w2, hrun, hp⟩ := copyM1 3 hbox
    rw [← hV, show (mC fun _ => none) = #[.pointer none, .pointer none, .pointer none, .pointer none, .pointer none, .pointer none, .pointer none, .pointer none, .pointer none, .pointer none, .pointer none, .pointer none, .pointer none, .pointer none, .pointer none, .pointer none] from rfl] at hrun
    have HP := Lib.hid hp
    have HB2 := Lib.hid (hp.below HB.out (Nat.le_refl _))
    have HR2 := Lib.hid ((hp.off (w.heap.size + 1) (by omega)).trans HRES.out)
    clear hp hbox hres hV hbV
    go_enter Try.func130, Try.ntmps130
    go_wp2
    go_region
    clear hrun
    go_wp2_with (first | (refine wpList_store_row rfl _ _ rfl w.heap.size (shiftG g 1) (dropG g 1) rfl rfl HP.out.heap (drop_of_shift g (by omega)) ?_; intro w3 hp3; have HP3 := Lib.hid hp3; clear hp3) | (refine wpList_load_mat rfl _ rfl w.heap.size (dropG g 1) rfl HP3.out.heap ?_) | (refine wpList_store_mat rfl _ _ rfl (w.heap.size + 1) (fun _ => none) (dropG g 1) rfl rfl ((HP3.out.off _ (by omega)).trans HR2.out) ?_; intro w4 hp4))
    have hld := loadM hp4.heap
    refine bodyPost_ret (v := .agg (mC (dropG g 1))) ?_ rfl ⟨rfl, hp4.below (HP3.out.below HB2.out (Nat.le_refl _)) (Nat.le_succ _)⟩
    simp [results, Try.results130, Act.put, asAddr, hld]
  · obtain ⟨w2, hrun, hp⟩ := copyM2 3 hbox
    rw [← hV, show (mC fun _ => none) = #[.pointer none, .pointer none, .pointer none, .pointer none, .pointer none, .pointer none, .pointer none, .pointer none, .pointer none, .pointer none, .pointer none, .pointer none, .pointer none, .pointer none, .pointer none, .pointer none] from rfl] at hrun
    have HP := Lib.hid hp
    have HB2 := Lib.hid (hp.below HB.out (Nat.le_refl _))
    have HR2 := Lib.hid ((hp.off (w.heap.size + 1) (by omega)).trans HRES.out)
    clear hp hbox hres hV hbV
    go_enter Try.func130, Try.ntmps130
    go_wp2
    go_region
    clear hrun
    go_wp2_with (first | (refine wpList_store_row rfl _ _ rfl w.heap.size (shiftG g 2) (dropG g 2) rfl rfl HP.out.heap (drop_of_shift g (by omega)) ?_; intro w3 hp3; have HP3 := Lib.hid hp3; clear hp3) | (refine wpList_load_mat rfl _ rfl w.heap.size (dropG g 2) rfl HP3.out.heap ?_) | (refine wpList_store_mat rfl _ _ rfl (w.heap.size + 1) (fun _ => none) (dropG g 2) rfl rfl ((HP3.out.off _ (by omega)).trans HR2.out) ?_; intro w4 hp4))
    have hld := loadM hp4.heap
    refine bodyPost_ret (v := .agg (mC (dropG g 2))) ?_ rfl ⟨rfl, hp4.below (HP3.out.below HB2.out (Nat.le_refl _)) (Nat.le_succ _)⟩
    simp [results, Try.results130, Act.put, asAddr, hld]
  · obtain ⟨w2, hrun, hp⟩ := copyM3 3 hbox
    rw [← hV, show (mC fun _ => none) = #[.pointer none, .pointer none, .pointer none, .pointer none, .pointer none, .pointer none, .pointer none, .pointer none, .pointer none, .pointer none, .pointer none, .pointer none, .pointer none, .pointer none, .pointer none, .pointer none] from rfl] at hrun
    have HP := Lib.hid hp
    have HB2 := Lib.hid (hp.below HB.out (Nat.le_refl _))
    have HR2 := Lib.hid ((hp.off (w.heap.size + 1) (by omega)).trans HRES.out)
    clear hp hbox hres hV hbV
    go_enter Try.func130, Try.ntmps130
    go_wp2
    go_region
    clear hrun
    go_wp2_with (first | (refine wpList_store_row rfl _ _ rfl w.heap.size (shiftG g 3) (dropG g 3) rfl rfl HP.out.heap (drop_of_shift g (by omega)) ?_; intro w3 hp3; have HP3 := Lib.hid hp3; clear hp3) | (refine wpList_load_mat rfl _ rfl w.heap.size (dropG g 3) rfl HP3.out.heap ?_) | (refine wpList_store_mat rfl _ _ rfl (w.heap.size + 1) (fun _ => none) (dropG g 3) rfl rfl ((HP3.out.off _ (by omega)).trans HR2.out) ?_; intro w4 hp4))
    have hld := loadM hp4.heap
    refine bodyPost_ret (v := .agg (mC (dropG g 3))) ?_ rfl ⟨rfl, hp4.below (HP3.out.below HB2.out (Nat.le_refl _)) (Nat.le_succ _)⟩
    simp [results, Try.results130, Act.put, asAddr, hld]

def cutG (g : Nat → Option Addr) (i k : Nat) : Nat → Option Addr := flipG (dropG (flipG (dropG g i)) k)
set_option maxRecDepth 100000 in
set_option maxHeartbeats 2000000 in
theorem cut_any (g : Nat → Option Addr) (i k : Nat) (hi : i < 4) (hk : k < 4) (w : World) :
    Calls Try.prog 107 #[.agg (mC g), .int .i64 (i : Int), .int .i64 (k : Int)] w fun e w' => e = .returned (.agg (mC (cutG g i k))) ∧ Below w.heap.size w w' := by
  obtain ⟨V, hV⟩ : ∃ V, (w.alloc (.cells (mC g) MA)).alloc (.cells (mC fun _ => none) MA) = V := ⟨_, rfl⟩
  have hbV : Below w.heap.size w V := by rw [← hV]; exact ((Below.refl _ w).alloc (Nat.le_refl _) _).alloc (by simp) _
  have hbox : V.heap[w.heap.size]? = some (.cells (mC g) MA (0, 0)) := by
    rw [← hV, Below.heap_alloc _ _ _ (by simp)]
    exact World.alloc_heap_new w _
  have hres : V.heap[w.heap.size + 1]? = some (.cells (mC fun _ => none) MA (0, 0)) := by
    rw [← hV]
    have h := World.alloc_heap_new (w.alloc (.cells (mC g) MA)) (.cells (mC fun _ => none) MA)
    rwa [World.size_alloc] at h
  have hsz : V.heap.size = w.heap.size + 2 := by rw [← hV]; simp
  have HB := Lib.hid hbV
  have HBOX := Lib.hid hbox
  have HRES := Lib.hid hres
  rw [show (mC fun _ => none) = #[.pointer none, .pointer none, .pointer none, .pointer none, .pointer none, .pointer none, .pointer none, .pointer none, .pointer none, .pointer none, .pointer none, .pointer none, .pointer none, .pointer none, .pointer none, .pointer none] from rfl] at hV
  have HV := Lib.hid hV
  clear hbox hres hV hbV
  go_enter Try.func107, Try.ntmps107
  go_wp2_with (refine wpList_load_mat rfl _ rfl w.heap.size g rfl (by rw [HV.out]; exact HBOX.out) ?_)
  rw [HV.out]
  refine (withoutRow_any g i hi V).mono ?_
  rintro e w1 ⟨rfl, hb1⟩
  have H1 := Lib.hid hb1
  clear hb1
  go_wp2_with fail
  refine (flipped_any _ _).mono ?_
  rintro e w2 ⟨rfl, hb2⟩
  have H2 := Lib.hid (H1.out.trans (hb2.mono H1.out.size))
  clear hb2
  go_wp2_with fail
  refine (withoutRow_any _ k hk _).mono ?_
  rintro e w3 ⟨rfl, hb3⟩
  have H3 := Lib.hid (H2.out.trans (hb3.mono H2.out.size))
  clear hb3
  go_wp2_with fail
  refine (flipped_any _ _).mono ?_
  rintro e w4 ⟨rfl, hb4⟩
  have H4 := Lib.hid (H3.out.trans (hb4.mono H3.out.size))
  clear hb4
  go_wp2_with (refine wpList_store_mat rfl _ _ rfl (w.heap.size + 1) (fun _ => none) (cutG g i k) rfl rfl ((H4.out.block _ (by omega)).trans HRES.out) ?_; intro w5 hp5)
  have hld := loadM hp5.heap
  refine bodyPost_ret (v := .agg (mC (cutG g i k))) ?_ rfl ⟨rfl, hp5.below (HB.out.trans (H4.out.mono HB.out.size)) (Nat.le_succ _)⟩
  simp [results, Try.results107, Act.put, asAddr, hld]

end Go.Proofs.Ytakfobihakbefaa

/- The program's MatrixFlip, MatrixCut and MatrixOne. -/

namespace Go.Proofs.Ytakfobihakbefaa
open Go.RowKit Go.Shelf

theorem MatW.flip {lo : Nat} {w : World} {g : Nat → Option Addr} {n m : Nat} {P : Nat → Nat → Pl} {pv : Nat → Nat → Value} (h : MatW lo w g n m P pv) : MatW lo w (flipG g) m n (fun k i => P i k) (fun k i => pv i k) := by
  have h1 := h.shp.n4
  have h2 := h.shp.m4
  refine ⟨h.shp.flip, fun k i hk hi => ?_, fun k i k2 i2 b hk hi hk2 hi2 hne => h.apart i k i2 k2 b hi hk hi2 hk2 (by omega)⟩
  rw [flipG_at g (by omega) (by omega)]
  exact h.at_ i k hi hk
theorem dropG_at (g : Nat → Option Addr) {i r c : Nat} (hc : c < 4) : dropG g i (r * 4 + c) = if r < i then g (r * 4 + c) else if r < 3 then g ((r + 1) * 4 + c) else none := by
  unfold dropG
  rw [show (r * 4 + c) / 4 = r by omega, show r * 4 + c + 4 = (r + 1) * 4 + c by omega]
theorem MatW.drop {lo : Nat} {w : World} {g : Nat → Option Addr} {n m i : Nat} {P : Nat → Nat → Pl} {pv : Nat → Nat → Value} (h : MatW lo w g n m P pv) (hi : i < n) (hn : 2 ≤ n) : MatW lo w (dropG g i) (n - 1) m (fun r c => P (skip i r) c) (fun r c => pv (skip i r) c) := by
  have h1 := h.shp.n4
  have h2 := h.shp.m4
  have h3 := h.shp.both
  have hs : ∀ r, r < n - 1 → skip i r < n := fun r hr => by unfold skip; split <;> omega
  have hg : ∀ r c, r < n - 1 → c < m → dropG g i (r * 4 + c) = g (skip i r * 4 + c) := fun r c hr hc => by
    rw [dropG_at g (by omega)]
    unfold skip
    by_cases e : r < i
    · rw [if_pos e, if_pos e]
    · rw [if_neg e, if_neg e, if_pos (by omega)]
  refine ⟨⟨by omega, h2, by omega, fun r c hr hc => ?_, fun r c hr hc hno => ?_⟩, fun r c hr hc => ?_, fun r c r2 c2 b hr hc hr2 hc2 hne => h.apart _ c _ c2 b (hs r hr) hc (hs r2 hr2) hc2 fun e => hne ⟨?_, e.2⟩⟩
  · rw [hg r c hr hc]; exact h.shp.yes _ c (hs r hr) hc
  · rw [dropG_at g hc]
    split
    · exact h.shp.no r c hr hc (by omega)
    · split
      · exact h.shp.no (r + 1) c (by omega) hc (by omega)
      · rfl
  · rw [hg r c hr hc]; exact h.at_ _ c (hs r hr) hc
  · have := e.1
    unfold skip at this
    split at this <;> split at this <;> omega
theorem ShapeM.drop1 {g : Nat → Option Addr} {n m i : Nat} (h : ShapeM g n m) (hi : n ≤ 1) (hn : i = 0 ∨ n = 0) : ShapeM (dropG g i) 0 0 := by
  refine ⟨by omega, by omega, Iff.rfl, fun _ _ hh => absurd hh (Nat.not_lt_zero _), fun r c hr hc _ => ?_⟩
  rw [dropG_at g hc]
  split
  · exact h.no r c hr hc (by omega)
  · split
    · exact h.no (r + 1) c (by omega) hc (by omega)
    · rfl
/-- What is left without a row and a column. -/
theorem MatW.cut {lo : Nat} {w : World} {g : Nat → Option Addr} {n m i k : Nat} {P : Nat → Nat → Pl} {pv : Nat → Nat → Value} (h : MatW lo w g n m P pv) (hi : i < n) (hk : k < m) (hn : 2 ≤ n) (hm : 2 ≤ m) : MatW lo w (cutG g i k) (n - 1) (m - 1) (fun r c => P (skip i r) (skip k c)) (fun r c => pv (skip i r) (skip k c)) :=
  (((h.drop hi hn).flip).drop hk hm).flip
theorem cut_none {lo : Nat} {w : World} {g : Nat → Option Addr} {n m i k : Nat} {P : Nat → Nat → Pl} {pv : Nat → Nat → Value} (h : MatW lo w g n m P pv) (hi : i < n) (hk : k < m) (hno : n < 2 ∨ m < 2) : mC (cutG g i k) = mC fun _ => none := by
  refine mC_none ?_
  unfold cutG
  by_cases hn : n < 2
  · exact ((h.shp.drop1 (i := i) (by omega) (by omega)).flip.drop1 (i := k) (by omega) (.inr rfl)).flip
  · exact ((h.drop hi (by omega)).flip.shp.drop1 (i := k) (by omega) (by omega)).flip

/-- What a function that tells a matrix comes to. -/
def IM (W : World) (o : Option Mx) (e : Ending) (w' : World) : Prop :=
  (∃ v rs, e = .returned (.tuple #[v, .bool o.isSome]) ∧ OwnM W.heap.size w' v rs ∧ rowsOf rs = o.getD []) ∧ Below W.heap.size W w'
theorem OwnM.nothing (lo : Nat) (w : World) : OwnM lo w (.slice none 0 0) [] := OwnM.zeros (n := 0) ⟨rfl, .inl ⟨rfl, rfl⟩⟩
theorem IM.no {W w' : World} {o : Option Mx} (h : o = none) (hb : Below W.heap.size W w') : IM W o (.returned (.tuple #[.slice none 0 0, .bool false])) w' := by
  subst h
  exact ⟨⟨_, [], rfl, OwnM.nothing _ _, rfl⟩, hb⟩
theorem IM.yes {W w' : World} {o : Option Mx} {R : Mx} {v : Value} {rs : List Rv} (h : o = some R) (ho : OwnM W.heap.size w' v rs) (hr : rowsOf rs = R) (hb : Below W.heap.size W w') : IM W o (.returned (.tuple #[v, .bool true])) w' := by
  subst h
  exact ⟨⟨v, rs, rfl, ho, hr⟩, hb⟩
theorem flipM_yes {M : Mx} (h : matB M = true) : flipM M = some (gridL (fun k i => at2 M i k) (colsM M) M.length) := by
  unfold flipM
  rw [if_pos h]
  exact gridO_all (fun k i => at2 M i k) fun _ _ _ _ => rfl
theorem flipM_no {M : Mx} (h : matB M = false) : flipM M = none := by
  unfold flipM
  rw [if_neg (by rw [h]; decide)]

set_option maxRecDepth 100000 in
set_option maxHeartbeats 2000000 in
theorem iMatrixFlip_any (a : Option Addr) (c n : Nat) (M : Mx) (w : World) (hs : IsPSS w a n M) :
    Calls Try.prog 43 #[.slice a n c] w (IM w (flipM M)) := by
  have HS := Lib.hid hs
  clear hs
  go_enter Try.func43, Try.ntmps43
  go_wp2_with fail
  refine (matrixOf_any a c n M w HS.out).mono ?_
  rintro e w1 ⟨⟨hy, g, pv, rfl, hM⟩ | ⟨hn, rfl⟩, hb1⟩
  · have HY := Lib.hid hy
    have HM := Lib.hid hM
    have HB1 := Lib.hid hb1
    clear hy hM hb1
    go_wp2_with fail
    refine (flipped_any g w1).mono ?_
    rintro e w2 ⟨rfl, hb2⟩
    have HM2 := Lib.hid (HM.out.flip.below hb2)
    have HB2 := Lib.hid (HB1.out.trans (hb2.mono HB1.out.size))
    clear hb2
    go_wp2_with fail
    refine (toldM_any (flipG g) (colsM M) M.length w.heap.size _ _ w2 HM2.out HB2.out.size (by have := (matB_iff.1 HY.out).2.1; omega)).mono ?_
    rintro e w3 ⟨v, rs, rfl, ho, hr, hb3⟩
    have HO := Lib.hid ho
    have HR := Lib.hid hr
    have HB3 := Lib.hid (HB2.out.trans (hb3.mono HB2.out.size))
    clear ho hr hb3
    go_wp2
    go_ret2
    exact IM.yes (flipM_yes HY.out) HO.out HR.out HB3.out
  · have HN := Lib.hid hn
    have HB1 := Lib.hid hb1
    clear hn hb1
    go_wp2_with fail
    refine (flipped_any _ w1).mono ?_
    rintro e w2 ⟨rfl, hb2⟩
    have HB2 := Lib.hid (HB1.out.trans (hb2.mono HB1.out.size))
    clear hb2
    go_wp2_with fail
    refine (show Calls Try.prog 87 #[.agg (mC fun _ => none)] w2 _ from toldM_none w2).mono ?_
    rintro e w3 ⟨rfl, hb3⟩
    have HB3 := Lib.hid (HB2.out.trans (hb3.mono HB2.out.size))
    clear hb3
    go_wp2
    go_ret2
    exact IM.no (flipM_no HN.out) HB3.out

end Go.Proofs.Ytakfobihakbefaa

/- Forms for the laws of matrices. -/

namespace Go.Proofs.Ytakfobihakbefaa
open Go.RowKit

structure BoundM (rows : Mx) : Prop where
  low : ∀ r ∈ rows, ∀ p ∈ r, -9223372036854775808 ≤ p.low ∧ p.low ≤ 9223372036854775807
  cs : ∀ r ∈ rows, ∀ p ∈ r, ∀ z ∈ p.cs, -9223372036854775808 ≤ z ∧ z ≤ 9223372036854775807
  len : ∀ r ∈ rows, r.length ≤ maxLen
theorem IsPSS.bound {w : World} {a : Option Addr} {n : Nat} {rows : Mx} (h : IsPSS w a n rows) : BoundM rows := by
  have key : ∀ r ∈ rows, ∃ b m, IsPS w b m r := fun r hr => by
    obtain ⟨i, hi, rfl⟩ := List.getElem_of_mem hr
    obtain ⟨x, _, _, hx⟩ := h.at_ (by have := h.len; omega)
    obtain ⟨ai, _, _, hI⟩ := hx i hi
    exact ⟨ai, _, hI⟩
  refine ⟨fun r hr p hp => ?_, fun r hr p hp z hz => ?_, fun r hr => ?_⟩
  · obtain ⟨b, m, hI⟩ := key r hr
    exact hI.wf p hp
  · obtain ⟨b, m, hI⟩ := key r hr
    obtain ⟨i, hi, rfl⟩ := List.getElem_of_mem hp
    obtain ⟨x, _, _, hx⟩ := hI.at_ (by have := hI.len; omega)
    obtain ⟨_, _, _, _, hJ, _⟩ := hx i hi
    exact hJ.wf z hz
  · obtain ⟨b, m, hI⟩ := key r hr
    rw [hI.len]; exact hI.max
theorem own_isPSS {W : World} {lo n : Nat} {v : Value} {rs : List Rv} {rows : Mx} (h : OwnM lo W v rs) (hr : rowsOf rs = rows) (hb : BoundM rows) (hl : rows.length = n) (hn : n ≤ maxLen) : ∃ a c, v = .slice a n c ∧ IsPSS W a n rows := by
  subst hl
  exact h.isPSS hr hb.low hb.cs hn hb.len
theorem rows_len {rs : List Rv} {rows : Mx} {n : Nat} (h : rowsOf rs = rows) (hl : rows.length = n) : rs.length = n := by rw [← hl, ← h, rowsOf_len]
/-- Answers: at most four rows of at most four polynomials. -/
structure GoodM (R : Mx) : Prop where
  len : R.length ≤ 4
  row : ∀ r ∈ R, r.length ≤ 4
  poly : ∀ r ∈ R, ∀ p ∈ r, polyB p = true
theorem GoodM.nil : GoodM [] := ⟨by simp, fun _ h => by simp at h, fun _ h => by simp at h⟩
theorem GoodM.bound {R : Mx} (h : GoodM R) : BoundM R :=
  ⟨fun r hr p hp => by have := polyB_trim (h.poly r hr p hp); omega, fun r hr p hp z hz => by have := coefIn_yes (polyB_coef (h.poly r hr p hp) z hz); omega, fun r hr => by have := h.row r hr; unfold maxLen; omega⟩
theorem sum_le {α : Type} (f : α → Nat) (B : Nat) : ∀ l : List α, (∀ x ∈ l, f x ≤ B) → (l.map f).sum ≤ l.length * B
  | [], _ => by simp
  | x :: r, h => by
    have h1 := sum_le f B r fun y hy => h y (List.mem_cons_of_mem _ hy)
    have h2 := h x List.mem_cons_self
    rw [List.map_cons, List.sum_cons, List.length_cons, Nat.add_mul]
    omega
theorem GoodM.total {R : Mx} (h : GoodM R) : totM R ≤ 4000 := by
  have h1 : ∀ r ∈ R, totR r ≤ 900 := fun r hr => by
    have h2 := sum_le (fun p : Pl => p.cs.length) 200 r fun p hp => by have := polyB_trim (h.poly r hr p hp); omega
    have h3 := h.row r hr
    unfold totR csum
    omega
  have h2 := sum_le totR 900 R h1
  have h3 := h.len
  unfold totM
  omega
theorem GoodM.grid {f : Nat → Nat → Option Pl} {n m : Nat} {R : Mx} (h : gridO f m n = some R) (hn : n ≤ 4) (hm : m ≤ 4) (hf : ∀ i k p, i < n → k < m → f i k = some p → polyB p = true) : GoodM R := by
  obtain ⟨h1, h2, h3⟩ := gridO_some h
  refine ⟨by omega, fun r hr => ?_, fun r hr p hp => ?_⟩
  · obtain ⟨i, hi, rfl⟩ := List.getElem_of_mem hr
    have := h2 i hi
    omega
  · obtain ⟨i, hi, rfl⟩ := List.getElem_of_mem hr
    obtain ⟨k, hk, rfl⟩ := List.getElem_of_mem hp
    have hm2 := h2 i hi
    refine hf i k _ (by omega) (by omega) ?_
    rw [h3 i k (by omega) (by omega), at2_eq hi hk]
theorem good_flip (M : Mx) : GoodM ((flipM M).getD []) := by
  cases e : flipM M with
  | none => exact GoodM.nil
  | some R =>
    unfold flipM at e
    split at e
    · rename_i h
      have h4 := matB_iff.1 h
      exact GoodM.grid e h4.2.1.2 h4.1.2 fun i k p hi hk hp => by
        simp only [Option.some.injEq] at hp
        rw [← hp]
        exact matB_at h hk hi
    · cases e
theorem good_cut (M : Mx) (i k : Int) : GoodM ((cutM M i k).getD []) := by
  cases e : cutM M i k with
  | none => exact GoodM.nil
  | some R =>
    unfold cutM at e
    split at e
    · rename_i h
      simp only [Bool.and_eq_true, decide_eq_true_eq] at h
      obtain ⟨h1, h2, h3, h4, h5⟩ := h
      have h6 := matB_iff.1 h1
      simp only [Option.some.injEq] at e
      subst e
      unfold cutL
      refine ⟨by simp; omega, fun r hr => ?_, fun r hr p hp => ?_⟩
      · obtain ⟨j, _, rfl⟩ := List.mem_map.1 hr
        simp; omega
      · obtain ⟨j, hj, rfl⟩ := List.mem_map.1 hr
        obtain ⟨l, hl, rfl⟩ := List.mem_map.1 hp
        have hj := List.mem_range.1 hj
        have hl := List.mem_range.1 hl
        exact matB_at h1 (by unfold skip; split <;> omega) (by unfold skip; split <;> omega)
    · cases e

end Go.Proofs.Ytakfobihakbefaa

/- The model's MatrixIn. -/

namespace Go.Proofs.Ytakfobihakbefaa
open Go.RowKit

theorem matB_not {rows : Mx} (h : ¬ ((1 ≤ rows.length ∧ rows.length ≤ 4) ∧ (1 ≤ colsM rows ∧ colsM rows ≤ 4) ∧ ∀ r ∈ rows, r.length = colsM rows ∧ ∀ p ∈ r, polyB p = true)) : matB rows = false := by
  cases e : matB rows with
  | false => rfl
  | true => exact absurd (matB_iff.1 e) h
theorem inR_yes {a b c : Int} (h : a ≤ c ∧ c ≤ b) : inR a b c = true := by unfold inR; rw [decide_eq_true h.1, decide_eq_true h.2]; rfl
theorem inR_no {a b c : Int} (h : ¬ (a ≤ c ∧ c ≤ b)) : inR a b c = false := by
  unfold inR
  by_cases h1 : a ≤ c
  · rw [decide_eq_false fun h2 => h ⟨h1, h2⟩, Bool.and_false]
  · rw [decide_eq_false h1, Bool.false_and]

set_option maxRecDepth 100000 in
set_option maxHeartbeats 4000000 in
theorem sMatrixIn_any (a : Option Addr) (c n : Nat) (rows : Mx) (b : Bool) (w : World) (hs : IsPSS w a n rows) (hb : matB rows = b) :
    Calls Try.prog 33 #[.slice a n c] w fun e w' => e = .returned (.bool b) ∧ Below w.heap.size w w' := by
  have hmax := hs.max
  unfold maxLen at hmax
  have HS := Lib.hid hs
  have HL := Lib.hid hs.len
  have HB := Lib.hid hb
  clear hb
  by_cases h0 : 1 ≤ n ∧ n ≤ 4
  case neg =>
    have hF : false = b := by rw [← HB.out]; exact (matB_not fun h => h0 (by have := HL.out; omega)).symm
    subst hF
    clear hs
    go_enter Try.func33, Try.ntmps33
    go_wp2_with fail
    refine (l6In_eq _ _ _ false _ (inR_no (by omega))).mono ?_
    rintro e w1 ⟨rfl, rfl⟩
    go_wp2
    go_ret
    exact ⟨rfl, Below.refl _ _⟩
  obtain ⟨x, rfl, hxb, hx⟩ := hs.at_ (by omega)
  obtain ⟨a0, c0, hc0, hI0⟩ := hx 0 (by rw [hs.len]; omega)
  rw [show x.add 0 = x by simp [Addr.add]] at hc0
  have hcols : (rows[0]'(by rw [hs.len]; omega)).length = colsM rows := by
    unfold colsM
    simp [List.getD_eq_getElem?_getD, show 0 < rows.length by rw [hs.len]; omega]
  rw [hcols] at hc0
  have hm0 := hI0.max
  rw [hcols] at hm0
  unfold maxLen at hm0
  obtain ⟨m, hm⟩ : ∃ m, colsM rows = m := ⟨_, rfl⟩
  have HM := Lib.hid hm
  rw [hm] at hc0 hm0
  have h0i : (0 : Int) < (n : Int) := by omega
  by_cases h4 : 1 ≤ m ∧ m ≤ 4
  case neg =>
    have hF : false = b := by rw [← HB.out]; exact (matB_not fun h => h4 (by have := HM.out; omega)).symm
    subst hF
    clear hs hx hxb hI0 hcols hm
    go_enter Try.func33, Try.ntmps33
    go_wp2_with fail
    refine (l6In_eq _ _ _ true _ (inR_yes (by omega))).mono ?_
    rintro e w1 ⟨rfl, rfl⟩
    go_wp2_with fail
    refine (l6In_eq _ _ _ false _ (inR_no (by omega))).mono ?_
    rintro e w1 ⟨rfl, rfl⟩
    go_wp2
    go_ret
    exact ⟨rfl, Below.refl _ _⟩
  have HX : Hid (∀ i (h : i < rows.length), ∃ ai ci, w.cell? (x.add i) = some (.slice ai rows[i].length ci) ∧ IsPS w ai rows[i].length rows[i]) := Lib.hid hx
  have HXB := Lib.hid hxb
  have HC0 := Lib.hid hc0
  clear hs hx hxb hI0 hcols hm
  go_enter Try.func33, Try.ntmps33
  go_wp2_with fail
  refine (l6In_eq _ _ _ true _ (inR_yes (by omega))).mono ?_
  rintro e w1 ⟨rfl, rfl⟩
  go_wp2_with fail
  refine (l6In_eq _ _ _ true _ (inR_yes (by omega))).mono ?_
  rintro e w1 ⟨rfl, rfl⟩
  clear hc0
  go_wp2
  go_loopw [3] (fun i wr => ∃ k : Nat, k ≤ n ∧ i = .int .i64 k ∧ Hid (∀ j (h : j < rows.length), j < k → rows[j].length = m ∧ ∀ p ∈ rows[j], polyB p = true) ∧ Below w.heap.size w wr) (fun i _ => n - (intOf i).toNat)
  case atStart => exact ⟨0, Nat.zero_le _, rfl, Lib.hid fun j _ h => absurd h (Nat.not_lt_zero _), Below.refl _ _⟩
  case round =>
    obtain ⟨k, hk, rfl, HE, hB⟩ := hrel
    obtain ⟨U, rfl⟩ : ∃ U, U = wr := ⟨_, rfl⟩
    by_cases hlt : k < n
    · have hkr : k < rows.length := by rw [HL.out]; exact hlt
      obtain ⟨ai, ci, hc, hI⟩ := HX.out k hkr
      have q1 := (hB.cell (p := x.add k) (by rw [addr_add_block]; exact HXB.out)).trans hc
      have q0 := (hB.cell (p := x) HXB.out).trans HC0.out
      have hmk := hI.max
      obtain ⟨r, hr⟩ : ∃ r, rows[k].length = r := ⟨_, rfl⟩
      rw [hr] at q1 hmk hI
      unfold maxLen at hmk
      have HR := Lib.hid hr
      have HI := Lib.hid (hI.below hB)
      clear hc hI hr
      by_cases hrm : r = m
      · have hdr : decide ((r : Int) = (m : Int)) = true := decide_eq_true (by omega)
        subst hrm
        go_wp2
        go_quiet (fail)
        go_wp2
        go_loopw [4] (fun i wr => ∃ j : Nat, j ≤ r ∧ i = .int .i64 j ∧ Hid (∀ l (h : l < rows[k].length), l < j → polyB rows[k][l] = true) ∧ Below U.heap.size U wr) (fun i _ => r - (intOf i).toNat)
        case atStart => exact ⟨0, Nat.zero_le _, rfl, Lib.hid fun j _ h => absurd h (Nat.not_lt_zero _), below_drewN (Below.refl _ _) _⟩
        case round =>
          obtain ⟨j, hj, rfl, HJ, hB2⟩ := hrel
          have hkb := hB.size
          have hB3 : Below w.heap.size w wr := hB.trans (hB2.mono hB.size)
          have q2 := (hB3.cell (p := x.add k) (by rw [addr_add_block]; exact HXB.out)).trans (show w.cell? (x.add k) = some (.slice ai r ci) from by
            obtain ⟨ai2, ci2, hc2, _⟩ := HX.out k hkr
            have e := q1.symm.trans ((hB.cell (p := x.add k) (by rw [addr_add_block]; exact HXB.out)).trans hc2)
            rw [HR.out] at e hc2
            rw [e]; exact hc2)
          by_cases hjt : j < r
          · have hjr : j < rows[k].length := by rw [HR.out]; exact hjt
            obtain ⟨y, rfl, hyb, hy⟩ := HI.out.at_ (by omega)
            obtain ⟨aj, cj, hd0, hd1, hJ2, hle⟩ := hy j hjr
            have e0 := (hB2.cell (p := y.add (j * 2)) (by rw [addr_add_block]; exact hyb)).trans hd0
            have e1 := (hB2.cell (p := y.add (j * 2 + 1)) (by rw [addr_add_block]; exact hyb)).trans hd1
            rw [addr_next2] at e1
            have hJ3 := hJ2.below hB2
            obtain ⟨p, hp⟩ : ∃ p, rows[k][j] = p := ⟨_, rfl⟩
            rw [hp] at e0 e1 hJ3
            obtain ⟨t, ht⟩ : ∃ t, p.cs.length = t := ⟨_, rfl⟩
            rw [ht] at e1 hJ3
            obtain ⟨bp, hbp⟩ : ∃ bp, polyB p = bp := ⟨_, rfl⟩
            have HPI := Lib.hid (sPolyIn_any p.low p.cs aj cj t bp wr hJ3 hbp)
            have HP := Lib.hid hp
            have HBP := Lib.hid hbp
            clear hy hd0 hd1 hJ2 hle hJ3 hp ht hbp
            go_wp2_with fail
            refine HPI.out.mono ?_
            rintro e w4 ⟨rfl, hb4⟩
            cases bp with
            | false =>
              have hF : false = b := by
                rw [← HB.out]
                exact (matB_not fun h => by
                  have := (h.2.2 _ (List.getElem_mem hkr)).2 _ (List.getElem_mem hjr)
                  rw [HP.out, HBP.out] at this
                  exact absurd this (by decide)).symm
              subst hF
              go_wp2
              go_ret
              exact ⟨rfl, hB3.trans (hb4.mono hB3.size)⟩
            | true =>
              have HB4 := Lib.hid (hB2.trans (hb4.mono hB2.size))
              clear hb4
              go_wp2
              go_roundw
              case rel =>
                refine ⟨j + 1, by omega, by go_num, Lib.hid fun l hl hlj => ?_, HB4.out⟩
                by_cases e : l = j
                · subst e; rw [HP.out]; exact HBP.out
                · exact HJ.out l hl (by omega)
              case measure => simp [intOf]; omega
          · obtain rfl : j = r := by omega
            have HB3 := Lib.hid hB3
            clear hB3
            go_wp2
            go_roundw
            case rel =>
              refine ⟨k + 1, by omega, by go_num, Lib.hid fun l hl hlk => ?_, HB3.out⟩
              by_cases e : l = k
              · subst e
                refine ⟨HR.out, fun p hp => ?_⟩
                obtain ⟨q, hq, rfl⟩ := List.getElem_of_mem hp
                exact HJ.out q hq (by rw [← HR.out]; exact hq)
              · exact HE.out l hl (by omega)
            case measure => simp [intOf]; omega
      · have hdr : decide ((r : Int) = (m : Int)) = false := decide_eq_false (by omega)
        have hF : false = b := by
          rw [← HB.out]
          exact (matB_not fun h => hrm (by rw [← HR.out, ← HM.out]; exact (h.2.2 _ (List.getElem_mem hkr)).1)).symm
        subst hF
        go_wp2
        go_quiet (fail)
        go_wp2
        go_ret
        exact ⟨rfl, below_drewN hB _⟩
    · obtain rfl : k = n := by omega
      have hF : true = b := by
        rw [← HB.out]
        refine (matB_iff.2 ⟨by have := HL.out; omega, by have := HM.out; omega, fun r hr => ?_⟩).symm
        obtain ⟨j, hj, rfl⟩ := List.getElem_of_mem hr
        have := HE.out j hj (by rw [← HL.out]; exact hj)
        rw [HM.out]
        exact this
      subst hF
      go_wp2
      go_ret
      exact ⟨rfl, hB⟩

end Go.Proofs.Ytakfobihakbefaa

/- One polynomial more in a row of a call's own, one row more in a matrix. -/

namespace Go.Proofs.Ytakfobihakbefaa
open Go.RowKit

theorem cellsP_snoc (xs : List Pv) (p : Pl) (v : Value) : cellsP (xs ++ [⟨p, v⟩]) = cellsP xs ++ [.int .i64 p.low, v] := by rw [cellsP_append]; rfl
theorem OwnR.push {lo g1 : Nat} {w wA w2 : World} {u v u2 : Value} {xs : List Pv} {p : Pl} (h : OwnR lo w u xs) (hb : Below w.heap.size w wA) (hp : IntRow w.heap.size wA v p.cs) (hlo : lo ≤ w.heap.size)
    (hown : w2.ownsRow lo PO 2 u2 (xs.length + 1) (cellsP xs ++ [.int .i64 p.low, v])) (hg : wA.grownBy w2 u.ownBlock) (hu : u2.ownBlock = some g1) (hat : u.ownBlock = some g1 ∨ wA.heap.size ≤ g1) : OwnR lo w2 u2 (xs ++ [⟨p, v⟩]) := by
  have hul : ∀ b, u.ownBlock = some b → b < w.heap.size := fun b e => (ownsRow_lt h.row b e).2
  have hold : ∀ i (hi : i < xs.length) b, xs[i].v.ownBlock = some b → b < w.heap.size := fun i hi b e => (ownsRow_lt (h.poly i hi) b e).2
  have hnew : ∀ b, v.ownBlock = some b → w.heap.size ≤ b ∧ b < wA.heap.size := fun b e => ownsRow_lt hp b e
  have hlen : (xs ++ [(⟨p, v⟩ : Pv)]).length = xs.length + 1 := by simp
  have hget : ∀ i (hi : i < xs.length), (xs ++ [(⟨p, v⟩ : Pv)])[i]'(by rw [hlen]; omega) = xs[i] := fun i hi => List.getElem_append_left hi
  have hlast : (xs ++ [(⟨p, v⟩ : Pv)])[xs.length]'(by rw [hlen]; omega) = ⟨p, v⟩ := by simp
  have hg1 : ∀ i (hi : i < xs.length), xs[i].v.ownBlock = some g1 → False := fun i hi e => by
    rcases hat with h1 | h1
    · exact h.head i hi g1 h1 e
    · have := hold i hi g1 e; have := hb.size; omega
  have hg2 : v.ownBlock = some g1 → False := fun e => by
    rcases hat with h1 | h1
    · have := hul g1 h1; have := hnew g1 e; omega
    · have := hnew g1 e; omega
  refine ⟨by rw [hlen, cellsP_snoc]; exact hown, fun i hi => ?_, fun i hi b e1 e2 => ?_, fun i j hi hj b hne e1 e2 => ?_⟩
  · rw [hlen] at hi
    by_cases e : i < xs.length
    · rw [hget i e]
      exact ownsRow_touched (ownsRow_bel (h.poly i e) hb) fun b hb2 hl => hg.block b hl fun e2 => h.head i e b e2.symm hb2
    · obtain rfl : i = xs.length := by omega
      rw [hlast]
      exact (show IntRow w.heap.size w2 v p.cs from ownsRow_touched hp fun b hb2 hl => hg.block b hl fun e2 => by have := hul b e2.symm; have := hnew b hb2; omega).mono hlo
  · rw [hu] at e1
    obtain rfl : g1 = b := Option.some.inj e1
    rw [hlen] at hi
    by_cases e : i < xs.length
    · rw [hget i e] at e2; exact hg1 i e e2
    · obtain rfl : i = xs.length := by omega
      rw [hlast] at e2; exact hg2 e2
  · rw [hlen] at hi hj
    by_cases ei : i < xs.length
    · rw [hget i ei] at e1
      by_cases ej : j < xs.length
      · rw [hget j ej] at e2; exact h.apart i j ei ej b hne e1 e2
      · obtain rfl : j = xs.length := by omega
        rw [hlast] at e2
        have := hold i ei b e1; have := hnew b e2; omega
    · obtain rfl : i = xs.length := by omega
      rw [hlast] at e1
      by_cases ej : j < xs.length
      · rw [hget j ej] at e2
        have := hold j ej b e2; have := hnew b e1; omega
      · omega
theorem OwnM.push {lo g1 : Nat} {w wA w2 : World} {v v2 : Value} {rs : List Rv} {r : Rv} (h : OwnM lo w v rs) (hb : Below w.heap.size w wA) (hr : OwnR w.heap.size wA r.u r.xs) (hlo : lo ≤ w.heap.size)
    (hown : w2.ownsRow lo PR 1 v2 (rs.length + 1) (rs.map (·.u) ++ [r.u])) (hg : wA.grownBy w2 v.ownBlock) (hu : v2.ownBlock = some g1) (hat : v.ownBlock = some g1 ∨ wA.heap.size ≤ g1) : OwnM lo w2 v2 (rs ++ [r]) := by
  have hvl : ∀ b, v.ownBlock = some b → b < w.heap.size := fun b e => (ownsRow_lt h.row b e).2
  have hold : ∀ i (hi : i < rs.length) b, FootR rs[i].u rs[i].xs b → b < w.heap.size := fun i hi b e => ((h.each i hi).low e).2
  have hnew : ∀ b, FootR r.u r.xs b → w.heap.size ≤ b ∧ b < wA.heap.size := fun b e => hr.low e
  have hlen : (rs ++ [r]).length = rs.length + 1 := by simp
  have hget : ∀ i (hi : i < rs.length), (rs ++ [r])[i]'(by rw [hlen]; omega) = rs[i] := fun i hi => List.getElem_append_left hi
  have hlast : (rs ++ [r])[rs.length]'(by rw [hlen]; omega) = r := by simp
  have hT : Touched (fun b => v.ownBlock = some b) wA w2 := (Touched.refl _ wA).grown hg fun b e => e
  refine ⟨by rw [hlen, List.map_append]; exact hown, fun i hi => ?_, fun i hi b e1 e2 => ?_, fun i j hi hj b hne e1 e2 => ?_⟩
  · rw [hlen] at hi
    by_cases e : i < rs.length
    · rw [hget i e]
      exact ((h.each i e).below hb).touched hT fun b hb2 hS => h.head i e b hS hb2
    · obtain rfl : i = rs.length := by omega
      rw [hlast]
      exact (hr.touched hT fun b hb2 hS => by have := hvl b hS; have := hnew b hb2; omega).mono hlo
  · rw [hu] at e1
    obtain rfl : g1 = b := Option.some.inj e1
    rw [hlen] at hi
    by_cases e : i < rs.length
    · rw [hget i e] at e2
      rcases hat with h1 | h1
      · exact h.head i e g1 h1 e2
      · have := hold i e g1 e2; have := hb.size; omega
    · obtain rfl : i = rs.length := by omega
      rw [hlast] at e2
      rcases hat with h1 | h1
      · have := hvl g1 h1; have := hnew g1 e2; omega
      · have := hnew g1 e2; omega
  · rw [hlen] at hi hj
    by_cases ei : i < rs.length
    · rw [hget i ei] at e1
      by_cases ej : j < rs.length
      · rw [hget j ej] at e2; exact h.apart i j ei ej b hne e1 e2
      · obtain rfl : j = rs.length := by omega
        rw [hlast] at e2
        have := hold i ei b e1; have := hnew b e2; omega
    · obtain rfl : i = rs.length := by omega
      rw [hlast] at e1
      by_cases ej : j < rs.length
      · rw [hget j ej] at e2
        have := hold j ej b e2; have := hnew b e1; omega
      · omega

end Go.Proofs.Ytakfobihakbefaa

/- The model's MatrixFlip. -/

namespace Go.Proofs.Ytakfobihakbefaa
open Go.RowKit

theorem OwnM.made (w : World) : OwnM w.heap.size (w.alloc (.cells #[] PR)) (.slice (some ⟨w.heap.size, 0, none⟩) 0 0) [] :=
  ⟨World.ownsRow_made (base := w.heap.size) (e := PR) (size := 1) w #[] 0 (Nat.le_refl _) (Nat.zero_le _) rfl, fun i hi => by simp at hi, fun i hi => by simp at hi, fun i j hi => by simp at hi⟩
theorem OwnR.made (w : World) : OwnR w.heap.size (w.alloc (.cells #[] PO)) (.slice (some ⟨w.heap.size, 0, none⟩) 0 0) [] :=
  ⟨World.ownsRow_made (base := w.heap.size) (e := PO) (size := 2) w #[] 0 (Nat.le_refl _) (Nat.zero_le _) rfl, fun i hi => by simp at hi, fun i hi => by simp at hi, fun i j hi => by simp at hi⟩
theorem OwnM.is_slice {lo : Nat} {w : World} {v : Value} {rs : List Rv} (h : OwnM lo w v rs) : ∃ a c, v = .slice a rs.length c := by
  rcases h.row.2 with ⟨rfl, h0⟩ | ⟨g, cap, cur, rfl, _⟩
  · exact ⟨none, 0, by rw [h0]⟩
  · exact ⟨_, _, rfl⟩
theorem OwnR.is_slice {lo : Nat} {w : World} {u : Value} {xs : List Pv} (h : OwnR lo w u xs) : ∃ a c, u = .slice a xs.length c := by
  rcases h.row.2 with ⟨rfl, h0⟩ | ⟨g, cap, cur, rfl, _⟩
  · exact ⟨none, 0, by rw [h0]⟩
  · exact ⟨_, _, rfl⟩
theorem rowO_next {f : Nat → Option Pl} {k : Nat} {xs : List Pv} {p : Pl} {v : Value} (h : rowO f k = some (xs.map (·.p))) (hf : f k = some p) : rowO f (k + 1) = some ((xs ++ [(⟨p, v⟩ : Pv)]).map (·.p)) := by
  rw [rowO, h, hf, List.map_append]
  rfl
theorem gridO_next {f : Nat → Nat → Option Pl} {m i : Nat} {rs : List Rv} {u : Value} {xs : List Pv} (h : gridO f m i = some (rowsOf rs)) (hf : rowO (f i) m = some (xs.map (·.p))) : gridO f m (i + 1) = some (rowsOf (rs ++ [⟨u, xs⟩])) := by
  rw [gridO, h, hf]
  simp [rowsOf]
/-- The cells of the matrix that came in, in a later world. -/
theorem IsPSS.cells {w U : World} {x : Addr} {n : Nat} {M : Mx} (hs : IsPSS w (some x) n M) (hb : Below w.heap.size w U) {i k : Nat} (hi : i < M.length) (hk : k < M[i].length) :
    ∃ y ci ak ck, U.cell? (x.add i) = some (.slice (some y) M[i].length ci) ∧ U.cell? (y.add (k * 2)) = some (.int .i64 (at2 M i k).low) ∧ U.cell? ⟨(y.add (k * 2)).block, (y.add (k * 2)).off + 1, Option.none⟩ = some (.slice ak (at2 M i k).cs.length ck) ∧ Ints U ak (at2 M i k).cs.length (at2 M i k).cs ∧ (at2 M i k).cs.length ≤ ck := by
  obtain ⟨z, hz, hzb, hx⟩ := hs.at_ (by have := hs.len; omega)
  obtain rfl : x = z := by simpa using hz
  obtain ⟨ai, ci, hc, hI⟩ := hx i hi
  obtain ⟨y, rfl, hyb, hy⟩ := hI.at_ (by omega)
  obtain ⟨ak, ck, hd0, hd1, hJ, hle⟩ := hy k hk
  rw [at2_eq hi hk]
  have h3 := (hb.cell (p := y.add (k * 2 + 1)) (by rw [addr_add_block]; exact hyb)).trans hd1
  rw [addr_next2] at h3
  exact ⟨y, ci, ak, ck, (hb.cell (p := x.add i) (by rw [addr_add_block]; exact hzb)).trans hc, (hb.cell (p := y.add (k * 2)) (by rw [addr_add_block]; exact hyb)).trans hd0, h3, hJ.below hb, hle⟩

set_option maxRecDepth 100000 in
set_option maxHeartbeats 8000000 in
theorem sMatrixFlip_any (a : Option Addr) (c n : Nat) (M : Mx) (w : World) (hs : IsPSS w a n M) :
    Calls Try.prog 50 #[.slice a n c] w (IM w (flipM M)) := by
  obtain ⟨i0, hi0, hi1, hi2, hi3⟩ := info_parts infoPolyS
  obtain ⟨p0, hp0, hp1, hp2, hp3⟩ := info_parts infoPoly
  have hmax := hs.max
  unfold maxLen at hmax
  have hbA : Below w.heap.size w (w.alloc (.cells #[] PR)) := (Below.refl _ w).alloc (Nat.le_refl _) _
  have HBA := Lib.hid hbA
  have HMd := Lib.hid (OwnM.made w)
  have HL := Lib.hid hs.len
  have HS := Lib.hid hs
  obtain ⟨b, hb⟩ : ∃ b, matB M = b := ⟨_, rfl⟩
  have HIN := Lib.hid (sMatrixIn_any a c n M b _ (hs.below hbA) hb)
  cases b with
  | false =>
    clear hs hbA
    go_enter Try.func50, Try.ntmps50
    go_wp2_with fail
    refine HIN.out.mono ?_
    rintro e w1 ⟨rfl, hb1⟩
    have HM1 := Lib.hid (HMd.out.below hb1)
    have HB1 := Lib.hid (HBA.out.trans (hb1.mono HBA.out.size))
    clear hb1
    go_wp2
    go_ret2
    exact ⟨⟨_, [], by rw [flipM_no hb]; rfl, HM1.out, by rw [flipM_no hb]; rfl⟩, HB1.out⟩
  | true =>
    obtain ⟨h4, hc4, hrows⟩ := matB_iff.1 hb
    obtain ⟨x, rfl, hxb, hx⟩ := hs.at_ (by have := hs.len; omega)
    obtain ⟨a0, c0, hc0, hI0⟩ := hx 0 (by omega)
    rw [show x.add 0 = x by simp [Addr.add], (hrows _ (List.getElem_mem _)).1] at hc0
    obtain ⟨m, hm⟩ : ∃ m, colsM M = m := ⟨_, rfl⟩
    rw [hm] at hc0 hc4
    have HX0 := Lib.hid hc0
    have HXB := Lib.hid hxb
    have HM := Lib.hid hm
    have HB0 := Lib.hid hb
    have HRL : Hid (∀ i (h : i < M.length), M[i].length = m) := Lib.hid fun i h => by rw [← hm]; exact (hrows _ (List.getElem_mem h)).1
    have hn4 : 1 ≤ n ∧ n ≤ 4 := by have := hs.len; omega
    have h0i : (0 : Int) < (n : Int) := by omega
    clear hs hx hc0 hI0 hxb hm hb hrows hbA h4
    go_enter Try.func50, Try.ntmps50
    go_wp2_with fail
    refine HIN.out.mono ?_
    rintro e w1 ⟨rfl, hb1⟩
    have HM1 := Lib.hid (HMd.out.below hb1)
    have hB1 := HBA.out.trans (hb1.mono HBA.out.size)
    clear hb1
    go_wp2
    go_loopw [4, 5] (fun v i wr => ∃ (k : Nat) (rs : List Rv), k ≤ m ∧ i = .int .i64 k ∧ Hid (gridO (fun k i => some (at2 M i k)) n k = some (rowsOf rs)) ∧ Hid (OwnM w.heap.size wr v rs) ∧ Below w.heap.size w wr) (fun _ i _ => m - (intOf i).toNat)
    case atStart => exact ⟨0, [], Nat.zero_le _, rfl, Lib.hid rfl, HM1, hB1⟩
    case round =>
      obtain ⟨k, rs, hk, rfl, HG, HR, hB⟩ := hrel
      obtain ⟨U, hU⟩ : ∃ U, U = wr := ⟨_, rfl⟩
      subst hU
      have q0 := (hB.cell (p := x) HXB.out).trans HX0.out
      by_cases hlt : k < m
      · have HBU := Lib.hid hB
        have HRM := Lib.hid (OwnR.made U)
        have hbU : Below U.heap.size U (U.alloc (.cells #[] PO)) := (Below.refl _ U).alloc (Nat.le_refl _) _
        obtain ⟨av, cv, hv⟩ := HR.out.is_slice
        have hkl := (gridO_some HG.out).1
        rw [rowsOf_len] at hkl
        rw [hkl] at hv
        have HKL := Lib.hid hkl
        clear hkl
        subst hv
        clear hB
        go_wp2
        go_loopw [6, 7] (fun u i wr => ∃ (l : Nat) (xs : List Pv), l ≤ n ∧ i = .int .i64 l ∧ Hid (rowO (fun i => some (at2 M i k)) l = some (xs.map (·.p))) ∧ Hid (OwnR U.heap.size wr u xs) ∧ Below U.heap.size U wr) (fun _ i _ => n - (intOf i).toNat)
        case atStart => exact ⟨0, [], Nat.zero_le _, rfl, Lib.hid rfl, HRM, hbU⟩
        case round =>
          obtain ⟨l, xs, hl, rfl, HO, HW, hBU⟩ := hrel
          have hB2 := HBU.out.trans (hBU.mono HBU.out.size)
          obtain ⟨au, cu, hu⟩ := HW.out.is_slice
          have hll := (rowO_some HO.out).1
          rw [List.length_map] at hll
          rw [hll] at hu
          subst hu
          have HLL := Lib.hid hll
          clear hll
          by_cases hlt2 : l < n
          · have hlr : l < M.length := by rw [HL.out]; exact hlt2
            obtain ⟨y, ci, ak, ck, e0, e1, e2, hJ, _⟩ := HS.out.cells hB2 (k := k) hlr (by rw [HRL.out l hlr]; exact hlt)
            rw [HRL.out l hlr] at e0
            have hpb := matB_at HB0.out hlr (by rw [HM.out]; exact hlt)
            obtain ⟨p, hp⟩ : ∃ p, at2 M l k = p := ⟨_, rfl⟩
            rw [hp] at e1 e2 hJ hpb
            obtain ⟨t, ht⟩ : ∃ t, p.cs.length = t := ⟨_, rfl⟩
            rw [ht] at e2 hJ
            have htl : t ≤ 200 := by have := polyB_trim hpb; omega
            have HCP := Lib.hid (l6pCopy_any p.low p.cs ak ck t wr hJ (by omega))
            have HP := Lib.hid hp
            have HBUr := Lib.hid hBU
            have hUr := hBU.size
            clear hJ hpb hp ht hB2 hBU
            go_wp2_with fail
            refine HCP.out.mono ?_
            rintro e w3 ⟨⟨v3, rfl, hr3⟩, hb3⟩
            obtain ⟨a3, _, c3, rfl, _, _, _⟩ := hr3.shape
            have hW3 := HW.out.below hb3
            have hrow3 := hW3.row
            rw [HLL.out] at hrow3
            have HROW3 := Lib.hid hrow3
            have hs3 := hb3.size
            have hbA3 := hb3.trans (((Below.refl w3.heap.size w3).alloc (Nat.le_refl _) (.cells #[.int .i64 p.low, .slice a3 p.cs.length c3] PO)).mono hs3)
            have HBA3 := Lib.hid hbA3
            have HR3 := Lib.hid (hr3.below ((Below.refl w3.heap.size w3).alloc (Nat.le_refl _) (.cells #[.int .i64 p.low, .slice a3 p.cs.length c3] PO)))
            clear hr3 hb3 hW3 hrow3 hbA3
            go_wp2_with (at_builtin; refine wpList_append_lies _ rfl _ _ _ rfl U.heap.size PO p0 _ 2 32 Try.underlying38 hp0 hp1 hp2 hp3 rfl (by omega) (.slice au l cu) l (cellsP xs) rfl (HROW3.out.alloc _) ⟨w3.heap.size, 0, none⟩ 1 1 [.int .i64 p.low, .slice a3 p.cs.length c3] rfl rfl (World.news_of_block (cs := #[.int .i64 p.low, .slice a3 p.cs.length c3]) (t := PO) (fr := (0, 0)) (heap_alloc_new w3 _)) (by simp [Value.oneCell']) (by omega) (by unfold maxLen; omega) (by omega) (by simp; omega) (w3.heap.size + 1) (by simp) ?_; intro g1 cap1 w4 hown hgrow hat hlt4)
            have hB4 : Below U.heap.size U w4 := (HBUr.out.trans (HBA3.out.mono HBUr.out.size)).grown hgrow (Nat.le_trans HBUr.out.size HBA3.out.size) fun b e => (ownsRow_lt HROW3.out b e).1
            have HW4 := Lib.hid (HW.out.push (p := p) HBA3.out HR3.out HBUr.out.size (by rw [HLL.out]; exact hown) hgrow rfl (hat.imp id fun e => by rw [e]; simp))
            have HO4 := Lib.hid (rowO_next (v := .slice a3 p.cs.length c3) HO.out (by rw [HP.out]))
            clear hown hgrow hat hlt4
            go_wp2
            go_roundw
            case rel => exact ⟨l + 1, _, by omega, by go_num, HO4, HW4, hB4⟩
            case measure => simp [intOf]; omega
          · obtain rfl : l = n := by omega
            have HBUr := Lib.hid hBU
            have hUr := hBU.size
            have HRr := Lib.hid (HR.out.below hBU)
            have hrowr := HRr.out.row
            rw [HKL.out] at hrowr
            have HROW := Lib.hid hrowr
            have HWU := Lib.hid (HBU.out.size)
            clear hB2 hBU hrowr
            have hwU := HWU.out
            go_wp2_with (at_builtin; refine wpList_append_lies _ rfl _ _ _ rfl w.heap.size PR i0 _ 1 24 Try.underlying33 hi0 hi1 hi2 hi3 rfl (by omega) (.slice av k cv) k (rs.map (·.u)) rfl (HROW.out.alloc _) ⟨wr.heap.size, 0, none⟩ 1 1 [.slice au l cu] rfl rfl (World.news_of_block (cs := #[.slice au l cu]) (t := PR) (fr := (0, 0)) (heap_alloc_new wr _)) (by simp [Value.oneCell']) (by omega) (by unfold maxLen; omega) (by omega) (by simp; omega) (wr.heap.size + 1) (by simp) ?_; intro g1 cap1 w4 hown hgrow hat hlt4)
            have hbA4 : Below U.heap.size U (wr.alloc (.cells #[.slice au l cu] PR)) := HBUr.out.alloc hUr _
            have hB4 : Below w.heap.size w w4 := (HBU.out.trans (hbA4.mono HBU.out.size)).grown hgrow (Nat.le_trans HBU.out.size hbA4.size) fun b e => (ownsRow_lt HROW.out b e).1
            have HW4 := Lib.hid (HR.out.push (r := ⟨.slice au l cu, xs⟩) hbA4 (HW.out.below ((Below.refl _ wr).alloc (Nat.le_refl _) _)) HBU.out.size (by rw [HKL.out]; exact hown) hgrow rfl (hat.imp id fun e => by rw [e]; simp))
            have HG4 := Lib.hid (gridO_next (f := fun k i => some (at2 M i k)) (u := .slice au l cu) HG.out HO.out)
            clear hown hgrow hat hlt4 hbA4
            go_wp2
            go_roundw
            case rel => exact ⟨k + 1, _, by omega, by go_num, HG4, HW4, hB4⟩
            case measure => simp [intOf]; omega
      · obtain rfl : k = m := by omega
        have HBr := Lib.hid hB
        clear hB
        go_wp2
        go_ret2
        have hF : flipM M = some (rowsOf rs) := by
          unfold flipM
          rw [if_pos HB0.out, HL.out, HM.out]
          exact HG.out
        exact IM.yes hF HR.out rfl HBr.out

end Go.Proofs.Ytakfobihakbefaa

/- The program's MatrixCut and MatrixOne. -/

namespace Go.Proofs.Ytakfobihakbefaa
open Go.RowKit Go.Shelf

theorem gridL_cut (M : Mx) (i k : Nat) : gridL (fun r c => at2 M (skip i r) (skip k c)) (M.length - 1) (colsM M - 1) = cutL M i k := rfl
theorem cutM_none {M : Mx} {i k : Int} (h : ¬ (matB M = true ∧ 2 ≤ M.length ∧ 2 ≤ colsM M ∧ (0 ≤ i ∧ i < M.length) ∧ (0 ≤ k ∧ k < colsM M))) : cutM M i k = none := by
  unfold cutM
  rw [if_neg]
  intro e
  simp only [Bool.and_eq_true, decide_eq_true_eq] at e
  exact h e
theorem cutM_some {M : Mx} {i k : Nat} (h : matB M = true) (hn : 2 ≤ M.length) (hm : 2 ≤ colsM M) (hi : i < M.length) (hk : k < colsM M) : cutM M i k = some (cutL M i k) := by
  unfold cutM
  rw [if_pos]
  · rfl
  · simp only [Bool.and_eq_true, decide_eq_true_eq]
    exact ⟨h, hn, hm, ⟨by omega, by omega⟩, by omega, by omega⟩

set_option maxRecDepth 100000 in
set_option maxHeartbeats 4000000 in
theorem iMatrixCut_any (a : Option Addr) (c n : Nat) (M : Mx) (i k : Int) (w : World) (hs : IsPSS w a n M) :
    Calls Try.prog 52 #[.slice a n c, .int .i64 i, .int .i64 k] w (IM w (cutM M i k)) := by
  have HS := Lib.hid hs
  clear hs
  go_enter Try.func52, Try.ntmps52
  go_wp2_with fail
  refine (matrixOf_any a c n M w HS.out).mono ?_
  rintro e w1 ⟨⟨hy, g, pv, rfl, hM⟩ | ⟨hn, rfl⟩, hb1⟩
  · have HY := Lib.hid hy
    have HM := Lib.hid hM
    have HB1 := Lib.hid hb1
    have hbA : Below w1.heap.size w1 (w1.alloc (.cells (mC fun _ => none) MA)) := (Below.refl _ _).alloc (Nat.le_refl _) _
    have HBA := Lib.hid hbA
    have hl4 := (matB_iff.1 hy).1
    have hc4 := (matB_iff.1 hy).2.1
    obtain ⟨N, hN⟩ : ∃ N, M.length = N := ⟨_, rfl⟩
    obtain ⟨C, hC⟩ : ∃ C, colsM M = C := ⟨_, rfl⟩
    rw [hN] at hl4 HM
    rw [hC] at hc4 HM
    have HN := Lib.hid hN
    have HC := Lib.hid hC
    clear hy hM hb1 hbA hN hC
    by_cases hi0 : i < 0
    · have hd : decide (i < 0) = true := decide_eq_true hi0
      go_wp2_with (refine wpList_store_mat rfl _ _ rfl w1.heap.size (fun _ => none) g rfl rfl (World.alloc_heap_new w1 (.cells (mC fun _ => none) MA)) ?_; intro w2 hp2)
      go_ret2
      exact IM.no (cutM_none fun h => by omega) (hp2.below (HB1.out.trans (HBA.out.mono HB1.out.size)) HB1.out.size)
    have hd : decide (i < 0) = false := decide_eq_false hi0
    go_wp2_with (first | (refine wpList_store_mat rfl _ _ rfl w1.heap.size (fun _ => none) g rfl rfl (World.alloc_heap_new w1 (.cells (mC fun _ => none) MA)) ?_; intro w2 hp2; have HP2 := Lib.hid hp2; clear hp2) | (refine wpList_load_mat_g (by rfl) _ rfl w1.heap.size g rfl HP2.out.heap ?_))
    refine (rows_any g N C HM.out.shp w2).mono ?_
    rintro e w3 ⟨rfl, hb3⟩
    have HB3 := Lib.hid ((HP2.out.below (HB1.out.trans (HBA.out.mono HB1.out.size)) HB1.out.size).trans (hb3.mono (HP2.out.below (HB1.out.trans (HBA.out.mono HB1.out.size)) HB1.out.size).size))
    have HX3 := Lib.hid ((hb3.block w1.heap.size (by rw [HP2.out.size]; simp)).trans HP2.out.heap)
    have HM3 := Lib.hid ((HM.out.below (HP2.out.below HBA.out (Nat.le_refl _))).below hb3)
    clear hb3
    by_cases hi1 : (N : Int) ≤ i
    · have hd2 : decide ((N : Int) ≤ i) = true := decide_eq_true hi1
      go_wp2
      go_ret2
      exact IM.no (cutM_none fun h => by have := HN.out; omega) HB3.out
    have hd2 : decide ((N : Int) ≤ i) = false := decide_eq_false hi1
    by_cases hk0 : k < 0
    · have hd3 : decide (k < 0) = true := decide_eq_true hk0
      go_wp2
      go_ret2
      exact IM.no (cutM_none fun h => by omega) HB3.out
    have hd3 : decide (k < 0) = false := decide_eq_false hk0
    go_wp2_with (refine wpList_load_mat_g (by rfl) _ rfl w1.heap.size g rfl HX3.out ?_)
    refine (columns_any g N C HM.out.shp w3).mono ?_
    rintro e w4 ⟨rfl, hb4⟩
    have HB4 := Lib.hid (HB3.out.trans (hb4.mono HB3.out.size))
    have HX4 := Lib.hid ((hb4.block w1.heap.size (Array.getElem?_eq_some_iff.1 HX3.out).1).trans HX3.out)
    have HM4 := Lib.hid (HM3.out.below hb4)
    clear hb4
    by_cases hk1 : (C : Int) ≤ k
    · have hd4 : decide ((C : Int) ≤ k) = true := decide_eq_true hk1
      go_wp2
      go_ret2
      exact IM.no (cutM_none fun h => by have := HC.out; omega) HB4.out
    have hd4 : decide ((C : Int) ≤ k) = false := decide_eq_false hk1
    obtain ⟨i, rfl⟩ : ∃ j : Nat, i = (j : Int) := ⟨i.toNat, by omega⟩
    obtain ⟨k, rfl⟩ : ∃ j : Nat, k = (j : Int) := ⟨k.toNat, by omega⟩
    have hin : i < N := by omega
    have hkn : k < C := by omega
    go_wp2_with (refine wpList_load_mat rfl _ rfl w1.heap.size g rfl HX4.out ?_)
    refine (cut_any g i k (by omega) (by omega) w4).mono ?_
    rintro e w5 ⟨rfl, hb5⟩
    have HB5 := Lib.hid (HB4.out.trans (hb5.mono HB4.out.size))
    have HM5 := Lib.hid (HM4.out.below hb5)
    clear hb5
    by_cases h2 : 2 ≤ N ∧ 2 ≤ C
    · go_wp2_with fail
      refine (toldM_any _ _ _ w.heap.size _ _ w5 (HM5.out.cut hin hkn h2.1 h2.2) HB5.out.size (by omega)).mono ?_
      rintro e w6 ⟨v, rs, rfl, ho, hr, hb6⟩
      have HO := Lib.hid ho
      have HR := Lib.hid hr
      have HB6 := Lib.hid (HB5.out.trans (hb6.mono HB5.out.size))
      clear ho hr hb6
      go_wp2
      go_ret2
      have h1 := HN.out
      have h3 := HC.out
      subst h1
      subst h3
      exact IM.yes (cutM_some HY.out h2.1 h2.2 hin hkn) HO.out HR.out HB6.out
    · have hno := cut_none HM5.out hin hkn (by omega)
      have HNO := Lib.hid hno
      clear hno
      go_wp2_with fail
      rw [HNO.out]
      refine (toldM_none w5).mono ?_
      rintro e w6 ⟨rfl, hb6⟩
      have HB6 := Lib.hid (HB5.out.trans (hb6.mono HB5.out.size))
      clear hb6
      go_wp2
      go_ret2
      exact IM.no (cutM_none fun h => by have := HN.out; have := HC.out; omega) HB6.out
  · have HNO := Lib.hid hn
    have HB1 := Lib.hid hb1
    have hbA : Below w1.heap.size w1 (w1.alloc (.cells (mC fun _ => none) MA)) := (Below.refl _ _).alloc (Nat.le_refl _) _
    have HBA := Lib.hid hbA
    clear hn hb1 hbA
    have HF : Hid (cutM M i k = none) := Lib.hid (cutM_none fun h => by rw [HNO.out] at h; exact absurd h.1 (by decide))
    by_cases hi0 : i < 0
    · have hd : decide (i < 0) = true := decide_eq_true hi0
      go_wp2_with (refine wpList_store_mat rfl _ _ rfl w1.heap.size (fun _ => none) (fun _ => none) rfl rfl (World.alloc_heap_new w1 (.cells (mC fun _ => none) MA)) ?_; intro w2 hp2)
      go_ret2
      exact IM.no HF.out (hp2.below (HB1.out.trans (HBA.out.mono HB1.out.size)) HB1.out.size)
    have hd : decide (i < 0) = false := decide_eq_false hi0
    have hd2 : decide ((0 : Int) ≤ i) = true := decide_eq_true (by omega)
    have hd5 : 0 ≤ i := by omega
    go_wp2_with (first | (refine wpList_store_mat rfl _ _ rfl w1.heap.size (fun _ => none) (fun _ => none) rfl rfl (World.alloc_heap_new w1 (.cells (mC fun _ => none) MA)) ?_; intro w2 hp2; have HP2 := Lib.hid hp2; clear hp2) | (refine wpList_load_mat_g (by rfl) _ rfl w1.heap.size (fun _ => none) rfl HP2.out.heap ?_))
    refine (rows_any (fun _ => none) 0 0 ShapeM.none w2).mono ?_
    rintro e w3 ⟨rfl, hb3⟩
    have HB3 := Lib.hid ((HP2.out.below (HB1.out.trans (HBA.out.mono HB1.out.size)) HB1.out.size).trans (hb3.mono (HP2.out.below (HB1.out.trans (HBA.out.mono HB1.out.size)) HB1.out.size).size))
    clear hb3
    go_wp2
    go_ret2
    exact IM.no HF.out HB3.out

end Go.Proofs.Ytakfobihakbefaa

/- The model's l7Cut and MatrixCut. -/

namespace Go.Proofs.Ytakfobihakbefaa
open Go.RowKit

def cutF (M : Mx) (i k r c : Nat) : Option Pl := some (at2 M (skip i r) (skip k c))
theorem cutF_all (M : Mx) (i k : Nat) : gridO (cutF M i k) (colsM M - 1) (M.length - 1) = some (cutL M i k) := gridO_all (fun r c => at2 M (skip i r) (skip k c)) fun _ _ _ _ => rfl
/-- As many of the first r that are not i. -/
def past (i r : Nat) : Nat := if r ≤ i then r else r - 1
theorem past_skip {i r : Nat} (h : r ≠ i) : skip i (past i r) = r := by
  unfold skip past
  split <;> split <;> omega
theorem past_succ {i r : Nat} (h : r ≠ i) : past i (r + 1) = past i r + 1 := by
  unfold past
  split <;> split <;> omega
theorem past_self (i : Nat) : past i (i + 1) = past i i := by
  unfold past
  split <;> split <;> omega
theorem past_all {i n : Nat} (h : i < n) : past i n = n - 1 := by
  unfold past
  split <;> omega

set_option maxRecDepth 100000 in
set_option maxHeartbeats 8000000 in
theorem l7Cut_any (a : Option Addr) (c n i k : Nat) (M : Mx) (w : World) (hs : IsPSS w a n M) (hb : matB M = true) (hi : i < n) (hk : k < colsM M) :
    Calls Try.prog 108 #[.slice a n c, .int .i64 (i : Int), .int .i64 (k : Int)] w fun e w' => ∃ v rs, e = .returned v ∧ OwnM w.heap.size w' v rs ∧ rowsOf rs = cutL M i k ∧ Below w.heap.size w w' := by
  obtain ⟨i0, hi0, hi1, hi2, hi3⟩ := info_parts infoPolyS
  obtain ⟨p0, hp0, hp1, hp2, hp3⟩ := info_parts infoPoly
  have hmax := hs.max
  unfold maxLen at hmax
  have hbA : Below w.heap.size w (w.alloc (.cells #[] PR)) := (Below.refl _ w).alloc (Nat.le_refl _) _
  have HBA := Lib.hid hbA
  have HMd := Lib.hid (OwnM.made w)
  have HL := Lib.hid hs.len
  have HS0 := Lib.hid hs
  obtain ⟨h4, hc4, hrows⟩ := matB_iff.1 hb
  obtain ⟨x, rfl, hxb, hx⟩ := hs.at_ (by have := hs.len; omega)
  have HS : Hid (IsPSS w (some x) n M) := HS0
  obtain ⟨m, hm⟩ : ∃ m, colsM M = m := ⟨_, rfl⟩
  rw [hm] at hc4 hk
  have HM := Lib.hid hm
  have HB0 := Lib.hid hb
  have HRL : Hid (∀ i (h : i < M.length), M[i].length = m) := Lib.hid fun i h => by rw [← hm]; exact (hrows _ (List.getElem_mem h)).1
  have hn4 : 1 ≤ n ∧ n ≤ 4 := by have := hs.len; omega
  clear hs hx hxb hm hb hrows hbA h4 HS0
  go_enter Try.func108, Try.ntmps108
  go_wp2
  go_loopw [7, 8] (fun v j wr => ∃ (r : Nat) (rs : List Rv), r ≤ n ∧ j = .int .i64 r ∧ Hid (gridO (cutF M i k) (m - 1) (past i r) = some (rowsOf rs)) ∧ Hid (OwnM w.heap.size wr v rs) ∧ Below w.heap.size w wr) (fun _ j _ => n - (intOf j).toNat)
  case atStart => exact ⟨0, [], Nat.zero_le _, rfl, Lib.hid (by rw [show past i 0 = 0 by unfold past; rw [if_pos (Nat.zero_le _)]]; rfl), HMd, HBA.out⟩
  case round =>
    obtain ⟨r, rs, hr, rfl, HG, HR, hB⟩ := hrel
    obtain ⟨U, hU⟩ : ∃ U, U = wr := ⟨_, rfl⟩
    subst hU
    by_cases hlt : r < n
    · have hrr : r < M.length := by rw [HL.out]; exact hlt
      by_cases hri : r = i
      · subst hri
        have hdr : decide ((r : Int) = (r : Int)) = true := by simp
        have HB := Lib.hid hB
        clear hB
        go_wp2
        go_roundw
        case rel => exact ⟨r + 1, rs, by omega, by go_num, Lib.hid (by rw [past_self]; exact HG.out), HR, HB.out⟩
        case measure => simp [intOf]; omega
      · have hdr : decide ((r : Int) = (i : Int)) = false := decide_eq_false (by omega)
        have hdr2 : ((r : Int) == (i : Int)) = false := beq_eq_false_iff_ne.2 (by omega)
        have HBU := Lib.hid hB
        have HRM := Lib.hid (OwnR.made U)
        have hbU : Below U.heap.size U (U.alloc (.cells #[] PO)) := (Below.refl _ U).alloc (Nat.le_refl _) _
        obtain ⟨av, cv, hv⟩ := HR.out.is_slice
        have hkl := (gridO_some HG.out).1
        rw [rowsOf_len] at hkl
        obtain ⟨pr, hpr⟩ : ∃ p, past i r = p := ⟨_, rfl⟩
        rw [hpr] at hkl
        rw [hkl] at hv
        have HKL := Lib.hid hkl
        have HPP := Lib.hid hpr
        have hpn : pr ≤ 4 := by rw [← hpr]; unfold past; split <;> omega
        clear hkl hpr
        subst hv
        clear hB
        go_wp2
        go_loopw [9, 10] (fun u j wr => ∃ (l : Nat) (xs : List Pv), l ≤ m ∧ j = .int .i64 l ∧ Hid (rowO (cutF M i k pr) (past k l) = some (xs.map (·.p))) ∧ Hid (OwnR U.heap.size wr u xs) ∧ Below U.heap.size U wr) (fun _ j _ => m - (intOf j).toNat)
        case atStart => exact ⟨0, [], Nat.zero_le _, rfl, Lib.hid (by rw [show past k 0 = 0 by unfold past; rw [if_pos (Nat.zero_le _)]]; rfl), HRM, hbU⟩
        case round =>
          obtain ⟨l, xs, hl, rfl, HO, HW, hBU⟩ := hrel
          have hB2 := HBU.out.trans (hBU.mono HBU.out.size)
          obtain ⟨au, cu, hu⟩ := HW.out.is_slice
          have hll := (rowO_some HO.out).1
          rw [List.length_map] at hll
          obtain ⟨q, hq⟩ : ∃ q, past k l = q := ⟨_, rfl⟩
          rw [hq] at hll
          rw [hll] at hu
          subst hu
          have HLL := Lib.hid hll
          have HQ := Lib.hid hq
          have hq4 : q ≤ 4 := by rw [← hq]; unfold past; split <;> omega
          clear hll hq
          obtain ⟨xr, hxr, hxbr, hxxr⟩ := HS.out.at_ (by omega)
          obtain rfl : x = xr := by simpa using hxr
          obtain ⟨ar, cr, hcr, _⟩ := hxxr r hrr
          have q0 := (hB2.cell (p := x.add r) (by rw [addr_add_block]; exact hxbr)).trans hcr
          rw [HRL.out r hrr] at q0
          clear hxr hxbr hxxr hcr
          by_cases hlt2 : l < m
          · by_cases hlk : l = k
            · subst hlk
              have hdk : decide ((l : Int) = (l : Int)) = true := by simp
              have HBUr := Lib.hid hBU
              clear hBU hB2
              go_wp2
              go_roundw
              case rel => first | exact ⟨l + 1, xs, by omega, by go_num, Lib.hid (by rw [past_self]; exact HO.out), HW, HBUr.out⟩ | exact ⟨_, l + 1, xs, by omega, by go_num, Lib.hid (by rw [past_self]; exact HO.out), HW, HBUr.out⟩ | exact ⟨_, ⟨l + 1, xs, by omega, by go_num, Lib.hid (by rw [past_self]; exact HO.out), HW, HBUr.out⟩, rfl⟩ | exact Nat
              case measure => simp [intOf]; omega
            · have hdk : decide ((l : Int) = (k : Int)) = false := decide_eq_false (by omega)
              have hdk2 : ((l : Int) == (k : Int)) = false := beq_eq_false_iff_ne.2 (by omega)
              obtain ⟨y, ci, ak, ck, e0, e1, e2, hJ, _⟩ := HS.out.cells hB2 (k := l) hrr (by rw [HRL.out r hrr]; exact hlt2)
              rw [HRL.out r hrr] at e0
              have HSK : Hid (cutF M i k pr q = some (at2 M r l)) := Lib.hid (by unfold cutF; rw [← HPP.out, ← HQ.out, past_skip hri, past_skip hlk])
              clear q0
              have hpb := matB_at HB0.out hrr (by rw [HM.out]; exact hlt2)
              obtain ⟨p, hp⟩ : ∃ p, at2 M r l = p := ⟨_, rfl⟩
              rw [hp] at e1 e2 hJ hpb
              obtain ⟨t, ht⟩ : ∃ t, p.cs.length = t := ⟨_, rfl⟩
              rw [ht] at e2 hJ
              have htl : t ≤ 200 := by have := polyB_trim hpb; omega
              have HCP := Lib.hid (l6pCopy_any p.low p.cs ak ck t wr hJ (by omega))
              have HP := Lib.hid hp
              have HBUr := Lib.hid hBU
              have hUr := hBU.size
              clear hJ hpb hp ht hB2 hBU
              go_wp2_with fail
              refine HCP.out.mono ?_
              rintro e w3 ⟨⟨v3, rfl, hr3⟩, hb3⟩
              obtain ⟨a3, _, c3, rfl, _, _, _⟩ := hr3.shape
              have hW3 := HW.out.below hb3
              have hrow3 := hW3.row
              rw [HLL.out] at hrow3
              have HROW3 := Lib.hid hrow3
              have hs3 := hb3.size
              have hbA3 := hb3.trans (((Below.refl w3.heap.size w3).alloc (Nat.le_refl _) (.cells #[.int .i64 p.low, .slice a3 p.cs.length c3] PO)).mono hs3)
              have HBA3 := Lib.hid hbA3
              have HR3 := Lib.hid (hr3.below ((Below.refl w3.heap.size w3).alloc (Nat.le_refl _) (.cells #[.int .i64 p.low, .slice a3 p.cs.length c3] PO)))
              clear hr3 hb3 hW3 hrow3 hbA3
              go_wp2_with (at_builtin; refine wpList_append_lies _ rfl _ _ _ rfl U.heap.size PO p0 _ 2 32 Try.underlying38 hp0 hp1 hp2 hp3 rfl (by omega) (.slice au q cu) q (cellsP xs) rfl (HROW3.out.alloc _) ⟨w3.heap.size, 0, none⟩ 1 1 [.int .i64 p.low, .slice a3 p.cs.length c3] rfl rfl (World.news_of_block (cs := #[.int .i64 p.low, .slice a3 p.cs.length c3]) (t := PO) (fr := (0, 0)) (heap_alloc_new w3 _)) (by simp [Value.oneCell']) (by omega) (by unfold maxLen; omega) (by omega) (by simp; omega) (w3.heap.size + 1) (by simp) ?_; intro g1 cap1 w4 hown hgrow hat hlt4)
              have hB4 : Below U.heap.size U w4 := (HBUr.out.trans (HBA3.out.mono HBUr.out.size)).grown hgrow (Nat.le_trans HBUr.out.size HBA3.out.size) fun b e => (ownsRow_lt HROW3.out b e).1
              have HW4 := Lib.hid (HW.out.push (p := p) HBA3.out HR3.out HBUr.out.size (by rw [HLL.out]; exact hown) hgrow rfl (hat.imp id fun e => by rw [e]; simp))
              have HO4 := Lib.hid (rowO_next (v := .slice a3 p.cs.length c3) HO.out (by rw [HQ.out, HSK.out, HP.out]))
              clear hown hgrow hat hlt4
              go_wp2
              go_roundw
              case rel => exact ⟨l + 1, _, by omega, by go_num, Lib.hid (by rw [past_succ hlk]; exact HO4.out), HW4, hB4⟩
              case measure => simp [intOf]; omega
          · obtain rfl : l = m := by omega
            have hqm : q = l - 1 := by rw [← HQ.out]; exact past_all hk
            subst hqm
            have HO2 : Hid (rowO (cutF M i k pr) (l - 1) = some (xs.map (·.p))) := Lib.hid (by rw [← HQ.out]; exact HO.out)
            have HBUr := Lib.hid hBU
            have hUr := hBU.size
            have HRr := Lib.hid (HR.out.below hBU)
            have hrowr := HRr.out.row
            rw [HKL.out] at hrowr
            have HROW := Lib.hid hrowr
            have HWU := Lib.hid (HBU.out.size)
            clear hB2 hBU hrowr
            have hwU := HWU.out
            go_wp2_with (at_builtin; refine wpList_append_lies _ rfl _ _ _ rfl w.heap.size PR i0 _ 1 24 Try.underlying33 hi0 hi1 hi2 hi3 rfl (by omega) (.slice av pr cv) pr (rs.map (·.u)) rfl (HROW.out.alloc _) ⟨wr.heap.size, 0, none⟩ 1 1 [.slice au (l - 1) cu] rfl rfl (World.news_of_block (cs := #[.slice au (l - 1) cu]) (t := PR) (fr := (0, 0)) (heap_alloc_new wr _)) (by simp [Value.oneCell']) (by omega) (by unfold maxLen; omega) (by omega) (by simp; omega) (wr.heap.size + 1) (by simp) ?_; intro g1 cap1 w4 hown hgrow hat hlt4)
            have hbA4 : Below U.heap.size U (wr.alloc (.cells #[.slice au (l - 1) cu] PR)) := HBUr.out.alloc hUr _
            have hB4 : Below w.heap.size w w4 := (HBU.out.trans (hbA4.mono HBU.out.size)).grown hgrow (Nat.le_trans HBU.out.size hbA4.size) fun b e => (ownsRow_lt HROW.out b e).1
            have HW4 := Lib.hid (HR.out.push (r := ⟨.slice au (l - 1) cu, xs⟩) hbA4 (HW.out.below ((Below.refl _ wr).alloc (Nat.le_refl _) _)) HBU.out.size (by rw [HKL.out]; exact hown) hgrow rfl (hat.imp id fun e => by rw [e]; simp))
            have HG4 := Lib.hid (gridO_next (f := cutF M i k) (u := .slice au (l - 1) cu) HG.out (by rw [HPP.out]; exact HO2.out))
            clear hown hgrow hat hlt4 hbA4
            go_wp2
            go_roundw
            case rel => exact ⟨r + 1, _, by omega, by go_num, Lib.hid (by rw [past_succ hri]; exact HG4.out), HW4, hB4⟩
            case measure => simp [intOf]; omega
    · obtain rfl : r = n := by omega
      have HBr := Lib.hid hB
      clear hB
      go_wp2
      go_ret
      refine ⟨_, rs, rfl, HR.out, ?_, HBr.out⟩
      have h := cutF_all M i k
      have h2 := HG.out
      rw [past_all hi] at h2
      rw [HL.out, HM.out] at h
      exact Option.some.inj (h2.symm.trans h)

end Go.Proofs.Ytakfobihakbefaa

/- The model's MatrixCut. -/

namespace Go.Proofs.Ytakfobihakbefaa
open Go.RowKit

set_option maxRecDepth 100000 in
set_option maxHeartbeats 8000000 in
theorem sMatrixCut_any (a : Option Addr) (c n : Nat) (M : Mx) (i k : Int) (w : World) (hs : IsPSS w a n M) :
    Calls Try.prog 53 #[.slice a n c, .int .i64 i, .int .i64 k] w (IM w (cutM M i k)) := by
  have hmax := hs.max
  unfold maxLen at hmax
  have HL := Lib.hid hs.len
  have HS := Lib.hid hs
  obtain ⟨b, hb⟩ : ∃ b, matB M = b := ⟨_, rfl⟩
  have HIN := Lib.hid (sMatrixIn_any a c n M b w hs hb)
  have HEnd : Hid (∀ w1, Below w.heap.size w w1 → cutM M i k = none → IM w (cutM M i k) (.returned (.tuple #[.slice (some ⟨w1.heap.size, 0, none⟩) 0 0, .bool false])) (w1.alloc (.cells #[] PR))) := Lib.hid fun w1 h e => by
    rw [e]
    exact ⟨⟨_, [], rfl, (OwnM.made w1).mono h.size, rfl⟩, h.alloc h.size _⟩
  cases b with
  | false =>
    have HN : Hid (cutM M i k = none) := Lib.hid (cutM_none fun h => by rw [hb] at h; exact absurd h.1 (by decide))
    clear hs hb
    go_enter Try.func53, Try.ntmps53
    go_wp2_with fail
    refine HIN.out.mono ?_
    rintro e w1 ⟨rfl, hb1⟩
    have HB1 := Lib.hid hb1
    clear hb1
    go_wp2
    go_ret2
    exact HEnd.out w1 HB1.out HN.out
  | true =>
    obtain ⟨h4, hc4, hrows⟩ := matB_iff.1 hb
    obtain ⟨x, rfl, hxb, hx⟩ := hs.at_ (by have := hs.len; omega)
    obtain ⟨a0, c0, hc0, hI0⟩ := hx 0 (by omega)
    rw [show x.add 0 = x by simp [Addr.add], (hrows _ (List.getElem_mem _)).1] at hc0
    obtain ⟨m, hm⟩ : ∃ m, colsM M = m := ⟨_, rfl⟩
    rw [hm] at hc0 hc4
    have HX0 := Lib.hid hc0
    have HXB := Lib.hid hxb
    have HM := Lib.hid hm
    have HB0 := Lib.hid hb
    have hn4 : 1 ≤ n ∧ n ≤ 4 := by have := hs.len; omega
    have h0i : (0 : Int) < (n : Int) := by omega
    clear hs hx hc0 hI0 hxb hm hb hrows h4
    go_enter Try.func53, Try.ntmps53
    go_wp2_with fail
    refine HIN.out.mono ?_
    rintro e w1 ⟨rfl, hb1⟩
    have q0 := (hb1.cell (p := x) HXB.out).trans HX0.out
    have HB1 := Lib.hid hb1
    clear hb1
    by_cases hn2 : n < 2
    · have hd : decide ((n : Int) < 2) = true := decide_eq_true (by omega)
      have HN : Hid (cutM M i k = none) := Lib.hid (cutM_none fun h => by have := HL.out; omega)
      go_wp2
      go_ret2
      exact HEnd.out w1 HB1.out HN.out
    have hd : decide ((n : Int) < 2) = false := decide_eq_false (by omega)
    by_cases hm2 : m < 2
    · have hd2 : decide ((m : Int) < 2) = true := decide_eq_true (by omega)
      have HN : Hid (cutM M i k = none) := Lib.hid (cutM_none fun h => by have := HM.out; omega)
      go_wp2
      go_ret2
      exact HEnd.out w1 HB1.out HN.out
    have hd2 : decide ((m : Int) < 2) = false := decide_eq_false (by omega)
    have hw1 : IntKind.i64.wrap ((n : Int) - 1) = (n : Int) - 1 := IntWalk.i64_in _ (by omega)
    have hw2 : IntKind.i64.wrap ((m : Int) - 1) = (m : Int) - 1 := IntWalk.i64_in _ (by omega)
    by_cases hi : 0 ≤ i ∧ i ≤ (n : Int) - 1
    case neg =>
      have HN : Hid (cutM M i k = none) := Lib.hid (cutM_none fun h => hi (by have := HL.out; omega))
      go_wp2_with fail
      refine (l6In_eq _ _ _ false _ (inR_no hi)).mono ?_
      rintro e w2 ⟨rfl, rfl⟩
      go_wp2
      go_ret2
      exact HEnd.out w1 HB1.out HN.out
    by_cases hk : 0 ≤ k ∧ k ≤ (m : Int) - 1
    case neg =>
      have HN : Hid (cutM M i k = none) := Lib.hid (cutM_none fun h => hk (by have := HM.out; omega))
      go_wp2_with fail
      refine (l6In_eq _ _ _ true _ (inR_yes hi)).mono ?_
      rintro e w2 ⟨rfl, rfl⟩
      go_wp2_with fail
      refine (l6In_eq _ _ _ false _ (inR_no hk)).mono ?_
      rintro e w2 ⟨rfl, rfl⟩
      go_wp2
      go_ret2
      exact HEnd.out w1 HB1.out HN.out
    obtain ⟨i, rfl⟩ : ∃ j : Nat, i = (j : Int) := ⟨i.toNat, by omega⟩
    obtain ⟨k, rfl⟩ : ∃ j : Nat, k = (j : Int) := ⟨k.toNat, by omega⟩
    have hin : i < n := by omega
    have hkm : k < m := by omega
    go_wp2_with fail
    refine (l6In_eq _ _ _ true _ (inR_yes hi)).mono ?_
    rintro e w2 ⟨rfl, rfl⟩
    go_wp2_with fail
    refine (l6In_eq _ _ _ true _ (inR_yes hk)).mono ?_
    rintro e w2 ⟨rfl, rfl⟩
    go_wp2_with fail
    refine (l7Cut_any _ c n i k M w1 (HS.out.below HB1.out) HB0.out hin (by rw [HM.out]; exact hkm)).mono ?_
    rintro e w2 ⟨v, rs, rfl, ho, hr, hb2⟩
    have HO := Lib.hid ho
    have HR := Lib.hid hr
    have HB2 := Lib.hid (HB1.out.trans (hb2.mono HB1.out.size))
    clear ho hr hb2
    go_wp2
    go_ret2
    exact IM.yes (cutM_some HB0.out (by have := HL.out; omega) (by have := HM.out; omega) (by rw [HL.out]; exact hin) (by rw [HM.out]; exact hkm)) (HO.out.mono HB1.out.size) HR.out HB2.out

end Go.Proofs.Ytakfobihakbefaa

/- The program's MatrixOne. -/

namespace Go.Proofs.Ytakfobihakbefaa
open Go.RowKit Go.Shelf

def oneF (i k : Nat) : Option Pl := some (if i = k then ⟨0, [1]⟩ else zeroP)
def oneZ (n : Int) : Option Mx := if 1 ≤ n ∧ n ≤ 4 then gridO oneF n.toNat n.toNat else none
theorem oneZ_none {n : Int} (h : ¬ (1 ≤ n ∧ n ≤ 4)) : oneZ n = none := if_neg h
theorem oneZ_some {n : Nat} (h : 1 ≤ n ∧ n ≤ 4) : oneZ (n : Int) = some (gridL (fun i k => if i = k then ⟨0, [1]⟩ else zeroP) n n) := by
  unfold oneZ
  rw [if_pos (by omega)]
  exact gridO_all _ fun _ _ _ _ => rfl
theorem poly_one_B : polyB ⟨0, [1]⟩ = true := by decide
theorem zero_B : polyB zeroP = true := by decide
theorem gridL_congr {P Q : Nat → Nat → Pl} {n m : Nat} (h : ∀ i k, i < n → k < m → P i k = Q i k) : gridL P n m = gridL Q n m := by
  unfold gridL
  refine List.map_congr_left fun i hi => List.map_congr_left fun k hk => ?_
  exact h i k (List.mem_range.1 hi) (List.mem_range.1 hk)

set_option maxRecDepth 100000 in
set_option maxHeartbeats 2000000 in
theorem one1_any (i k : Nat) (w : World) :
    Calls Try.prog 86 #[.int .i64 (i : Int), .int .i64 (k : Int)] w (AtE w (oneF i k)) := by
  by_cases h : i = k
  · subst h
    have hd : decide ((i : Int) = (i : Int)) = true := by simp
    have hF : Hid (oneF i i = some ⟨0, [1]⟩) := Lib.hid (by unfold oneF; rw [if_pos rfl])
    go_enter Try.func86, Try.ntmps86
    go_wp2
    have h := World.ownsRow_lit (base := w.heap.size) (e := 3) (size := 1) (w.alloc (.cells #[.int .i64 0, .slice (some ⟨w.heap.size + 1, 0, none⟩) 1 1] 25)) #[.int .i64 1] 1 (by simp) (by unfold maxLen; omega) rfl
    rw [World.size_alloc] at h
    have hB : Below w.heap.size w ((w.alloc (.cells #[.int .i64 0, .slice (some ⟨w.heap.size + 1, 0, none⟩) 1 1] 25)).alloc (.cells #[.int .i64 1] 3)) := ((Below.refl _ w).alloc (Nat.le_refl _) _).alloc (by simp) _
    have hA : AtE w (oneF i i) (.returned (.tuple #[plV 0 (.slice (some ⟨w.heap.size + 1, 0, none⟩) 1 1), .bool true])) ((w.alloc (.cells #[.int .i64 0, .slice (some ⟨w.heap.size + 1, 0, none⟩) 1 1] 25)).alloc (.cells #[.int .i64 1] 3)) :=
      ⟨.inr ⟨⟨0, [1]⟩, _, _, _, hF.out, rfl, h⟩, hB⟩
    refine bodyPost_ret (v := .tuple #[plV 0 (.slice (some ⟨w.heap.size + 1, 0, none⟩) 1 1), .bool true]) ?_ rfl hA
    simp [results, Try.results86, go_sem, plV]
  · have hd : decide ((i : Int) = (k : Int)) = false := decide_eq_false (by omega)
    have hF : Hid (oneF i k = some zeroP) := Lib.hid (by unfold oneF; rw [if_neg h])
    go_enter Try.func86, Try.ntmps86
    go_wp2
    have hA : AtE w (oneF i k) (.returned (.tuple #[plV 0 (.slice none 0 0), .bool true])) (w.alloc (.cells #[.int .i64 0, .slice none 0 0] 25)) :=
      ⟨.inr ⟨zeroP, _, _, _, hF.out, rfl, intNil _ _⟩, (Below.refl _ w).alloc (Nat.le_refl _) _⟩
    refine bodyPost_ret (v := .tuple #[plV 0 (.slice none 0 0), .bool true]) ?_ rfl hA
    simp [results, Try.results86, go_sem, plV]

set_option maxRecDepth 100000 in
set_option maxHeartbeats 2000000 in
theorem iMatrixOne_any (n : Int) (w : World) :
    Calls Try.prog 34 #[.int .i64 n] w (IM w (oneZ n)) := by
  by_cases h1 : n < 1
  · have hd : decide (n < 1) = true := decide_eq_true h1
    go_enter Try.func34, Try.ntmps34
    go_wp2
    go_ret2
    exact IM.no (oneZ_none (by omega)) (Below.refl _ _)
  have hd : decide (n < 1) = false := decide_eq_false h1
  by_cases h4 : 4 < n
  · have hd2 : decide (4 < n) = true := decide_eq_true h4
    go_enter Try.func34, Try.ntmps34
    go_wp2
    go_ret2
    exact IM.no (oneZ_none (by omega)) (Below.refl _ _)
  have hd2 : decide (4 < n) = false := decide_eq_false h4
  obtain ⟨n, rfl⟩ : ∃ j : Nat, n = (j : Int) := ⟨n.toNat, by omega⟩
  have hn : 1 ≤ n ∧ n ≤ 4 := by omega
  go_enter Try.func34, Try.ntmps34
  go_wp2_with fail
  refine (matrixBy_any _ #[] n n oneF w hn.2 hn.2 Iff.rfl (fun _ _ => by go_simp) fun i k W _ _ _ => one1_any i k W).mono ?_
  rintro e w1 ⟨⟨⟨i, k, _, _, hno⟩, rfl⟩ | ⟨g, P, pv, hP, rfl, hM⟩, hb1⟩
  · unfold oneF at hno; cases hno
  · have HM := Lib.hid (hM.congr (Q := fun i k => if i = k then ⟨0, [1]⟩ else zeroP) fun i k hi hk => by
      have := hP i k hi hk
      unfold oneF at this
      exact (Option.some.inj this).symm)
    have HB1 := Lib.hid hb1
    clear hM hP hb1
    go_wp2_with fail
    refine (toldM_any g n n w.heap.size _ _ w1 HM.out HB1.out.size (by omega)).mono ?_
    rintro e w2 ⟨v, rs, rfl, ho, hr, hb2⟩
    have HO := Lib.hid ho
    have HR := Lib.hid hr
    have HB2 := Lib.hid (HB1.out.trans (hb2.mono HB1.out.size))
    clear ho hr hb2
    go_wp2
    go_ret2
    exact IM.yes (oneZ_some hn) HO.out HR.out HB2.out

theorem good_one (n : Int) : GoodM ((oneZ n).getD []) := by
  by_cases h : 1 ≤ n ∧ n ≤ 4
  · have e : oneZ n = gridO oneF n.toNat n.toNat := if_pos h
    rw [e]
    cases e2 : gridO oneF n.toNat n.toNat with
    | none => exact GoodM.nil
    | some R =>
      refine GoodM.grid e2 (by omega) (by omega) fun i k p _ _ hp => ?_
      unfold oneF at hp
      simp only [Option.some.injEq] at hp
      subst hp
      split
      · exact poly_one_B
      · exact zero_B
  · rw [oneZ_none h]
    exact GoodM.nil

end Go.Proofs.Ytakfobihakbefaa

/- The model's MatrixOne. -/

namespace Go.Proofs.Ytakfobihakbefaa
open Go.RowKit

set_option maxRecDepth 100000 in
set_option maxHeartbeats 2000000 in
theorem l7Zero_any (w : World) :
    Calls Try.prog 93 #[] w fun e w' => (∃ v, e = .returned (plV 0 v) ∧ IntRow w.heap.size w' v []) ∧ Below w.heap.size w w' := by
  go_enter Try.func93, Try.ntmps93
  go_wp2
  have h := World.ownsRow_made (base := w.heap.size) (e := 3) (size := 1) (w.alloc (.cells #[.int .i64 0, .slice (some ⟨w.heap.size + 1, 0, none⟩) 0 0] 25)) #[] 0 (by simp) (Nat.zero_le _) rfl
  rw [World.size_alloc] at h
  have hB : Below w.heap.size w ((w.alloc (.cells #[.int .i64 0, .slice (some ⟨w.heap.size + 1, 0, none⟩) 0 0] 25)).alloc (.cells #[] 3)) := ((Below.refl _ w).alloc (Nat.le_refl _) _).alloc (by simp) _
  refine bodyPost_ret (v := plV 0 (.slice (some ⟨w.heap.size + 1, 0, none⟩) 0 0)) ?_ rfl ⟨⟨_, rfl, h⟩, hB⟩
  simp [results, Try.results93, go_sem, plV]

set_option maxRecDepth 100000 in
set_option maxHeartbeats 8000000 in
theorem sMatrixOne_any (n : Int) (w : World) :
    Calls Try.prog 38 #[.int .i64 n] w (IM w (oneZ n)) := by
  obtain ⟨i0, hi0, hi1, hi2, hi3⟩ := info_parts infoPolyS
  obtain ⟨p0, hp0, hp1, hp2, hp3⟩ := info_parts infoPoly
  have hbA : Below w.heap.size w (w.alloc (.cells #[] PR)) := (Below.refl _ w).alloc (Nat.le_refl _) _
  have HBA := Lib.hid hbA
  have HMd := Lib.hid (OwnM.made w)
  by_cases h14 : 1 ≤ n ∧ n ≤ 4
  case neg =>
    clear hbA
    go_enter Try.func38, Try.ntmps38
    go_wp2_with fail
    refine (l6In_eq _ _ _ false _ (inR_no h14)).mono ?_
    rintro e w1 ⟨rfl, rfl⟩
    go_wp2
    go_ret2
    exact ⟨⟨_, [], by rw [oneZ_none h14]; rfl, HMd.out, by rw [oneZ_none h14]; rfl⟩, HBA.out⟩
  obtain ⟨n, rfl⟩ : ∃ j : Nat, n = (j : Int) := ⟨n.toNat, by omega⟩
  have hn4 : 1 ≤ n ∧ n ≤ 4 := by omega
  clear hbA
  go_enter Try.func38, Try.ntmps38
  go_wp2_with fail
  refine (l6In_eq _ _ _ true _ (inR_yes h14)).mono ?_
  rintro e w1 ⟨rfl, rfl⟩
  go_wp2
  go_loopw [4, 5] (fun v i wr => ∃ (k : Nat) (rs : List Rv), k ≤ n ∧ i = .int .i64 k ∧ Hid (gridO oneF n k = some (rowsOf rs)) ∧ Hid (OwnM w.heap.size wr v rs) ∧ Below w.heap.size w wr) (fun _ i _ => n - (intOf i).toNat)
  case atStart => exact ⟨0, [], Nat.zero_le _, rfl, Lib.hid rfl, HMd, HBA.out⟩
  case round =>
      obtain ⟨k, rs, hk, rfl, HG, HR, hB⟩ := hrel
      obtain ⟨U, hU⟩ : ∃ U, U = wr := ⟨_, rfl⟩
      subst hU
      by_cases hlt : k < n
      · have HBU := Lib.hid hB
        have HRM := Lib.hid (OwnR.made U)
        have hbU : Below U.heap.size U (U.alloc (.cells #[] PO)) := (Below.refl _ U).alloc (Nat.le_refl _) _
        obtain ⟨av, cv, hv⟩ := HR.out.is_slice
        have hkl := (gridO_some HG.out).1
        rw [rowsOf_len] at hkl
        rw [hkl] at hv
        have HKL := Lib.hid hkl
        clear hkl
        subst hv
        clear hB
        go_wp2
        go_loopw [6, 7] (fun u i wr => ∃ (l : Nat) (xs : List Pv), l ≤ n ∧ i = .int .i64 l ∧ Hid (rowO (oneF k) l = some (xs.map (·.p))) ∧ Hid (OwnR U.heap.size wr u xs) ∧ Below U.heap.size U wr) (fun _ i _ => n - (intOf i).toNat)
        case atStart => exact ⟨0, [], Nat.zero_le _, rfl, Lib.hid rfl, HRM, hbU⟩
        case round =>
          obtain ⟨l, xs, hl, rfl, HO, HW, hBU⟩ := hrel
          obtain ⟨au, cu, hu⟩ := HW.out.is_slice
          have hll := (rowO_some HO.out).1
          rw [List.length_map] at hll
          rw [hll] at hu
          subst hu
          have HLL := Lib.hid hll
          clear hll
          by_cases hlt2 : l < n
          · have HBUr := Lib.hid hBU
            have hUr := hBU.size
            by_cases hkl : k = l
            · have hdk : decide ((k : Int) = (l : Int)) = true := decide_eq_true (by omega)
              have hdk2 : ((k : Int) == (l : Int)) = true := beq_iff_eq.2 (by omega)
              have HP : Hid (oneF k l = some ⟨0, [1]⟩) := Lib.hid (by unfold oneF; rw [if_pos hkl])
              obtain ⟨w3, hw3⟩ : ∃ w3, wr.alloc (.cells #[.int .i64 1] 3) = w3 := ⟨_, rfl⟩
              have hb3 : Below wr.heap.size wr w3 := by rw [← hw3]; exact (Below.refl _ _).alloc (Nat.le_refl _) _
              have hr3 : IntRow wr.heap.size w3 (.slice (some ⟨wr.heap.size, 0, none⟩) 1 1) [1] := by
                rw [← hw3]
                exact World.ownsRow_lit (base := wr.heap.size) (e := 3) (size := 1) wr #[.int .i64 1] 1 (Nat.le_refl _) (by unfold maxLen; omega) rfl
              have hW3 := HW.out.below hb3
              have hrow3 := hW3.row
              rw [HLL.out] at hrow3
              have hs3 := hb3.size
              have hs4 : w3.heap.size = wr.heap.size + 1 := by rw [← hw3]; simp
              have hbA3 := hb3.trans (((Below.refl w3.heap.size w3).alloc (Nat.le_refl _) (.cells #[.int .i64 0, .slice (some ⟨wr.heap.size, 0, none⟩) 1 1] PO)).mono hs3)
              have HR3 := Lib.hid (hr3.below ((Below.refl w3.heap.size w3).alloc (Nat.le_refl _) (.cells #[.int .i64 0, .slice (some ⟨wr.heap.size, 0, none⟩) 1 1] PO)))
              have hnews : (w3.alloc (.cells #[.int .i64 0, .slice (some ⟨wr.heap.size, 0, none⟩) 1 1] PO)).heap[wr.heap.size + 1]? = some (.cells #[.int .i64 0, .slice (some ⟨wr.heap.size, 0, none⟩) 1 1] PO (0, 0)) := by
                rw [← hs4]; exact heap_alloc_new w3 _
              have hszA : (w3.alloc (.cells #[.int .i64 0, .slice (some ⟨wr.heap.size, 0, none⟩) 1 1] PO)).heap.size = wr.heap.size + 2 := by simp; omega
              have HSA := Lib.hid hszA
              have hrowA := hrow3.alloc (.cells #[.int .i64 0, .slice (some ⟨wr.heap.size, 0, none⟩) 1 1] PO)
              rw [← hw3] at hbA3 hnews hrowA HR3 HSA
              have HROWA := Lib.hid hrowA
              have HBA3 := Lib.hid hbA3
              have HNEWS := Lib.hid hnews
              clear hr3 hb3 hW3 hrow3 hbA3 hBU hw3 hnews hszA hrowA hs3 hs4 hkl
              go_wp2_with (at_builtin; refine wpList_append_lies _ rfl _ _ _ rfl U.heap.size PO p0 _ 2 32 Try.underlying38 hp0 hp1 hp2 hp3 rfl (by omega) (.slice au l cu) l (cellsP xs) rfl HROWA.out ⟨wr.heap.size + 1, 0, none⟩ 1 1 [.int .i64 0, .slice (some ⟨wr.heap.size, 0, none⟩) 1 1] rfl rfl (World.news_of_block (cs := #[.int .i64 0, .slice (some ⟨wr.heap.size, 0, none⟩) 1 1]) (t := PO) (fr := (0, 0)) HNEWS.out) (by simp [Value.oneCell']) (by omega) (by unfold maxLen; omega) (by omega) (by rw [HSA.out]; omega) (wr.heap.size + 2) HSA.out ?_; intro g1 cap1 w4 hown hgrow hat hlt4)
              have hB4 : Below U.heap.size U w4 := (HBUr.out.trans (HBA3.out.mono HBUr.out.size)).grown hgrow (Nat.le_trans HBUr.out.size HBA3.out.size) fun b e => (ownsRow_lt HROWA.out b e).1
              have HW4 := Lib.hid (HW.out.push (p := ⟨0, [1]⟩) HBA3.out HR3.out HBUr.out.size (by rw [HLL.out]; exact hown) hgrow rfl (hat.imp id fun e => by rw [e, HSA.out]; omega))
              have HO4 := Lib.hid (rowO_next (v := .slice (some ⟨wr.heap.size, 0, none⟩) 1 1) HO.out HP.out)
              clear hown hgrow hat hlt4
              go_wp2
              go_roundw
              case rel => exact ⟨l + 1, _, by omega, by go_num, HO4, HW4, hB4⟩
              case measure => simp [intOf]; omega
            · have hdk : decide ((k : Int) = (l : Int)) = false := decide_eq_false (by omega)
              have hdk2 : ((k : Int) == (l : Int)) = false := beq_eq_false_iff_ne.2 (by omega)
              have HP : Hid (oneF k l = some ⟨0, []⟩) := Lib.hid (by unfold oneF; rw [if_neg hkl]; rfl)
              clear hBU
              go_wp2_with fail
              refine (l7Zero_any wr).mono ?_
              rintro e w3 ⟨⟨v3, rfl, hr3⟩, hb3⟩
              obtain ⟨a3, _, c3, rfl, _, _, _⟩ := hr3.shape
              have hW3 := HW.out.below hb3
              have hrow3 := hW3.row
              rw [HLL.out] at hrow3
              have HROW3 := Lib.hid hrow3
              have hs3 := hb3.size
              have hbA3 := hb3.trans (((Below.refl w3.heap.size w3).alloc (Nat.le_refl _) (.cells #[.int .i64 0, .slice a3 0 c3] PO)).mono hs3)
              have HBA3 := Lib.hid hbA3
              have HR3 := Lib.hid (hr3.below ((Below.refl w3.heap.size w3).alloc (Nat.le_refl _) (.cells #[.int .i64 0, .slice a3 0 c3] PO)))
              clear hr3 hb3 hW3 hrow3 hbA3
              go_wp2_with (at_builtin; refine wpList_append_lies _ rfl _ _ _ rfl U.heap.size PO p0 _ 2 32 Try.underlying38 hp0 hp1 hp2 hp3 rfl (by omega) (.slice au l cu) l (cellsP xs) rfl (HROW3.out.alloc _) ⟨w3.heap.size, 0, none⟩ 1 1 [.int .i64 0, .slice a3 0 c3] rfl rfl (World.news_of_block (cs := #[.int .i64 0, .slice a3 0 c3]) (t := PO) (fr := (0, 0)) (heap_alloc_new w3 _)) (by simp [Value.oneCell']) (by omega) (by unfold maxLen; omega) (by omega) (by simp; omega) (w3.heap.size + 1) (by simp) ?_; intro g1 cap1 w4 hown hgrow hat hlt4)
              have hB4 : Below U.heap.size U w4 := (HBUr.out.trans (HBA3.out.mono HBUr.out.size)).grown hgrow (Nat.le_trans HBUr.out.size HBA3.out.size) fun b e => (ownsRow_lt HROW3.out b e).1
              have HW4 := Lib.hid (HW.out.push (p := ⟨0, []⟩) HBA3.out HR3.out HBUr.out.size (by rw [HLL.out]; exact hown) hgrow rfl (hat.imp id fun e => by rw [e]; simp))
              have HO4 := Lib.hid (rowO_next (v := .slice a3 0 c3) HO.out HP.out)
              clear hown hgrow hat hlt4
              go_wp2
              go_roundw
              case rel => exact ⟨l + 1, _, by omega, by go_num, HO4, HW4, hB4⟩
              case measure => simp [intOf]; omega
          · obtain rfl : l = n := by omega
            have HBUr := Lib.hid hBU
            have hUr := hBU.size
            have HRr := Lib.hid (HR.out.below hBU)
            have hrowr := HRr.out.row
            rw [HKL.out] at hrowr
            have HROW := Lib.hid hrowr
            have HWU := Lib.hid (HBU.out.size)
            clear hBU hrowr
            have hwU := HWU.out
            go_wp2_with (at_builtin; refine wpList_append_lies _ rfl _ _ _ rfl w.heap.size PR i0 _ 1 24 Try.underlying33 hi0 hi1 hi2 hi3 rfl (by omega) (.slice av k cv) k (rs.map (·.u)) rfl (HROW.out.alloc _) ⟨wr.heap.size, 0, none⟩ 1 1 [.slice au l cu] rfl rfl (World.news_of_block (cs := #[.slice au l cu]) (t := PR) (fr := (0, 0)) (heap_alloc_new wr _)) (by simp [Value.oneCell']) (by omega) (by unfold maxLen; omega) (by omega) (by simp; omega) (wr.heap.size + 1) (by simp) ?_; intro g1 cap1 w4 hown hgrow hat hlt4)
            have hbA4 : Below U.heap.size U (wr.alloc (.cells #[.slice au l cu] PR)) := HBUr.out.alloc hUr _
            have hB4 : Below w.heap.size w w4 := (HBU.out.trans (hbA4.mono HBU.out.size)).grown hgrow (Nat.le_trans HBU.out.size hbA4.size) fun b e => (ownsRow_lt HROW.out b e).1
            have HW4 := Lib.hid (HR.out.push (r := ⟨.slice au l cu, xs⟩) hbA4 (HW.out.below ((Below.refl _ wr).alloc (Nat.le_refl _) _)) HBU.out.size (by rw [HKL.out]; exact hown) hgrow rfl (hat.imp id fun e => by rw [e]; simp))
            have HG4 := Lib.hid (gridO_next (f := oneF) (u := .slice au l cu) HG.out HO.out)
            clear hown hgrow hat hlt4 hbA4
            go_wp2
            go_roundw
            case rel => exact ⟨k + 1, _, by omega, by go_num, HG4, HW4, hB4⟩
            case measure => simp [intOf]; omega
      · obtain rfl : k = n := by omega
        have HBr := Lib.hid hB
        clear hB
        go_wp2
        go_ret2
        have hF : oneZ (k : Int) = some (rowsOf rs) := by
          unfold oneZ
          rw [if_pos h14]
          exact HG.out
        exact IM.yes hF HR.out rfl HBr.out

end Go.Proofs.Ytakfobihakbefaa

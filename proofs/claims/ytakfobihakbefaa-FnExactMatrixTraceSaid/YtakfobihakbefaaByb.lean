/- What the laws' proofs stand on, part 2 of 4. -/
import Derived.Deep.SlicePairs
import Derived.Deep.QuietTactic
import Derived.BigQuiet
import Derived.Deep.Slices
import Derived.Deep.WholeRow
import Derived.Lib.SliceRun
import Derived.Shelf.RegionOpenPlain
import Derived.StillTailTactics
import Derived.Deep.DeepCutAuto
import Derived.StillTail
import Derived.Test.YtakfobihakbefaaBya

/- Lists of polynomials and lists of these in memory: what came in, and what is a call's own. -/

namespace Go.Proofs.Ytakfobihakbefaa
open Go.RowKit

abbrev PO : TypeId := 25
abbrev PR : TypeId := 38
theorem infoPoly : (Try.prog.info? PO).map (fun i => (i.zero, i.size, i.bytes)) = some (some (.agg #[.int .i64 0, .slice none 0 0]), 2, 32) := by kernel_rfl
theorem infoPolyS : (Try.prog.info? PR).map (fun i => (i.zero, i.size, i.bytes)) = some (some (.slice none 0 0), 1, 24) := by kernel_rfl

theorem addr_next2 (x : Addr) (i : Nat) : x.add (i * 2 + 1) = ⟨(x.add (i * 2)).block, (x.add (i * 2)).off + 1, none⟩ := by
  rw [← Go.Deep.add_add]
  unfold Addr.add
  simp

/-- A polynomial and the slice of its coefficients. -/
structure Pv where
  p : Pl
  v : Value
def cellsP (xs : List Pv) : List Value := (xs.map fun x => [Value.int .i64 x.p.low, x.v]).flatten
theorem cellsP_cons (x : Pv) (r : List Pv) : cellsP (x :: r) = .int .i64 x.p.low :: x.v :: cellsP r := rfl
theorem cellsP_append (a b : List Pv) : cellsP (a ++ b) = cellsP a ++ cellsP b := by simp [cellsP]
theorem cellsP_len (xs : List Pv) : (cellsP xs).length = xs.length * 2 := by
  induction xs with
  | nil => rfl
  | cons t r ih => rw [cellsP_cons, List.length_cons, List.length_cons, ih, List.length_cons]; omega
theorem cellsP_get (xs : List Pv) : ∀ (i : Nat) (h : i < xs.length), (cellsP xs)[i * 2]? = some (.int .i64 xs[i].p.low) ∧ (cellsP xs)[i * 2 + 1]? = some xs[i].v := by
  induction xs with
  | nil => intro i h; simp at h
  | cons t r ih =>
    intro i h
    cases i with
    | zero => exact ⟨rfl, rfl⟩
    | succ i =>
      obtain ⟨h1, h2⟩ := ih i (by simpa using h)
      rw [cellsP_cons, show (i + 1) * 2 = i * 2 + 1 + 1 by omega, show i * 2 + 1 + 1 + 1 = (i * 2 + 1) + 1 + 1 by omega]
      exact ⟨h1, h2⟩
theorem cellsP_set (xs : List Pv) (i : Nat) (t : Pv) (hi : i < xs.length) : ((cellsP xs).set (i * 2) (.int .i64 t.p.low)).set (i * 2 + 1) t.v = cellsP (xs.set i t) := by
  have e : xs = xs.take i ++ xs[i] :: xs.drop (i + 1) := by rw [List.getElem_cons_drop]; exact (List.take_append_drop i xs).symm
  have hl : (cellsP (xs.take i)).length = i * 2 := by rw [cellsP_len, List.length_take, Nat.min_eq_left (by omega)]
  have hset : xs.set i t = xs.take i ++ t :: xs.drop (i + 1) := by rw [List.set_eq_take_append_cons_drop, if_pos hi]
  rw [hset]
  have e2 : cellsP xs = cellsP (xs.take i) ++ .int .i64 xs[i].p.low :: xs[i].v :: cellsP (xs.drop (i + 1)) := by
    rw [← cellsP_cons, ← cellsP_append, ← e]
  rw [e2, cellsP_append, cellsP_cons, List.set_append_right _ _ (by omega), List.set_append_right _ _ (by omega), hl, Nat.sub_self, show i * 2 + 1 - i * 2 = 1 by omega]
  rfl

/-- A list of polynomials, anywhere. -/
structure IsPS (w : World) (a : Option Addr) (n : Nat) (ps : List Pl) : Prop where
  len : ps.length = n
  max : n ≤ maxLen
  at_ : 0 < n → ∃ x, a = some x ∧ x.block < w.heap.size ∧ ∀ i (h : i < ps.length), ∃ ai ci, w.cell? (x.add (i * 2)) = some (.int .i64 ps[i].low) ∧ w.cell? (x.add (i * 2 + 1)) = some (.slice ai ps[i].cs.length ci) ∧ Ints w ai ps[i].cs.length ps[i].cs ∧ ps[i].cs.length ≤ ci
  wf : ∀ p ∈ ps, -9223372036854775808 ≤ p.low ∧ p.low ≤ 9223372036854775807
theorem IsPS.below {w w' : World} {a : Option Addr} {n : Nat} {ps : List Pl} (h : IsPS w a n ps) (hb : Below w.heap.size w w') : IsPS w' a n ps :=
  ⟨h.len, h.max, fun h0 => by
    obtain ⟨x, e, hx, hc⟩ := h.at_ h0
    refine ⟨x, e, Nat.lt_of_lt_of_le hx hb.size, fun i hi => ?_⟩
    obtain ⟨ai, ci, h1, h2, h3, h4⟩ := hc i hi
    exact ⟨ai, ci, (hb.cell (p := x.add (i * 2)) (by rw [addr_add_block]; exact hx)).trans h1, (hb.cell (p := x.add (i * 2 + 1)) (by rw [addr_add_block]; exact hx)).trans h2, h3.below hb, h4⟩, h.wf⟩
theorem IsPS.none (w : World) (a : Option Addr) : IsPS w a 0 [] := ⟨rfl, Nat.zero_le _, fun h => absurd h (Nat.lt_irrefl _), fun _ h => by cases h⟩

/-- A list of lists of polynomials, anywhere. -/
structure IsPSS (w : World) (a : Option Addr) (n : Nat) (rows : List (List Pl)) : Prop where
  len : rows.length = n
  max : n ≤ maxLen
  at_ : 0 < n → ∃ x, a = some x ∧ x.block < w.heap.size ∧ ∀ i (h : i < rows.length), ∃ ai ci, w.cell? (x.add i) = some (.slice ai rows[i].length ci) ∧ IsPS w ai rows[i].length rows[i]
theorem IsPSS.below {w w' : World} {a : Option Addr} {n : Nat} {rows : List (List Pl)} (h : IsPSS w a n rows) (hb : Below w.heap.size w w') : IsPSS w' a n rows :=
  ⟨h.len, h.max, fun h0 => by
    obtain ⟨x, e, hx, hc⟩ := h.at_ h0
    refine ⟨x, e, Nat.lt_of_lt_of_le hx hb.size, fun i hi => ?_⟩
    obtain ⟨ai, ci, h1, h2⟩ := hc i hi
    exact ⟨ai, ci, (hb.cell (p := x.add i) (by rw [addr_add_block]; exact hx)).trans h1, h2.below hb⟩⟩
theorem IsPSS.none (w : World) (a : Option Addr) : IsPSS w a 0 [] := ⟨rfl, Nat.zero_le _, fun h => absurd h (Nat.lt_irrefl _)⟩

/-! ### What is a call's own -/
structure OwnR (lo : Nat) (w : World) (u : Value) (xs : List Pv) : Prop where
  row : w.ownsRow lo PO 2 u xs.length (cellsP xs)
  poly : ∀ i (h : i < xs.length), IntRow lo w xs[i].v xs[i].p.cs
  head : ∀ i (h : i < xs.length) (b : Nat), u.ownBlock = some b → xs[i].v.ownBlock = some b → False
  apart : ∀ i j (hi : i < xs.length) (hj : j < xs.length) (b : Nat), i ≠ j → xs[i].v.ownBlock = some b → xs[j].v.ownBlock = some b → False
/-- The blocks of a row. -/
def FootR (u : Value) (xs : List Pv) (b : Nat) : Prop := u.ownBlock = some b ∨ ∃ i, ∃ (h : i < xs.length), xs[i].v.ownBlock = some b
theorem OwnR.low {lo : Nat} {w : World} {u : Value} {xs : List Pv} (h : OwnR lo w u xs) {b : Nat} (hb : FootR u xs b) : lo ≤ b ∧ b < w.heap.size := by
  rcases hb with hb | ⟨i, hi, hb⟩
  · exact ownsRow_lt h.row b hb
  · exact ownsRow_lt (h.poly i hi) b hb
theorem OwnR.touched {lo : Nat} {w w' : World} {u : Value} {xs : List Pv} {S : Nat → Prop} (h : OwnR lo w u xs) (ht : Touched S w w') (hs : ∀ b, FootR u xs b → ¬ S b) : OwnR lo w' u xs :=
  ⟨ownsRow_touched h.row fun b hb hl => ht.block b hl (hs b (.inl hb)), fun i hi => ownsRow_touched (h.poly i hi) fun b hb hl => ht.block b hl (hs b (.inr ⟨i, hi, hb⟩)), h.head, h.apart⟩
theorem OwnR.below {lo : Nat} {w w' : World} {u : Value} {xs : List Pv} (h : OwnR lo w u xs) (hb : Below w.heap.size w w') : OwnR lo w' u xs :=
  h.touched (S := fun _ => False) (.of_below hb) (fun _ _ => id)
theorem OwnR.mono {lo lo2 : Nat} {w : World} {u : Value} {xs : List Pv} (h : OwnR lo w u xs) (hl : lo2 ≤ lo) : OwnR lo2 w u xs :=
  ⟨ownsRow_base h.row hl, fun i hi => ownsRow_base (h.poly i hi) hl, h.head, h.apart⟩
theorem heap_off (w : World) (p : Addr) (v : Value) {b : Nat} (h : b ≠ p.block) : (w.setCell p v).heap[b]? = w.heap[b]? := Below.heap_setCell w p v b h
theorem IntRow.off {lo : Nat} {w : World} {v : Value} {zs : List Int} (h : IntRow lo w v zs) (p : Addr) (x : Value) (hp : ∀ b, v.ownBlock = some b → b ≠ p.block) : IntRow lo (w.setCell p x) v zs :=
  ownsRow_touched h fun b hb _ => heap_off w p x (hp b hb)
/-- The i-th polynomial is stored: its coefficients lie behind all of before. -/
theorem OwnR.put {lo B n c : Nat} {w w2 : World} {xs : List Pv} {p : Pl} {v : Value} {k : Nat} (h : OwnR lo w (.slice (some ⟨B, 0, none⟩) n c) xs) (hk : k < xs.length) (hb : Below w.heap.size w w2) (hp : IntRow w.heap.size w2 v p.cs) (hlo : lo ≤ w.heap.size) :
    OwnR lo ((w2.setCell ⟨B, k * 2, none⟩ (.int .i64 p.low)).setCell ⟨B, k * 2 + 1, none⟩ v) (.slice (some ⟨B, 0, none⟩) n c) (xs.set k ⟨p, v⟩) := by
  have hBl : B < w.heap.size := (ownsRow_lt h.row B rfl).2
  have hv : ∀ b, v.ownBlock = some b → w.heap.size ≤ b := fun b e => (ownsRow_lt hp b e).1
  have hold : ∀ i (hi : i < xs.length) b, xs[i].v.ownBlock = some b → b < w.heap.size := fun i hi b e => (ownsRow_lt (h.poly i hi) b e).2
  have hn : xs.length = n := by
    have := h.row
    rcases this.2 with ⟨e, _⟩ | ⟨g, cap, cur, e, _⟩
    · cases e
    · simp only [Value.slice.injEq] at e; exact e.2.1.symm
  subst hn
  refine ⟨?_, fun i hi => ?_, fun i hi b hb1 hb2 => ?_, fun i j hi hj b hne h1 h2 => ?_⟩
  · rw [List.length_set, ← cellsP_set xs k ⟨p, v⟩ hk]
    exact ((((h.below hb).row.stored (k * 2) _).1).stored (k * 2 + 1) _).1
  · rw [List.length_set] at hi
    rw [List.getElem_set]
    split
    · exact ((hp.mono hlo).off ⟨B, k * 2, none⟩ _ fun b e => by have := hv b e; show b ≠ B; omega).off ⟨B, k * 2 + 1, none⟩ _ fun b e => by have := hv b e; show b ≠ B; omega
    · exact (((h.poly i hi).below hb).off ⟨B, k * 2, none⟩ _ fun b e => fun e2 => h.head i hi b (by rw [e2]; rfl) e).off ⟨B, k * 2 + 1, none⟩ _ fun b e => fun e2 => h.head i hi b (by rw [e2]; rfl) e
  · rw [List.length_set] at hi
    rw [List.getElem_set] at hb2
    split at hb2
    · have := hv b hb2
      simp only [Value.ownBlock, Option.some.injEq] at hb1
      omega
    · exact h.head i hi b hb1 hb2
  · rw [List.length_set] at hi hj
    rw [List.getElem_set] at h1 h2
    split at h1
    · split at h2
      · omega
      · have := hv b h1; have := hold j hj b h2; omega
    · split at h2
      · have := hv b h2; have := hold i hi b h1; omega
      · exact h.apart i j hi hj b hne h1 h2
theorem OwnR.isPS {lo : Nat} {w : World} {u : Value} {xs : List Pv} {ps : List Pl} (h : OwnR lo w u xs) (hp : xs.map (·.p) = ps) (hl : ∀ p ∈ ps, -9223372036854775808 ≤ p.low ∧ p.low ≤ 9223372036854775807) (hw : ∀ p ∈ ps, ∀ z ∈ p.cs, -9223372036854775808 ≤ z ∧ z ≤ 9223372036854775807) (hn : xs.length ≤ maxLen) : ∃ a cap, u = .slice a ps.length cap ∧ IsPS w a ps.length ps := by
  subst hp
  have hlen : (xs.map (·.p)).length = xs.length := List.length_map _
  rw [hlen]
  rcases h.row.2 with ⟨rfl, h0⟩ | ⟨g, cap, cur, rfl, hb, hg, h3⟩
  · exact ⟨none, 0, by rw [h0], hlen, hn, fun hp => absurd hp (by omega), hl⟩
  · refine ⟨_, cap, rfl, hlen, hn, fun _ => ⟨_, rfl, (Array.getElem?_eq_some_iff.1 hg).1, fun i hi => ?_⟩, hl⟩
    rw [hlen] at hi
    have hg2 := cellsP_get xs i hi
    rw [List.getElem_map]
    obtain ⟨ai, ci, e, h5, h6⟩ := (h.poly i hi).readc (hw xs[i].p (List.mem_map_of_mem (List.getElem_mem hi)))
    exact ⟨ai, ci, h.row.cells rfl _ _ hg2.1, by rw [← e]; exact h.row.cells rfl _ _ hg2.2, h6, h5⟩

structure Rv where
  u : Value
  xs : List Pv
structure OwnM (lo : Nat) (w : World) (v : Value) (rs : List Rv) : Prop where
  row : w.ownsRow lo PR 1 v rs.length (rs.map (·.u))
  each : ∀ i (h : i < rs.length), OwnR lo w rs[i].u rs[i].xs
  head : ∀ i (h : i < rs.length) (b : Nat), v.ownBlock = some b → FootR rs[i].u rs[i].xs b → False
  apart : ∀ i j (hi : i < rs.length) (hj : j < rs.length) (b : Nat), i ≠ j → FootR rs[i].u rs[i].xs b → FootR rs[j].u rs[j].xs b → False
def FootM (rs : List Rv) (b : Nat) : Prop := ∃ i, ∃ (h : i < rs.length), FootR rs[i].u rs[i].xs b
theorem OwnM.low {lo : Nat} {w : World} {v : Value} {rs : List Rv} (h : OwnM lo w v rs) {b : Nat} (hb : FootM rs b) : lo ≤ b ∧ b < w.heap.size := by
  obtain ⟨i, hi, hf⟩ := hb
  exact (h.each i hi).low hf
theorem OwnM.touched {lo : Nat} {w w' : World} {v : Value} {rs : List Rv} {S : Nat → Prop} (h : OwnM lo w v rs) (ht : Touched S w w') (hv : ∀ b, v.ownBlock = some b → ¬ S b) (hs : ∀ b, FootM rs b → ¬ S b) : OwnM lo w' v rs :=
  ⟨ownsRow_touched h.row fun b hb hl => ht.block b hl (hv b hb), fun i hi => (h.each i hi).touched ht fun b hb => hs b ⟨i, hi, hb⟩, h.head, h.apart⟩
theorem OwnM.below {lo : Nat} {w w' : World} {v : Value} {rs : List Rv} (h : OwnM lo w v rs) (hb : Below w.heap.size w w') : OwnM lo w' v rs :=
  h.touched (S := fun _ => False) (.of_below hb) (fun _ _ => id) (fun _ _ => id)
theorem OwnM.mono {lo lo2 : Nat} {w : World} {v : Value} {rs : List Rv} (h : OwnM lo w v rs) (hl : lo2 ≤ lo) : OwnM lo2 w v rs :=
  ⟨ownsRow_base h.row hl, fun i hi => (h.each i hi).mono hl, h.head, h.apart⟩
theorem OwnM.put {lo B n c : Nat} {w w2 : World} {rs : List Rv} {r : Rv} {k : Nat} (h : OwnM lo w (.slice (some ⟨B, 0, none⟩) n c) rs) (hb : Below w.heap.size w w2) (hr : OwnR w.heap.size w2 r.u r.xs) (hlo : lo ≤ w.heap.size) :
    OwnM lo (w2.setCell ⟨B, k, none⟩ r.u) (.slice (some ⟨B, 0, none⟩) n c) (rs.set k r) := by
  have hBl : B < w.heap.size := (ownsRow_lt h.row B rfl).2
  have hnew : ∀ b, FootR r.u r.xs b → w.heap.size ≤ b := fun b e => (hr.low e).1
  have hold : ∀ i (hi : i < rs.length) b, FootR rs[i].u rs[i].xs b → b < w.heap.size := fun i hi b e => ((h.each i hi).low e).2
  have hn : rs.length = n := by
    rcases h.row.2 with ⟨e, _⟩ | ⟨g, cap, cur, e, _⟩
    · cases e
    · simp only [Value.slice.injEq] at e; exact e.2.1.symm
  subst hn
  have hT : Touched (fun b => b = B) w2 (w2.setCell ⟨B, k, none⟩ r.u) := (Touched.refl _ w2).grown ((h.below hb).row.stored k r.u).2 (fun b e => by simpa [Value.ownBlock] using e.symm)
  refine ⟨?_, fun i hi => ?_, fun i hi b hb1 hb2 => ?_, fun i j hi hj b hne h1 h2 => ?_⟩
  · rw [List.length_set, List.map_set]
    exact ((h.below hb).row.stored k _).1
  · rw [List.length_set] at hi
    rw [List.getElem_set]
    split
    · exact (hr.mono hlo).touched hT fun b e => by have := hnew b e; show ¬ b = B; omega
    · exact ((h.each i hi).below hb).touched hT fun b e => fun e2 => h.head i hi b (by rw [e2]; rfl) e
  · rw [List.length_set] at hi
    rw [List.getElem_set] at hb2
    split at hb2
    · have := hnew b hb2
      simp only [Value.ownBlock, Option.some.injEq] at hb1
      omega
    · exact h.head i hi b hb1 hb2
  · rw [List.length_set] at hi hj
    rw [List.getElem_set] at h1 h2
    split at h1
    · split at h2
      · omega
      · have := hnew b h1; have := hold j hj b h2; omega
    · split at h2
      · have := hnew b h2; have := hold i hi b h1; omega
      · exact h.apart i j hi hj b hne h1 h2
/-- What a list of rows with their slices is. -/
def rowsOf (rs : List Rv) : List (List Pl) := rs.map fun r => r.xs.map (·.p)
theorem OwnM.isPSS {lo : Nat} {w : World} {v : Value} {rs : List Rv} {rows : List (List Pl)} (h : OwnM lo w v rs) (hp : rowsOf rs = rows) (hl : ∀ r ∈ rows, ∀ p ∈ r, -9223372036854775808 ≤ p.low ∧ p.low ≤ 9223372036854775807) (hw : ∀ r ∈ rows, ∀ p ∈ r, ∀ z ∈ p.cs, -9223372036854775808 ≤ z ∧ z ≤ 9223372036854775807) (hn : rows.length ≤ maxLen) (hm : ∀ r ∈ rows, r.length ≤ maxLen) : ∃ a cap, v = .slice a rows.length cap ∧ IsPSS w a rows.length rows := by
  subst hp
  have hlen : (rowsOf rs).length = rs.length := List.length_map _
  rw [hlen] at hn ⊢
  rcases h.row.2 with ⟨rfl, h0⟩ | ⟨g, cap, cur, rfl, hb, hg, h3⟩
  · exact ⟨none, 0, by rw [h0], hlen, hn, fun hp => absurd hp (by omega)⟩
  · refine ⟨_, cap, rfl, hlen, hn, fun _ => ⟨_, rfl, (Array.getElem?_eq_some_iff.1 hg).1, fun i hi => ?_⟩⟩
    rw [hlen] at hi
    have e : (rowsOf rs)[i]'(by rw [hlen]; exact hi) = rs[i].xs.map (·.p) := List.getElem_map _
    have hmem : (rowsOf rs)[i]'(by rw [hlen]; exact hi) ∈ rowsOf rs := List.getElem_mem _
    rw [e] at hmem ⊢
    have hm2 := hm _ hmem
    rw [List.length_map] at hm2
    obtain ⟨ai, ci, e2, h5⟩ := (h.each i hi).isPS rfl (hl _ hmem) (hw _ hmem) hm2
    refine ⟨ai, ci, ?_, h5⟩
    rw [← e2]
    exact h.row.cells rfl i _ (by rw [List.getElem?_map, List.getElem?_eq_getElem hi]; rfl)

end Go.Proofs.Ytakfobihakbefaa

/- The laws' 'szPolyS' and 'szPolySS'. -/

namespace Go.Proofs.Ytakfobihakbefaa
open Go.RowKit

/-- As many coefficients as a list of polynomials has. -/
def csum (ps : List Pl) : Nat := (ps.map fun p => p.cs.length).sum
theorem csum_succ (ps : List Pl) (k : Nat) (h : k < ps.length) : csum (ps.take (k + 1)) = csum (ps.take k) + ps[k].cs.length := by
  unfold csum; rw [List.take_succ_eq_append_getElem h, List.map_append, List.sum_append]; simp
theorem csum_take_le : ∀ (ps : List Pl) (k : Nat), csum (ps.take k) ≤ csum ps
  | [], k => by simp [csum]
  | r :: rs, 0 => by simp [csum]
  | r :: rs, k + 1 => by have := csum_take_le rs k; unfold csum at *; simp only [List.take_succ_cons, List.map_cons, List.sum_cons]; omega
theorem csum_get (ps : List Pl) (k : Nat) (h : k < ps.length) : csum (ps.take k) + ps[k].cs.length ≤ csum ps := by
  rw [← csum_succ ps k h]; exact csum_take_le ps (k + 1)
/-- Polynomials and coefficients. -/
def totR (ps : List Pl) : Nat := ps.length + csum ps
def totM (rows : List (List Pl)) : Nat := (rows.map totR).sum
theorem totM_succ (rows : List (List Pl)) (k : Nat) (h : k < rows.length) : totM (rows.take (k + 1)) = totM (rows.take k) + totR rows[k] := by
  unfold totM; rw [List.take_succ_eq_append_getElem h, List.map_append, List.sum_append]; simp
theorem totM_take_le : ∀ (rows : List (List Pl)) (k : Nat), totM (rows.take k) ≤ totM rows
  | [], k => by simp [totM]
  | r :: rs, 0 => by simp [totM]
  | r :: rs, k + 1 => by have := totM_take_le rs k; unfold totM at *; simp only [List.take_succ_cons, List.map_cons, List.sum_cons]; omega
theorem totM_get (rows : List (List Pl)) (k : Nat) (h : k < rows.length) : totM (rows.take k) + totR rows[k] ≤ totM rows := by
  rw [← totM_succ rows k h]; exact totM_take_le rows (k + 1)

set_option maxRecDepth 100000 in
set_option maxHeartbeats 1000000 in
theorem szPolyS_any (a : Option Addr) (cap n left : Nat) (ps : List Pl) (w : World) (hs : IsPS w a n ps) (hl : left ≤ 1048576) :
    Calls Try.prog 116 #[.slice a n cap, .int .i64 left] w fun e w' =>
      (∃ k : Int, e = .returned (.int .i64 k) ∧ (k < 0 ∨ (0 ≤ k ∧ k + totR ps ≤ left))) ∧ Below w.heap.size w w' := by
  have hm := hs.max
  have HN := Lib.hid hs.len
  have HS := Lib.hid hs
  clear hs
  unfold maxLen at hm
  by_cases h0 : left < n
  · go_enter Try.func116, Try.ntmps116
    go_wp2
    go_ret
    exact ⟨⟨-1, rfl, .inl (by omega)⟩, Below.refl _ _⟩
  · go_enter Try.func116, Try.ntmps116
    go_wp2
    go_loopw [1, 5] (fun q i wr => ∃ (k m : Nat), k ≤ n ∧ q = .int .i64 m ∧ i = .int .i64 k ∧ m + n + csum (ps.take k) ≤ left ∧ Below w.heap.size w wr) (fun _ i _ => n - (intOf i).toNat)
    case atStart => exact ⟨0, left - n, Nat.zero_le _, by go_num, rfl, by simp [csum]; omega, Below.refl _ _⟩
    case round =>
      obtain ⟨k, m, hk, rfl, rfl, hm1, hB⟩ := hrel
      by_cases hlt : k < n
      · have hkz : k < ps.length := by rw [HN.out]; exact hlt
        obtain ⟨x, rfl, hxb, hx⟩ := HS.out.at_ (by omega)
        obtain ⟨ai, ci, hc0, hc1, hI, _⟩ := hx k hkz
        have hd0 := (hB.cell (p := x.add (k * 2)) (by rw [addr_add_block]; exact hxb)).trans hc0
        have hd1 := (hB.cell (p := x.add (k * 2 + 1)) (by rw [addr_add_block]; exact hxb)).trans hc1
        rw [addr_next2] at hd1
        have hsucc := csum_succ ps k hkz
        have him := hI.max
        obtain ⟨p, hp⟩ : ∃ p, ps[k] = p := ⟨_, rfl⟩
        rw [hp] at hsucc hd0 hd1 him
        obtain ⟨r, hr⟩ : ∃ r, p.cs.length = r := ⟨_, rfl⟩
        rw [hr] at hsucc hd1 him
        obtain ⟨t0, ht0⟩ : ∃ t, csum (ps.take k) = t := ⟨_, rfl⟩
        rw [ht0] at hm1 hsucc
        have HT := Lib.hid hsucc
        clear hx hc0 hc1 hI hsucc hr ht0 hp
        go_wp2_with fail
        refine (szPoly_any p.low ai ci r m _ him (by omega)).mono ?_
        rintro e w2 ⟨⟨q, rfl, hq⟩, hb2⟩
        by_cases h2 : q < 0
        · clear hq
          go_wp2
          go_ret
          exact ⟨⟨_, rfl, .inl (by omega)⟩, hB.trans (hb2.mono hB.size)⟩
        · obtain ⟨y, rfl, hp⟩ : ∃ y : Nat, q = (y : Int) ∧ y + r ≤ m := by
            rcases hq with h | ⟨h3, h4⟩
            · omega
            · exact ⟨q.toNat, by omega, by omega⟩
          clear hq
          go_wp2
          go_roundw
          case rel => exact ⟨k + 1, y, by omega, rfl, by go_num, by rw [HT.out]; omega, hB.trans (hb2.mono hB.size)⟩
          case measure => simp [intOf]; omega
      · obtain rfl : k = n := by omega
        have ht : ps.take k = ps := List.take_of_length_le (by rw [HN.out]; exact Nat.le_refl _)
        rw [ht] at hm1
        go_wp2
        go_ret
        exact ⟨⟨_, rfl, .inr ⟨by omega, by unfold totR; rw [HN.out]; omega⟩⟩, hB⟩

set_option maxRecDepth 100000 in
set_option maxHeartbeats 1000000 in
theorem szPolySS_any (a : Option Addr) (cap n left : Nat) (rows : List (List Pl)) (w : World) (hs : IsPSS w a n rows) (hl : left ≤ 1048576) :
    Calls Try.prog 63 #[.slice a n cap, .int .i64 left] w fun e w' =>
      (∃ k : Int, e = .returned (.int .i64 k) ∧ (k < 0 ∨ (0 ≤ k ∧ k + n + totM rows ≤ left))) ∧ Below w.heap.size w w' := by
  have hm := hs.max
  have HN := Lib.hid hs.len
  have HS := Lib.hid hs
  clear hs
  unfold maxLen at hm
  by_cases h0 : left < n
  · go_enter Try.func63, Try.ntmps63
    go_wp2
    go_ret
    exact ⟨⟨-1, rfl, .inl (by omega)⟩, Below.refl _ _⟩
  · go_enter Try.func63, Try.ntmps63
    go_wp2
    go_loopw [1, 5] (fun q i wr => ∃ (k m : Nat), k ≤ n ∧ q = .int .i64 m ∧ i = .int .i64 k ∧ m + n + totM (rows.take k) ≤ left ∧ Below w.heap.size w wr) (fun _ i _ => n - (intOf i).toNat)
    case atStart => exact ⟨0, left - n, Nat.zero_le _, by go_num, rfl, by simp [totM]; omega, Below.refl _ _⟩
    case round =>
      obtain ⟨k, m, hk, rfl, rfl, hm1, hB⟩ := hrel
      by_cases hlt : k < n
      · have hkz : k < rows.length := by rw [HN.out]; exact hlt
        obtain ⟨x, rfl, hxb, hx⟩ := HS.out.at_ (by omega)
        obtain ⟨ai, ci, hc, hI⟩ := hx k hkz
        have hc0 := (hB.cell (p := x.add k) (by rw [addr_add_block]; exact hxb)).trans hc
        have HI := Lib.hid (hI.below hB)
        have hsucc := totM_succ rows k hkz
        obtain ⟨y, hy⟩ : ∃ y, totR rows[k] = y := ⟨_, rfl⟩
        obtain ⟨r, hr⟩ : ∃ r, rows[k].length = r := ⟨_, rfl⟩
        rw [hr] at hc0 HI
        rw [hy] at hsucc
        obtain ⟨t0, ht0⟩ : ∃ t, totM (rows.take k) = t := ⟨_, rfl⟩
        rw [ht0] at hm1 hsucc
        have HT := Lib.hid hsucc
        have HY := Lib.hid hy
        clear hx hc hI hsucc hr ht0 hy
        go_wp2_with fail
        refine (szPolyS_any ai ci r m _ _ HI.out (by omega)).mono ?_
        rintro e w2 ⟨⟨q, rfl, hq⟩, hb2⟩
        rw [HY.out] at hq
        by_cases h2 : q < 0
        · clear hq
          go_wp2
          go_ret
          exact ⟨⟨_, rfl, .inl (by omega)⟩, hB.trans (hb2.mono hB.size)⟩
        · obtain ⟨p, rfl, hp⟩ : ∃ p : Nat, q = (p : Int) ∧ p + y ≤ m := by
            rcases hq with h | ⟨h3, h4⟩
            · omega
            · exact ⟨q.toNat, by omega, by omega⟩
          clear hq
          go_wp2
          go_roundw
          case rel => exact ⟨k + 1, p, by omega, rfl, by go_num, by rw [HT.out]; omega, hB.trans (hb2.mono hB.size)⟩
          case measure => simp [intOf]; omega
      · obtain rfl : k = n := by omega
        have ht : rows.take k = rows := List.take_of_length_le (by rw [HN.out]; exact Nat.le_refl _)
        rw [ht] at hm1
        go_wp2
        go_ret
        exact ⟨⟨_, rfl, .inr ⟨by omega, by omega⟩⟩, hB⟩

end Go.Proofs.Ytakfobihakbefaa

/- The laws' 'toPolyS' and 'toPolySS'. -/

namespace Go.Proofs.Ytakfobihakbefaa
open Go.RowKit

def zeroPv : Pv := ⟨⟨0, []⟩, .slice none 0 0⟩
def zeroRv : Rv := ⟨.slice none 0 0, []⟩
theorem made_polys (n : Nat) : (madeCells (Value.cells (.agg #[.int .i64 0, .slice none 0 0])) (n * 2)).toList = cellsP (List.replicate n zeroPv) := by
  rw [show Value.cells (.agg #[.int .i64 0, .slice none 0 0]) = #[.int .i64 0, .slice none 0 0] from rfl]
  apply List.ext_getElem?
  intro j
  by_cases hj : j < n * 2
  · have hi : j / 2 < n := by omega
    have hg := cellsP_get (List.replicate n zeroPv) (j / 2) (by simpa using hi)
    rw [List.getElem_replicate] at hg
    have hm : (madeCells #[.int .i64 0, .slice none 0 0] (n * 2)).toList[j]? = some ((#[Value.int .i64 0, .slice none 0 0] : Array Value)[j % 2]?.getD default) := by
      simp [madeCells, hj]
    rcases Nat.mod_two_eq_zero_or_one j with h | h
    · rw [hm, h, show j = j / 2 * 2 by omega, hg.1]; rfl
    · rw [hm, h, show j = j / 2 * 2 + 1 by omega, hg.2]; rfl
  · rw [List.getElem?_eq_none (l := (madeCells #[.int .i64 0, .slice none 0 0] (n * 2)).toList) (by simp [madeCells]; omega), List.getElem?_eq_none (by rw [cellsP_len, List.length_replicate]; omega)]
theorem IntRow.nothing (lo : Nat) (w : World) : IntRow lo w (.slice none 0 0) [] := ⟨rfl, .inl ⟨rfl, rfl⟩⟩
theorem OwnR.zeros {lo : Nat} {w : World} {u : Value} {n : Nat} (h : w.ownsRow lo PO 2 u n (cellsP (List.replicate n zeroPv))) : OwnR lo w u (List.replicate n zeroPv) :=
  ⟨by rw [List.length_replicate]; exact h, fun i hi => by rw [List.getElem_replicate]; exact IntRow.nothing lo w, fun i hi b _ h2 => (by rw [List.getElem_replicate] at h2; cases h2), fun i j hi hj b _ h2 _ => by rw [List.getElem_replicate] at h2; cases h2⟩
theorem OwnR.nothing (lo : Nat) (w : World) : OwnR lo w (.slice none 0 0) [] := ⟨⟨rfl, .inl ⟨rfl, rfl⟩⟩, fun i hi => by simp at hi, fun i hi => by simp at hi, fun i j hi => by simp at hi⟩
theorem FootR.nothing {b : Nat} (h : FootR (.slice none 0 0) [] b) : False := by
  rcases h with h | ⟨i, hi, _⟩
  · cases h
  · simp at hi
theorem OwnM.zeros {lo : Nat} {w : World} {v : Value} {n : Nat} (h : w.ownsRow lo PR 1 v n (List.replicate n (.slice none 0 0))) : OwnM lo w v (List.replicate n zeroRv) :=
  ⟨by rw [List.length_replicate, List.map_replicate]; exact h, fun i hi => by rw [List.getElem_replicate]; exact OwnR.nothing lo w, fun i hi b _ h2 => (by rw [List.getElem_replicate] at h2; exact h2.nothing), fun i j hi hj b _ h2 _ => by rw [List.getElem_replicate] at h2; exact h2.nothing⟩
theorem map_take_set {α β : Type} (f : α → β) (xs : List α) (k : Nat) (x : α) (ps : List β) (h : (xs.map f).take k = ps.take k) (hk : k < ps.length) (hl : xs.length = ps.length) (hx : f x = ps[k]) : ((xs.set k x).map f).take (k + 1) = ps.take (k + 1) := by
  rw [List.map_set, List.take_succ_eq_append_getElem hk, List.take_succ_eq_append_getElem (by simp; omega), ← h, List.getElem_set_self, hx, List.take_set_of_le (Nat.le_refl _)]

set_option maxRecDepth 100000 in
set_option maxHeartbeats 2000000 in
theorem toPolyS_any (a : Option Addr) (cap n : Nat) (ps : List Pl) (w : World) (hs : IsPS w a n ps) (hm : totR ps ≤ 1048576) :
    Calls Try.prog 117 #[.slice a n cap] w fun e w' =>
      ∃ v xs, e = .returned v ∧ xs.map (·.p) = ps ∧ OwnR w.heap.size w' v xs ∧ Below w.heap.size w w' := by
  obtain ⟨i0, hi, hz0, hz1, hz2⟩ := info_parts infoPoly
  have HN := Lib.hid hs.len
  have HS := Lib.hid hs
  have hn : n ≤ 1048576 := by unfold totR at hm; rw [hs.len] at hm; omega
  have HM : Hid (csum ps ≤ 1048576) := Lib.hid (by unfold totR at hm; omega)
  clear hs hm
  go_enter Try.func117, Try.ntmps117
  go_wp2_with (at_make; refine wpList_make_full _ rfl _ _ PR rfl w.heap.size PO i0 (.agg #[.int .i64 0, .slice none 0 0]) 2 Try.underlying38 hi hz0 hz1 .i64 .i64 _ _ n rfl rfl rfl rfl (by rw [hz2]; omega) (by unfold maxLen; omega) (Nat.le_refl _) ?_; intro w1 hrow hgrow)
  rw [made_polys n] at hrow
  have hB1 : Below w.heap.size w w1 := (Below.refl _ _).grown hgrow (Nat.le_refl _) (fun k e => by cases e)
  have HR1 : Hid (OwnR w.heap.size w1 (.slice (some ⟨w.heap.size, 0, none⟩) n n) (List.replicate n zeroPv)) := Lib.hid (OwnR.zeros hrow)
  clear hrow hgrow
  go_loopw [4] (fun i wr => ∃ (k : Nat) (xs : List Pv), k ≤ n ∧ i = .int .i64 k ∧ Hid (xs.length = n) ∧ Hid ((xs.map (·.p)).take k = ps.take k) ∧ Hid (OwnR w.heap.size wr (.slice (some ⟨w.heap.size, 0, none⟩) n n) xs) ∧ Below w.heap.size w wr) (fun i _ => n - (intOf i).toNat)
  case atStart => exact ⟨0, _, Nat.zero_le _, rfl, Lib.hid List.length_replicate, Lib.hid rfl, HR1, hB1⟩
  case round =>
    obtain ⟨k, xs, hk, rfl, HL, HT, HR, hB⟩ := hrel
    by_cases hlt : k < n
    · have hkz : k < ps.length := by rw [HN.out]; exact hlt
      obtain ⟨x, rfl, hxb, hx⟩ := HS.out.at_ (by omega)
      obtain ⟨ai, ci, hc0, hc1, hI, _⟩ := hx k hkz
      have hd0 := (hB.cell (p := x.add (k * 2)) (by rw [addr_add_block]; exact hxb)).trans hc0
      have hd1 := (hB.cell (p := x.add (k * 2 + 1)) (by rw [addr_add_block]; exact hxb)).trans hc1
      rw [addr_next2] at hd1
      have hcs : ps[k].cs.length ≤ 1048576 := by have := csum_get ps k hkz; have := HM.out; omega
      have HI := Lib.hid (hI.below hB)
      obtain ⟨p, hp⟩ : ∃ p, ps[k] = p := ⟨_, rfl⟩
      rw [hp] at hd0 hd1 HI hcs
      obtain ⟨r, hr⟩ : ∃ r, p.cs.length = r := ⟨_, rfl⟩
      rw [hr] at hd1 HI hcs
      have HP := Lib.hid hp
      clear hx hc0 hc1 hI hr hp
      go_wp2_with fail
      refine (toPoly_any p.low ai ci r p.cs _ hcs HI.out).mono ?_
      rintro e w2 ⟨⟨g, rfl, hg, hrow⟩, hb2⟩
      have hr2 := (HR.out.below hb2).row
      rw [HL.out] at hr2
      have hl := hr2.1
      have hdd0 : ∃ u, w2.cell? ⟨w.heap.size, k * 2, none⟩ = some u := by rw [hr2.cellAt _ (by omega)]; exact ⟨_, List.getElem?_eq_getElem (by omega)⟩
      have hdd1 : ∃ u, w2.cell? ⟨w.heap.size, k * 2 + 1, none⟩ = some u := by rw [hr2.cellAt _ (by omega)]; exact ⟨_, List.getElem?_eq_getElem (by omega)⟩
      obtain ⟨u0, hu0⟩ := hdd0
      obtain ⟨u1, hu1⟩ := hdd1
      have hf0 := hr2.frozenAt (k * 2)
      have hf1 := hr2.frozenAt (k * 2 + 1)
      have HR2 := Lib.hid (HR.out.put (p := p) (by rw [HL.out]; exact hlt) hb2 hrow hB.size)
      have HB2 := Lib.hid (hB.trans (hb2.mono hB.size))
      clear hl hr2 hrow hg hb2
      go_wp2
      go_roundw
      case rel =>
        exact ⟨k + 1, _, by omega, by go_num, Lib.hid (by rw [List.length_set]; exact HL.out), Lib.hid (map_take_set _ xs k _ ps HT.out hkz (by rw [HL.out, HN.out]) (HP.out.symm)), HR2, (HB2.out.setCell (p := ⟨w.heap.size, k * 2, none⟩) (Nat.le_refl _) _).setCell (p := ⟨w.heap.size, k * 2 + 1, none⟩) (Nat.le_refl _) _⟩
      case measure => simp [intOf]; omega
    · obtain rfl : k = n := by omega
      go_wp2
      go_ret
      have ht := HT.out
      rw [List.take_of_length_le (by rw [List.length_map, HL.out]; exact Nat.le_refl _), List.take_of_length_le (by rw [HN.out]; exact Nat.le_refl _)] at ht
      exact ⟨_, xs, rfl, ht, HR.out, hB⟩

set_option maxRecDepth 100000 in
set_option maxHeartbeats 2000000 in
theorem toPolySS_any (a : Option Addr) (cap n : Nat) (rows : List (List Pl)) (w : World) (hs : IsPSS w a n rows) (hm : n + totM rows ≤ 1048576) :
    Calls Try.prog 64 #[.slice a n cap] w fun e w' =>
      ∃ v rs, e = .returned v ∧ rowsOf rs = rows ∧ OwnM w.heap.size w' v rs ∧ Below w.heap.size w w' := by
  obtain ⟨i0, hi, hz0, hz1, hz2⟩ := info_parts infoPolyS
  have HN := Lib.hid hs.len
  have HS := Lib.hid hs
  have hn : n ≤ 1048576 := by omega
  have HM : Hid (totM rows ≤ 1048576) := Lib.hid (by omega)
  clear hs hm
  go_enter Try.func64, Try.ntmps64
  go_wp2_with (at_make; refine wpList_make_full _ rfl _ _ 33 rfl w.heap.size PR i0 (.slice none 0 0) 1 Try.underlying33 hi hz0 hz1 .i64 .i64 _ _ n rfl rfl rfl rfl (by rw [hz2]; omega) (by unfold maxLen; omega) (Nat.le_refl _) ?_; intro w1 hrow hgrow)
  rw [show Value.cells (.slice none 0 0) = #[.slice none 0 0] from rfl, toList_madeCells_one, Nat.mul_one] at hrow
  have hB1 : Below w.heap.size w w1 := (Below.refl _ _).grown hgrow (Nat.le_refl _) (fun k e => by cases e)
  have HR1 : Hid (OwnM w.heap.size w1 (.slice (some ⟨w.heap.size, 0, none⟩) n n) (List.replicate n zeroRv)) := Lib.hid (OwnM.zeros hrow)
  clear hrow hgrow
  go_loopw [4] (fun i wr => ∃ (k : Nat) (rs : List Rv), k ≤ n ∧ i = .int .i64 k ∧ Hid (rs.length = n) ∧ Hid ((rowsOf rs).take k = rows.take k) ∧ Hid (OwnM w.heap.size wr (.slice (some ⟨w.heap.size, 0, none⟩) n n) rs) ∧ Below w.heap.size w wr) (fun i _ => n - (intOf i).toNat)
  case atStart => exact ⟨0, _, Nat.zero_le _, rfl, Lib.hid List.length_replicate, Lib.hid rfl, HR1, hB1⟩
  case round =>
    obtain ⟨k, rs, hk, rfl, HL, HT, HR, hB⟩ := hrel
    by_cases hlt : k < n
    · have hkz : k < rows.length := by rw [HN.out]; exact hlt
      obtain ⟨x, rfl, hxb, hx⟩ := HS.out.at_ (by omega)
      obtain ⟨ai, ci, hc, hI⟩ := hx k hkz
      have hd0 := (hB.cell (p := x.add k) (by rw [addr_add_block]; exact hxb)).trans hc
      have hcs : totR rows[k] ≤ 1048576 := by have := totM_get rows k hkz; have := HM.out; omega
      have HI := Lib.hid (hI.below hB)
      obtain ⟨ps, hp⟩ : ∃ ps, rows[k] = ps := ⟨_, rfl⟩
      rw [hp] at hd0 HI hcs
      obtain ⟨r, hr⟩ : ∃ r, ps.length = r := ⟨_, rfl⟩
      rw [hr] at hd0 HI
      have HP := Lib.hid hp
      clear hx hc hI hr hp
      go_wp2_with fail
      refine (toPolyS_any ai ci r ps _ HI.out hcs).mono ?_
      rintro e w2 ⟨u, ys, rfl, hys, hrow, hb2⟩
      obtain ⟨au, lu, cu, rfl⟩ : ∃ a n c, u = .slice a n c := by
        rcases hrow.row.2 with ⟨rfl, _⟩ | ⟨g, cap, cur, rfl, _⟩
        · exact ⟨_, _, _, rfl⟩
        · exact ⟨_, _, _, rfl⟩
      have hr2 := (HR.out.below hb2).row
      rw [HL.out] at hr2
      have hl := hr2.1
      have hdd0 : ∃ u, w2.cell? ⟨w.heap.size, k, none⟩ = some u := by rw [hr2.cellAt _ (by omega)]; exact ⟨_, List.getElem?_eq_getElem (by omega)⟩
      obtain ⟨u0, hu0⟩ := hdd0
      have hf0 := hr2.frozenAt k
      have HR2 := Lib.hid (HR.out.put (k := k) (r := ⟨.slice au lu cu, ys⟩) hb2 hrow hB.size)
      have HB2 := Lib.hid (hB.trans (hb2.mono hB.size))
      have HY := Lib.hid hys
      clear hl hr2 hrow hb2 hys
      go_wp2
      go_roundw
      case rel =>
        exact ⟨k + 1, _, by omega, by go_num, Lib.hid (by rw [List.length_set]; exact HL.out), Lib.hid (map_take_set _ rs k _ rows HT.out hkz (by rw [HL.out, HN.out]) (by rw [HP.out]; exact HY.out)), HR2, HB2.out.setCell (p := ⟨w.heap.size, k, none⟩) (Nat.le_refl _) _⟩
      case measure => simp [intOf]; omega
    · obtain rfl : k = n := by omega
      go_wp2
      go_ret
      have ht := HT.out
      rw [List.take_of_length_le (by unfold rowsOf; rw [List.length_map, HL.out]; exact Nat.le_refl _), List.take_of_length_le (by rw [HN.out]; exact Nat.le_refl _)] at ht
      exact ⟨_, rs, rfl, ht, HR.out, hB⟩

end Go.Proofs.Ytakfobihakbefaa

/- The model's l6pSame. -/

namespace Go.Proofs.Ytakfobihakbefaa
open Go.RowKit

theorem twoCells {w w1 W : World} {x y u v : Value} (hW : (w.alloc (.cells #[x, y] 25)).alloc (.cells #[u, v] 25) = W) (hg : Below W.heap.size W w1) :
    w1.cell? ⟨w.heap.size, 0, none⟩ = some x ∧ w1.cell? ⟨w.heap.size, 1, none⟩ = some y ∧ w1.cell? ⟨w.heap.size + 1, 0, none⟩ = some u ∧ w1.cell? ⟨w.heap.size + 1, 1, none⟩ = some v := by
  have hsz : W.heap.size = w.heap.size + 2 := by rw [← hW]; simp
  obtain ⟨c0, c1⟩ := boxCells (w := w) (w1 := w1) (r := w.heap.size) (x := x) (y := y) rfl (Below.trans ((Below.refl _ _).alloc (by simp) (.cells #[u, v] 25)) (by rw [hW]; exact hg.mono (by omega)))
  obtain ⟨d0, d1⟩ := boxCells (w := w.alloc (.cells #[x, y] 25)) (w1 := w1) (r := w.heap.size + 1) (x := u) (y := v) (by simp) (by rw [hW, show w.heap.size + 1 + 1 = W.heap.size by omega]; exact hg)
  exact ⟨c0, c1, d0, d1⟩
theorem eq_getD {x y : List Int} (hl : x.length = y.length) (h : ∀ i, i < x.length → x.getD i 0 = y.getD i 0) : x = y := by
  refine List.ext_getElem hl fun i h1 h2 => ?_
  have e := h i h1
  simpa [List.getD_eq_getElem?_getD, List.getElem?_eq_getElem h1, List.getElem?_eq_getElem h2] using e

set_option maxRecDepth 100000 in
set_option maxHeartbeats 4000000 in
theorem l6pSame_any (l1 l2 : Int) (x y : List Int) (a1 a2 : Option Addr) (c1 c2 n1 n2 : Nat) (b : Bool) (w : World) (h1 : Ints w a1 n1 x) (h2 : Ints w a2 n2 y) (hb : decide (l1 = l2 ∧ x = y) = b) :
    Calls Try.prog 81 #[plV l1 (.slice a1 n1 c1), plV l2 (.slice a2 n2 c2)] w fun e w' => e = .returned (.bool b) ∧ Below w.heap.size w w' := by
  have hm := h1.max
  unfold maxLen at hm
  obtain ⟨W, hW⟩ : ∃ W, (w.alloc (.cells #[.int .i64 l1, .slice a1 n1 c1] 25)).alloc (.cells #[.int .i64 l2, .slice a2 n2 c2] 25) = W := ⟨_, rfl⟩
  have hsz : W.heap.size = w.heap.size + 2 := by rw [← hW]; simp
  have hbW : Below w.heap.size w W := by rw [← hW]; exact ((Below.refl _ w).alloc (Nat.le_refl _) _).alloc (by simp) _
  have HC : Hid (∀ w1, Below W.heap.size W w1 → _) := Lib.hid fun w1 (hg : Below W.heap.size W w1) => twoCells hW hg
  have H1 := Lib.hid (h1.below hbW)
  have H2 := Lib.hid (h2.below hbW)
  have HB := Lib.hid hb
  have HBW := Lib.hid hbW
  have HN1 := Lib.hid h1.len
  have HN2 := Lib.hid h2.len
  have hC := twoCells hW (Below.refl _ _)
  rw [← hW] at hC
  obtain ⟨q0, q1, q2, q3⟩ := hC
  have HW := Lib.hid hW
  clear hW hbW hb h1 h2
  go_enter Try.func81, Try.ntmps81
  by_cases hl : l1 = l2
  · subst hl
    by_cases hn : n1 = n2
    · subst hn
      have hnn : ((n1 : Int) != (n1 : Int)) = false := by simp
      have hll : (l1 != l1) = false := by simp
      go_wp2_with fail
      rw [HW.out]
      go_loopw [5] (fun i wr => ∃ k : Nat, k ≤ n1 ∧ i = .int .i64 (k : Int) ∧ Hid (∀ i, i < k → x.getD i 0 = y.getD i 0) ∧ Below W.heap.size W wr) (fun i _ => n1 - (intOf i).toNat)
      case atStart => exact ⟨0, Nat.zero_le _, rfl, Lib.hid fun i h => absurd h (Nat.not_lt_zero _), Below.refl _ _⟩
      case round =>
        obtain ⟨k, hk, rfl, HK, hB⟩ := hrel
        obtain ⟨p0, p1, p2, p3⟩ := HC.out _ hB
        have hki : (0 : Int) ≤ (k : Int) := Int.natCast_nonneg _
        by_cases hlt : k < n1
        · have hlti : (k : Int) < (n1 : Int) := by omega
          obtain ⟨z1, rfl, hb1, hc1⟩ := (H1.out.below hB).at_ (by omega)
          obtain ⟨z2, rfl, hb2, hc2⟩ := (H2.out.below hB).at_ (by omega)
          have hkx : k < x.length := by rw [HN1.out]; exact hlt
          have hky : k < y.length := by rw [HN2.out]; exact hlt
          obtain ⟨u, hu⟩ : ∃ u, x[k] = u := ⟨_, rfl⟩
          obtain ⟨v, hv⟩ : ∃ v, y[k] = v := ⟨_, rfl⟩
          have e1 := hc1 k hkx
          have e2 := hc2 k hky
          rw [hu] at e1
          rw [hv] at e2
          have hgu : x.getD k 0 = u := by rw [List.getD_eq_getElem?_getD, List.getElem?_eq_getElem hkx, hu]; rfl
          have hgv : y.getD k 0 = v := by rw [List.getD_eq_getElem?_getD, List.getElem?_eq_getElem hky, hv]; rfl
          have HGU := Lib.hid hgu
          have HGV := Lib.hid hgv
          clear hu hv hc1 hc2 hgu hgv
          by_cases huv : u = v
          · subst huv
            have hne : (u != u) = false := by simp
            go_wp2
            go_quiet (fail)
            go_wp2
            go_roundw
            case rel => exact ⟨k + 1, by omega, by go_num, Lib.hid fun i h => by
              by_cases e : i = k
              · rw [e, HGU.out, HGV.out]
              · exact HK.out i (by omega), below_drewN hB _⟩
            case measure => simp [intOf]; omega
          · have hne : (u != v) = true := by simpa using huv
            have hbf : b = false := by
              rw [← HB.out]
              refine decide_eq_false fun h => huv ?_
              rw [← HGU.out, ← HGV.out, h.2]
            subst hbf
            go_wp2
            go_quiet (fail)
            go_wp2
            go_ret
            exact ⟨rfl, HBW.out.trans ((below_drewN hB _).mono HBW.out.size)⟩
        · obtain rfl : k = n1 := by omega
          have hbt : b = true := by
            rw [← HB.out]
            have e := eq_getD (x := x) (y := y) (by rw [HN1.out, HN2.out]) (fun i hi => HK.out i (by rw [← HN1.out]; exact hi))
            simp [e]
          subst hbt
          go_wp2
          go_ret
          exact ⟨rfl, HBW.out.trans (hB.mono HBW.out.size)⟩
    · have hbf : b = false := by
        rw [← HB.out]
        exact decide_eq_false fun h => hn (by rw [← HN1.out, ← HN2.out, h.2])
      subst hbf
      have hni : ¬ (n1 : Int) = (n2 : Int) := by omega
      have hnn : ((n1 : Int) != (n2 : Int)) = true := by simpa using hni
      have hll : (l1 != l1) = false := by simp
      go_wp2
      go_ret
      exact ⟨rfl, by rw [HW.out]; exact HBW.out⟩
  · have hbf : b = false := by
      rw [← HB.out]
      exact decide_eq_false fun h => hl h.1
    subst hbf
    have hll : (l1 != l2) = true := by simpa using hl
    go_wp2
    go_ret
    exact ⟨rfl, by rw [HW.out]; exact HBW.out⟩

end Go.Proofs.Ytakfobihakbefaa

/- The laws' 'eqIntS' and 'eqPoly' at ints that lie anywhere; 'eqPolyS' and 'eqPolySS'. -/

namespace Go.Proofs.Ytakfobihakbefaa
open Go.RowKit

set_option maxHeartbeats 1000000 in
theorem eqIntSI_yes (a1 a2 : Option Addr) (c1 c2 n : Nat) (zs : List Int) (w : World) (h1 : Ints w a1 n zs) (h2 : Ints w a2 n zs) :
    Calls Try.prog 113 #[.slice a1 n c1, .slice a2 n c2] w fun e w' => e = .returned (.bool true) ∧ Below w.heap.size w w' := by
  have hm := h1.max
  unfold maxLen at hm
  have H1 := Lib.hid h1
  have H2 := Lib.hid h2
  clear h1 h2
  go_enter Try.func113, Try.ntmps113
  go_wp2
  go_loopw [5] (fun i wr => ∃ k : Nat, k ≤ n ∧ i = .int .i64 k ∧ Below w.heap.size w wr) (fun i _ => n - (intOf i).toNat)
  case atStart => exact ⟨0, Nat.zero_le _, rfl, Below.refl _ _⟩
  case round =>
    obtain ⟨k, hk, rfl, hB⟩ := hrel
    by_cases hlt : k < n
    · obtain ⟨z1, rfl, hb1, hc1⟩ := (H1.out.below hB).at_ (by omega)
      obtain ⟨z2, rfl, hb2, hc2⟩ := (H2.out.below hB).at_ (by omega)
      have hkz : k < zs.length := by rw [H1.out.len]; exact hlt
      obtain ⟨z, hz⟩ : ∃ z, zs[k] = z := ⟨_, rfl⟩
      have d1 := hc1 k hkz
      have d2 := hc2 k hkz
      rw [hz] at d1 d2
      clear hz hkz hc1 hc2
      go_wp2
      go_quiet (fail)
      go_wp2
      go_roundw
      case rel => exact ⟨k + 1, by omega, by go_num, below_drewN hB _⟩
      case measure => simp [intOf]; omega
    · go_wp2
      go_ret
      exact ⟨rfl, hB⟩

set_option maxRecDepth 100000 in
set_option maxHeartbeats 1000000 in
theorem eqPolyI_yes {W : World} {a a2 : Option Addr} {n c c2 : Nat} {l : Int} {zs : List Int} (h : Ints W a n zs) (h2 : Ints W a2 n zs) :
    Calls Try.prog 60 #[plV l (.slice a n c), plV l (.slice a2 n c2)] W fun e w' => e = .returned (.bool true) ∧ Below W.heap.size W w' := by
  obtain ⟨V, hV⟩ : ∃ V, (W.alloc (.cells #[.int .i64 l, .slice a n c] 25)).alloc (.cells #[.int .i64 l, .slice a2 n c2] 25) = V := ⟨_, rfl⟩
  have hbV : Below W.heap.size W V := by rw [← hV]; exact ((Below.refl _ W).alloc (Nat.le_refl _) _).alloc (by simp) _
  have hC := twoCells hV (Below.refl _ _)
  rw [← hV] at hC
  obtain ⟨q0, q1, q2, q3⟩ := hC
  have HS := Lib.hid (eqIntSI_yes a a2 c c2 n zs V (h.below hbV) (h2.below hbV))
  have HB := Lib.hid hbV
  have HV := Lib.hid hV
  clear hV hbV h h2
  go_enter Try.func60, Try.ntmps60
  go_wp2_with fail
  rw [HV.out]
  refine HS.out.mono ?_
  rintro e w1 ⟨rfl, hb1⟩
  have HB1 := Lib.hid (HB.out.trans (hb1.mono HB.out.size))
  clear hb1 q0 q1 q2 q3
  go_wp2
  go_ret
  exact ⟨rfl, HB1.out⟩

set_option maxRecDepth 100000 in
set_option maxHeartbeats 2000000 in
theorem eqPolyS_yes (a b : Option Addr) (c d n : Nat) (ps : List Pl) (w : World) (h1 : IsPS w a n ps) (h2 : IsPS w b n ps) :
    Calls Try.prog 118 #[.slice a n c, .slice b n d] w fun e w' => e = .returned (.bool true) ∧ Below w.heap.size w w' := by
  have hm := h1.max
  have HN := Lib.hid h1.len
  have H1 := Lib.hid h1
  have H2 := Lib.hid h2
  have hmx : Try.prog.follows .mixedOrders = true := by kernel_rfl
  clear h1 h2
  unfold maxLen at hm
  go_enter Try.func118, Try.ntmps118
  go_wp2
  go_loopw [5] (fun i wr => ∃ k : Nat, k ≤ n ∧ i = .int .i64 k ∧ Below w.heap.size w wr) (fun i _ => n - (intOf i).toNat)
  case atStart => exact ⟨0, Nat.zero_le _, rfl, Below.refl _ _⟩
  case round =>
    obtain ⟨k, hk, rfl, hB⟩ := hrel
    by_cases hlt : k < n
    · have hkz : k < ps.length := by rw [HN.out]; exact hlt
      obtain ⟨x, rfl, hxb, hx⟩ := H1.out.at_ (by omega)
      obtain ⟨y, rfl, hyb, hy⟩ := H2.out.at_ (by omega)
      obtain ⟨ai, ci, hc0, hc1, hI, _⟩ := hx k hkz
      obtain ⟨bi, di, he0, he1, hJ, _⟩ := hy k hkz
      have hxB := Nat.lt_of_lt_of_le hxb hB.size
      have hyB := Nat.lt_of_lt_of_le hyb hB.size
      have hc2 := (hB.cell (p := x.add (k * 2)) (by rw [addr_add_block]; exact hxb)).trans hc0
      have hc3 := (hB.cell (p := x.add (k * 2 + 1)) (by rw [addr_add_block]; exact hxb)).trans hc1
      have he2 := (hB.cell (p := y.add (k * 2)) (by rw [addr_add_block]; exact hyb)).trans he0
      have he3 := (hB.cell (p := y.add (k * 2 + 1)) (by rw [addr_add_block]; exact hyb)).trans he1
      rw [addr_next2] at hc3 he3
      have v0 := BelowBy.cell (w := wr) (by rw [addr_add_block]; exact hxB) hc2
      have v1 := BelowBy.cell (w := wr) (by show (x.add (k * 2)).block < _; rw [addr_add_block]; exact hxB) hc3
      have v2 := BelowBy.cell (w := wr) (by rw [addr_add_block]; exact hyB) he2
      have v3 := BelowBy.cell (w := wr) (by show (y.add (k * 2)).block < _; rw [addr_add_block]; exact hyB) he3
      obtain ⟨p, hp⟩ : ∃ p, ps[k] = p := ⟨_, rfl⟩
      rw [hp] at hI hJ v0 v1 v2 v3
      obtain ⟨r, hr⟩ : ∃ r, p.cs.length = r := ⟨_, rfl⟩
      rw [hr] at hI hJ v1 v3
      have HT : Hid (∀ q : BelowBy wr, Calls Try.prog 60 #[plV p.low (.slice ai r ci), plV p.low (.slice bi r di)] q.world fun e w' => e = .returned (.bool true) ∧ Below q.world.heap.size q.world w') :=
        Lib.hid fun q => eqPolyI_yes ((hI.below hB).below q.below) ((hJ.below hB).below q.below)
      clear hx hy hc0 hc1 he0 he1 hc2 hc3 he2 he3 hI hJ hr hp
      go_wp2
      refine wp_region_below hmx (by kernel_rfl) ?_
      repeat (((with_reducible refine wpQuiet_step (fun K hK => ?_)); go_simp; first | ((with_reducible refine hK _ ?_); clear hK K) | (refine (if_neg (by decide)).mpr ?_; (with_reducible refine hK _ ?_); clear hK K) | (apply Exists.intro; (with_reducible refine ⟨fun _ => ?_, hK _ ?_⟩); (go_at_call 60; exact Calls.bel (HT.out _)); clear hK K)))
      with_reducible refine wpQuiet_nil ?_
      rintro _ ⟨⟨W, hW⟩, rfl⟩
      clear v0 v1 v2 v3
      go_wp2
      go_roundw
      case rel => exact ⟨k + 1, by omega, by go_num, hB.trans (hW.mono hB.size)⟩
      case measure => simp [intOf]; omega
    · go_wp2
      go_ret
      exact ⟨rfl, hB⟩

set_option maxRecDepth 100000 in
set_option maxHeartbeats 2000000 in
theorem eqPolySS_yes (a b : Option Addr) (c d n : Nat) (rows : List (List Pl)) (w : World) (h1 : IsPSS w a n rows) (h2 : IsPSS w b n rows) :
    Calls Try.prog 65 #[.slice a n c, .slice b n d] w fun e w' => e = .returned (.bool true) ∧ Below w.heap.size w w' := by
  have hm := h1.max
  have HN := Lib.hid h1.len
  have H1 := Lib.hid h1
  have H2 := Lib.hid h2
  have hmx : Try.prog.follows .mixedOrders = true := by kernel_rfl
  clear h1 h2
  unfold maxLen at hm
  go_enter Try.func65, Try.ntmps65
  go_wp2
  go_loopw [5] (fun i wr => ∃ k : Nat, k ≤ n ∧ i = .int .i64 k ∧ Below w.heap.size w wr) (fun i _ => n - (intOf i).toNat)
  case atStart => exact ⟨0, Nat.zero_le _, rfl, Below.refl _ _⟩
  case round =>
    obtain ⟨k, hk, rfl, hB⟩ := hrel
    by_cases hlt : k < n
    · have hkz : k < rows.length := by rw [HN.out]; exact hlt
      obtain ⟨x, rfl, hxb, hx⟩ := H1.out.at_ (by omega)
      obtain ⟨y, rfl, hyb, hy⟩ := H2.out.at_ (by omega)
      obtain ⟨ai, ci, hc, hI⟩ := hx k hkz
      obtain ⟨bi, di, he, hJ⟩ := hy k hkz
      have hc0 := (hB.cell (p := x.add k) (by rw [addr_add_block]; exact hxb)).trans hc
      have he0 := (hB.cell (p := y.add k) (by rw [addr_add_block]; exact hyb)).trans he
      have v0 := BelowBy.cell (w := wr) (by rw [addr_add_block]; exact Nat.lt_of_lt_of_le hxb hB.size) hc0
      have v1 := BelowBy.cell (w := wr) (by rw [addr_add_block]; exact Nat.lt_of_lt_of_le hyb hB.size) he0
      obtain ⟨r, hr⟩ : ∃ r, rows[k].length = r := ⟨_, rfl⟩
      rw [hr] at hI hJ v0 v1
      have HT : Hid (∀ p : BelowBy wr, Calls Try.prog 118 #[.slice ai r ci, .slice bi r di] p.world fun e w' => e = .returned (.bool true) ∧ Below p.world.heap.size p.world w') :=
        Lib.hid fun p => eqPolyS_yes _ _ _ _ _ _ _ ((hI.below hB).below p.below) ((hJ.below hB).below p.below)
      clear hx hy hc he hc0 he0 hI hJ hr
      go_wp2
      refine wp_region_below hmx (by kernel_rfl) ?_
      repeat (((with_reducible refine wpQuiet_step (fun K hK => ?_)); go_simp; first | ((with_reducible refine hK _ ?_); clear hK K) | (refine (if_neg (by decide)).mpr ?_; (with_reducible refine hK _ ?_); clear hK K) | (apply Exists.intro; (with_reducible refine ⟨fun _ => ?_, hK _ ?_⟩); (go_at_call 118; exact Calls.bel (HT.out _)); clear hK K)))
      with_reducible refine wpQuiet_nil ?_
      rintro _ ⟨⟨W, hW⟩, rfl⟩
      clear v0 v1
      go_wp2
      go_roundw
      case rel => exact ⟨k + 1, by omega, by go_num, hB.trans (hW.mono hB.size)⟩
      case measure => simp [intOf]; omega
    · go_wp2
      go_ret
      exact ⟨rfl, hB⟩

end Go.Proofs.Ytakfobihakbefaa

/- Marks in lists of polynomials and lists of these: the laws' 'markPolyS', 'markPolySS', 'heldPolyS' and 'heldPolySS'. -/

namespace Go.Proofs.Ytakfobihakbefaa
open Go.RowKit

def offX (xs : List Pv) (i : Nat) : Nat := i + csum ((xs.map (·.p)).take i)
def totX (xs : List Pv) : Nat := totR (xs.map (·.p))
theorem offX_succ (xs : List Pv) (i : Nat) (h : i < xs.length) : offX xs (i + 1) = offX xs i + 1 + xs[i].p.cs.length := by
  unfold offX; rw [csum_succ _ i (by rw [List.length_map]; exact h), List.getElem_map]; omega
theorem offX_le (xs : List Pv) (i : Nat) (h : i ≤ xs.length) : offX xs i ≤ totX xs := by
  unfold offX totX totR; have := csum_take_le (xs.map (·.p)) i; rw [List.length_map]; omega
theorem offX_all (xs : List Pv) : offX xs xs.length = totX xs := by
  unfold offX totX totR; rw [List.take_of_length_le (by rw [List.length_map]; exact Nat.le_refl _), List.length_map]
def markX (k : Nat) (x : Pv) : Pv := ⟨⟨(k : Int), marks (k + 1) x.p.cs.length⟩, x.v⟩
/-- The first j polynomials are marked. -/
def halfX (k j : Nat) (xs : List Pv) : List Pv := xs.mapIdx fun i x => if i < j then markX (k + offX xs i) x else x
theorem halfX_len (k j : Nat) (xs : List Pv) : (halfX k j xs).length = xs.length := by simp [halfX]
theorem halfX_get (k j : Nat) (xs : List Pv) (i : Nat) (h : i < xs.length) : (halfX k j xs)[i]'(by rw [halfX_len]; exact h) = if i < j then markX (k + offX xs i) xs[i] else xs[i] := by
  simp [halfX]
theorem halfX_v (k j : Nat) (xs : List Pv) (i : Nat) (h : i < xs.length) : ((halfX k j xs)[i]'(by rw [halfX_len]; exact h)).v = xs[i].v := by
  rw [halfX_get k j xs i h]; split <;> rfl
theorem halfX_zero (k : Nat) (xs : List Pv) : halfX k 0 xs = xs := by
  apply List.ext_getElem (by rw [halfX_len])
  intro i h1 h2
  rw [halfX_get k 0 xs i h2, if_neg (Nat.not_lt_zero _)]
theorem halfX_succ (k j : Nat) (xs : List Pv) (hj : j < xs.length) : halfX k (j + 1) xs = (halfX k j xs).set j (markX (k + offX xs j) xs[j]) := by
  apply List.ext_getElem (by rw [List.length_set, halfX_len, halfX_len])
  intro i h1 h2
  rw [halfX_len] at h1
  rw [halfX_get k (j + 1) xs i h1, List.getElem_set]
  by_cases e : j = i
  · subst e; rw [if_pos (by omega), if_pos rfl]
  · rw [if_neg e, halfX_get k j xs i h1]
    by_cases hij : i < j
    · rw [if_pos hij, if_pos (by omega)]
    · rw [if_neg hij, if_neg (by omega)]
theorem FootR.half {k j : Nat} {u : Value} {xs : List Pv} {b : Nat} : FootR u (halfX k j xs) b ↔ FootR u xs b := by
  unfold FootR
  refine or_congr Iff.rfl ⟨?_, ?_⟩
  · rintro ⟨i, hi, h⟩
    have hi2 : i < xs.length := by rw [halfX_len] at hi; exact hi
    exact ⟨i, hi2, by rw [halfX_v k j xs i hi2] at h; exact h⟩
  · rintro ⟨i, hi, h⟩
    exact ⟨i, by rw [halfX_len]; exact hi, by rw [halfX_v k j xs i hi]; exact h⟩
theorem list_set_self {α : Type} (l : List α) (i : Nat) (x : α) (h : l[i]? = some x) : l.set i x = l := by
  obtain ⟨hi, rfl⟩ := List.getElem?_eq_some_iff.1 h
  exact List.set_getElem_self hi
/-- A polynomial whose Low and coefficients are turned in place. -/
theorem OwnR.turn {lo g n c : Nat} {w w2 : World} {xs : List Pv} {p : Pl} {k : Nat} (h : OwnR lo w (.slice (some ⟨g, 0, none⟩) n c) xs) (hk : k < xs.length) (hg : (w.setCell ⟨g, k * 2, none⟩ (.int .i64 p.low)).grownBy w2 xs[k].v.ownBlock) (hp : IntRow lo w2 xs[k].v p.cs) :
    OwnR lo w2 (.slice (some ⟨g, 0, none⟩) n c) (xs.set k ⟨p, xs[k].v⟩) := by
  have hn : xs.length = n := by
    rcases h.row.2 with ⟨e, _⟩ | ⟨g, cap, cur, e, _⟩
    · cases e
    · simp only [Value.slice.injEq] at e; exact e.2.1.symm
  subst hn
  have hst := (h.row.stored (k * 2) (.int .i64 p.low)).1
  have hc : (cellsP xs).set (k * 2) (.int .i64 p.low) = cellsP (xs.set k ⟨p, xs[k].v⟩) := by
    rw [← cellsP_set xs k ⟨p, xs[k].v⟩ hk]
    refine (list_set_self _ _ _ ?_).symm
    rw [List.getElem?_set_ne (by omega)]
    exact (cellsP_get xs k hk).2
  rw [hc] at hst
  refine ⟨?_, fun i hi => ?_, fun i hi b hb1 hb2 => ?_, fun i j hi hj b hne h1 h2 => ?_⟩
  · rw [List.length_set]
    exact ownsRow_touched hst fun b hb hl => hg.block b hl fun e => h.head k hk b hb e.symm
  · rw [List.length_set] at hi
    rw [List.getElem_set]
    split
    · exact hp
    · rename_i hne
      have h1 : IntRow lo (w.setCell ⟨g, k * 2, none⟩ (.int .i64 p.low)) xs[i].v xs[i].p.cs := (h.poly i hi).off ⟨g, k * 2, none⟩ _ fun b e => fun e2 => h.head i hi b (by rw [e2]; rfl) e
      exact ownsRow_touched h1 fun b hb hl => hg.block b hl fun e => h.apart k i hk hi b hne e.symm hb
  · rw [List.length_set] at hi
    rw [List.getElem_set] at hb2
    split at hb2
    · exact h.head k hk b hb1 hb2
    · exact h.head i hi b hb1 hb2
  · rw [List.length_set] at hi hj
    rw [List.getElem_set] at h1 h2
    split at h1
    · split at h2
      · omega
      · exact h.apart k j hk hj b (by omega) h1 h2
    · split at h2
      · exact h.apart i k hi hk b (by omega) h1 h2
      · exact h.apart i j hi hj b hne h1 h2

set_option maxRecDepth 100000 in
set_option maxHeartbeats 2000000 in
theorem markPolyS_any (lo k : Nat) (u : Value) (xs : List Pv) (w : World) (h : OwnR lo w u xs) (hn : totX xs ≤ 1048576) (hk : k ≤ 100000000) :
    Calls Try.prog 119 #[u, .int .i64 k] w fun e w' => e = .returned (.int .i64 ((k + totX xs : Nat) : Int)) ∧ OwnR lo w' u (halfX k xs.length xs) ∧ Touched (FootR u xs) w w' := by
  obtain ⟨n, hl⟩ : ∃ n, xs.length = n := ⟨_, rfl⟩
  obtain ⟨a, cap, rfl⟩ : ∃ a cap, u = .slice a n cap := by
    rcases h.row.2 with ⟨rfl, h0⟩ | ⟨g, cap, cur, rfl, _⟩
    · exact ⟨none, 0, by rw [← hl, h0]⟩
    · exact ⟨_, _, by rw [hl]⟩
  rw [hl]
  have HA := Lib.hid (offX_all xs)
  have HH := Lib.hid h
  have HL := Lib.hid hl
  have hnb : n ≤ 1048576 := by rw [← hl]; unfold totX totR at hn; rw [List.length_map] at hn; omega
  clear h hl
  go_enter Try.func119, Try.ntmps119
  go_wp2
  go_loopw [1, 5] (fun q i wr => ∃ j m : Nat, j ≤ n ∧ q = .int .i64 m ∧ i = .int .i64 j ∧ Hid (m = k + offX xs j) ∧ Hid (OwnR lo wr (.slice a n cap) (halfX k j xs)) ∧ Hid (Touched (FootR (.slice a n cap) xs) w wr)) (fun _ i _ => n - (intOf i).toNat)
  case atStart => exact ⟨0, k, Nat.zero_le _, rfl, rfl, Lib.hid (by simp [offX, csum]), Lib.hid (by rw [halfX_zero]; exact HH.out), Lib.hid (Touched.refl _ _)⟩
  case round =>
    obtain ⟨j, m, hj, rfl, rfl, HM, HR, HB⟩ := hrel
    have hmb : m ≤ 102000000 := by have := HM.out; have := offX_le xs j (by rw [HL.out]; exact hj); omega
    by_cases hlt : j < n
    · have hjr : j < xs.length := by rw [HL.out]; exact hlt
      obtain ⟨g, rfl, hg⟩ : ∃ g, a = some ⟨g, 0, none⟩ ∧ lo ≤ g := by
        rcases HR.out.row.2 with ⟨_, e1⟩ | ⟨g, cap1, cur, e0, hg, _⟩
        · rw [halfX_len, HL.out] at e1; omega
        · simp only [Value.slice.injEq] at e0; exact ⟨g, e0.1, hg⟩
      have hrow := HR.out.row
      have hxl := hrow.1
      rw [halfX_len, HL.out] at hrow hxl
      have hget := cellsP_get (halfX k j xs) j (by rw [halfX_len]; exact hjr)
      rw [halfX_get k j xs j hjr, if_neg (Nat.lt_irrefl _)] at hget
      have hd0 : wr.cell? ⟨g, j * 2, none⟩ = some (.int .i64 xs[j].p.low) := by rw [hrow.cellAt _ (by omega)]; exact hget.1
      have hd1 : wr.cell? ⟨g, j * 2 + 1, none⟩ = some xs[j].v := by rw [hrow.cellAt _ (by omega)]; exact hget.2
      have hf0 := hrow.frozenAt (j * 2)
      have hst := hrow.stored (j * 2) (.int .i64 (m : Int))
      have hpo := HR.out.poly j (by rw [halfX_len]; exact hjr)
      rw [halfX_get k j xs j hjr, if_neg (Nat.lt_irrefl _)] at hpo
      have hpo2 : IntRow lo (wr.setCell ⟨g, j * 2, none⟩ (.int .i64 (m : Int))) xs[j].v xs[j].p.cs := hpo.off ⟨g, j * 2, none⟩ _ fun b e => fun e2 => HR.out.head j (by rw [halfX_len]; exact hjr) b (by rw [e2]; rfl) (by rw [halfX_v k j xs j hjr]; exact e)
      have he1 : (wr.setCell ⟨g, j * 2, none⟩ (.int .i64 (m : Int))).cell? ⟨g, j * 2 + 1, none⟩ = some xs[j].v := by
        rw [hst.1.cellAt _ (by omega), List.getElem?_set_ne (by omega)]; exact hget.2
      have HTU := Lib.hid (fun w2 => HR.out.turn (w2 := w2) (p := ⟨(m : Int), marks (m + 1) xs[j].p.cs.length⟩) (k := j) (by rw [halfX_len]; exact hjr))
      have hsucc := offX_succ xs j hjr
      have hle := offX_le xs (j + 1) (by omega)
      obtain ⟨x, hx⟩ : ∃ x, xs[j] = x := ⟨_, rfl⟩
      have hvx : ((halfX k j xs)[j]'(by rw [halfX_len]; exact hjr)).v = x.v := by rw [halfX_v k j xs j hjr, hx]
      have HHS := halfX_succ k j xs hjr
      rw [hx] at hpo2 he1 hd0 hd1 hsucc HTU HHS
      rw [← HM.out] at HHS
      have hr3 : x.p.cs.length ≤ 1048576 := by omega
      have HC := Lib.hid (markIntS_any lo x.v x.p.cs (m + 1) _ hpo2 (by omega) (by omega))
      have HX := Lib.hid hx
      have HS := Lib.hid hsucc
      have HV := Lib.hid hvx
      have HHS2 := Lib.hid HHS
      have HFX : Hid (FootR (.slice (some ⟨g, 0, none⟩) n cap) xs g) := Lib.hid (.inl rfl)
      have HFY : Hid (∀ b, x.v.ownBlock = some b → FootR (.slice (some ⟨g, 0, none⟩) n cap) xs b) := Lib.hid fun b e => .inr ⟨j, hjr, by rw [hx]; exact e⟩
      have HG1 := Lib.hid hst.2
      clear hrow hxl hget hst hpo hpo2 hsucc hle hx hvx HHS
      go_wp2_with fail
      refine (show Calls Try.prog 114 #[x.v, .int .i64 ((m : Int) + 1)] _ _ from HC.out).mono ?_
      rintro e w4 ⟨rfl, hi4, hg4⟩
      obtain ⟨m2, hm2⟩ : ∃ m2, m + 1 + x.p.cs.length = m2 := ⟨_, rfl⟩
      rw [hm2]
      have HM2 := Lib.hid hm2
      have HR4 := Lib.hid (HTU.out w4 (by rw [HV.out]; exact hg4) (by rw [HV.out]; exact hi4))
      have HB4 := Lib.hid ((HB.out.grown HG1.out fun b e => by simp only [Option.some.injEq] at e; rw [← e]; exact HFX.out).grown hg4 fun b e => HFY.out b e)
      clear hi4 hg4 hm2 he1 hd0 hd1 hf0
      go_wp2
      go_roundw
      case rel =>
        refine ⟨j + 1, m2, by omega, rfl, by go_num, Lib.hid (by rw [HS.out, ← HM2.out, HM.out]; omega), Lib.hid ?_, HB4⟩
        have h5 := HR4.out
        rw [HV.out] at h5
        rw [HHS2.out]
        exact h5
      case measure => simp [intOf]; omega
    · obtain rfl : j = n := by omega
      have hm := HM.out
      have hx := HA.out
      rw [HL.out] at hx
      rw [hx] at hm
      have HM2 := Lib.hid hm
      clear hm hx
      go_wp2
      go_ret
      exact ⟨ret_int (by rw [HM2.out]), HR.out, HB.out⟩

set_option maxRecDepth 100000 in
set_option maxHeartbeats 2000000 in
theorem heldPolyS_any (lo k : Nat) (u : Value) (xs : List Pv) (w : World) (h : OwnR lo w u (halfX k xs.length xs)) (hn : totX xs ≤ 1048576) (hk : k ≤ 100000000) :
    Calls Try.prog 120 #[u, .int .i64 k] w fun e w' => e = .returned (.int .i64 ((k + totX xs : Nat) : Int)) ∧ Below w.heap.size w w' := by
  obtain ⟨n, hl⟩ : ∃ n, xs.length = n := ⟨_, rfl⟩
  obtain ⟨a, cap, rfl⟩ : ∃ a cap, u = .slice a n cap := by
    rcases h.row.2 with ⟨rfl, h0⟩ | ⟨g, cap, cur, rfl, _⟩
    · rw [halfX_len] at h0; exact ⟨none, 0, by rw [← hl, h0]⟩
    · exact ⟨_, _, by rw [halfX_len, hl]⟩
  rw [hl] at h
  have HA := Lib.hid (offX_all xs)
  have HH := Lib.hid h
  have HL := Lib.hid hl
  have hnb : n ≤ 1048576 := by rw [← hl]; unfold totX totR at hn; rw [List.length_map] at hn; omega
  clear h hl
  go_enter Try.func120, Try.ntmps120
  go_wp2
  go_loopw [1, 5] (fun q i wr => ∃ j m : Nat, j ≤ n ∧ q = .int .i64 m ∧ i = .int .i64 j ∧ Hid (m = k + offX xs j) ∧ Below w.heap.size w wr) (fun _ i _ => n - (intOf i).toNat)
  case atStart => exact ⟨0, k, Nat.zero_le _, rfl, rfl, Lib.hid (by simp [offX, csum]), Below.refl _ _⟩
  case round =>
    obtain ⟨j, m, hj, rfl, rfl, HM, hB⟩ := hrel
    have hmb : m ≤ 102000000 := by have := HM.out; have := offX_le xs j (by rw [HL.out]; exact hj); omega
    by_cases hlt : j < n
    · have hjr : j < xs.length := by rw [HL.out]; exact hlt
      obtain ⟨g, rfl, hg⟩ : ∃ g, a = some ⟨g, 0, none⟩ ∧ lo ≤ g := by
        rcases HH.out.row.2 with ⟨_, e1⟩ | ⟨g, cap1, cur, e0, hg, _⟩
        · rw [halfX_len, HL.out] at e1; omega
        · simp only [Value.slice.injEq] at e0; exact ⟨g, e0.1, hg⟩
      have hR := HH.out.below hB
      have hrow := hR.row
      rw [halfX_len, HL.out] at hrow
      have hget := cellsP_get (halfX k n xs) j (by rw [halfX_len]; exact hjr)
      rw [halfX_get k n xs j hjr, if_pos hlt, ← HM.out] at hget
      have hd0 : wr.cell? ⟨g, j * 2, none⟩ = some (.int .i64 (m : Int)) := by rw [hrow.cellAt _ (by omega)]; exact hget.1
      have hd1 : wr.cell? ⟨g, j * 2 + 1, none⟩ = some xs[j].v := by rw [hrow.cellAt _ (by omega)]; exact hget.2
      have hpo := hR.poly j (by rw [halfX_len]; exact hjr)
      rw [halfX_get k n xs j hjr, if_pos hlt, ← HM.out] at hpo
      have hsucc := offX_succ xs j hjr
      have hle := offX_le xs (j + 1) (by omega)
      have hpo2 : IntRow lo wr xs[j].v (marks (m + 1) xs[j].p.cs.length) := hpo
      obtain ⟨x, hx⟩ : ∃ x, xs[j] = x := ⟨_, rfl⟩
      rw [hx] at hpo2 hd1 hsucc
      have hr3 : x.p.cs.length ≤ 1048576 := by omega
      have HC := Lib.hid (heldIntS_any lo x.v x.p.cs.length (m + 1) _ hpo2 (by omega) (by omega))
      have HS := Lib.hid hsucc
      clear hrow hget hpo hpo2 hsucc hle hx hR
      go_wp2_with fail
      refine (show Calls Try.prog 115 #[x.v, .int .i64 ((m : Int) + 1)] _ _ from (HC.out)).mono ?_
      rintro e w4 ⟨rfl, rfl⟩
      have hnn : ¬ ((m + 1 + x.p.cs.length : Nat) : Int) < 0 := by omega
      obtain ⟨m2, hm2⟩ : ∃ m2, m + 1 + x.p.cs.length = m2 := ⟨_, rfl⟩
      rw [hm2] at hnn ⊢
      have hdn : decide ((m2 : Int) < 0) = false := decide_eq_false hnn
      have HM2 := Lib.hid hm2
      clear hm2 hd0 hd1
      go_wp2
      go_roundw
      case rel => exact ⟨j + 1, m2, by omega, rfl, by go_num, Lib.hid (by rw [HS.out, ← HM2.out, HM.out]; omega), hB⟩
      case measure => simp [intOf]; omega
    · obtain rfl : j = n := by omega
      have hm := HM.out
      have hx := HA.out
      rw [HL.out] at hx
      rw [hx] at hm
      have HM2 := Lib.hid hm
      clear hm hx
      go_wp2
      go_ret
      exact ⟨ret_int (by rw [HM2.out]), hB⟩

end Go.Proofs.Ytakfobihakbefaa

/- Marks in lists of lists of polynomials: the laws' 'markPolySS' and 'heldPolySS'. -/

namespace Go.Proofs.Ytakfobihakbefaa
open Go.RowKit

def offR (rs : List Rv) (i : Nat) : Nat := totM ((rowsOf rs).take i)
theorem rowsOf_len (rs : List Rv) : (rowsOf rs).length = rs.length := by simp [rowsOf]
theorem rowsOf_get (rs : List Rv) (i : Nat) (h : i < rs.length) : (rowsOf rs)[i]'(by rw [rowsOf_len]; exact h) = rs[i].xs.map (·.p) := by simp [rowsOf]
theorem offR_succ (rs : List Rv) (i : Nat) (h : i < rs.length) : offR rs (i + 1) = offR rs i + totX rs[i].xs := by
  unfold offR totX; rw [totM_succ _ i (by rw [rowsOf_len]; exact h), rowsOf_get rs i h]
theorem offR_le (rs : List Rv) (i : Nat) : offR rs i ≤ totM (rowsOf rs) := totM_take_le _ i
theorem offR_all (rs : List Rv) : offR rs rs.length = totM (rowsOf rs) := by
  unfold offR; rw [List.take_of_length_le (by rw [rowsOf_len]; exact Nat.le_refl _)]
def markRv (k : Nat) (r : Rv) : Rv := ⟨r.u, halfX k r.xs.length r.xs⟩
def halfM (k j : Nat) (rs : List Rv) : List Rv := rs.mapIdx fun i r => if i < j then markRv (k + offR rs i) r else r
theorem halfM_len (k j : Nat) (rs : List Rv) : (halfM k j rs).length = rs.length := by simp [halfM]
theorem halfM_get (k j : Nat) (rs : List Rv) (i : Nat) (h : i < rs.length) : (halfM k j rs)[i]'(by rw [halfM_len]; exact h) = if i < j then markRv (k + offR rs i) rs[i] else rs[i] := by
  simp [halfM]
theorem halfM_u (k j : Nat) (rs : List Rv) (i : Nat) (h : i < rs.length) : ((halfM k j rs)[i]'(by rw [halfM_len]; exact h)).u = rs[i].u := by
  rw [halfM_get k j rs i h]; split <;> rfl
theorem halfM_foot (k j : Nat) (rs : List Rv) (i : Nat) (h : i < rs.length) (b : Nat) : FootR ((halfM k j rs)[i]'(by rw [halfM_len]; exact h)).u ((halfM k j rs)[i]'(by rw [halfM_len]; exact h)).xs b ↔ FootR rs[i].u rs[i].xs b := by
  rw [halfM_get k j rs i h]
  split
  · exact FootR.half
  · exact Iff.rfl
theorem halfM_zero (k : Nat) (rs : List Rv) : halfM k 0 rs = rs := by
  apply List.ext_getElem (by rw [halfM_len])
  intro i h1 h2
  rw [halfM_get k 0 rs i h2, if_neg (Nat.not_lt_zero _)]
theorem halfM_succ (k j : Nat) (rs : List Rv) (hj : j < rs.length) : halfM k (j + 1) rs = (halfM k j rs).set j (markRv (k + offR rs j) rs[j]) := by
  apply List.ext_getElem (by rw [List.length_set, halfM_len, halfM_len])
  intro i h1 h2
  rw [halfM_len] at h1
  rw [halfM_get k (j + 1) rs i h1, List.getElem_set]
  by_cases e : j = i
  · subst e; rw [if_pos (by omega), if_pos rfl]
  · rw [if_neg e, halfM_get k j rs i h1]
    by_cases hij : i < j
    · rw [if_pos hij, if_pos (by omega)]
    · rw [if_neg hij, if_neg (by omega)]
theorem OwnM.turn {lo : Nat} {w w2 : World} {v : Value} {rs : List Rv} {r : Rv} {k : Nat} (h : OwnM lo w v rs) (hk : k < rs.length) (ht : Touched (FootR rs[k].u rs[k].xs) w w2) (hr : OwnR lo w2 r.u r.xs) (hu : r.u = rs[k].u) (hf : ∀ b, FootR r.u r.xs b → FootR rs[k].u rs[k].xs b) :
    OwnM lo w2 v (rs.set k r) := by
  refine ⟨?_, fun i hi => ?_, fun i hi b hb1 hb2 => ?_, fun i j hi hj b hne h1 h2 => ?_⟩
  · have e : (rs.set k r).map (·.u) = rs.map (·.u) := by
      rw [List.map_set, hu]
      exact list_set_self _ _ _ (by rw [List.getElem?_map, List.getElem?_eq_getElem hk]; rfl)
    rw [List.length_set, e]
    exact ownsRow_touched h.row fun b hb hl => ht.block b hl fun e => h.head k hk b hb e
  · rw [List.length_set] at hi
    rw [List.getElem_set]
    split
    · exact hr
    · rename_i hne
      exact (h.each i hi).touched ht fun b hb e => h.apart i k hi hk b (fun e => hne e.symm) hb e
  · rw [List.length_set] at hi
    rw [List.getElem_set] at hb2
    split at hb2
    · exact h.head k hk b hb1 (hf b hb2)
    · exact h.head i hi b hb1 hb2
  · rw [List.length_set] at hi hj
    rw [List.getElem_set] at h1 h2
    split at h1
    · split at h2
      · omega
      · exact h.apart k j hk hj b (by omega) (hf b h1) h2
    · split at h2
      · exact h.apart i k hi hk b (by omega) h1 (hf b h2)
      · exact h.apart i j hi hj b hne h1 h2

set_option maxRecDepth 100000 in
set_option maxHeartbeats 2000000 in
theorem markPolySS_any (lo k : Nat) (v : Value) (rs : List Rv) (w : World) (h : OwnM lo w v rs) (hn : rs.length + totM (rowsOf rs) ≤ 1048576) (hk : k ≤ 10000000) :
    Calls Try.prog 66 #[v, .int .i64 k] w fun e w' => e = .returned (.int .i64 ((k + totM (rowsOf rs) : Nat) : Int)) ∧ OwnM lo w' v (halfM k rs.length rs) ∧ Touched (FootM rs) w w' := by
  obtain ⟨n, hl⟩ : ∃ n, rs.length = n := ⟨_, rfl⟩
  obtain ⟨a, cap, rfl⟩ : ∃ a cap, v = .slice a n cap := by
    rcases h.row.2 with ⟨rfl, h0⟩ | ⟨g, cap, cur, rfl, _⟩
    · exact ⟨none, 0, by rw [← hl, h0]⟩
    · exact ⟨_, _, by rw [hl]⟩
  rw [hl]
  have HA := Lib.hid (offR_all rs)
  have HH := Lib.hid h
  have HL := Lib.hid hl
  have hnb : n ≤ 1048576 := by omega
  clear h hl
  go_enter Try.func66, Try.ntmps66
  go_wp2
  go_loopw [1, 5] (fun q i wr => ∃ j m : Nat, j ≤ n ∧ q = .int .i64 m ∧ i = .int .i64 j ∧ Hid (m = k + offR rs j) ∧ Hid (OwnM lo wr (.slice a n cap) (halfM k j rs)) ∧ Hid (Touched (FootM rs) w wr)) (fun _ i _ => n - (intOf i).toNat)
  case atStart => exact ⟨0, k, Nat.zero_le _, rfl, rfl, Lib.hid (by simp [offR, totM]), Lib.hid (by rw [halfM_zero]; exact HH.out), Lib.hid (Touched.refl _ _)⟩
  case round =>
    obtain ⟨j, m, hj, rfl, rfl, HM, HR, HB⟩ := hrel
    have hmb : m ≤ 12000000 := by have := HM.out; have := offR_le rs j; omega
    by_cases hlt : j < n
    · have hjr : j < rs.length := by rw [HL.out]; exact hlt
      obtain ⟨g, rfl, hg⟩ : ∃ g, a = some ⟨g, 0, none⟩ ∧ lo ≤ g := by
        rcases HR.out.row.2 with ⟨_, e1⟩ | ⟨g, cap1, cur, e0, hg, _⟩
        · rw [halfM_len, HL.out] at e1; omega
        · simp only [Value.slice.injEq] at e0; exact ⟨g, e0.1, hg⟩
      have hrow := HR.out.row
      have hget : ((halfM k j rs).map (·.u))[j]? = some rs[j].u := by
        rw [List.getElem?_map, List.getElem?_eq_getElem (by rw [halfM_len]; exact hjr), Option.map_some, halfM_u k j rs j hjr]
      have hcell := hrow.cells rfl j _ hget
      rw [show (⟨g, 0, none⟩ : Addr).add j = ⟨g, j, none⟩ by unfold Addr.add; split <;> simp_all] at hcell
      have hown := HR.out.each j (by rw [halfM_len]; exact hjr)
      rw [halfM_get k j rs j hjr, if_neg (Nat.lt_irrefl _)] at hown
      have hsucc := offR_succ rs j hjr
      have hle := offR_le rs (j + 1)
      have HTU := Lib.hid (fun w2 => HR.out.turn (w2 := w2) (r := markRv m rs[j]) (k := j) (by rw [halfM_len]; exact hjr))
      have HHS := Lib.hid (halfM_succ k j rs hjr)
      have HFJ : Hid (∀ b, FootR ((halfM k j rs)[j]'(by rw [halfM_len]; exact hjr)).u ((halfM k j rs)[j]'(by rw [halfM_len]; exact hjr)).xs b ↔ FootR rs[j].u rs[j].xs b) := Lib.hid (halfM_foot k j rs j hjr)
      have HUJ := Lib.hid (halfM_u k j rs j hjr)
      have htx : totX rs[j].xs ≤ 1048576 := by omega
      have HC := Lib.hid (markPolyS_any lo m rs[j].u rs[j].xs wr hown htx (by omega))
      have HSu := Lib.hid hsucc
      have HFM : Hid (∀ b, FootR rs[j].u rs[j].xs b → FootM rs b) := Lib.hid fun b hb => ⟨j, hjr, hb⟩
      have hmx : m + totX rs[j].xs ≤ 12000000 := by have := HM.out; omega
      obtain ⟨y, hy⟩ : ∃ y, totX rs[j].xs = y := ⟨_, rfl⟩
      obtain ⟨u, hu⟩ : ∃ u, rs[j].u = u := ⟨_, rfl⟩
      rw [hu] at hcell
      rw [hy] at hmx
      have HU := Lib.hid hu
      have HY := Lib.hid hy
      clear hrow hget hown hsucc hle htx hu hy
      go_wp2_with fail
      rw [← HU.out]
      refine HC.out.mono ?_
      rintro e w2 ⟨rfl, ho2, ht2⟩
      rw [HY.out]
      obtain ⟨m2, hm2⟩ : ∃ m2, m + y = m2 := ⟨_, rfl⟩
      rw [hm2] at hmx ⊢
      have HM2 := Lib.hid hm2
      have HO2 : Hid (OwnR lo w2 (markRv m rs[j]).u (markRv m rs[j]).xs) := Lib.hid ho2
      have HT2 := Lib.hid ht2
      clear ho2 ht2 hcell hm2
      go_wp2
      go_roundw
      case rel =>
        refine ⟨j + 1, m2, by omega, rfl, by go_num, Lib.hid (by rw [HSu.out, ← HM2.out, HM.out, HY.out]; omega), Lib.hid ?_, Lib.hid (HB.out.trans (HT2.out.mono HFM.out))⟩
        rw [HHS.out, ← HM.out]
        exact HTU.out w2 (HT2.out.mono fun b hb => (HFJ.out b).2 hb) HO2.out HUJ.out.symm fun b hb => (HFJ.out b).2 (FootR.half.1 hb)
      case measure => simp [intOf]; omega
    · obtain rfl : j = n := by omega
      have hm := HM.out
      have hx := HA.out
      rw [HL.out] at hx
      rw [hx] at hm
      have HM2 := Lib.hid hm
      clear hm hx
      go_wp2
      go_ret
      exact ⟨ret_int (by rw [HM2.out]), HR.out, HB.out⟩

set_option maxRecDepth 100000 in
set_option maxHeartbeats 2000000 in
theorem heldPolySS_any (lo k : Nat) (v : Value) (rs : List Rv) (w : World) (h : OwnM lo w v (halfM k rs.length rs)) (hn : rs.length + totM (rowsOf rs) ≤ 1048576) (hk : k ≤ 10000000) :
    Calls Try.prog 67 #[v, .int .i64 k] w fun e w' => e = .returned (.int .i64 ((k + totM (rowsOf rs) : Nat) : Int)) ∧ Below w.heap.size w w' := by
  obtain ⟨n, hl⟩ : ∃ n, rs.length = n := ⟨_, rfl⟩
  obtain ⟨a, cap, rfl⟩ : ∃ a cap, v = .slice a n cap := by
    rcases h.row.2 with ⟨rfl, h0⟩ | ⟨g, cap, cur, rfl, _⟩
    · rw [halfM_len] at h0; exact ⟨none, 0, by rw [← hl, h0]⟩
    · exact ⟨_, _, by rw [halfM_len, hl]⟩
  rw [hl] at h
  have HA := Lib.hid (offR_all rs)
  have HH := Lib.hid h
  have HL := Lib.hid hl
  have hnb : n ≤ 1048576 := by omega
  clear h hl
  go_enter Try.func67, Try.ntmps67
  go_wp2
  go_loopw [1, 5] (fun q i wr => ∃ j m : Nat, j ≤ n ∧ q = .int .i64 m ∧ i = .int .i64 j ∧ Hid (m = k + offR rs j) ∧ Below w.heap.size w wr) (fun _ i _ => n - (intOf i).toNat)
  case atStart => exact ⟨0, k, Nat.zero_le _, rfl, rfl, Lib.hid (by simp [offR, totM]), Below.refl _ _⟩
  case round =>
    obtain ⟨j, m, hj, rfl, rfl, HM, hB⟩ := hrel
    have hmb : m ≤ 12000000 := by have := HM.out; have := offR_le rs j; omega
    by_cases hlt : j < n
    · have hjr : j < rs.length := by rw [HL.out]; exact hlt
      obtain ⟨g, rfl, hg⟩ : ∃ g, a = some ⟨g, 0, none⟩ ∧ lo ≤ g := by
        rcases HH.out.row.2 with ⟨_, e1⟩ | ⟨g, cap1, cur, e0, hg, _⟩
        · rw [halfM_len, HL.out] at e1; omega
        · simp only [Value.slice.injEq] at e0; exact ⟨g, e0.1, hg⟩
      have hR := HH.out.below hB
      have hrow := hR.row
      have hget : ((halfM k n rs).map (·.u))[j]? = some rs[j].u := by
        rw [List.getElem?_map, List.getElem?_eq_getElem (by rw [halfM_len]; exact hjr), Option.map_some, halfM_u k n rs j hjr]
      have hcell := hrow.cells rfl j _ hget
      rw [show (⟨g, 0, none⟩ : Addr).add j = ⟨g, j, none⟩ by unfold Addr.add; split <;> simp_all] at hcell
      have hown := hR.each j (by rw [halfM_len]; exact hjr)
      rw [halfM_get k n rs j hjr, if_pos hlt, ← HM.out] at hown
      have hsucc := offR_succ rs j hjr
      have hle := offR_le rs (j + 1)
      have htx : totX rs[j].xs ≤ 1048576 := by omega
      have HC := Lib.hid (heldPolyS_any lo m rs[j].u rs[j].xs wr hown htx (by omega))
      have HSu := Lib.hid hsucc
      have hmx : m + totX rs[j].xs ≤ 12000000 := by have := HM.out; omega
      obtain ⟨y, hy⟩ : ∃ y, totX rs[j].xs = y := ⟨_, rfl⟩
      obtain ⟨u, hu⟩ : ∃ u, rs[j].u = u := ⟨_, rfl⟩
      rw [hu] at hcell
      rw [hy] at hmx
      have HU := Lib.hid hu
      have HY := Lib.hid hy
      clear hrow hget hown hsucc hle htx hu hy hR
      go_wp2_with fail
      rw [← HU.out]
      refine HC.out.mono ?_
      rintro e w2 ⟨rfl, hb2⟩
      rw [HY.out]
      have hnn : ¬ ((m + y : Nat) : Int) < 0 := by omega
      obtain ⟨m2, hm2⟩ : ∃ m2, m + y = m2 := ⟨_, rfl⟩
      rw [hm2] at hmx hnn ⊢
      have hdn : decide ((m2 : Int) < 0) = false := decide_eq_false hnn
      have HM2 := Lib.hid hm2
      clear hm2 hcell
      go_wp2
      go_roundw
      case rel => exact ⟨j + 1, m2, by omega, rfl, by go_num, Lib.hid (by rw [HSu.out, ← HM2.out, HM.out, HY.out]; omega), hB.trans (hb2.mono hB.size)⟩
      case measure => simp [intOf]; omega
    · obtain rfl : j = n := by omega
      have hm := HM.out
      have hx := HA.out
      rw [HL.out] at hx
      rw [hx] at hm
      have HM2 := Lib.hid hm
      clear hm hx
      go_wp2
      go_ret
      exact ⟨ret_int (by rw [HM2.out]), hB⟩

end Go.Proofs.Ytakfobihakbefaa

/- Lists of lists of polynomials that came in, opened. -/

namespace Go.Proofs.Ytakfobihakbefaa
open Go.RowKit Go.ChangeShapes Go.WideShapes

instance : Inhabited Pl := ⟨⟨0, []⟩⟩
theorem intsle_of {H : Type} {enc : TypeId × Value → H} {W : World} {base : Nat} {spare : Nat → Bool} {held : Bool} {fuel : Nat} {a : Option Addr} {len cap : Nat} {x : DataW H × List MemPlace}
    (h : DataW.trod enc Try.prog W base spare held fuel 23 [.slice a len cap] = some x) : ∃ zs, Ints W a len zs ∧ len ≤ cap := by
  obtain ⟨zs, hz⟩ := ints_of h
  refine ⟨zs, hz, ?_⟩
  rcases Go.ChangeShapes.open_ints Try.underlying23 Try.underlying3 (by kernel_rfl) h with ⟨hcs, _⟩ | ⟨y, l, c, zs, hcs, hb, hl, hm, hz, _, hx, hwf⟩
  · simp at hcs
    omega
  · simp at hcs
    obtain ⟨rfl, rfl, rfl⟩ := hcs
    exact hl
theorem isPS_of {H : Type} {enc : TypeId × Value → H} {W : World} {base : Nat} {spare : Nat → Bool} {held : Bool} {fuel : Nat} {a : Option Addr} {len cap : Nat} {x : DataW H × List MemPlace}
    (h : DataW.trod enc Try.prog W base spare held fuel 108 [.slice a len cap] = some x) : ∃ ps, IsPS W a len ps := by
  rcases Go.Deep.open_slice_pairs Try.underlying108 Try.underlying50 (by kernel_rfl) rfl rfl (by kernel_rfl) (by kernel_rfl) h with ⟨hcs, _⟩ | ⟨y, l, c, m, n, V0, V1, D0, D1, P0, P1, hcs, hb, hl, hm, hmm, _, hx⟩
  · simp at hcs
    obtain ⟨rfl, rfl, rfl⟩ := hcs
    exact ⟨[], IsPS.none _ _⟩
  · simp at hcs
    obtain ⟨rfl, rfl, rfl⟩ := hcs
    have hlm : len ≤ m := by rw [hmm]; split <;> omega
    have each : ∀ i, i < len → ∃ t : Pl × (Option Addr × Nat), W.cell? (y.add (i * 2)) = some (.int .i64 t.1.low) ∧ W.cell? (y.add (i * 2 + 1)) = some (.slice t.2.1 t.1.cs.length t.2.2) ∧ Ints W t.2.1 t.1.cs.length t.1.cs ∧ t.1.cs.length ≤ t.2.2 ∧ (-9223372036854775808 ≤ t.1.low ∧ t.1.low ≤ 9223372036854775807) := fun i hi => by
      obtain ⟨h0, h1, h2, h3⟩ := hx i (by omega)
      obtain ⟨k, hk, _, hwf⟩ := DataW.trod_int Try.underlying3 h2
      obtain ⟨ar, lr, cr, hV⟩ : ∃ ar lr cr, V1 i = .slice ar lr cr := by
        rcases Go.ChangeShapes.open_ints Try.underlying23 Try.underlying3 (by kernel_rfl) h3 with ⟨hcs, _⟩ | ⟨y, l, c, zs, hcs, _⟩
        · exact ⟨none, 0, 0, by simpa using hcs⟩
        · exact ⟨some y, l, c, by simpa using hcs⟩
      rw [hV] at h1 h3
      obtain ⟨zs, hz, hle⟩ := intsle_of h3
      have hzl := hz.len
      subst hzl
      simp at hk
      simp only [Lit.wf, Bool.and_eq_true, decide_eq_true_eq] at hwf
      exact ⟨(⟨k, zs⟩, (ar, cr)), by rw [h0, hk], h1, hz, hle, hwf.1, hwf.2⟩
    obtain ⟨q, hq⟩ := Go.Deep.choose_lt each
    refine ⟨(List.range len).map fun i => (q i).1, by simp, by omega, fun h0 => ⟨y, rfl, ?_, fun i hi => ?_⟩, fun t ht => ?_⟩
    · have h := World.block_lt_of_cell? _ _ (hq 0 h0).1
      rw [addr_add_block] at h
      exact h
    · simp only [List.length_map, List.length_range] at hi
      simp only [List.getElem_map, List.getElem_range]
      exact ⟨_, _, (hq i hi).1, (hq i hi).2.1, (hq i hi).2.2.1, (hq i hi).2.2.2.1⟩
    · obtain ⟨i, hi, rfl⟩ := List.mem_map.1 ht
      exact (hq i (List.mem_range.1 hi)).2.2.2.2
theorem isPSS_of {H : Type} {enc : TypeId × Value → H} {W : World} {base : Nat} {spare : Nat → Bool} {held : Bool} {fuel : Nat} {a : Option Addr} {len cap : Nat} {x : DataW H × List MemPlace}
    (h : DataW.trod enc Try.prog W base spare held fuel 56 [.slice a len cap] = some x) : ∃ rows, IsPSS W a len rows := by
  rcases Go.Deep.open_slice1 Try.underlying56 (by kernel_rfl) h with ⟨hcs, _⟩ | ⟨y, l, c, m, n, V, D, P, hcs, hb, hl, hm, hmm, _, hx⟩
  · simp at hcs
    obtain ⟨rfl, rfl, rfl⟩ := hcs
    exact ⟨[], IsPSS.none _ _⟩
  · simp at hcs
    obtain ⟨rfl, rfl, rfl⟩ := hcs
    have hlm : len ≤ m := by rw [hmm]; split <;> omega
    have each : ∀ i, i < len → ∃ q : (Option Addr × Nat) × List Pl, W.cell? (y.add i) = some (.slice q.1.1 q.2.length q.1.2) ∧ IsPS W q.1.1 q.2.length q.2 := fun i hi => by
      obtain ⟨h0, h1⟩ := hx i (by omega)
      obtain ⟨ar, lr, cr, hV⟩ : ∃ ar lr cr, V i = .slice ar lr cr := by
        rcases Go.Deep.open_slice Try.underlying108 h1 with ⟨hcs, _⟩ | ⟨ar, lr, cr, _, _, _, _, hcs, _⟩
        · exact ⟨none, 0, 0, by simpa using hcs⟩
        · exact ⟨some ar, lr, cr, by simpa using hcs⟩
      rw [hV] at h0 h1
      obtain ⟨ts, hts⟩ := isPS_of h1
      have hl := hts.len
      subst hl
      exact ⟨((ar, cr), ts), h0, hts⟩
    obtain ⟨q, hq⟩ := Go.Deep.choose_lt each
    refine ⟨(List.range len).map fun i => (q i).2, by simp, by omega, fun h0 => ⟨y, rfl, ?_, fun i hi => ?_⟩⟩
    · have := World.block_lt_of_cell? _ _ (hq 0 h0).1
      rw [addr_add_block] at this
      exact this
    · simp only [List.length_map, List.length_range] at hi
      simp only [List.getElem_map, List.getElem_range]
      exact ⟨_, _, (hq i hi).1, (hq i hi).2⟩

end Go.Proofs.Ytakfobihakbefaa

/- The program's matrices: arrays of pointers; as many rows, as many columns. -/

namespace Go.Proofs.Ytakfobihakbefaa
open Go.RowKit

abbrev MA : TypeId := 82
abbrev RA : TypeId := 80
/-- The cells of a matrix: row by row. -/
def mC (g : Nat → Option Addr) : Array Value := #[.pointer (g 0), .pointer (g 1), .pointer (g 2), .pointer (g 3), .pointer (g 4), .pointer (g 5), .pointer (g 6), .pointer (g 7), .pointer (g 8), .pointer (g 9), .pointer (g 10), .pointer (g 11), .pointer (g 12), .pointer (g 13), .pointer (g 14), .pointer (g 15)]
/-- It has n rows and m columns. -/
structure ShapeM (g : Nat → Option Addr) (n m : Nat) : Prop where
  n4 : n ≤ 4
  m4 : m ≤ 4
  both : n = 0 ↔ m = 0
  yes : ∀ i k, i < n → k < m → ∃ p, g (i * 4 + k) = some p
  no : ∀ i k, i < 4 → k < 4 → (n ≤ i ∨ m ≤ k) → g (i * 4 + k) = none

/-! ### Arrays compared with the empty one -/
theorem arr_eq (d n : Nat) (w : World) {t e : TypeId} {P : Program} (hu : P.underlying t = some (.array n e)) {sz : Nat} (hs : ∀ w, (sizeOf e).run P w = .ok sz w) (xs ys : Array Value) (f : Nat → Value) (z : Nat → Value) (r : Nat → Bool)
    (hx : ∀ i w, i < n → (part e xs (i * sz)).run P w = .ok (f i) w) (hy : ∀ i w, i < n → (part e ys (i * sz)).run P w = .ok (z i) w) (hr : ∀ i w, i < n → (Op.equalIn d e (f i) (z i)).run P w = .ok (r i) w) :
    (Op.equalIn (d + 1) t (.agg xs) (.agg ys)).run P w = .ok ((List.range n).all r) w := by
  simp only [Op.equalIn, Sem.run_bind, run_underlying hu, Result.andThen_ok, hs]
  rw [Std.Legacy.Range.forIn_eq_forIn_range']
  simp only [Std.Legacy.Range.size, Nat.sub_zero, Nat.add_sub_cancel, Nat.div_one]
  have key : ∀ (l : List Nat) (w : World), (∀ i ∈ l, i < n) → Sem.run P (forIn l ((none : Option Bool), ()) fun i _ => do
            let a ← part e xs (i * sz)
            let b ← part e ys (i * sz)
            let c ← Op.equalIn d e a b
            if (!c) = true then pure (ForInStep.done (some false, ())) else pure (ForInStep.yield (none, ()))) w = .ok (if l.all r then (none, ()) else (some false, ())) w := by
    intro l
    induction l with
    | nil => intro w _; rfl
    | cons i l ih =>
      intro w h
      have hi := h i (List.mem_cons_self)
      simp only [List.forIn_cons, Sem.run_bind, hx i _ hi, hy i _ hi, hr i _ hi, Result.andThen_ok, List.all_cons]
      have hb : r i = false ∨ r i = true := by cases r i <;> simp
      rcases hb with e | e
      · simp [e]
      · simp only [e, Bool.not_true, Bool.false_eq_true, if_false, Sem.run_pure, Result.andThen_ok, Bool.true_and]
        exact ih w fun j hj => h j (List.mem_cons_of_mem _ hj)
  rw [key _ w (fun i hi => by rw [List.mem_range'_1] at hi; omega)]
  simp only [Result.andThen_ok, List.range_eq_range']
  cases (List.range' 0 n).all r <;> rfl

/-- A row of pointers against the empty one; a matrix against the empty one. -/
theorem row_eq (d : Nat) (w : World) (p0 p1 p2 p3 : Option Addr) :
    (Op.equalIn (d + 2) RA (.agg #[.pointer p0, .pointer p1, .pointer p2, .pointer p3]) (.agg #[.pointer none, .pointer none, .pointer none, .pointer none])).run Try.prog w = .ok (p0.isNone && (p1.isNone && (p2.isNone && p3.isNone))) w := by
  have hu : Try.prog.underlying RA = some (.array 4 78) := by kernel_rfl
  have hp : Try.prog.underlying 78 = some (.pointer (Try.prog.pointee 78)) := by kernel_rfl
  have hz : ∀ w, (sizeOf 78).run Try.prog w = .ok 1 w := fun w => by kernel_rfl
  have ha : ∀ w, (isAgg 78).run Try.prog w = .ok false w := fun w => by kernel_rfl
  have h4 : ∀ i, i < 4 → i = 0 ∨ i = 1 ∨ i = 2 ∨ i = 3 := fun i h => by omega
  rw [arr_eq (d + 1) 4 w hu hz _ _ (fun i => .pointer (if i = 0 then p0 else if i = 1 then p1 else if i = 2 then p2 else p3)) (fun _ => .pointer none) (fun i => (if i = 0 then p0 else if i = 1 then p1 else if i = 2 then p2 else p3).isNone)
    (fun i w h => by rcases h4 i h with rfl | rfl | rfl | rfl <;> simp [part, ha])
    (fun i w h => by rcases h4 i h with rfl | rfl | rfl | rfl <;> simp [part, ha])
    (fun i w _ => run_equalIn_pointer_nil w d _ _ hp)]
  simp [List.range_succ]
theorem mat_eq (d : Nat) (w : World) (g : Nat → Option Addr) :
    (Op.equalIn (d + 3) MA (.agg (mC g)) (.agg (mC fun _ => none))).run Try.prog w = .ok ((List.range 16).all fun i => (g i).isNone) w := by
  have hu : Try.prog.underlying MA = some (.array 4 RA) := by kernel_rfl
  have hz : ∀ w, (sizeOf RA).run Try.prog w = .ok 4 w := fun w => by kernel_rfl
  have ha : ∀ w, (isAgg RA).run Try.prog w = .ok true w := fun w => by kernel_rfl
  have h4 : ∀ i, i < 4 → i = 0 ∨ i = 1 ∨ i = 2 ∨ i = 3 := fun i h => by omega
  rw [arr_eq (d + 2) 4 w hu hz _ _ (fun i => .agg #[.pointer (g (i * 4)), .pointer (g (i * 4 + 1)), .pointer (g (i * 4 + 2)), .pointer (g (i * 4 + 3))]) (fun _ => .agg #[.pointer none, .pointer none, .pointer none, .pointer none]) (fun i => (g (i * 4)).isNone && ((g (i * 4 + 1)).isNone && ((g (i * 4 + 2)).isNone && (g (i * 4 + 3)).isNone)))
    (fun i w h => by rcases h4 i h with rfl | rfl | rfl | rfl <;> simp [part, ha, hz, mC])
    (fun i w h => by rcases h4 i h with rfl | rfl | rfl | rfl <;> simp [part, ha, hz, mC])
    (fun i w _ => row_eq d w _ _ _ _)]
  simp [List.range_succ, Bool.and_assoc]

set_option maxRecDepth 100000 in
set_option maxHeartbeats 2000000 in
theorem rows_any (g : Nat → Option Addr) (n m : Nat) (hs : ShapeM g n m) (w : World) :
    Calls Try.prog 89 #[.agg (mC g)] w fun e w' => e = .returned (.int .i64 n) ∧ Below w.heap.size w w' := by
  have HS := Lib.hid hs
  have hn4 := hs.n4
  have heq : ∀ (w : World) (p0 p1 p2 p3 : Option Addr), (Op.equalIn 10000 80 (.agg #[.pointer p0, .pointer p1, .pointer p2, .pointer p3]) (.agg #[.pointer none, .pointer none, .pointer none, .pointer none])).run Try.prog w = .ok (p0.isNone && (p1.isNone && (p2.isNone && p3.isNone))) w := fun w => row_eq 9998 w
  clear hs
  unfold mC
  go_enter Try.func89, Try.ntmps89
  go_wp2
  go_loop [3] (fun i => ∃ k : Nat, k ≤ n ∧ i = .int .i64 k) (fun i => n - (intOf i).toNat)
  case atStart => exact ⟨0, Nat.zero_le _, rfl⟩
  case round =>
    obtain ⟨k, hk, rfl⟩ := hrel
    by_cases hlt : k < n
    · have hm0 : 0 < m := by have := HS.out.both; omega
      have hk4 : k = 0 ∨ k = 1 ∨ k = 2 ∨ k = 3 := by omega
      rcases hk4 with rfl | rfl | rfl | rfl
      · obtain ⟨p, hp⟩ := HS.out.yes 0 0 hlt hm0
        go_wp2
        go_round
        case rel => exact ⟨1, by omega, by go_num⟩
        case measure => simp [intOf]; omega
      · obtain ⟨p, hp⟩ := HS.out.yes 1 0 hlt hm0
        go_wp2
        go_round
        case rel => exact ⟨2, by omega, by go_num⟩
        case measure => simp [intOf]; omega
      · obtain ⟨p, hp⟩ := HS.out.yes 2 0 hlt hm0
        go_wp2
        go_round
        case rel => exact ⟨3, by omega, by go_num⟩
        case measure => simp [intOf]; omega
      · obtain ⟨p, hp⟩ := HS.out.yes 3 0 hlt hm0
        go_wp2
        go_round
        case rel => exact ⟨4, by omega, by go_num⟩
        case measure => simp [intOf]; omega
    · obtain rfl : k = n := by omega
      have hk4 : k = 0 ∨ k = 1 ∨ k = 2 ∨ k = 3 ∨ k = 4 := by omega
      rcases hk4 with rfl | rfl | rfl | rfl | rfl
      · have q0 : g 0 = none := HS.out.no 0 0 (by omega) (by omega) (.inl (by omega))
        have q1 : g 1 = none := HS.out.no 0 1 (by omega) (by omega) (.inl (by omega))
        have q2 : g 2 = none := HS.out.no 0 2 (by omega) (by omega) (.inl (by omega))
        have q3 : g 3 = none := HS.out.no 0 3 (by omega) (by omega) (.inl (by omega))
        go_wp2
        go_ret
        exact ⟨rfl, (Below.refl _ w).alloc (Nat.le_refl _) _⟩
      · have q0 : g 4 = none := HS.out.no 1 0 (by omega) (by omega) (.inl (by omega))
        have q1 : g 5 = none := HS.out.no 1 1 (by omega) (by omega) (.inl (by omega))
        have q2 : g 6 = none := HS.out.no 1 2 (by omega) (by omega) (.inl (by omega))
        have q3 : g 7 = none := HS.out.no 1 3 (by omega) (by omega) (.inl (by omega))
        go_wp2
        go_ret
        exact ⟨rfl, (Below.refl _ w).alloc (Nat.le_refl _) _⟩
      · have q0 : g 8 = none := HS.out.no 2 0 (by omega) (by omega) (.inl (by omega))
        have q1 : g 9 = none := HS.out.no 2 1 (by omega) (by omega) (.inl (by omega))
        have q2 : g 10 = none := HS.out.no 2 2 (by omega) (by omega) (.inl (by omega))
        have q3 : g 11 = none := HS.out.no 2 3 (by omega) (by omega) (.inl (by omega))
        go_wp2
        go_ret
        exact ⟨rfl, (Below.refl _ w).alloc (Nat.le_refl _) _⟩
      · have q0 : g 12 = none := HS.out.no 3 0 (by omega) (by omega) (.inl (by omega))
        have q1 : g 13 = none := HS.out.no 3 1 (by omega) (by omega) (.inl (by omega))
        have q2 : g 14 = none := HS.out.no 3 2 (by omega) (by omega) (.inl (by omega))
        have q3 : g 15 = none := HS.out.no 3 3 (by omega) (by omega) (.inl (by omega))
        go_wp2
        go_ret
        exact ⟨rfl, (Below.refl _ w).alloc (Nat.le_refl _) _⟩
      · go_wp2
        go_ret
        exact ⟨rfl, (Below.refl _ w).alloc (Nat.le_refl _) _⟩

end Go.Proofs.Ytakfobihakbefaa

/- The program's matrices: flipped. -/

namespace Go.Proofs.Ytakfobihakbefaa
open Go.RowKit

/-- The cells of a block that holds a matrix. -/
theorem cells16 {w : World} {B : Nat} {g : Nat → Option Addr} (h : w.heap[B]? = some (.cells (mC g) MA (0, 0))) : w.cell? ⟨B, 0, none⟩ = some (.pointer (g 0)) ∧ w.cell? ⟨B, 1, none⟩ = some (.pointer (g 1)) ∧ w.cell? ⟨B, 2, none⟩ = some (.pointer (g 2)) ∧ w.cell? ⟨B, 3, none⟩ = some (.pointer (g 3)) ∧ w.cell? ⟨B, 4, none⟩ = some (.pointer (g 4)) ∧ w.cell? ⟨B, 5, none⟩ = some (.pointer (g 5)) ∧ w.cell? ⟨B, 6, none⟩ = some (.pointer (g 6)) ∧ w.cell? ⟨B, 7, none⟩ = some (.pointer (g 7)) ∧ w.cell? ⟨B, 8, none⟩ = some (.pointer (g 8)) ∧ w.cell? ⟨B, 9, none⟩ = some (.pointer (g 9)) ∧ w.cell? ⟨B, 10, none⟩ = some (.pointer (g 10)) ∧ w.cell? ⟨B, 11, none⟩ = some (.pointer (g 11)) ∧ w.cell? ⟨B, 12, none⟩ = some (.pointer (g 12)) ∧ w.cell? ⟨B, 13, none⟩ = some (.pointer (g 13)) ∧ w.cell? ⟨B, 14, none⟩ = some (.pointer (g 14)) ∧ w.cell? ⟨B, 15, none⟩ = some (.pointer (g 15)) ∧ ∀ j, w.frozen? ⟨B, j, none⟩ = false := by
  refine ⟨?_, ?_, ?_, ?_, ?_, ?_, ?_, ?_, ?_, ?_, ?_, ?_, ?_, ?_, ?_, ?_, fun j => ?_⟩ <;> simp [World.cell?, World.frozen?, h, mC]
def flipG (g : Nat → Option Addr) (j : Nat) : Option Addr := g (j % 4 * 4 + j / 4)
/-- The first i columns are filled in, and k places of the next one. -/
def partG (g : Nat → Option Addr) (i k j : Nat) : Option Addr := if j % 4 < i ∨ (j % 4 = i ∧ j / 4 < k) then g (j % 4 * 4 + j / 4) else none
structure FlipAt (w : World) (g : Nat → Option Addr) (i k : Nat) (wr : World) : Prop where
  below : Below w.heap.size w wr
  size : w.heap.size + 3 ≤ wr.heap.size
  res : wr.heap[w.heap.size + 1]? = some (.cells (mC fun _ => none) MA (0, 0))
  fill : wr.heap[w.heap.size + 1 + 1]? = some (.cells (mC (partG g i k)) MA (0, 0))
theorem FlipAt.alloc {w wr : World} {g : Nat → Option Addr} {i k : Nat} (h : FlipAt w g i k wr) (o : Obj) : FlipAt w g i k (wr.alloc o) := by
  have hs := h.size
  exact ⟨h.below.alloc (by omega) o, by simp; omega, (Below.heap_alloc _ _ _ (by omega)).trans h.res, (Below.heap_alloc _ _ _ (by omega)).trans h.fill⟩
theorem FlipAt.next {w wr : World} {g : Nat → Option Addr} {i k : Nat} (h : FlipAt w g i k wr) (hi : i < 4) (hk : k < 4) {p : Option Addr} (hp : g (i * 4 + k) = p) : FlipAt w g i (k + 1) (wr.setCell ⟨w.heap.size + 1 + 1, k * 4 + i, none⟩ (.pointer p)) := by
  have hs := h.size
  refine ⟨h.below.setCell (p := ⟨w.heap.size + 1 + 1, k * 4 + i, none⟩) (by show w.heap.size ≤ w.heap.size + 1 + 1; omega) _, by simp; omega, (heap_off wr _ _ (by show w.heap.size + 1 ≠ w.heap.size + 1 + 1; omega)).trans h.res, ?_⟩
  rw [heap_setCell_same wr (w.heap.size + 1 + 1) (k * 4 + i) _ _ _ h.fill]
  have e : (mC (partG g i k)).setIfInBounds (k * 4 + i) (.pointer p) = mC (partG g i (k + 1)) := by
    subst hp
    have h4 : i = 0 ∨ i = 1 ∨ i = 2 ∨ i = 3 := by omega
    have h5 : k = 0 ∨ k = 1 ∨ k = 2 ∨ k = 3 := by omega
    rcases h4 with rfl | rfl | rfl | rfl <;> rcases h5 with rfl | rfl | rfl | rfl <;> simp [mC, partG]
  rw [e]
theorem FlipAt.row {w wr : World} {g : Nat → Option Addr} {i : Nat} (h : FlipAt w g i 4 wr) (hi : i < 4) : FlipAt w g (i + 1) 0 wr := by
  refine ⟨h.below, h.size, h.res, ?_⟩
  have e : mC (partG g i 4) = mC (partG g (i + 1) 0) := by
    have h4 : i = 0 ∨ i = 1 ∨ i = 2 ∨ i = 3 := by omega
    rcases h4 with rfl | rfl | rfl | rfl <;> simp [mC, partG]
  rw [← e]
  exact h.fill
theorem FlipAt.start (w : World) (g : Nat → Option Addr) : FlipAt w g 0 0 (((w.alloc (.cells (mC g) MA)).alloc (.cells (mC fun _ => none) MA)).alloc (.cells (mC fun _ => none) MA)) := by
  refine ⟨(((Below.refl _ w).alloc (Nat.le_refl _) _).alloc (by simp) _).alloc (by simp; omega) _, by simp, ?_, ?_⟩
  · rw [Below.heap_alloc _ _ _ (by simp)]
    have h := World.alloc_heap_new (w.alloc (.cells (mC g) MA)) (.cells (mC fun _ => none) MA)
    rwa [World.size_alloc] at h
  · have h := World.alloc_heap_new ((w.alloc (.cells (mC g) MA)).alloc (.cells (mC fun _ => none) MA)) (.cells (mC fun _ => none) MA)
    rw [World.size_alloc, World.size_alloc] at h
    rw [h]
    have e : mC (partG g 0 0) = mC fun _ => none := by simp [mC, partG]
    rw [e]

/-- A matrix is stored whole. -/
def put16 (w : World) (B : Nat) (g : Nat → Option Addr) : World := ((((((((((((((((w.setCell ⟨B, 0, none⟩ (.pointer (g 0))).setCell ⟨B, 1, none⟩ (.pointer (g 1))).setCell ⟨B, 2, none⟩ (.pointer (g 2))).setCell ⟨B, 3, none⟩ (.pointer (g 3))).setCell ⟨B, 4, none⟩ (.pointer (g 4))).setCell ⟨B, 5, none⟩ (.pointer (g 5))).setCell ⟨B, 6, none⟩ (.pointer (g 6))).setCell ⟨B, 7, none⟩ (.pointer (g 7))).setCell ⟨B, 8, none⟩ (.pointer (g 8))).setCell ⟨B, 9, none⟩ (.pointer (g 9))).setCell ⟨B, 10, none⟩ (.pointer (g 10))).setCell ⟨B, 11, none⟩ (.pointer (g 11))).setCell ⟨B, 12, none⟩ (.pointer (g 12))).setCell ⟨B, 13, none⟩ (.pointer (g 13))).setCell ⟨B, 14, none⟩ (.pointer (g 14))).setCell ⟨B, 15, none⟩ (.pointer (g 15)))
theorem put16_heap {w : World} {B : Nat} {k : Nat → Option Addr} (h : w.heap[B]? = some (.cells (mC k) MA (0, 0))) (g : Nat → Option Addr) : (put16 w B g).heap[B]? = some (.cells (mC g) MA (0, 0)) := by
  unfold put16
  rw [heap_setCell_same _ B 15 _ _ _ (heap_setCell_same _ B 14 _ _ _ (heap_setCell_same _ B 13 _ _ _ (heap_setCell_same _ B 12 _ _ _ (heap_setCell_same _ B 11 _ _ _ (heap_setCell_same _ B 10 _ _ _ (heap_setCell_same _ B 9 _ _ _ (heap_setCell_same _ B 8 _ _ _ (heap_setCell_same _ B 7 _ _ _ (heap_setCell_same _ B 6 _ _ _ (heap_setCell_same _ B 5 _ _ _ (heap_setCell_same _ B 4 _ _ _ (heap_setCell_same _ B 3 _ _ _ (heap_setCell_same _ B 2 _ _ _ (heap_setCell_same _ B 1 _ _ _ (heap_setCell_same _ B 0 _ _ _ h)))))))))))))))]
  simp [mC]
theorem put16_off (w : World) {B b : Nat} (hb : b ≠ B) (g : Nat → Option Addr) : (put16 w B g).heap[b]? = w.heap[b]? := by
  unfold put16
  repeat rw [heap_off _ _ _ hb]
theorem put16_below {w w0 : World} {lo B : Nat} (h : Below lo w0 w) (hB : lo ≤ B) (g : Nat → Option Addr) : Below lo w0 (put16 w B g) :=
  ((((((((((((((((h.setCell (p := ⟨B, 0, none⟩) hB _).setCell (p := ⟨B, 1, none⟩) hB _).setCell (p := ⟨B, 2, none⟩) hB _).setCell (p := ⟨B, 3, none⟩) hB _).setCell (p := ⟨B, 4, none⟩) hB _).setCell (p := ⟨B, 5, none⟩) hB _).setCell (p := ⟨B, 6, none⟩) hB _).setCell (p := ⟨B, 7, none⟩) hB _).setCell (p := ⟨B, 8, none⟩) hB _).setCell (p := ⟨B, 9, none⟩) hB _).setCell (p := ⟨B, 10, none⟩) hB _).setCell (p := ⟨B, 11, none⟩) hB _).setCell (p := ⟨B, 12, none⟩) hB _).setCell (p := ⟨B, 13, none⟩) hB _).setCell (p := ⟨B, 14, none⟩) hB _).setCell (p := ⟨B, 15, none⟩) hB _)
theorem put16_size (w : World) (B : Nat) (g : Nat → Option Addr) : (put16 w B g).heap.size = w.heap.size := by simp [put16]
/-- A row of a matrix; a place of a row. -/
theorem idxM (g : Nat → Option Addr) :
    (∀ w, (Instr.index MA (.agg (mC g)) (.int .i64 0)).run Try.prog w = .ok (.agg #[.pointer (g 0), .pointer (g 1), .pointer (g 2), .pointer (g 3)]) w) ∧
    (∀ w, (Instr.index MA (.agg (mC g)) (.int .i64 1)).run Try.prog w = .ok (.agg #[.pointer (g 4), .pointer (g 5), .pointer (g 6), .pointer (g 7)]) w) ∧
    (∀ w, (Instr.index MA (.agg (mC g)) (.int .i64 2)).run Try.prog w = .ok (.agg #[.pointer (g 8), .pointer (g 9), .pointer (g 10), .pointer (g 11)]) w) ∧
    (∀ w, (Instr.index MA (.agg (mC g)) (.int .i64 3)).run Try.prog w = .ok (.agg #[.pointer (g 12), .pointer (g 13), .pointer (g 14), .pointer (g 15)]) w) := by
  have hu : Try.prog.underlying MA = some (.array 4 RA) := by kernel_rfl
  have hz : ∀ w, (sizeOf RA).run Try.prog w = .ok 4 w := fun w => by kernel_rfl
  have ha : ∀ w, (isAgg RA).run Try.prog w = .ok true w := fun w => by kernel_rfl
  refine ⟨fun w => ?_, fun w => ?_, fun w => ?_, fun w => ?_⟩ <;> simp [Instr.index, asIntOf, run_underlying hu, part, ha, hz, mC]
theorem idxR (p0 p1 p2 p3 : Option Addr) :
    (∀ w, (Instr.index RA (.agg #[.pointer p0, .pointer p1, .pointer p2, .pointer p3]) (.int .i64 0)).run Try.prog w = .ok (.pointer p0) w) ∧
    (∀ w, (Instr.index RA (.agg #[.pointer p0, .pointer p1, .pointer p2, .pointer p3]) (.int .i64 1)).run Try.prog w = .ok (.pointer p1) w) ∧
    (∀ w, (Instr.index RA (.agg #[.pointer p0, .pointer p1, .pointer p2, .pointer p3]) (.int .i64 2)).run Try.prog w = .ok (.pointer p2) w) ∧
    (∀ w, (Instr.index RA (.agg #[.pointer p0, .pointer p1, .pointer p2, .pointer p3]) (.int .i64 3)).run Try.prog w = .ok (.pointer p3) w) := by
  have hu : Try.prog.underlying RA = some (.array 4 78) := by kernel_rfl
  have hz : ∀ w, (sizeOf 78).run Try.prog w = .ok 1 w := fun w => by kernel_rfl
  have ha : ∀ w, (isAgg 78).run Try.prog w = .ok false w := fun w => by kernel_rfl
  refine ⟨fun w => ?_, fun w => ?_, fun w => ?_, fun w => ?_⟩ <;> simp [Instr.index, asIntOf, run_underlying hu, part, ha, hz]

set_option maxRecDepth 100000 in
set_option maxHeartbeats 4000000 in
theorem flipped_any (g : Nat → Option Addr) (w : World) :
    Calls Try.prog 98 #[.agg (mC g)] w fun e w' => e = .returned (.agg (mC (flipG g))) ∧ Below w.heap.size w w' := by
  have HST := Lib.hid (FlipAt.start w g)
  obtain ⟨i0, i1, i2, i3⟩ := idxM g
  obtain ⟨r0, r1, r2, r3⟩ := idxR (g 0) (g 1) (g 2) (g 3)
  obtain ⟨r4, r5, r6, r7⟩ := idxR (g 4) (g 5) (g 6) (g 7)
  obtain ⟨r8, r9, r10, r11⟩ := idxR (g 8) (g 9) (g 10) (g 11)
  obtain ⟨r12, r13, r14, r15⟩ := idxR (g 12) (g 13) (g 14) (g 15)
  unfold mC at i0 i1 i2 i3
  unfold mC at HST
  unfold mC
  go_enter Try.func98, Try.ntmps98
  go_wp2
  go_loopw [9] (fun i wr => ∃ k : Nat, k ≤ 4 ∧ i = .int .i64 k ∧ Hid (FlipAt w g k 0 wr)) (fun i _ => 4 - (intOf i).toNat)
  case atStart => exact ⟨0, by omega, rfl, HST⟩
  case round =>
    obtain ⟨i, hi, rfl, HF⟩ := hrel
    by_cases hlt : i < 4
    · have h4 : i = 0 ∨ i = 1 ∨ i = 2 ∨ i = 3 := by omega
      rcases h4 with rfl | rfl | rfl | rfl
      · go_wp2
        go_loopw [14] (fun x wr => ∃ k : Nat, k ≤ 4 ∧ x = .int .i64 k ∧ Hid (FlipAt w g 0 k wr)) (fun x _ => 4 - (intOf x).toNat)
        case atStart => exact ⟨0, by omega, rfl, Lib.hid (HF.out.alloc _)⟩
        case round =>
          obtain ⟨k, hk, rfl, HI⟩ := hrel
          by_cases hkt : k < 4
          · have h5 : k = 0 ∨ k = 1 ∨ k = 2 ∨ k = 3 := by omega
            rcases h5 with rfl | rfl | rfl | rfl
            · have hq : wr.cell? ⟨w.heap.size + 1 + 1, 0, none⟩ = some (.pointer (partG g 0 0 0)) := by obtain ⟨h, _⟩ := cells16 HI.out.fill; exact h
              have hf : wr.frozen? ⟨w.heap.size + 1 + 1, 0, none⟩ = false := (cells16 HI.out.fill).2.2.2.2.2.2.2.2.2.2.2.2.2.2.2.2 0
              go_wp2
              go_roundw
              case rel => exact ⟨1, by omega, by go_num, Lib.hid (HI.out.next (by omega) (by omega) rfl)⟩
              case measure => simp [intOf]
            · have hq : wr.cell? ⟨w.heap.size + 1 + 1, 4, none⟩ = some (.pointer (partG g 0 1 4)) := by obtain ⟨_, _, _, _, h, _⟩ := cells16 HI.out.fill; exact h
              have hf : wr.frozen? ⟨w.heap.size + 1 + 1, 4, none⟩ = false := (cells16 HI.out.fill).2.2.2.2.2.2.2.2.2.2.2.2.2.2.2.2 4
              go_wp2
              go_roundw
              case rel => exact ⟨2, by omega, by go_num, Lib.hid (HI.out.next (by omega) (by omega) rfl)⟩
              case measure => simp [intOf]
            · have hq : wr.cell? ⟨w.heap.size + 1 + 1, 8, none⟩ = some (.pointer (partG g 0 2 8)) := by obtain ⟨_, _, _, _, _, _, _, _, h, _⟩ := cells16 HI.out.fill; exact h
              have hf : wr.frozen? ⟨w.heap.size + 1 + 1, 8, none⟩ = false := (cells16 HI.out.fill).2.2.2.2.2.2.2.2.2.2.2.2.2.2.2.2 8
              go_wp2
              go_roundw
              case rel => exact ⟨3, by omega, by go_num, Lib.hid (HI.out.next (by omega) (by omega) rfl)⟩
              case measure => simp [intOf]
            · have hq : wr.cell? ⟨w.heap.size + 1 + 1, 12, none⟩ = some (.pointer (partG g 0 3 12)) := by obtain ⟨_, _, _, _, _, _, _, _, _, _, _, _, h, _⟩ := cells16 HI.out.fill; exact h
              have hf : wr.frozen? ⟨w.heap.size + 1 + 1, 12, none⟩ = false := (cells16 HI.out.fill).2.2.2.2.2.2.2.2.2.2.2.2.2.2.2.2 12
              go_wp2
              go_roundw
              case rel => exact ⟨4, by omega, by go_num, Lib.hid (HI.out.next (by omega) (by omega) rfl)⟩
              case measure => simp [intOf]
          · obtain rfl : k = 4 := by omega
            go_wp2
            go_roundw
            case rel => exact ⟨1, by omega, by go_num, Lib.hid (HI.out.row (by omega))⟩
            case measure => simp [intOf]
      · go_wp2
        go_loopw [14] (fun x wr => ∃ k : Nat, k ≤ 4 ∧ x = .int .i64 k ∧ Hid (FlipAt w g 1 k wr)) (fun x _ => 4 - (intOf x).toNat)
        case atStart => exact ⟨0, by omega, rfl, Lib.hid (HF.out.alloc _)⟩
        case round =>
          obtain ⟨k, hk, rfl, HI⟩ := hrel
          by_cases hkt : k < 4
          · have h5 : k = 0 ∨ k = 1 ∨ k = 2 ∨ k = 3 := by omega
            rcases h5 with rfl | rfl | rfl | rfl
            · have hq : wr.cell? ⟨w.heap.size + 1 + 1, 1, none⟩ = some (.pointer (partG g 1 0 1)) := by obtain ⟨_, h, _⟩ := cells16 HI.out.fill; exact h
              have hf : wr.frozen? ⟨w.heap.size + 1 + 1, 1, none⟩ = false := (cells16 HI.out.fill).2.2.2.2.2.2.2.2.2.2.2.2.2.2.2.2 1
              go_wp2
              go_roundw
              case rel => exact ⟨1, by omega, by go_num, Lib.hid (HI.out.next (by omega) (by omega) rfl)⟩
              case measure => simp [intOf]
            · have hq : wr.cell? ⟨w.heap.size + 1 + 1, 5, none⟩ = some (.pointer (partG g 1 1 5)) := by obtain ⟨_, _, _, _, _, h, _⟩ := cells16 HI.out.fill; exact h
              have hf : wr.frozen? ⟨w.heap.size + 1 + 1, 5, none⟩ = false := (cells16 HI.out.fill).2.2.2.2.2.2.2.2.2.2.2.2.2.2.2.2 5
              go_wp2
              go_roundw
              case rel => exact ⟨2, by omega, by go_num, Lib.hid (HI.out.next (by omega) (by omega) rfl)⟩
              case measure => simp [intOf]
            · have hq : wr.cell? ⟨w.heap.size + 1 + 1, 9, none⟩ = some (.pointer (partG g 1 2 9)) := by obtain ⟨_, _, _, _, _, _, _, _, _, h, _⟩ := cells16 HI.out.fill; exact h
              have hf : wr.frozen? ⟨w.heap.size + 1 + 1, 9, none⟩ = false := (cells16 HI.out.fill).2.2.2.2.2.2.2.2.2.2.2.2.2.2.2.2 9
              go_wp2
              go_roundw
              case rel => exact ⟨3, by omega, by go_num, Lib.hid (HI.out.next (by omega) (by omega) rfl)⟩
              case measure => simp [intOf]
            · have hq : wr.cell? ⟨w.heap.size + 1 + 1, 13, none⟩ = some (.pointer (partG g 1 3 13)) := by obtain ⟨_, _, _, _, _, _, _, _, _, _, _, _, _, h, _⟩ := cells16 HI.out.fill; exact h
              have hf : wr.frozen? ⟨w.heap.size + 1 + 1, 13, none⟩ = false := (cells16 HI.out.fill).2.2.2.2.2.2.2.2.2.2.2.2.2.2.2.2 13
              go_wp2
              go_roundw
              case rel => exact ⟨4, by omega, by go_num, Lib.hid (HI.out.next (by omega) (by omega) rfl)⟩
              case measure => simp [intOf]
          · obtain rfl : k = 4 := by omega
            go_wp2
            go_roundw
            case rel => exact ⟨2, by omega, by go_num, Lib.hid (HI.out.row (by omega))⟩
            case measure => simp [intOf]
      · go_wp2
        go_loopw [14] (fun x wr => ∃ k : Nat, k ≤ 4 ∧ x = .int .i64 k ∧ Hid (FlipAt w g 2 k wr)) (fun x _ => 4 - (intOf x).toNat)
        case atStart => exact ⟨0, by omega, rfl, Lib.hid (HF.out.alloc _)⟩
        case round =>
          obtain ⟨k, hk, rfl, HI⟩ := hrel
          by_cases hkt : k < 4
          · have h5 : k = 0 ∨ k = 1 ∨ k = 2 ∨ k = 3 := by omega
            rcases h5 with rfl | rfl | rfl | rfl
            · have hq : wr.cell? ⟨w.heap.size + 1 + 1, 2, none⟩ = some (.pointer (partG g 2 0 2)) := by obtain ⟨_, _, h, _⟩ := cells16 HI.out.fill; exact h
              have hf : wr.frozen? ⟨w.heap.size + 1 + 1, 2, none⟩ = false := (cells16 HI.out.fill).2.2.2.2.2.2.2.2.2.2.2.2.2.2.2.2 2
              go_wp2
              go_roundw
              case rel => exact ⟨1, by omega, by go_num, Lib.hid (HI.out.next (by omega) (by omega) rfl)⟩
              case measure => simp [intOf]
            · have hq : wr.cell? ⟨w.heap.size + 1 + 1, 6, none⟩ = some (.pointer (partG g 2 1 6)) := by obtain ⟨_, _, _, _, _, _, h, _⟩ := cells16 HI.out.fill; exact h
              have hf : wr.frozen? ⟨w.heap.size + 1 + 1, 6, none⟩ = false := (cells16 HI.out.fill).2.2.2.2.2.2.2.2.2.2.2.2.2.2.2.2 6
              go_wp2
              go_roundw
              case rel => exact ⟨2, by omega, by go_num, Lib.hid (HI.out.next (by omega) (by omega) rfl)⟩
              case measure => simp [intOf]
            · have hq : wr.cell? ⟨w.heap.size + 1 + 1, 10, none⟩ = some (.pointer (partG g 2 2 10)) := by obtain ⟨_, _, _, _, _, _, _, _, _, _, h, _⟩ := cells16 HI.out.fill; exact h
              have hf : wr.frozen? ⟨w.heap.size + 1 + 1, 10, none⟩ = false := (cells16 HI.out.fill).2.2.2.2.2.2.2.2.2.2.2.2.2.2.2.2 10
              go_wp2
              go_roundw
              case rel => exact ⟨3, by omega, by go_num, Lib.hid (HI.out.next (by omega) (by omega) rfl)⟩
              case measure => simp [intOf]
            · have hq : wr.cell? ⟨w.heap.size + 1 + 1, 14, none⟩ = some (.pointer (partG g 2 3 14)) := by obtain ⟨_, _, _, _, _, _, _, _, _, _, _, _, _, _, h, _⟩ := cells16 HI.out.fill; exact h
              have hf : wr.frozen? ⟨w.heap.size + 1 + 1, 14, none⟩ = false := (cells16 HI.out.fill).2.2.2.2.2.2.2.2.2.2.2.2.2.2.2.2 14
              go_wp2
              go_roundw
              case rel => exact ⟨4, by omega, by go_num, Lib.hid (HI.out.next (by omega) (by omega) rfl)⟩
              case measure => simp [intOf]
          · obtain rfl : k = 4 := by omega
            go_wp2
            go_roundw
            case rel => exact ⟨3, by omega, by go_num, Lib.hid (HI.out.row (by omega))⟩
            case measure => simp [intOf]
      · go_wp2
        go_loopw [14] (fun x wr => ∃ k : Nat, k ≤ 4 ∧ x = .int .i64 k ∧ Hid (FlipAt w g 3 k wr)) (fun x _ => 4 - (intOf x).toNat)
        case atStart => exact ⟨0, by omega, rfl, Lib.hid (HF.out.alloc _)⟩
        case round =>
          obtain ⟨k, hk, rfl, HI⟩ := hrel
          by_cases hkt : k < 4
          · have h5 : k = 0 ∨ k = 1 ∨ k = 2 ∨ k = 3 := by omega
            rcases h5 with rfl | rfl | rfl | rfl
            · have hq : wr.cell? ⟨w.heap.size + 1 + 1, 3, none⟩ = some (.pointer (partG g 3 0 3)) := by obtain ⟨_, _, _, h, _⟩ := cells16 HI.out.fill; exact h
              have hf : wr.frozen? ⟨w.heap.size + 1 + 1, 3, none⟩ = false := (cells16 HI.out.fill).2.2.2.2.2.2.2.2.2.2.2.2.2.2.2.2 3
              go_wp2
              go_roundw
              case rel => exact ⟨1, by omega, by go_num, Lib.hid (HI.out.next (by omega) (by omega) rfl)⟩
              case measure => simp [intOf]
            · have hq : wr.cell? ⟨w.heap.size + 1 + 1, 7, none⟩ = some (.pointer (partG g 3 1 7)) := by obtain ⟨_, _, _, _, _, _, _, h, _⟩ := cells16 HI.out.fill; exact h
              have hf : wr.frozen? ⟨w.heap.size + 1 + 1, 7, none⟩ = false := (cells16 HI.out.fill).2.2.2.2.2.2.2.2.2.2.2.2.2.2.2.2 7
              go_wp2
              go_roundw
              case rel => exact ⟨2, by omega, by go_num, Lib.hid (HI.out.next (by omega) (by omega) rfl)⟩
              case measure => simp [intOf]
            · have hq : wr.cell? ⟨w.heap.size + 1 + 1, 11, none⟩ = some (.pointer (partG g 3 2 11)) := by obtain ⟨_, _, _, _, _, _, _, _, _, _, _, h, _⟩ := cells16 HI.out.fill; exact h
              have hf : wr.frozen? ⟨w.heap.size + 1 + 1, 11, none⟩ = false := (cells16 HI.out.fill).2.2.2.2.2.2.2.2.2.2.2.2.2.2.2.2 11
              go_wp2
              go_roundw
              case rel => exact ⟨3, by omega, by go_num, Lib.hid (HI.out.next (by omega) (by omega) rfl)⟩
              case measure => simp [intOf]
            · have hq : wr.cell? ⟨w.heap.size + 1 + 1, 15, none⟩ = some (.pointer (partG g 3 3 15)) := by obtain ⟨_, _, _, _, _, _, _, _, _, _, _, _, _, _, _, h, _⟩ := cells16 HI.out.fill; exact h
              have hf : wr.frozen? ⟨w.heap.size + 1 + 1, 15, none⟩ = false := (cells16 HI.out.fill).2.2.2.2.2.2.2.2.2.2.2.2.2.2.2.2 15
              go_wp2
              go_roundw
              case rel => exact ⟨4, by omega, by go_num, Lib.hid (HI.out.next (by omega) (by omega) rfl)⟩
              case measure => simp [intOf]
          · obtain rfl : k = 4 := by omega
            go_wp2
            go_roundw
            case rel => exact ⟨4, by omega, by go_num, Lib.hid (HI.out.row (by omega))⟩
            case measure => simp [intOf]
    · obtain rfl : i = 4 := by omega
      have eP : mC (partG g 4 0) = mC (flipG g) := by simp [mC, partG, flipG]
      have hfill := HF.out.fill
      rw [eP] at hfill
      obtain ⟨c0, c1, c2, c3, c4, c5, c6, c7, c8, c9, c10, c11, c12, c13, c14, c15, c16⟩ := cells16 hfill
      obtain ⟨d0, d1, d2, d3, d4, d5, d6, d7, d8, d9, d10, d11, d12, d13, d14, d15, d16⟩ := cells16 HF.out.res
      have HFF := Lib.hid HF.out.res
      clear hfill eP
      go_wp2
      have hP := put16_heap HFF.out (flipG g)
      have hB := put16_below HF.out.below (B := w.heap.size + 1) (by omega) (flipG g)
      obtain ⟨e0, e1, e2, e3, e4, e5, e6, e7, e8, e9, e10, e11, e12, e13, e14, e15, e16⟩ := cells16 hP
      refine bodyPost_ret (w := put16 wr (w.heap.size + 1) (flipG g)) (v := .agg (mC (flipG g))) ?_ rfl ⟨rfl, hB⟩
      simp [results, Try.results98, go_sem, mC, e0, e1, e2, e3, e4, e5, e6, e7, e8, e9, e10, e11, e12, e13, e14, e15]

end Go.Proofs.Ytakfobihakbefaa

/- Polynomials on the way: lists told by a function of the power, sums' and products' coefficients as they come. -/

namespace Go.Proofs.Ytakfobihakbefaa
open Go.RowKit

/-- A slice that can be read. -/
def Reads (w : World) (v : Value) (zs : List Int) : Prop := ∃ a cap, v = .slice a zs.length cap ∧ zs.length ≤ cap ∧ Ints w a zs.length zs
theorem IntRow.reads {base : Nat} {w : World} {v : Value} {zs : List Int} (h : IntRow base w v zs) (hw : ∀ z ∈ zs, -9223372036854775808 ≤ z ∧ z ≤ 9223372036854775807) : Reads w v zs := h.readc hw
theorem Reads.below {w w' : World} {v : Value} {zs : List Int} (h : Reads w v zs) (hb : Below w.heap.size w w') : Reads w' v zs := by
  obtain ⟨a, cap, hv, hc, hi⟩ := h
  exact ⟨a, cap, hv, hc, hi.below hb⟩

/-- A cell of a list that a function tells is set: another function tells the list. -/
theorem listP_set {f g : Int → Int} {low x : Int} {n j : Nat} (hg : ∀ k, k ≠ low + (j : Int) → g k = f k) (hx : g (low + (j : Int)) = x) : (intsV (listP f low n)).set j (.int .i64 x) = intsV (listP g low n) := by
  unfold intsV listP
  refine List.ext_getElem (by simp) fun i h1 h2 => ?_
  by_cases e : j = i
  · subst e
    simp [hx]
  · simp [List.getElem_set_ne e, hg (low + (i : Int)) (by omega)]
theorem listP_congr {f g : Int → Int} {low : Int} {n : Nat} (h : ∀ k, low ≤ k → k < low + n → f k = g k) : listP f low n = listP g low n := by
  unfold listP
  refine List.map_congr_left fun i hi => h _ (by omega) ?_
  have := List.mem_range.1 hi
  omega
theorem listP_zero (low : Int) (n : Nat) : listP (fun _ => 0) low n = List.replicate n 0 := by
  unfold listP
  rw [List.map_const', List.length_range]
theorem listP_cell {f : Int → Int} {low : Int} {n j : Nat} (h : j < n) : (intsV (listP f low n))[j]? = some (.int .i64 (f (low + (j : Int)))) := by
  simp [intsV, listP, h]
/-- Only the first powers, below a bound. -/
def upto (f : Int → Int) (m : Int) (k : Int) : Int := if k < m then f k else 0
theorem upto_next {f : Int → Int} {m k : Int} (h : k ≠ m) : upto f (m + 1) k = upto f m k := by
  unfold upto
  by_cases h1 : k < m
  · rw [if_pos h1, if_pos (by omega)]
  · rw [if_neg h1, if_neg (by omega)]
theorem upto_at (f : Int → Int) (m : Int) : upto f (m + 1) m = f m := by unfold upto; rw [if_pos (by omega)]
theorem upto_here (f : Int → Int) (m : Int) : upto f m m = 0 := by unfold upto; rw [if_neg (by omega)]
theorem upto_low (p : Pl) (k : Int) : upto (pat p) p.low k = 0 := by
  unfold upto
  split
  · rw [pat_low p (by assumption)]
  · rfl
theorem upto_high (p : Pl) (k : Int) : upto (pat p) (p.low + p.cs.length) k = pat p k := by
  unfold upto
  split
  · rfl
  · rw [pat_high p (by omega)]

/-! ### Coefficients that are none -/
theorem polyB_mem {p : Pl} {z : Int} (hm : z ∈ p.cs) (h : coefIn z = false) : polyB p = false := by
  obtain ⟨i, hi, rfl⟩ := List.mem_iff_getElem.1 hm
  exact polyB_bad hi h
theorem tidy_has {low : Int} {l : List Int} {i : Nat} (h : l.getD i 0 ≠ 0) : l.getD i 0 ∈ (tidyP low l).cs := by
  have e := (tidy_pat low l (low + (i : Int))).trans (pat_at ⟨low, l⟩ i)
  have e : pat (tidyP low l) (low + (i : Int)) = l.getD i 0 := e
  have hp := pat_in (p := tidyP low l) (k := low + (i : Int)) (by rw [e]; exact h)
  obtain ⟨m, hm⟩ : ∃ m : Nat, low + (i : Int) = (tidyP low l).low + (m : Int) := ⟨(low + (i : Int) - (tidyP low l).low).toNat, by omega⟩
  have hml : m < (tidyP low l).cs.length := by omega
  rw [hm, pat_at, List.getD_eq_getElem?_getD, List.getElem?_eq_getElem hml] at e
  have e : (tidyP low l).cs[m] = l.getD i 0 := e
  rw [← e]
  exact List.getElem_mem hml
theorem tidy_bad {low : Int} {l : List Int} {i : Nat} (h : coefIn (l.getD i 0) = false) : polyB (tidyP low l) = false :=
  polyB_mem (tidy_has (low := low) (i := i) (fun e => by rw [e] at h; exact absurd h (by decide))) h
/-- A number and what it should be: the same, or both no coefficients. -/
def Heldc (o c : Int) : Prop := o = c ∨ (coefIn o = false ∧ coefIn c = false)
theorem held_lists {os cs : List Int} (low : Int) (hl : os.length = cs.length) (h : ∀ i, i < cs.length → Heldc (os.getD i 0) (cs.getD i 0)) : tidyP low os = tidyP low cs ∨ (polyB (tidyP low os) = false ∧ polyB (tidyP low cs) = false) := by
  by_cases hall : ∀ i, i < os.length → os.getD i 0 = cs.getD i 0
  · exact .inl (by rw [eq_getD hl hall])
  · right
    obtain ⟨i, hi⟩ := Classical.not_forall.1 hall
    obtain ⟨hi, hne⟩ := Classical.not_imp.1 hi
    rcases h i (by omega) with e | ⟨h1, h2⟩
    · exact absurd e hne
    · exact ⟨tidy_bad (i := i) h1, tidy_bad (i := i) h2⟩
theorem held_done {p q : Pl} (h : p = q ∨ (polyB p = false ∧ polyB q = false)) : polyB p = polyB q ∧ doneP (polyB p) p = doneP (polyB q) q := by
  rcases h with rfl | ⟨h1, h2⟩
  · exact ⟨rfl, rfl⟩
  · rw [h1, h2]; exact ⟨rfl, rfl⟩
theorem coefIn_yes {z : Int} (h : coefIn z = true) : -1000000000 ≤ z ∧ z ≤ 1000000000 := by
  unfold coefIn inR at h
  simpa using h
theorem coefIn_no {z : Int} (h : z < -1000000000 ∨ 1000000000 < z) : coefIn z = false := by
  unfold coefIn inR
  rcases h with h | h
  · simp; omega
  · simp; omega

end Go.Proofs.Ytakfobihakbefaa

/- The program's within, isNotZero, and slices.IndexFunc and slices.ContainsFunc at them. -/

namespace Go.Proofs.Ytakfobihakbefaa
open Go.RowKit

set_option maxHeartbeats 1000000 in
theorem within_any (n s : Int) (b : Bool) (w : World) (h0 : 0 ≤ s) (h1 : s ≤ 9223372036854775807) (hb : inR (-s) s n = b) :
    Calls Try.prog 129 #[.int .i64 n, .int .i64 s] w fun e w' => e = .returned (.bool b) ∧ w = w' := by
  have hwr : IntKind.i64.wrap (-s) = -s := IntWalk.i64_in _ (by omega)
  unfold inR at hb
  by_cases h2 : -s ≤ n
  · have hd : decide (-s ≤ n) = true := decide_eq_true h2
    rw [hd, Bool.true_and] at hb
    go_enter Try.func129, Try.ntmps129
    go_wp2
    go_ret
    first | exact ⟨rfl, rfl⟩ | exact ⟨ret_bool hb, rfl⟩
  · have hd : decide (-s ≤ n) = false := decide_eq_false h2
    rw [hd, Bool.false_and] at hb
    subst hb
    go_enter Try.func129, Try.ntmps129
    go_wp2
    go_ret
    exact ⟨rfl, rfl⟩
theorem isNotZero_any (z : Int) (b : Bool) (w : World) (hb : decide (z = 0) = b) :
    Calls Try.prog 124 #[.int .i64 z] w fun e w' => e = .returned (.bool !b) ∧ w = w' := by
  go_enter Try.func124, Try.ntmps124
  go_wp2
  go_ret
  refine ⟨ret_bool ?_, rfl⟩
  subst hb
  by_cases h : z = 0 <;> simp [h]
theorem beyond_any (z : Int) (b : Bool) (w : World) (hb : coefIn z = b) :
    Calls Try.prog 131 #[.int .i64 z] w fun e w' => e = .returned (.bool !b) ∧ w = w' := by
  go_enter Try.func131, Try.ntmps131
  go_wp2_with fail
  refine (within_any z 1000000000 b _ (by omega) (by omega) hb).mono ?_
  rintro e w1 ⟨rfl, rfl⟩
  go_wp2
  go_ret
  exact ⟨rfl, rfl⟩

/-- The first place at which a test holds, or -1. -/
def FirstI (p : Int → Bool) (zs : List Int) (r : Int) : Prop :=
  (r = -1 ∧ ∀ j (h : j < zs.length), p zs[j] = false) ∨ ∃ (i : Nat) (h : i < zs.length), r = i ∧ p zs[i] = true ∧ ∀ j (h : j < i), p zs[j] = false
/-- A function value that is a test of ints and leaves the world alone. -/
def TestOk (F : FuncId) (p : Int → Bool) : Prop :=
  (∀ (args : Array Value) (w : World), (callFunc F args).run Try.prog w = .ok (.enter F args) w) ∧ ∀ (z : Int) (w : World), Calls Try.prog F #[.int .i64 z] w fun e w' => e = .returned (.bool (p z)) ∧ w = w'

set_option maxRecDepth 100000 in
set_option maxHeartbeats 2000000 in
theorem indexI_any (F : FuncId) (p : Int → Bool) (hF : TestOk F p) (a : Option Addr) (cap n : Nat) (zs : List Int) (w : World) (hs : Ints w a n zs) :
    Calls Try.prog 123 #[.slice a n cap, .func (.func F) #[] #[]] w fun e w' => (∃ r, e = .returned (.int .i64 r) ∧ FirstI p zs r) ∧ w = w' := by
  obtain ⟨eg, hf⟩ := hF
  have hm := hs.max
  unfold maxLen at hm
  have HN := Lib.hid hs.len
  have HS := Lib.hid hs
  have HF := Lib.hid hf
  clear hs hf
  go_enter Try.func123, Try.ntmps123
  go_wp2
  go_loopw [8] (fun i wr => ∃ k : Nat, k ≤ n ∧ i = .int .i64 (k : Int) ∧ Hid (∀ j (h : j < zs.length), j < k → p zs[j] = false) ∧ w = wr) (fun i _ => n - (intOf i).toNat)
  case atStart => exact ⟨0, Nat.zero_le _, rfl, Lib.hid (fun j _ h => absurd h (Nat.not_lt_zero _)), rfl⟩
  case round =>
    obtain ⟨k, hk, rfl, HJ, rfl⟩ := hrel
    by_cases hlt : k < n
    · have hkz : k < zs.length := by rw [HN.out]; exact hlt
      obtain ⟨x, rfl, hxb, hxc⟩ := HS.out.at_ (by omega)
      obtain ⟨z, hz⟩ : ∃ z, zs[k] = z := ⟨_, rfl⟩
      have hc := hxc k hkz
      rw [hz] at hc
      have HZ := Lib.hid hz
      clear hz hxc
      go_wp2_with fail
      refine (HF.out z _).mono ?_
      rintro e w2 ⟨rfl, rfl⟩
      cases hp : p z with
      | true =>
        have HP := Lib.hid hp
        clear hp
        go_wp2
        go_ret
        exact ⟨⟨_, rfl, .inr ⟨k, hkz, rfl, by rw [HZ.out]; exact HP.out, fun j hj => HJ.out j (by omega) hj⟩⟩, rfl⟩
      | false =>
        have HP := Lib.hid hp
        clear hp
        go_wp2
        go_roundw
        case rel =>
          refine ⟨k + 1, by omega, by go_num, Lib.hid ?_, by first | trivial | rfl⟩
          intro j hj hjk
          by_cases e : j = k
          · subst e; rw [HZ.out]; exact HP.out
          · exact HJ.out j hj (by omega)
        case measure => simp [intOf]; omega
    · obtain rfl : k = n := by omega
      go_wp2
      go_ret
      exact ⟨⟨_, rfl, .inl ⟨rfl, fun j hj => HJ.out j hj (by rw [← HN.out]; exact hj)⟩⟩, rfl⟩

theorem firstI_any {p : Int → Bool} {zs : List Int} {r : Int} (h : FirstI p zs r) : zs.any p = decide (0 ≤ r) := by
  rcases h with ⟨rfl, h⟩ | ⟨i, hi, rfl, h, _⟩
  · rw [List.any_eq_false.2]
    · rfl
    · intro t ht
      obtain ⟨j, hj, rfl⟩ := List.getElem_of_mem ht
      simpa using h j hj
  · rw [decide_eq_true (by omega : (0 : Int) ≤ i)]
    exact List.any_eq_true.2 ⟨_, List.getElem_mem hi, h⟩
theorem containsI_any (F : FuncId) (p : Int → Bool) (hF : TestOk F p) (a : Option Addr) (cap n : Nat) (zs : List Int) (b : Bool) (w : World) (hs : Ints w a n zs) (hb : zs.any p = b) :
    Calls Try.prog 132 #[.slice a n cap, .func (.func F) #[] #[]] w fun e w' => e = .returned (.bool b) ∧ w = w' := by
  subst hb
  have HS := Lib.hid hs
  clear hs
  go_enter Try.func132, Try.ntmps132
  go_wp2_with fail
  refine (indexI_any F p hF a cap n zs _ HS.out).mono ?_
  rintro e w2 ⟨⟨r, rfl, hr⟩, rfl⟩
  have HR := Lib.hid (firstI_any hr)
  clear hr
  go_wp2
  go_ret
  exact ⟨ret_bool (by rw [HR.out]), rfl⟩

abbrev NZF : FuncId := 124
abbrev BYF : FuncId := 131
theorem nz_ok : TestOk NZF fun z => !decide (z = 0) := ⟨enters_of Try.func124 (by kernel_rfl) rfl, fun z w => isNotZero_any z _ w rfl⟩
theorem beyond_ok : TestOk BYF fun z => !coefIn z := ⟨enters_of Try.func131 (by kernel_rfl) rfl, fun z w => beyond_any z _ w rfl⟩

/-- The first place of what is not 0. -/
theorem firstI_zfrom {zs : List Int} {r : Int} (h : FirstI (fun z => !decide (z = 0)) zs r) : (r = -1 ∧ zfrom zs = zs.length) ∨ (r = (zfrom zs : Nat) ∧ zfrom zs < zs.length) := by
  have hg : ∀ j (hj : j < zs.length), zs.getD j 0 = zs[j] := fun j hj => by rw [List.getD_eq_getElem?_getD, List.getElem?_eq_getElem hj]; rfl
  rcases h with ⟨rfl, h⟩ | ⟨i, hi, rfl, h, h2⟩
  · exact .inl ⟨rfl, zfrom_at (Nat.le_refl _) (fun i hi => by rw [hg i hi]; simpa using h i hi) (fun h => absurd h (Nat.lt_irrefl _))⟩
  · have e : zfrom zs = i := zfrom_at (by omega) (fun j hj => by rw [hg j (by omega)]; simpa using h2 j hj) (fun _ => by rw [hg i hi]; simpa using h)
    rw [e]
    exact .inr ⟨rfl, hi⟩

end Go.Proofs.Ytakfobihakbefaa

/- The program's fits, slices.Clone, apart and told. -/

namespace Go.Proofs.Ytakfobihakbefaa
open Go.RowKit

def fitsB (low : Int) (zs : List Int) : Bool := inR (-300) 300 low && (decide (zs.length ≤ 200) && zs.all coefIn)
theorem all_not (zs : List Int) : (zs.any fun z => !coefIn z) = !(zs.all coefIn) := by
  induction zs with
  | nil => rfl
  | cons z r ih => rw [List.any_cons, List.all_cons, ih, Bool.not_and]

set_option maxRecDepth 100000 in
set_option maxHeartbeats 4000000 in
theorem fits_any (low : Int) (zs : List Int) (a : Option Addr) (cap n : Nat) (b : Bool) (w : World) (hs : Ints w a n zs) (hb : fitsB low zs = b) :
    Calls Try.prog 122 #[plV low (.slice a n cap)] w fun e w' => e = .returned (.bool b) ∧ Below w.heap.size w w' := by
  have hm := hs.max
  unfold maxLen at hm
  have hbW : Below w.heap.size w (w.alloc (.cells #[.int .i64 low, .slice a n cap] 25)) := (Below.refl _ w).alloc (Nat.le_refl _) _
  have HB := Lib.hid hbW
  have HC := Lib.hid (containsI_any BYF _ beyond_ok a cap n zs _ _ (hs.below hbW) rfl)
  have HL := Lib.hid hs.len
  have h2 : ((n : Int) ≤ 200) ↔ (n ≤ 200) := by omega
  unfold fitsB at hb
  rw [HL.out] at hb
  rw [all_not] at HC
  clear hs hbW
  cases hl : inR (-300) 300 low with
  | false =>
    rw [hl, Bool.false_and] at hb
    subst hb
    have HIN := Lib.hid hl
    clear hl
    go_enter Try.func122, Try.ntmps122
    go_wp2_with fail
    refine (within_any low 300 false _ (by omega) (by omega) HIN.out).mono ?_
    rintro e w1 ⟨rfl, rfl⟩
    go_wp2
    go_ret
    exact ⟨rfl, HB.out⟩
  | true =>
    rw [hl, Bool.true_and] at hb
    have HIN := Lib.hid hl
    clear hl
    by_cases h200 : n ≤ 200
    · rw [decide_eq_true h200, Bool.true_and] at hb
      have h200i : (n : Int) ≤ 200 := by omega
      rw [hb] at HC
      go_enter Try.func122, Try.ntmps122
      go_wp2_with fail
      refine (within_any low 300 true _ (by omega) (by omega) HIN.out).mono ?_
      rintro e w1 ⟨rfl, rfl⟩
      go_wp2_with fail
      refine HC.out.mono ?_
      rintro e w1 ⟨rfl, rfl⟩
      go_wp2
      go_ret
      exact ⟨ret_bool (by simp), HB.out⟩
    · rw [decide_eq_false h200, Bool.false_and] at hb
      subst hb
      have h200i : ¬ (n : Int) ≤ 200 := by omega
      have h200d : decide ((n : Int) ≤ 200) = false := decide_eq_false h200i
      go_enter Try.func122, Try.ntmps122
      go_wp2_with fail
      refine (within_any low 300 true _ (by omega) (by omega) HIN.out).mono ?_
      rintro e w1 ⟨rfl, rfl⟩
      go_wp2
      go_ret
      exact ⟨rfl, HB.out⟩

theorem intNil (base : Nat) (w : World) : IntRow base w (.slice none 0 0) [] := ⟨rfl, .inl ⟨rfl, rfl⟩⟩
theorem Ints.newsAny {w : World} {x : Addr} {n : Nat} {zs : List Int} (h : Ints w (some x) n zs) : ∀ j u, (intsV zs)[j]? = some u → w.cell? (x.add j) = some u := fun j u hu => by
  by_cases h0 : 0 < n
  · exact h.news h0 j u hu
  · have hz : zs = [] := List.length_eq_zero_iff.1 (by rw [h.len]; omega)
    subst hz
    simp [intsV] at hu

set_option maxRecDepth 100000 in
set_option maxHeartbeats 4000000 in
theorem cloneI_any (a : Option Addr) (cap n : Nat) (zs : List Int) (w : World) (hs : Ints w a n zs) (hn : n ≤ 1048576) :
    Calls Try.prog 125 #[.slice a n cap] w fun e w' => (∃ v, e = .returned v ∧ IntRow w.heap.size w' v zs) ∧ Below w.heap.size w w' := by
  obtain ⟨i0, hi, hi0, hi1, hi2⟩ := info_parts infoInt
  have qT : ∀ (w : World) (a : Option Addr) (n c n' c' : Nat), (binOp .eql 23 (.slice a n c) (.slice none n' c')).run Try.prog w = .ok (.bool a.isNone) w := fun w a n c n' c' => Lib.run_eql_slice_nil w _ _ a n c n' c' Try.underlying23
  cases a with
  | none =>
    obtain rfl : n = 0 := by
      by_cases h : n = 0
      · exact h
      · obtain ⟨x, e, _⟩ := hs.at_ (by omega)
        cases e
    obtain rfl : zs = [] := List.length_eq_zero_iff.1 hs.len
    clear hs
    go_enter Try.func125, Try.ntmps125
    go_wp2
    go_ret
    exact ⟨⟨_, rfl, intNil _ _⟩, Below.refl _ _⟩
  | some x =>
    have hb1 : Below w.heap.size w (w.alloc (.cells #[] 3)) := (Below.refl _ w).alloc (Nat.le_refl _) _
    have HB := Lib.hid hb1
    have HL : Hid ((intsV zs).length = n * 1) := Lib.hid (by rw [intsV_len, hs.len, Nat.mul_one])
    have HX := Lib.hid (hs.below hb1).newsAny
    have HM := Lib.hid (made_at w w.heap.size rfl w.heap.size (Nat.le_refl _))
    have HN := Lib.hid hs.len
    clear hs hb1
    go_enter Try.func125, Try.ntmps125
    go_wp2_with (at_builtin; go_loud (refine wpList_append_own _ rfl _ _ 23 rfl w.heap.size 3 i0 (.int .i64 0) 1 8 Try.underlying23 hi hi0 hi1 hi2 rfl (by decide) _ 0 _ rfl HM.out x n cap (intsV zs) rfl HL.out HX.out (intsV_one zs) (by unfold maxLen; omega) (by omega) (by simp) ?_; intro v1 w1 hrow hgrow hnil; have HR := Lib.hid hrow; have HG := Lib.hid (HB.out.grown hgrow (by rw [World.size_alloc]; omega) (fun j e => own_ge HM.out j e)); clear hrow hgrow hnil))
    go_ret
    refine ⟨⟨_, rfl, ?_⟩, HG.out⟩
    have hr := HR.out
    rw [Nat.zero_add, List.nil_append] at hr
    exact rowI hr HN.out

end Go.Proofs.Ytakfobihakbefaa

/- The program's apart and told. -/

namespace Go.Proofs.Ytakfobihakbefaa
open Go.RowKit

abbrev ZT : TypeId := 118
abbrev PT : TypeId := 71
/-- What a polynomial is told apart as. -/
def Apart (w : World) (v : Value) (lw : Int) (q : Pl) : Prop :=
  (q.cs.length = 0 ∧ v = .iface ZT (.agg #[])) ∨ (0 < q.cs.length ∧ ∃ a cap, v = .iface PT (plV lw (.slice a q.cs.length cap)) ∧ q.cs.length ≤ cap ∧ Ints w a q.cs.length q.cs)
theorem tidy_zero {low : Int} {zs : List Int} (h : zfrom zs = zs.length) : tidyP low zs = ⟨0, []⟩ := tidy_all low h

set_option maxRecDepth 100000 in
set_option maxHeartbeats 4000000 in
theorem apart_zero (low : Int) (zs : List Int) (a : Option Addr) (cap n : Nat) (w : World) (hs : Ints w a n zs) (hz : zfrom zs = zs.length) :
    Calls Try.prog 71 #[plV low (.slice a n cap)] w fun e w' => e = .returned (.iface ZT (.agg #[])) ∧ Below w.heap.size w w' := by
  have hbW : Below w.heap.size w (w.alloc (.cells #[.int .i64 low, .slice a n cap] 25)) := (Below.refl _ w).alloc (Nat.le_refl _) _
  have HB := Lib.hid hbW
  have HI := Lib.hid (indexI_any NZF _ nz_ok a cap n zs _ (hs.below hbW))
  have HZ := Lib.hid hz
  clear hs hbW hz
  go_enter Try.func71, Try.ntmps71
  go_wp2_with fail
  refine HI.out.mono ?_
  rintro e w1 ⟨⟨r, rfl, hr⟩, rfl⟩
  obtain rfl : r = -1 := by
    rcases firstI_zfrom hr with ⟨h, _⟩ | ⟨_, h⟩
    · exact h
    · rw [HZ.out] at h; omega
  clear hr
  go_wp2
  go_ret
  exact ⟨rfl, HB.out⟩

theorem Ints.part {w : World} {x : Addr} {n f m : Nat} {zs : List Int} (h : Ints w (some x) n zs) (h0 : 0 < n) (hf : f + m ≤ n) : Ints w (some (x.add f)) m ((zs.drop f).take m) := by
  have hl := h.len
  obtain ⟨y, hy, hb, hc⟩ := h.at_ h0
  obtain rfl : x = y := by simpa using hy
  refine ⟨by rw [List.length_take, List.length_drop]; omega, by have := h.max; omega, fun _ => ⟨_, rfl, by rw [addr_add_block]; exact hb, fun j hj => ?_⟩, fun z hz => h.wf z (List.mem_of_mem_drop (List.mem_of_mem_take hz))⟩
  rw [List.length_take, List.length_drop] at hj
  rw [Addr.add_add, hc (f + j) (by omega), List.getElem_take, List.getElem_drop]

set_option maxRecDepth 100000 in
set_option maxHeartbeats 4000000 in
theorem apart_some (low : Int) (zs : List Int) (a : Option Addr) (cap n f : Nat) (w : World) (hs : Ints w a n zs) (hcap : n ≤ cap) (hz : zfrom zs = f) (hf : f < n) :
    Calls Try.prog 71 #[plV low (.slice a n cap)] w fun e w' => (∃ v, e = .returned v ∧ Apart w' v (wrap64 (tidyP low zs).low) (tidyP low zs)) ∧ Below w.heap.size w w' := by
  have hm := hs.max
  unfold maxLen at hm
  obtain ⟨x, rfl, hxb, hxc⟩ := hs.at_ (by omega)
  obtain ⟨W, hW⟩ : ∃ W, w.alloc (.cells #[.int .i64 low, .slice (some x) n cap] 25) = W := ⟨_, rfl⟩
  have hsz : W.heap.size = w.heap.size + 1 := by rw [← hW]; simp
  have hbW : Below w.heap.size w W := by rw [← hW]; exact (Below.refl _ w).alloc (Nat.le_refl _) _
  obtain ⟨c0, c1⟩ := boxCells (w := w) (w1 := W) (x := .int .i64 low) (y := .slice (some x) n cap) rfl (by rw [hW, ← hsz]; exact Below.refl _ _)
  have HX : Hid (∀ k (h : k < n) z, zs.getD k 0 = z → W.cell? (x.add k) = some (.int .i64 z)) := Lib.hid fun k h z e => by
    have hl := hs.len
    rw [← e, List.getD_eq_getElem?_getD, List.getElem?_eq_getElem (by omega)]
    exact (hbW.cell (p := x.add k) (by rw [addr_add_block]; exact hxb)).trans (hxc k (by omega))
  have HB := Lib.hid hbW
  have HI := Lib.hid (indexI_any NZF _ nz_ok (some x) cap n zs _ (hs.below hbW))
  have HS := Lib.hid (hs.below hbW)
  have HZ := Lib.hid hz
  have HL := Lib.hid hs.len
  have HW := Lib.hid hW
  clear hs hbW hz hxc hW hsz
  go_enter Try.func71, Try.ntmps71
  go_wp2_with fail
  rw [HW.out]
  refine HI.out.mono ?_
  rintro e w1 ⟨⟨r, rfl, hr⟩, rfl⟩
  obtain rfl : r = (f : Int) := by
    rcases firstI_zfrom hr with ⟨_, h⟩ | ⟨h, _⟩
    · rw [HZ.out, HL.out] at h; omega
    · rw [HZ.out] at h; exact h
  clear hr
  have hfi : ¬ (f : Int) < 0 := by omega
  have hfd : decide ((f : Int) < 0) = false := decide_eq_false hfi
  obtain ⟨z, hzf⟩ : ∃ z, zs.getD f 0 = z := ⟨_, rfl⟩
  have hzn : ¬ z = 0 := by rw [← hzf, ← HZ.out]; exact zfrom_head zs (by rw [HZ.out, HL.out]; exact hf)
  have HHZ := Lib.hid hzf
  have HZN := Lib.hid hzn
  clear hzf hzn
  go_wp2
  go_loopw [4] (fun i wr => ∃ t : Nat, f < t ∧ t ≤ n ∧ i = .int .i64 (t : Int) ∧ Hid (∀ i, t ≤ i → zs.getD i 0 = 0) ∧ W = wr) (fun i _ => (intOf i).toNat)
  case atStart => exact ⟨n, by omega, Nat.le_refl _, rfl, Lib.hid fun i h => getD_far (by rw [HL.out]; exact h), rfl⟩
  case round =>
    obtain ⟨t, ht1, ht2, rfl, HT, rfl⟩ := hrel
    obtain ⟨m, hm⟩ : ∃ m, t = m + 1 := ⟨t - 1, by omega⟩
    subst hm
    have hwr : IntKind.i64.wrap (((m + 1 : Nat) : Int) - 1) = (m : Int) := by rw [IntWalk.i64_in _ (by omega)]; omega
    obtain ⟨y, hy⟩ : ∃ y, zs.getD m 0 = y := ⟨_, rfl⟩
    have hcy := HX.out m (by omega) y hy
    have hmn : m < n := by omega
    have hmi : (0 : Int) ≤ (m : Int) := by omega
    have hmni : (m : Int) < (n : Int) := by omega
    by_cases hy0 : y = 0
    · subst hy0
      have hmk : f ≠ m := fun e => HZN.out (by rw [← HHZ.out, e, hy])
      have HY := Lib.hid hy
      clear hy
      go_wp2
      go_roundw
      case rel => exact ⟨m, by omega, by omega, by go_num, Lib.hid fun i h => by
        by_cases e : i = m
        · rw [e]; exact HY.out
        · exact HT.out i (by omega), by first | trivial | rfl⟩
      case measure => simp [intOf]
    · have hyb : (y == 0) = false := by simpa using hy0
      have HCUT := Lib.hid (tidy_cut low HZ.out ht1 (by rw [HL.out]; exact ht2) HT.out (by show zs.getD m 0 ≠ 0; rw [hy]; exact hy0))
      have hlen : ((zs.drop f).take (m + 1 - f)).length = m + 1 - f := by rw [List.length_take, List.length_drop, HL.out]; omega
      have HPART := Lib.hid (HS.out.part (f := f) (m := m + 1 - f) (by omega) (by omega))
      have HLEN := Lib.hid hlen
      have hfm : (f : Int) ≤ ((m + 1 : Nat) : Int) := by omega
      have hmc : ((m + 1 : Nat) : Int) ≤ (cap : Int) := by omega
      have hmcn : m + 1 ≤ cap := by omega
      have hf0 : (0 : Int) ≤ (f : Int) := by omega
      clear hy HT hlen
      go_wp2
      go_quiet (fail)
      go_wp2
      go_ret
      refine ⟨⟨_, rfl, ?_⟩, below_drewN HB.out _⟩
      rw [HCUT.out]
      refine .inr ⟨by show 0 < ((zs.drop f).take (m + 1 - f)).length; rw [HLEN.out]; omega, some (x.add f), cap - f, ?_, ?_, ?_⟩
      · rw [HLEN.out]
        rfl
      · show ((zs.drop f).take (m + 1 - f)).length ≤ _
        rw [HLEN.out]; omega
      · show Ints _ _ ((zs.drop f).take (m + 1 - f)).length ((zs.drop f).take (m + 1 - f))
        rw [HLEN.out]
        exact HPART.out.below (below_drewN (Below.refl _ _) _)

theorem apart_any (low : Int) (zs : List Int) (a : Option Addr) (cap n : Nat) (w : World) (hs : Ints w a n zs) (hcap : n ≤ cap) :
    Calls Try.prog 71 #[plV low (.slice a n cap)] w fun e w' => (∃ v, e = .returned v ∧ Apart w' v (wrap64 (tidyP low zs).low) (tidyP low zs)) ∧ Below w.heap.size w w' := by
  have hl := hs.len
  by_cases hz : zfrom zs = zs.length
  · refine (apart_zero low zs a cap n w hs hz).mono ?_
    rintro e w1 ⟨rfl, hb⟩
    exact ⟨⟨_, rfl, .inl ⟨by rw [tidy_zero hz]; rfl, rfl⟩⟩, hb⟩
  · exact apart_some low zs a cap n _ w hs hcap rfl (by have := zfrom_le zs; omega)

theorem apart_in (low : Int) (zs : List Int) (a : Option Addr) (cap n : Nat) (w : World) (hs : Ints w a n zs) (hcap : n ≤ cap) (h1 : -1000000000 ≤ low) (h2 : low ≤ 1000000000) (hn : n ≤ 1048576) :
    Calls Try.prog 71 #[plV low (.slice a n cap)] w fun e w' => (∃ v, e = .returned v ∧ Apart w' v (tidyP low zs).low (tidyP low zs)) ∧ Below w.heap.size w w' := by
  have e : wrap64 (tidyP low zs).low = (tidyP low zs).low := by
    have hz := zfrom_le zs
    rw [hs.len] at hz
    refine IntWalk.wrap64_in _ ?_
    unfold tidyP
    split
    · show -9223372036854775808 ≤ (0 : Int) ∧ (0 : Int) ≤ 9223372036854775807; omega
    · show -9223372036854775808 ≤ low + (zfrom zs : Int) ∧ low + (zfrom zs : Int) ≤ 9223372036854775807; omega
  have h := apart_any low zs a cap n w hs hcap
  rwa [e] at h

end Go.Proofs.Ytakfobihakbefaa

/- The program's told, PolyIn. -/

namespace Go.Proofs.Ytakfobihakbefaa
open Go.RowKit

/-- A polynomial that was laid in a box, and the answer's cells behind it. -/
theorem boxT {w w1 W : World} {t : TypeId} {x y : Value} (hW : (w.alloc (.cells #[x, y] t)).alloc (.cells #[.int .i64 0, .slice none 0 0] 25) = W) (hg : Below W.heap.size W w1) :
    w1.cell? ⟨w.heap.size, 0, none⟩ = some x ∧ w1.cell? ⟨w.heap.size, 1, none⟩ = some y ∧ w1.cell? ⟨w.heap.size + 1, 0, none⟩ = some (.int .i64 0) ∧ w1.cell? ⟨w.heap.size + 1, 1, none⟩ = some (.slice none 0 0) ∧ w1.frozen? ⟨w.heap.size + 1, 0, none⟩ = false ∧ w1.frozen? ⟨w.heap.size + 1, 1, none⟩ = false := by
  have hsz : W.heap.size = w.heap.size + 2 := by rw [← hW]; simp
  have e0 := hg.block w.heap.size (by omega)
  have e1 : W.heap[w.heap.size]? = some (.cells #[x, y] t (0, 0)) := by
    rw [← hW, Below.heap_alloc _ _ _ (by simp)]
    exact World.alloc_heap_new w _
  rw [e1] at e0
  obtain ⟨d0, d1, f0, f1⟩ := resCells (w := w.alloc (.cells #[x, y] t)) (w1 := w1) (r := w.heap.size + 1) (by simp) (by rw [hW, show w.heap.size + 1 + 1 = W.heap.size by omega]; exact hg)
  exact ⟨by simp [World.cell?, e0], by simp [World.cell?, e0], d0, d1, f0, f1⟩
theorem boxTBelow {w W : World} {t : TypeId} {x y : Value} (hW : (w.alloc (.cells #[x, y] t)).alloc (.cells #[.int .i64 0, .slice none 0 0] 25) = W) : Below w.heap.size w W ∧ W.heap.size = w.heap.size + 2 := by
  subst hW
  exact ⟨((Below.refl _ w).alloc (Nat.le_refl _) _).alloc (by simp) _, by simp⟩
theorem oneBox {w w1 W : World} {t : TypeId} {x y : Value} (hW : w.alloc (.cells #[x, y] t) = W) (hg : Below W.heap.size W w1) :
    w1.cell? ⟨w.heap.size, 0, none⟩ = some x ∧ w1.cell? ⟨w.heap.size, 1, none⟩ = some y := by
  have hsz : W.heap.size = w.heap.size + 1 := by rw [← hW]; simp
  have e0 := hg.block w.heap.size (by omega)
  rw [← hW, World.alloc_heap_new] at e0
  exact ⟨by simp [World.cell?, e0], by simp [World.cell?, e0]⟩

set_option maxRecDepth 100000 in
set_option maxHeartbeats 4000000 in
theorem toldZ_any (w : World) :
    Calls Try.prog 149 #[.agg #[]] w fun e w' => (∃ v, e = .returned (.tuple #[plV 0 v, .bool true]) ∧ IntRow w.heap.size w' v []) ∧ Below w.heap.size w w' := by
  go_enter Try.func149, Try.ntmps149
  go_wp2
  refine bodyPost_ret (v := .tuple #[plV 0 (.slice none 0 0), .bool true]) ?_ rfl ⟨⟨_, rfl, intNil _ _⟩, ?_⟩
  · simp [results, Try.results149, go_sem, plV]
  · first
    | exact ((Below.refl _ w).alloc (Nat.le_refl _) _).alloc (by simp) _
    | exact ((((Below.refl _ w).alloc (Nat.le_refl _) _).alloc (by simp) _).setCell (by simp) _).setCell (by simp) _

set_option maxRecDepth 100000 in
set_option maxHeartbeats 4000000 in
theorem toldP_any (low : Int) (zs : List Int) (a : Option Addr) (cap n : Nat) (b : Bool) (w : World) (hs : Ints w a n zs) (hb : fitsB low zs = b) :
    Calls Try.prog 73 #[plV low (.slice a n cap)] w fun e w' => (∃ v, e = .returned (.tuple #[plV (doneP b ⟨low, zs⟩).low v, .bool b]) ∧ IntRow w.heap.size w' v (doneP b ⟨low, zs⟩).cs) ∧ Below w.heap.size w w' := by
  obtain ⟨W, hW⟩ : ∃ W, (w.alloc (.cells #[.int .i64 low, .slice a n cap] PT)).alloc (.cells #[.int .i64 0, .slice none 0 0] 25) = W := ⟨_, rfl⟩
  obtain ⟨hbW, hsz⟩ := boxTBelow hW
  have HC : Hid (∀ w1, Below W.heap.size W w1 → _) := Lib.hid fun w1 (hg : Below W.heap.size W w1) => boxT hW hg
  have HF := Lib.hid (fits_any low zs a cap n b W (hs.below hbW) hb)
  have HS := Lib.hid (hs.below hbW)
  have HB := Lib.hid hb
  have HBW := Lib.hid hbW
  have HW := Lib.hid hW
  clear hW hbW hs hb
  go_enter Try.func73, Try.ntmps73
  go_wp2_with fail
  rw [HW.out]
  refine HF.out.mono ?_
  rintro e w1 ⟨rfl, hb1⟩
  obtain ⟨q0, q1, d0, d1, f0, f1⟩ := HC.out w1 hb1
  have hs1 := hb1.size
  have HB1 := Lib.hid hb1
  clear hb1
  cases b with
  | false =>
    go_wp2
    refine bodyPost_ret (v := .tuple #[plV 0 (.slice none 0 0), .bool false]) ?_ rfl ⟨⟨_, rfl, intNil _ _⟩, resBelow1 (.int .i64 0) (.slice none 0 0) (HBW.out.trans (HB1.out.mono HBW.out.size))⟩
    simp [results, Try.results73, go_sem, d0, d1, plV]
  | true =>
    have hn : n ≤ 1048576 := by
      have h := HB.out
      unfold fitsB at h
      simp only [Bool.and_eq_true, decide_eq_true_eq] at h
      have := HS.out.len
      omega
    have HCL : Hid (∀ w2, Below W.heap.size W w2 → _) := Lib.hid fun w2 (hg : Below W.heap.size W w2) => cloneI_any a cap n zs w2 (HS.out.below hg) hn
    go_wp2
    go_region_held3 (fun w' : World => w'.cell? ⟨w.heap.size, 0, none⟩ = some (.int .i64 low) ∧ w'.cell? ⟨w.heap.size, 1, none⟩ = some (.slice a n cap)) (first | go_keep | exact ⟨k0, k1⟩)
      (first
        | (go_at_call 125
           refine (HCL.out _ HB1.out.drew).mono ?_
           rintro e w2 ⟨⟨v, rfl, hr⟩, hb2⟩
           have HR := Lib.hid hr
           have HB2 := Lib.hid (HB1.out.drew.trans (hb2.mono hs1))
           obtain ⟨k0, k1, d0, d1, f0, f1⟩ := HC.out w2 HB2.out
           obtain ⟨g1, gg, cap1, rfl, _⟩ := hr.shape
           clear hr hb2))
    go_wp2
    have hR : IntRow (w.heap.size + 2) w2 (.slice g1 zs.length cap1) zs := HR.out.mono (by show w.heap.size + 2 ≤ w1.heap.size; omega)
    refine bodyPost_ret (v := .tuple #[plV low (.slice g1 zs.length cap1), .bool true]) ?_ rfl ⟨⟨_, rfl, resRow1 (.int .i64 low) (.slice g1 zs.length cap1) hR (by omega)⟩, resBelow1 (.int .i64 low) (.slice g1 zs.length cap1) (HBW.out.trans (HB2.out.mono HBW.out.size))⟩
    simp [results, Try.results73, go_sem, d0, d1, plV]

end Go.Proofs.Ytakfobihakbefaa

/- The program's PolyIn. -/

namespace Go.Proofs.Ytakfobihakbefaa
open Go.RowKit

theorem tidy_self {p : Pl} (h : Trim p) : tidyP p.low p.cs = p := trim_unique (tidy_trim _ _) h fun k => tidy_pat p.low p.cs k
theorem fits_polyB {p : Pl} (h : Trim p) (h0 : 0 < p.cs.length) : fitsB p.low p.cs = polyB p := by
  rcases h with ⟨h, _⟩ | ⟨_, h1, h2⟩
  · rw [h] at h0; exact absurd h0 (Nat.lt_irrefl _)
  · unfold fitsB polyB
    rw [if_neg (by omega), decide_eq_false h1, decide_eq_false h2]
    cases p.cs.all coefIn <;> cases decide (p.cs.length ≤ 200) <;> cases inR (-300) 300 p.low <;> rfl
theorem polyB_nil : polyB ⟨0, []⟩ = true := rfl
/-- Whether a polynomial is one, by what it is told apart as. -/
theorem polyB_apart (low : Int) (zs : List Int) : polyB ⟨low, zs⟩ = if (tidyP low zs).cs.length = 0 then decide (low = 0) && decide (zs.length = 0) else fitsB low zs && decide ((tidyP low zs).cs.length = zs.length) := by
  by_cases hT : Trim ⟨low, zs⟩
  · have e := tidy_self hT
    have e : tidyP low zs = ⟨low, zs⟩ := e
    rw [e]
    show _ = if zs.length = 0 then _ else _
    by_cases h0 : zs.length = 0
    · rw [if_pos h0]
      obtain rfl : zs = [] := List.length_eq_zero_iff.1 h0
      show (true && (if ([] : List Int).length = 0 then decide (low = 0) else _)) = (decide (low = 0) && true)
      simp
    · rw [if_neg h0, ← fits_polyB hT (by show 0 < zs.length; omega)]
      simp
  · have hP : polyB ⟨low, zs⟩ = false := by
      cases h : polyB ⟨low, zs⟩ with
      | false => rfl
      | true => exact absurd (polyB_trim h).1 hT
    rw [hP]
    split
    · rename_i h
      by_cases h0 : zs.length = 0
      · obtain rfl : zs = [] := List.length_eq_zero_iff.1 h0
        by_cases hl : low = 0
        · exact absurd (.inl ⟨rfl, hl⟩) hT
        · rw [decide_eq_false hl]; rfl
      · rw [decide_eq_false h0, Bool.and_false]
    · rename_i h
      by_cases hl : (tidyP low zs).cs.length = zs.length
      · exfalso
        apply hT
        have hc : (tidyP low zs).cs = ztrim (zs.drop (zfrom zs)) := by
          unfold tidyP at h ⊢
          split
          · rename_i h2; rw [if_pos h2] at h; exact absurd rfl h
          · rfl
        have hz := ztrim_len (zs.drop (zfrom zs))
        rw [← hc, hl, List.length_drop] at hz
        have hzf := zfrom_le zs
        have h0 : zfrom zs = 0 := by
          rw [hl] at h
          omega
        rw [h0, List.drop_zero] at hc
        have he : zs = ztrim zs := eq_getD (by rw [← hc, hl]) fun i _ => (ztrim_get zs i).symm
        have h1 : zs ≠ [] := fun e => h (by rw [hl, e]; rfl)
        refine .inr ⟨h1, ?_, ?_⟩
        · have := zfrom_head zs (by rw [h0]; exact List.length_pos_iff.2 h1)
          rwa [h0] at this
        · rcases ztrim_last zs with h2 | h2
          · rw [← he] at h2; exact absurd h2 h1
          · rw [← he] at h2; exact h2
      · rw [decide_eq_false hl, Bool.and_false]

theorem assert_yes (v : Value) (w : World) : (Instr.typeAssert (.iface PT v) 69 PT true).run Try.prog w = .ok (.tuple #[v, .bool true]) w := by kernel_rfl
theorem assert_no (v : Value) (w : World) : (Instr.typeAssert (.iface ZT v) 69 PT true).run Try.prog w = .ok (.tuple #[plV 0 (.slice none 0 0), .bool false]) w := by kernel_rfl

set_option maxRecDepth 100000 in
set_option maxHeartbeats 4000000 in
theorem iPolyIn_any (low : Int) (zs : List Int) (a : Option Addr) (cap n : Nat) (b : Bool) (w : World) (hs : Ints w a n zs) (hcap : n ≤ cap) (hb : polyB ⟨low, zs⟩ = b) :
    Calls Try.prog 70 #[plV low (.slice a n cap)] w fun e w' => e = .returned (.bool b) ∧ Below w.heap.size w w' := by
  have hm := hs.max
  unfold maxLen at hm
  have hY := assert_yes
  have hN := assert_no
  obtain ⟨W, hW⟩ : ∃ W, w.alloc (.cells #[.int .i64 low, .slice a n cap] 25) = W := ⟨_, rfl⟩
  have hsz : W.heap.size = w.heap.size + 1 := by rw [← hW]; simp
  have hbW : Below w.heap.size w W := by rw [← hW]; exact (Below.refl _ w).alloc (Nat.le_refl _) _
  have HC : Hid (∀ w1, Below W.heap.size W w1 → _) := Lib.hid fun w1 (hg : Below W.heap.size W w1) => oneBox hW hg
  have HA := Lib.hid (apart_any low zs a cap n W (hs.below hbW) hcap)
  have HS := Lib.hid (hs.below hbW)
  have HL := Lib.hid hs.len
  have HBW := Lib.hid hbW
  have HW := Lib.hid hW
  rw [polyB_apart, hs.len] at hb
  clear hW hbW hs
  go_enter Try.func70, Try.ntmps70
  go_wp2_with fail
  rw [HW.out]
  refine HA.out.mono ?_
  rintro e w1 ⟨⟨v, rfl, hA⟩, hb1⟩
  have hs1 := hb1.size
  have HB1 := Lib.hid hb1
  obtain ⟨q0, q1⟩ := HC.out w1 hb1
  clear hb1
  rcases hA with ⟨hq, rfl⟩ | ⟨hq, a1, cap1, rfl, hc1, hi1⟩
  · rw [if_pos hq] at hb
    have hni : ((n : Int) = 0) ↔ n = 0 := by omega
    have HBE := Lib.hid hb
    clear hq hb
    by_cases hl0 : low = 0
    · subst hl0
      go_wp2
      go_ret
      refine ⟨ret_bool ?_, HBW.out.trans (HB1.out.mono HBW.out.size)⟩
      rw [← HBE.out]
      by_cases h0 : n = 0
      · simp [h0]
      · have : ¬ (n : Int) = 0 := by omega
        simp [h0]
    · have hlb : (low == 0) = false := by simpa using hl0
      go_wp2
      go_ret
      refine ⟨ret_bool ?_, HBW.out.trans (HB1.out.mono HBW.out.size)⟩
      rw [← HBE.out, decide_eq_false hl0]
      rfl
  · rw [if_neg (by omega)] at hb
    obtain ⟨m, hm⟩ : ∃ m, (tidyP low zs).cs.length = m := ⟨_, rfl⟩
    rw [hm] at hb hq ⊢
    obtain ⟨V, hV⟩ : ∃ V, w1.alloc (.cells #[.int .i64 (wrap64 (tidyP low zs).low), .slice a1 m cap1] PT) = V := ⟨_, rfl⟩
    have hbV : Below w1.heap.size w1 V := by rw [← hV]; exact (Below.refl _ _).alloc (Nat.le_refl _) _
    have HD : Hid (∀ w2, Below V.heap.size V w2 → _) := Lib.hid fun w2 (hg : Below V.heap.size V w2) => oneBox hV hg
    have HBV := Lib.hid (HB1.out.trans (hbV.mono hs1))
    obtain ⟨c, hc⟩ : ∃ c, fitsB low zs = c := ⟨_, rfl⟩
    rw [hc] at hb
    have HF := Lib.hid (fits_any low zs a cap n c V (HS.out.below HBV.out) hc)
    have HV := Lib.hid hV
    have hp := HC.out V HBV.out
    rw [← hV] at hp
    obtain ⟨p0, p1⟩ := hp
    have HBE := Lib.hid hb
    clear hV hbV hi1 hm hc hb
    go_wp2_with fail
    rw [HV.out]
    refine HF.out.mono ?_
    rintro e w2 ⟨rfl, hb2⟩
    obtain ⟨q0, q1⟩ := HC.out w2 (HBV.out.trans (hb2.mono HBV.out.size))
    obtain ⟨d0, d1⟩ := HD.out w2 hb2
    have HB2 := Lib.hid (HBW.out.trans ((HBV.out.trans (hb2.mono HBV.out.size)).mono HBW.out.size))
    clear hb2
    cases c with
    | false =>
      go_wp2
      go_ret
      exact ⟨ret_bool (by rw [← HBE.out]; rfl), HB2.out⟩
    | true =>
      have hmn : ((m : Int) = (n : Int)) ↔ m = n := by omega
      go_wp2
      go_ret
      refine ⟨ret_bool ?_, HB2.out⟩
      rw [← HBE.out]
      by_cases h : m = n
      · simp [h]
      · have h2 : ¬ (m : Int) = (n : Int) := by omega
        simp [h, h2]

end Go.Proofs.Ytakfobihakbefaa

/- The program's PolyOf. -/

namespace Go.Proofs.Ytakfobihakbefaa
open Go.RowKit

theorem told_zm (w : World) : (Go.method 242 118 (.agg #[]) "loop.example/foxcalculus/impl.told").run Try.prog w = .ok (149, .agg #[]) w := by kernel_rfl
theorem told_zn (w : World) : (Go.nilAhead 242 118 (.agg #[]) "loop.example/foxcalculus/impl.told").run Try.prog w = .ok (some false) w := by kernel_rfl
theorem told_pm (x y : Value) (w : World) : (Go.method 242 71 (.agg #[x, y]) "loop.example/foxcalculus/impl.told").run Try.prog w = .ok (73, .agg #[x, y]) w := by kernel_rfl
theorem told_pn (x y : Value) (w : World) : (Go.nilAhead 242 71 (.agg #[x, y]) "loop.example/foxcalculus/impl.told").run Try.prog w = .ok (some false) w := by kernel_rfl
/-- What the program tells of what was told apart. -/
theorem told_zero {q : Pl} {c : Bool} (hT : Trim q) (h0 : q.cs.length = 0) (hc : polyB q = c) : c = true ∧ q = ⟨0, []⟩ := by
  obtain ⟨l, cs⟩ := q
  obtain rfl : cs = [] := List.length_eq_zero_iff.1 h0
  rcases hT with ⟨_, h⟩ | ⟨h, _⟩
  · obtain rfl : l = 0 := h
    exact ⟨hc.symm, rfl⟩
  · exact absurd rfl h
theorem polyOfB_fits (low : Int) (zs : List Int) : polyOfB low zs = (fitsB low zs && polyB (tidyP low zs)) := by
  unfold polyOfB fitsB
  cases h : zs.all coefIn with
  | true => cases inR (-300) 300 low <;> cases decide (zs.length ≤ 200) <;> rfl
  | false =>
    obtain ⟨z, hz, hc⟩ := List.all_eq_false.1 h
    obtain ⟨i, hi, rfl⟩ := List.mem_iff_getElem.1 hz
    have hb : polyB (tidyP low zs) = false := tidy_bad (i := i) (by rw [List.getD_eq_getElem?_getD, List.getElem?_eq_getElem hi]; simpa using hc)
    rw [hb]
    cases inR (-300) 300 low <;> cases decide (zs.length ≤ 200) <;> rfl
/-- The answer's cells, laid first, and a polynomial in a box behind them. -/
theorem resBox {w w1 W : World} {t : TypeId} {x y : Value} (hW : (w.alloc (.cells #[.int .i64 0, .slice none 0 0] 25)).alloc (.cells #[x, y] t) = W) (hg : Below W.heap.size W w1) :
    w1.cell? ⟨w.heap.size + 1, 0, none⟩ = some x ∧ w1.cell? ⟨w.heap.size + 1, 1, none⟩ = some y ∧ w1.cell? ⟨w.heap.size, 0, none⟩ = some (.int .i64 0) ∧ w1.cell? ⟨w.heap.size, 1, none⟩ = some (.slice none 0 0) ∧ w1.frozen? ⟨w.heap.size, 0, none⟩ = false ∧ w1.frozen? ⟨w.heap.size, 1, none⟩ = false := by
  have hsz : W.heap.size = w.heap.size + 2 := by rw [← hW]; simp
  obtain ⟨c0, c1⟩ := oneBox hW hg
  obtain ⟨d0, d1, f0, f1⟩ := resCells (w := w) (w1 := w1) (r := w.heap.size) rfl (by
    have h : Below (w.heap.size + 1) (w.alloc (.cells #[.int .i64 0, .slice none 0 0] 25)) W := by rw [← hW]; exact (Below.refl _ _).alloc (by simp) _
    exact h.trans (hg.mono (by omega)))
  rw [World.size_alloc] at c0 c1
  exact ⟨c0, c1, d0, d1, f0, f1⟩
theorem resBoxBelow {w W : World} {t : TypeId} {x y : Value} (hW : (w.alloc (.cells #[.int .i64 0, .slice none 0 0] 25)).alloc (.cells #[x, y] t) = W) : Below w.heap.size w W ∧ W.heap.size = w.heap.size + 2 := by
  subst hW
  exact ⟨((Below.refl _ w).alloc (Nat.le_refl _) _).alloc (by simp) _, by simp⟩

end Go.Proofs.Ytakfobihakbefaa

/- How PolyOf and the model's answer, for the law; the program's PolyTurned. -/

namespace Go.Proofs.Ytakfobihakbefaa
open Go.RowKit

theorem toIntS_t (a : Option Addr) (cap n : Nat) (zs : List Int) (w : World) (hm : n ≤ 1048576) (hs : Ints w a n zs) :
    Calls Try.prog 112 #[.slice a n cap] w fun e w' => (∃ g, e = .returned (.slice (some ⟨g, 0, none⟩) n n) ∧ w.heap.size ≤ g ∧ IntRow w.heap.size w' (.slice (some ⟨g, 0, none⟩) n n) zs ∧ Ints w' (some ⟨g, 0, none⟩) n zs) ∧ Below w.heap.size w w' := by
  refine (toIntS_any a cap n zs w hm hs).mono ?_
  rintro e w1 ⟨rfl, hr, hb⟩
  obtain ⟨a1, cap1, hv, hi⟩ := hr.read hs.wf
  have hl := hs.len
  subst hl
  simp at hv
  obtain ⟨rfl, _⟩ := hv
  exact ⟨⟨_, rfl, Nat.le_refl _, hr, hi⟩, hb⟩

theorem polyB_len {p : Pl} (h : polyB p = true) : p.cs.length ≤ 200 := (polyB_trim h).2.1
theorem doneP_len {b : Bool} {p q : Pl} (hb : b = true → polyB p = true) (hq : doneP b p = q) : q.cs.length ≤ 200 := by
  subst hq
  cases b with
  | true => exact polyB_len (hb rfl)
  | false => exact Nat.zero_le _
theorem polyOf_fit {w : World} {low : Int} {zs : List Int} {a : Option Addr} {n : Nat} {b : Bool} {p : Pl} (_ : Ints w a n zs) (_ : polyOfB low zs = b) (hp : polyOfP low zs = p) : p.cs.length ≤ 200 := by
  unfold polyOfP at hp
  refine doneP_len (fun h => ?_) hp
  unfold polyOfB at h
  simp only [Bool.and_eq_true] at h
  exact h.2.2
end Go.Proofs.Ytakfobihakbefaa

/- slices.Reverse at ints; the program's end and PolyTurned. -/

namespace Go.Proofs.Ytakfobihakbefaa
open Go.RowKit Go.Shelf

theorem rowPast {w w' : World} {base : Nat} {e : TypeId} {size : Nat} {v : Value} {n : Nat} {xs : List Value} (h : w.ownsRow base e size v n xs) (hb : Below w.heap.size w w') : w'.ownsRow base e size v n xs :=
  h.kept ⟨hb.os, hb.tape, hb.output, hb.size, fun j hj _ => hb.block j hj⟩ (row := none) (by
    rcases h.2 with ⟨rfl, _⟩ | ⟨g, cap, cur, rfl, _⟩
    · exact .inl rfl
    · exact .inr (by simp [Value.ownBlock]))
theorem grownTrans {a b c : World} {row : Option Nat} (h : a.grownBy b row) (k : b.grownBy c row) : a.grownBy c row :=
  ⟨k.os.trans h.os, k.tape.trans h.tape, k.output.trans h.output, Nat.le_trans h.size k.size, fun i hi hne => (k.block i (Nat.lt_of_lt_of_le hi h.size) hne).trans (h.block i hi hne)⟩
theorem grownRefl (a : World) (row : Option Nat) : a.grownBy a row := ⟨rfl, rfl, rfl, Nat.le_refl _, fun _ _ _ => rfl⟩
theorem grownBelow {a b : World} (row : Option Nat) (h : Below a.heap.size a b) : a.grownBy b row := ⟨h.os, h.tape, h.output, h.size, fun i hi _ => h.block i hi⟩

/-- The list with its first i and last i texts exchanged. -/
def SwappedI (zs ys : List Int) (i : Nat) : Prop := ys.length = zs.length ∧ ∀ p, p < zs.length → ys[p]? = if p < i ∨ zs.length - 1 - p < i then zs[zs.length - 1 - p]? else zs[p]?
theorem SwappedI.all {zs ys : List Int} {i : Nat} (h : SwappedI zs ys i) (hi : zs.length ≤ 2 * i + 1) : ys = zs.reverse := by
  refine List.ext_getElem? fun p => ?_
  by_cases hp : p < zs.length
  · rw [h.2 p hp, List.getElem?_reverse hp]
    by_cases hc : p < i ∨ zs.length - 1 - p < i
    · rw [if_pos hc]
    · rw [if_neg hc, show zs.length - 1 - p = p by omega]
  · rw [List.getElem?_eq_none (by rw [h.1]; omega), List.getElem?_eq_none (by rw [List.length_reverse]; omega)]
theorem SwappedI.step {zs ys : List Int} {i j : Nat} (h : SwappedI zs ys i) (hj : j + i + 1 = zs.length) (hij : i < j) {a b : Int} (ha : ys[i]? = some a) (hb : ys[j]? = some b) : SwappedI zs ((ys.set i b).set j a) (i + 1) := by
  have h1 := h.2 i (by omega)
  have h2 := h.2 j (by omega)
  rw [if_neg (by omega)] at h1 h2
  rw [ha] at h1
  rw [hb] at h2
  refine ⟨by rw [List.length_set, List.length_set]; exact h.1, fun p hp => ?_⟩
  by_cases ej : p = j
  · subst ej
    rw [List.getElem?_set_self (by rw [List.length_set, h.1]; exact hp), if_pos (by omega), show zs.length - 1 - p = i by omega]
    exact h1
  · rw [List.getElem?_set_ne (Ne.symm ej)]
    by_cases ei : p = i
    · subst ei
      rw [List.getElem?_set_self (by rw [h.1]; exact hp), if_pos (by omega), show zs.length - 1 - p = j by omega]
      exact h2
    · rw [List.getElem?_set_ne (Ne.symm ei), h.2 p hp]
      by_cases hc : p < i ∨ zs.length - 1 - p < i
      · rw [if_pos hc, if_pos (by omega)]
      · rw [if_neg hc, if_neg (by omega)]

theorem end_any (low : Int) (a : Option Addr) (cap n : Nat) (w : World) (h1 : -1000000000 ≤ low) (h2 : low ≤ 1000000000) (hn : n ≤ 1048576) :
    Calls Try.prog 105 #[plV low (.slice a n cap)] w fun e w' => e = .returned (.int .i64 (low + (n : Int))) ∧ Below w.heap.size w w' := by
  have hwr : IntKind.i64.wrap (low + (n : Int)) = low + (n : Int) := IntWalk.i64_in _ (by omega)
  go_enter Try.func105, Try.ntmps105
  go_wp2
  go_ret
  exact ⟨rfl, (Below.refl _ w).alloc (Nat.le_refl _) _⟩

def turnedPB (p : Pl) : Bool := polyB p && polyB (turnP p)
def turnedP (p : Pl) : Pl := doneP (turnedPB p) (turnP p)

theorem turned_fit {w : World} {low : Int} {zs : List Int} {a : Option Addr} {n : Nat} {b : Bool} {p : Pl} (_ : Ints w a n zs) (_ : turnedPB ⟨low, zs⟩ = b) (hp : turnedP ⟨low, zs⟩ = p) : p.cs.length ≤ 200 := by
  unfold turnedP at hp
  refine doneP_len (fun h => ?_) hp
  unfold turnedPB at h
  simp only [Bool.and_eq_true] at h
  exact h.2
end Go.Proofs.Ytakfobihakbefaa

/- Division from the first coefficient on (mathematics). -/

namespace Go.Proofs.Ytakfobihakbefaa
open Go.RowKit

def listN (f : Nat → Int) (n : Nat) : List Int := (List.range n).map f
theorem listN_len (f : Nat → Int) (n : Nat) : (listN f n).length = n := by simp [listN]
theorem listN_get {f : Nat → Int} {n i : Nat} (h : i < n) : (listN f n).getD i 0 = f i := by simp [listN, h]
theorem listN_elem {f : Nat → Int} {n i : Nat} (h : i < (listN f n).length) : (listN f n)[i] = f i := by simp [listN]
theorem listN_set {f g : Nat → Int} {x : Int} {n j : Nat} (hg : ∀ k, k ≠ j → g k = f k) (hx : g j = x) : (intsV (listN f n)).set j (.int .i64 x) = intsV (listN g n) := by
  unfold intsV listN
  refine List.ext_getElem (by simp) fun i h1 h2 => ?_
  by_cases e : j = i
  · subst e
    simp [hx]
  · simp [List.getElem_set_ne e, hg i (by omega)]
theorem listN_congr {f g : Nat → Int} {n : Nat} (h : ∀ i, i < n → f i = g i) : listN f n = listN g n :=
  List.map_congr_left fun i hi => h i (List.mem_range.1 hi)
theorem listN_self (l : List Int) : listN (fun i => l.getD i 0) l.length = l :=
  eq_getD (listN_len _ _) fun i hi => listN_get (by rwa [listN_len] at hi)
theorem listN_cell {f : Nat → Int} {n j : Nat} (h : j < n) : (intsV (listN f n))[j]? = some (.int .i64 (f j)) := by
  simp [intsV, listN, h]

/-- What is left when a polynomial has been taken out so many times. -/
def subQ (q : Int) (bs left : List Int) : List Int := listN (fun i => left.getD i 0 - q * bs.getD i 0) left.length
theorem subQ_len (q : Int) (bs left : List Int) : (subQ q bs left).length = left.length := listN_len _ _
theorem subQ_get (q : Int) (bs left : List Int) (i : Nat) (hb : bs.length ≤ left.length) : (subQ q bs left).getD i 0 = left.getD i 0 - q * bs.getD i 0 := by
  by_cases h : i < left.length
  · exact listN_get h
  · rw [getD_far (by rw [subQ_len]; omega), getD_far (l := left) (by omega), getD_far (l := bs) (by omega), Int.mul_zero]; rfl
def leftIn (z : Int) : Bool := inR (-4000000000000000000) 4000000000000000000 z
/-- A step succeeds: how many times, and that it may be so. -/
def stepB (bs left : List Int) : Bool :=
  decide ((left.getD 0 0).tmod (bs.getD 0 0) = 0) && (coefIn ((left.getD 0 0).tdiv (bs.getD 0 0)) && (List.range bs.length).all fun i => leftIn (left.getD i 0 - (left.getD 0 0).tdiv (bs.getD 0 0) * bs.getD i 0))
def stepQ (bs left : List Int) : Int := (left.getD 0 0).tdiv (bs.getD 0 0)
/-- The quotient's coefficients from the first one on, and what is left. -/
def divGo (bs : List Int) : Nat → List Int → Option (List Int × List Int)
  | 0, left => some ([], left)
  | n + 1, left => if stepB bs left then (divGo bs n (subQ (stepQ bs left) bs left).tail).map fun p => (stepQ bs left :: p.1, p.2) else none
def zeroL (l : List Int) : Bool := l.all fun z => decide (z = 0)
def overQ (a b : Pl) : Option Pl :=
  if a.cs.length = 0 then some a else
  match divGo b.cs (a.cs.length + 1 - b.cs.length) a.cs with
  | some p => if zeroL p.2 then some (tidyP (a.low - b.low) p.1) else none
  | none => none
/-- Whether the second one divides the first one, and what comes out. -/
def overB (a b : Pl) : Bool := match overQ a b with
  | some p => polyB p
  | none => false
def overP (a b : Pl) : Pl := match overQ a b with
  | some p => doneP (polyB p) p
  | none => ⟨0, []⟩
theorem tail_get (l : List Int) (i : Nat) : l.tail.getD i 0 = l.getD (i + 1) 0 := by
  cases l with
  | nil => rfl
  | cons x r => simp

end Go.Proofs.Ytakfobihakbefaa

/- The program's opposite and plain. -/

namespace Go.Proofs.Ytakfobihakbefaa
open Go.RowKit

theorem getD_map {f : Int → Int} (hf : f 0 = 0) (l : List Int) (i : Nat) : (l.map f).getD i 0 = f (l.getD i 0) := by
  rw [List.getD_eq_getElem?_getD, List.getD_eq_getElem?_getD, List.getElem?_map]
  cases l[i]? with
  | none => exact hf.symm
  | some z => rfl
theorem polyB_yes {p : Pl} (h0 : 0 < p.cs.length) (hc : ∀ z ∈ p.cs, coefIn z = true) (hl : p.cs.length ≤ 200) (h1 : -300 ≤ p.low) (h2 : p.low ≤ 300) (hf : p.cs.getD 0 0 ≠ 0) (he : p.cs.getD (p.cs.length - 1) 0 ≠ 0) : polyB p = true := by
  unfold polyB inR
  rw [List.all_eq_true.2 hc, if_neg (by omega), decide_eq_true hl, decide_eq_true h1, decide_eq_true h2, decide_eq_false hf, decide_eq_false he]
  rfl
theorem polyB_coef {p : Pl} (h : polyB p = true) : ∀ z ∈ p.cs, coefIn z = true := by
  unfold polyB at h
  rw [Bool.and_eq_true] at h
  exact List.all_eq_true.1 h.1
theorem plain_polyB {p : Pl} (h : polyB p = true) : polyB (plainP p) = true := by
  obtain ⟨hT, hl, h1, h2, hc⟩ := polyB_trim h
  unfold plainP
  by_cases h0 : p.cs.length = 0
  · rw [if_pos h0]; exact h
  · rw [if_neg h0]
    rcases hT with ⟨h3, _⟩ | ⟨_, hf, he⟩
    · rw [h3] at h0; exact absurd rfl h0
    · refine polyB_yes (by show 0 < (List.map _ p.cs).length; rw [List.length_map]; omega) (fun z hz => ?_) (by show (List.map _ p.cs).length ≤ 200; rw [List.length_map]; exact hl) (by show (-300 : Int) ≤ 0; omega) (by show (0 : Int) ≤ 300; omega) ?_ ?_
      · obtain ⟨y, hy, rfl⟩ := List.mem_map.1 hz
        have := coefIn_yes (polyB_coef h y hy)
        unfold coefIn inR
        split <;> simp <;> omega
      · show (List.map _ p.cs).getD 0 0 ≠ 0
        rw [getD_map (by simp)]
        split <;> omega
      · show (List.map _ p.cs).getD ((List.map _ p.cs).length - 1) 0 ≠ 0
        rw [getD_map (by simp), List.length_map]
        split <;> omega
theorem listN_map (f : Int → Int) (zs : List Int) : listN (fun i => f (zs.getD i 0)) zs.length = zs.map f := by
  refine eq_getD (by rw [listN_len, List.length_map]) fun i hi => ?_
  rw [listN_len] at hi
  rw [listN_get hi, List.getD_eq_getElem?_getD, List.getD_eq_getElem?_getD, List.getElem?_map, List.getElem?_eq_getElem hi]
  rfl

/-- The coefficients turned to their opposites. -/
def oppL (zs : List Int) : List Int := zs.map fun z => -1 * z
theorem oppL_len (zs : List Int) : (oppL zs).length = zs.length := by simp [oppL]

set_option maxRecDepth 100000 in
set_option maxHeartbeats 4000000 in
theorem opposite_any (low : Int) (zs : List Int) (a : Option Addr) (cap n : Nat) (w : World) (hs : Ints w a n zs) (hn : n ≤ 1048576) (hcs : ∀ i, -1000000000 ≤ zs.getD i 0 ∧ zs.getD i 0 ≤ 1000000000) :
    Calls Try.prog 102 #[plV low (.slice a n cap)] w fun e w' => (∃ v, e = .returned (plV low v) ∧ IntRow w.heap.size w' v (oppL zs)) ∧ Below w.heap.size w w' := by
  obtain ⟨W, hW⟩ : ∃ W, (w.alloc (.cells #[.int .i64 low, .slice a n cap] 25)).alloc (.cells #[.int .i64 0, .slice none 0 0] 25) = W := ⟨_, rfl⟩
  obtain ⟨hbW, hsz⟩ := boxResBelow hW
  have HC : Hid (∀ w1, Below W.heap.size W w1 → _) := Lib.hid fun w1 (hg : Below W.heap.size W w1) => boxResCells hW hg
  have HCL := Lib.hid (cloneI_any a cap n zs W (hs.below hbW) hn)
  have HL := Lib.hid hs.len
  have HCS := Lib.hid hcs
  have HBW := Lib.hid hbW
  have HW := Lib.hid hW
  clear hW hbW hs hcs
  go_enter Try.func102, Try.ntmps102
  go_wp2_with fail
  rw [HW.out]
  refine HCL.out.mono ?_
  rintro e w1 ⟨⟨v, rfl, hr⟩, hb1⟩
  have hs1 := hb1.size
  have HB1 := Lib.hid hb1
  obtain ⟨a1, g1, cap1, rfl, _, _, _⟩ := hr.shape
  unfold IntRow at hr
  rw [HL.out] at hr
  rw [HL.out]
  have HR0 : Hid (w1.ownsRow W.heap.size 3 1 (.slice a1 n cap1) n (intsV (listN (fun i => if i < 0 then -zs.getD i 0 else zs.getD i 0) n))) := Lib.hid (by
    have e : listN (fun i => if i < 0 then -zs.getD i 0 else zs.getD i 0) n = zs := by
      rw [← HL.out]
      exact (listN_congr fun i _ => if_neg (Nat.not_lt_zero _)).trans (listN_self zs)
    rw [e]
    exact hr)
  clear hb1 hr
  go_wp2
  go_loopw [10] (fun i wr => ∃ k : Nat, k ≤ n ∧ i = .int .i64 (k : Int) ∧ Hid (wr.ownsRow W.heap.size 3 1 (.slice a1 n cap1) n (intsV (listN (fun i => if i < k then -zs.getD i 0 else zs.getD i 0) n))) ∧ Hid (Below W.heap.size W wr)) (fun i _ => n - (intOf i).toNat)
  case atStart => exact ⟨0, Nat.zero_le _, rfl, HR0, HB1⟩
  case round =>
    obtain ⟨k, hk, rfl, HR, HB⟩ := hrel
    by_cases hlt : k < n
    · obtain ⟨g, rfl, hg⟩ : ∃ g, a1 = some ⟨g, 0, none⟩ ∧ W.heap.size ≤ g := by
        rcases HR.out.2 with ⟨_, e1⟩ | ⟨g, cap1, cur, e0, hg, _⟩
        · omega
        · simp only [Value.slice.injEq] at e0; exact ⟨g, e0.1, hg⟩
      obtain ⟨z, hz⟩ : ∃ z, zs.getD k 0 = z := ⟨_, rfl⟩
      have hb := HCS.out k
      rw [hz] at hb
      obtain ⟨hb1, hb2⟩ := hb
      have hck : wr.cell? ⟨g, k, none⟩ = some (.int .i64 z) := by
        rw [HR.out.cellAt _ (by omega), listN_cell hlt, if_neg (Nat.lt_irrefl _), hz]
      have hfk := HR.out.frozenAt k
      have hwr : IntKind.i64.wrap (-z) = -z := IntWalk.i64_in _ (by omega)
      have HST : Hid ((intsV (listN (fun i => if i < k then -zs.getD i 0 else zs.getD i 0) n)).set k (.int .i64 (-z)) = intsV (listN (fun i => if i < k + 1 then -zs.getD i 0 else zs.getD i 0) n)) := Lib.hid (listN_set (fun i hi => by
        by_cases h : i < k
        · rw [if_pos h, if_pos (by omega)]
        · rw [if_neg h, if_neg (by omega)]) (by rw [if_pos (Nat.lt_succ_self k), hz]))
      clear hz
      go_wp2
      go_roundw
      case rel =>
        have h1 := HR.out.stored k (.int .i64 (-z))
        refine ⟨k + 1, by omega, by go_num, Lib.hid ?_, Lib.hid (HB.out.setCell (p := ⟨g, k, none⟩) hg _)⟩
        rw [← HST.out]
        exact h1.1
      case measure => simp [intOf]; omega
    · obtain rfl : k = n := by omega
      have hr := HR.out
      have HP : Hid (listN (fun i => if i < k then -zs.getD i 0 else zs.getD i 0) k = oppL zs) := Lib.hid (by
        unfold oppL
        rw [← listN_map, HL.out]
        exact listN_congr fun i hi => by rw [if_pos hi]; omega)
      have hR : IntRow W.heap.size wr (.slice a1 k cap1) (oppL zs) := by
        rw [HP.out] at hr
        exact rowI hr (by rw [oppL_len]; exact HL.out)
      have HRR := Lib.hid hR
      obtain ⟨q0, q1, d0, d1, f0, f1⟩ := HC.out _ HB.out
      clear hr hR
      go_wp2
      refine bodyPost_ret (v := plV low (.slice a1 k cap1)) ?_ rfl ⟨⟨_, rfl, ?_⟩, ?_⟩
      · simp [results, Try.results102, go_sem, d0, d1, plV]
      · exact resRow1 (.int .i64 low) (.slice a1 k cap1) HRR.out (by omega)
      · exact resBelow1 (.int .i64 low) (.slice a1 k cap1) (HBW.out.trans (HB.out.mono HBW.out.size))

set_option maxRecDepth 100000 in
set_option maxHeartbeats 4000000 in
theorem plain_any (low : Int) (zs : List Int) (a : Option Addr) (cap n : Nat) (w : World) (hs : Ints w a n zs) (hc : n ≤ cap) (h0 : 0 < n) (hn : n ≤ 1048576) (hcs : ∀ i, -1000000000 ≤ zs.getD i 0 ∧ zs.getD i 0 ≤ 1000000000) :
    Calls Try.prog 72 #[plV low (.slice a n cap)] w fun e w' => (∃ v, e = .returned (plV 0 v) ∧ Reads w' v (plainP ⟨low, zs⟩).cs) ∧ Below w.heap.size w w' := by
  obtain ⟨W, hW⟩ : ∃ W, ((w.alloc (.cells #[.int .i64 low, .slice a n cap] PT)).alloc (.cells #[.int .i64 0, .slice none 0 0] PT)).alloc (.cells #[.int .i64 0, .slice a n cap] 25) = W := ⟨_, rfl⟩
  have hsz : W.heap.size = w.heap.size + 3 := by rw [← hW]; simp
  have hbW : Below w.heap.size w W := by rw [← hW]; exact (((Below.refl _ w).alloc (Nat.le_refl _) _).alloc (by simp) _).alloc (by simp; omega) _
  have HC : Hid (∀ w1, Below W.heap.size W w1 → w1.cell? ⟨w.heap.size, 0, none⟩ = some (.int .i64 low) ∧ w1.cell? ⟨w.heap.size, 1, none⟩ = some (.slice a n cap) ∧ w1.cell? ⟨w.heap.size + 1, 0, none⟩ = some (.int .i64 0) ∧ w1.cell? ⟨w.heap.size + 1, 1, none⟩ = some (.slice none 0 0) ∧ w1.cell? ⟨w.heap.size + 1 + 1, 0, none⟩ = some (.int .i64 0) ∧ w1.cell? ⟨w.heap.size + 1 + 1, 1, none⟩ = some (.slice a n cap) ∧ w1.frozen? ⟨w.heap.size + 1, 0, none⟩ = false ∧ w1.frozen? ⟨w.heap.size + 1, 1, none⟩ = false ∧ w1.frozen? ⟨w.heap.size + 1 + 1, 0, none⟩ = false ∧ w1.frozen? ⟨w.heap.size + 1 + 1, 1, none⟩ = false) := Lib.hid fun w1 hg => by
    have e0 := hg.block w.heap.size (by omega)
    have e1 := hg.block (w.heap.size + 1) (by omega)
    have e2 := hg.block (w.heap.size + 1 + 1) (by omega)
    have k0 : W.heap[w.heap.size]? = some (.cells #[.int .i64 low, .slice a n cap] PT (0, 0)) := by
      rw [← hW, Below.heap_alloc _ _ _ (by simp; omega), Below.heap_alloc _ _ _ (by simp)]
      exact World.alloc_heap_new w _
    have k1 : W.heap[w.heap.size + 1]? = some (.cells #[.int .i64 0, .slice none 0 0] PT (0, 0)) := by
      rw [← hW, Below.heap_alloc _ _ _ (by simp)]
      have h := World.alloc_heap_new (w.alloc (.cells #[.int .i64 low, .slice a n cap] PT)) (.cells #[.int .i64 0, .slice none 0 0] PT)
      rwa [World.size_alloc] at h
    have k2 : W.heap[w.heap.size + 1 + 1]? = some (.cells #[.int .i64 0, .slice a n cap] 25 (0, 0)) := by
      rw [← hW]
      have h := World.alloc_heap_new ((w.alloc (.cells #[.int .i64 low, .slice a n cap] PT)).alloc (.cells #[.int .i64 0, .slice none 0 0] PT)) (.cells #[.int .i64 0, .slice a n cap] 25)
      rwa [World.size_alloc, World.size_alloc] at h
    rw [k0] at e0
    rw [k1] at e1
    rw [k2] at e2
    refine ⟨?_, ?_, ?_, ?_, ?_, ?_, ?_, ?_, ?_, ?_⟩ <;> simp [World.cell?, World.frozen?, e0, e1, e2]
  have HS := Lib.hid hs
  have HSW := Lib.hid (hs.below hbW)
  have HL := Lib.hid hs.len
  have HCS := Lib.hid hcs
  have HBW := Lib.hid hbW
  have HW := Lib.hid hW
  obtain ⟨x, rfl, hxb, hx⟩ := hs.at_ h0
  have hz0 := hx 0 (by rw [hs.len]; exact h0)
  have hz1 : W.cell? (x.add 0) = some (.int .i64 (zs[0]'(by rw [hs.len]; exact h0))) := (hbW.cell (p := x.add 0) (by rw [addr_add_block]; exact hxb)).trans hz0
  rw [show x.add 0 = x by simp [Addr.add]] at hz1
  obtain ⟨z0, hz⟩ : ∃ z, zs.getD 0 0 = z := ⟨_, rfl⟩
  have hzz : zs[0]'(by rw [hs.len]; exact h0) = z0 := by rw [← hz, List.getD_eq_getElem?_getD, List.getElem?_eq_getElem (by rw [hs.len]; exact h0)]; rfl
  rw [hzz] at hz1
  have HZ := Lib.hid hz
  have h0i : (0 : Int) < (n : Int) := by omega
  have hsW := hbW.size
  obtain ⟨q0, q1, r0, r1, d0, d1, f0, f1, g0, g1⟩ := HC.out W (Below.refl _ _)
  clear hW hbW hs hcs hx hxb hz0 hz hzz
  go_enter Try.func72, Try.ntmps72
  by_cases hneg : z0 < 0
  · have hnd : decide (z0 < 0) = true := decide_eq_true hneg
    go_wp2_with (first | rw [HW.out] | fail)
    refine (opposite_any 0 zs (some x) cap n W HSW.out hn HCS.out).mono ?_
    rintro e w1 ⟨⟨v, rfl, hr⟩, hb1⟩
    obtain ⟨q0, q1, r0, r1, d0, d1, f0, f1, g0, g1⟩ := HC.out w1 hb1
    have HP : Hid ((plainP ⟨low, zs⟩).cs = oppL zs) := Lib.hid (by
      unfold plainP oppL
      rw [if_neg (by show ¬ zs.length = 0; rw [HL.out]; omega)]
      show zs.map (fun z => (if zs.getD 0 0 < 0 then -1 else 1) * z) = _
      rw [if_pos (by rw [HZ.out]; exact hneg)])
    have hbd : ∀ z ∈ oppL zs, -9223372036854775808 ≤ z ∧ z ≤ 9223372036854775807 := fun z hz => by
      obtain ⟨y, hy, rfl⟩ := List.mem_map.1 hz
      obtain ⟨i, hi, rfl⟩ := List.getElem_of_mem hy
      have := HCS.out i
      rw [List.getD_eq_getElem?_getD, List.getElem?_eq_getElem hi, Option.getD_some] at this
      omega
    obtain ⟨a2, cap2, rfl, _, _⟩ := hr.readc hbd
    have HR := Lib.hid hr
    have HB1 := Lib.hid hb1
    have HBD := Lib.hid hbd
    obtain ⟨r, hr⟩ : ∃ r, (oppL zs).length = r := ⟨_, rfl⟩
    have HRL := Lib.hid hr
    rw [hr] at HR ⊢
    clear hb1 hbd hr
    go_wp2
    have hrow := ownsRow_setCell_below (ownsRow_setCell_below (ownsRow_setCell_below (ownsRow_setCell_below HR.out (a := ⟨w.heap.size + 1 + 1, 0, none⟩) (by show w.heap.size + 1 + 1 < W.heap.size; omega) (.int .i64 0)) (a := ⟨w.heap.size + 1 + 1, 1, none⟩) (by show w.heap.size + 1 + 1 < W.heap.size; omega) (.slice a2 r cap2)) (a := ⟨w.heap.size + 1, 0, none⟩) (by show w.heap.size + 1 < W.heap.size; omega) (.int .i64 0)) (a := ⟨w.heap.size + 1, 1, none⟩) (by show w.heap.size + 1 < W.heap.size; omega) (.slice a2 r cap2)
    have hbel := ((((HBW.out.trans (HB1.out.mono HBW.out.size)).setCell (p := ⟨w.heap.size + 1 + 1, 0, none⟩) (by show w.heap.size ≤ w.heap.size + 1 + 1; omega) (.int .i64 0)).setCell (p := ⟨w.heap.size + 1 + 1, 1, none⟩) (by show w.heap.size ≤ w.heap.size + 1 + 1; omega) (.slice a2 r cap2)).setCell (p := ⟨w.heap.size + 1, 0, none⟩) (by show w.heap.size ≤ w.heap.size + 1; omega) (.int .i64 0)).setCell (p := ⟨w.heap.size + 1, 1, none⟩) (by show w.heap.size ≤ w.heap.size + 1; omega) (.slice a2 r cap2)
    refine bodyPost_ret (v := plV 0 (.slice a2 r cap2)) ?_ rfl ⟨⟨_, rfl, ?_⟩, hbel⟩
    · simp [results, Try.results72, go_sem, r0, r1, plV]
    · rw [HP.out]
      exact IntRow.reads hrow HBD.out
  · have hnd : decide (z0 < 0) = false := decide_eq_false hneg
    have HP : Hid ((plainP ⟨low, zs⟩).cs = zs) := Lib.hid (by
      unfold plainP
      rw [if_neg (by show ¬ zs.length = 0; rw [HL.out]; omega)]
      show zs.map (fun z => (if zs.getD 0 0 < 0 then -1 else 1) * z) = _
      rw [if_neg (by rw [HZ.out]; exact hneg), ← listN_map]
      exact (listN_congr fun i _ => Int.one_mul _).trans (listN_self zs))
    go_wp2_with (first | rw [HW.out] | fail)
    have hbel := (HBW.out.setCell (p := ⟨w.heap.size + 1, 0, none⟩) (by show w.heap.size ≤ w.heap.size + 1; omega) (.int .i64 0)).setCell (p := ⟨w.heap.size + 1, 1, none⟩) (by show w.heap.size ≤ w.heap.size + 1; omega) (.slice (some x) n cap)
    refine bodyPost_ret (v := plV 0 (.slice (some x) n cap)) ?_ rfl ⟨⟨_, rfl, ?_⟩, hbel⟩
    · simp [results, Try.results72, go_sem, r0, r1, plV]
    · rw [HP.out]
      refine ⟨some x, cap, by rw [HL.out], by rw [HL.out]; exact hc, ?_⟩
      rw [HL.out]
      exact HS.out.below hbel

end Go.Proofs.Ytakfobihakbefaa

/- The program's PolyPlain and PolyOne. -/

namespace Go.Proofs.Ytakfobihakbefaa
open Go.RowKit

theorem plain_low {p : Pl} (h : 0 < p.cs.length) : (plainP p).low = 0 := by unfold plainP; rw [if_neg (by omega)]
theorem plain_len (p : Pl) : (plainP p).cs.length = p.cs.length := by
  unfold plainP
  split
  · rfl
  · exact List.length_map _

set_option maxRecDepth 100000 in
set_option maxHeartbeats 4000000 in
theorem iPolyPlain_any (low : Int) (zs : List Int) (a : Option Addr) (cap n : Nat) (b : Bool) (w : World) (hs : Ints w a n zs) (hcap : n ≤ cap) (hb : polyB ⟨low, zs⟩ = b) :
    Calls Try.prog 25 #[plV low (.slice a n cap)] w fun e w' => (∃ v, e = .returned (.tuple #[plV (doneP b (plainP ⟨low, zs⟩)).low v, .bool b]) ∧ IntRow w.heap.size w' v (doneP b (plainP ⟨low, zs⟩)).cs) ∧ Below w.heap.size w w' := by
  have hY := assert_yes
  have hN := assert_no
  obtain ⟨W, hW⟩ : ∃ W, (w.alloc (.cells #[.int .i64 low, .slice a n cap] 25)).alloc (.cells #[.int .i64 0, .slice none 0 0] 25) = W := ⟨_, rfl⟩
  obtain ⟨hbW, hsz⟩ := boxTBelow hW
  have HC : Hid (∀ w1, Below W.heap.size W w1 → _) := Lib.hid fun w1 (hg : Below W.heap.size W w1) => boxT hW hg
  have HP := Lib.hid (iPolyIn_any low zs a cap n b W (hs.below hbW) hcap hb)
  have HS := Lib.hid (hs.below hbW)
  have HL := Lib.hid hs.len
  have HB := Lib.hid hb
  have HBW := Lib.hid hbW
  have HW := Lib.hid hW
  clear hW hbW hs hb
  go_enter Try.func25, Try.ntmps25
  go_wp2_with fail
  rw [HW.out]
  refine HP.out.mono ?_
  rintro e w1 ⟨rfl, hb1⟩
  obtain ⟨q0, q1, d0, d1, f0, f1⟩ := HC.out w1 hb1
  have hs1 := hb1.size
  have HB1 := Lib.hid hb1
  clear hb1
  cases b with
  | false =>
    go_wp2
    refine bodyPost_ret (v := .tuple #[plV 0 (.slice none 0 0), .bool false]) ?_ rfl ⟨⟨_, rfl, intNil _ _⟩, resBelow1 (.int .i64 0) (.slice none 0 0) (HBW.out.trans (HB1.out.mono HBW.out.size))⟩
    simp [results, Try.results25, go_sem, d0, d1, plV]
  | true =>
    obtain ⟨hT, h200, hlo, hhi, hcs⟩ := polyB_trim HB.out
    have hn2 : n ≤ 200 := by rw [← HL.out]; exact h200
    have hlo1 : -300 ≤ low := hlo
    have hhi1 : low ≤ 300 := hhi
    have HSF : Hid (tidyP low zs = ⟨low, zs⟩) := Lib.hid (tidy_self hT)
    have HCS : Hid (∀ i, -1000000000 ≤ zs.getD i 0 ∧ zs.getD i 0 ≤ 1000000000) := Lib.hid hcs
    have HA := Lib.hid (apart_in low zs a cap n w1 (HS.out.below HB1.out) hcap (by omega) (by omega) (by omega))
    clear hcs h200 hlo hhi hT
    go_wp2_with fail
    refine HA.out.mono ?_
    rintro e w2 ⟨⟨v, rfl, hA⟩, hb2⟩
    rw [HSF.out] at hA
    have hs2 := hb2.size
    have HB2 := Lib.hid (HB1.out.trans (hb2.mono hs1))
    obtain ⟨_, _, d0, d1, f0, f1⟩ := HC.out w2 HB2.out
    clear hb2
    rcases hA with ⟨hq, rfl⟩ | ⟨hq, a1, cap1, rfl, hc1, hi1⟩
    · have hz : zs = [] := List.length_eq_zero_iff.1 hq
      have hl : low = 0 := by
        have hT := (polyB_trim HB.out).1
        rcases hT with ⟨_, h⟩ | ⟨h, _⟩
        · exact h
        · exact absurd hz h
      subst hl
      subst hz
      clear hq
      go_wp2
      refine bodyPost_ret (v := .tuple #[plV 0 (.slice none 0 0), .bool true]) ?_ rfl ⟨⟨_, rfl, intNil _ _⟩, resBelow1 (.int .i64 0) (.slice none 0 0) (HBW.out.trans (HB2.out.mono HBW.out.size))⟩
      simp [results, Try.results25, go_sem, d0, d1, plV]
    · have hq0 : 0 < zs.length := hq
      have hlz : zs.length = n := HL.out
      obtain ⟨V, hV⟩ : ∃ V, w2.alloc (.cells #[.int .i64 low, .slice a1 n cap1] PT) = V := ⟨_, rfl⟩
      have hbV : Below w2.heap.size w2 V := by rw [← hV]; exact (Below.refl _ _).alloc (Nat.le_refl _) _
      have hsV := hbV.size
      have HBV := Lib.hid (HB2.out.trans (hbV.mono (by omega)))
      have hi2 : Ints w2 a1 n zs := by have h : Ints w2 a1 zs.length zs := hi1; rwa [hlz] at h
      have HPL := Lib.hid (plain_any low zs a1 cap1 n V (hi2.below hbV) (Nat.le_trans (Nat.le_of_eq hlz.symm) (by assumption)) (by omega) (by omega) HCS.out)
      rw [show (⟨low, zs⟩ : Pl).cs.length = n from hlz]
      have HV := Lib.hid hV
      clear hV hbV hi1 hi2
      go_wp2_with fail
      rw [HV.out]
      refine HPL.out.mono ?_
      rintro e w3 ⟨⟨v, rfl, hr⟩, hb3⟩
      have hs3 := hb3.size
      have HB3 := Lib.hid (HBV.out.trans (hb3.mono (by omega)))
      have hPB : polyB (plainP ⟨low, zs⟩) = true := plain_polyB HB.out
      have hPL : (plainP ⟨low, zs⟩).low = 0 := plain_low hq0
      obtain ⟨a3, cap3, rfl, hc3, hi3⟩ := hr
      have hF : fitsB 0 (plainP ⟨low, zs⟩).cs = true := by
        have h := fits_polyB (polyB_trim hPB).1 (by rw [plain_len]; exact hq0)
        rwa [hPL, hPB] at h
      have HTO := Lib.hid (toldP_any 0 (plainP ⟨low, zs⟩).cs a3 cap3 _ true w3 hi3 hF)
      have HPLL := Lib.hid hPL
      clear hb3 hi3 hPB hPL hF
      go_wp2_with fail
      refine HTO.out.mono ?_
      rintro e w4 ⟨⟨v, rfl, hr⟩, hb4⟩
      have hr : IntRow w3.heap.size w4 v (plainP ⟨low, zs⟩).cs := hr
      obtain ⟨_, _, d0, d1, f0, f1⟩ := HC.out w4 (HB3.out.trans (hb4.mono (by omega)))
      have HR := Lib.hid hr
      have HB4 := Lib.hid (HBW.out.trans ((HB3.out.trans (hb4.mono (by omega))).mono HBW.out.size))
      obtain ⟨g4, gg, cap4, rfl, _⟩ := hr.shape
      clear hr hb4
      go_wp2
      refine bodyPost_ret (v := .tuple #[plV 0 (.slice g4 (plainP ⟨low, zs⟩).cs.length cap4), .bool true]) ?_ rfl ⟨⟨.slice g4 (plainP ⟨low, zs⟩).cs.length cap4, ?_, resRow1 (.int .i64 0) (.slice g4 (plainP ⟨low, zs⟩).cs.length cap4) HR.out (by omega)⟩, resBelow1 (.int .i64 0) (.slice g4 (plainP ⟨low, zs⟩).cs.length cap4) HB4.out⟩
      · simp [results, Try.results25, go_sem, d0, d1, plV, doneP]
      · show _ = Ending.returned (.tuple #[plV (plainP ⟨low, zs⟩).low _, .bool true])
        rw [HPLL.out]

def plainedP (p : Pl) : Pl := doneP (polyB p) (plainP p)
theorem plained_fit {w : World} {low : Int} {zs : List Int} {a : Option Addr} {n : Nat} {b : Bool} {p : Pl} (_ : Ints w a n zs) (_ : polyB ⟨low, zs⟩ = b) (hp : plainedP ⟨low, zs⟩ = p) : p.cs.length ≤ 200 :=
  doneP_len plain_polyB hp
theorem sPolyPlain_law {low : Int} {zs : List Int} {a : Option Addr} {n : Nat} {b : Bool} {pl : Int} {pc : List Int} {w : World} (hs : Ints w a n zs) (hb : polyB ⟨low, zs⟩ = b) (hp : plainedP ⟨low, zs⟩ = ⟨pl, pc⟩) :
    Calls Try.prog 26 #[plV low (.slice a n n)] w fun e w' => (∃ v, e = .returned (.tuple #[plV pl v, .bool b]) ∧ IntRow w.heap.size w' v pc) ∧ Below w.heap.size w w' := by
  have h := sPolyPlain_any low zs a n n b w hs hb
  unfold plainedP at hp
  rwa [← hb, hp, hb] at h
theorem iPolyPlain_law {low : Int} {zs : List Int} {a : Option Addr} {n : Nat} {b : Bool} {pl : Int} {pc : List Int} {w : World} (hs : Ints w a n zs) (hb : polyB ⟨low, zs⟩ = b) (hp : plainedP ⟨low, zs⟩ = ⟨pl, pc⟩) :
    Calls Try.prog 25 #[plV low (.slice a n n)] w fun e w' => (∃ v, e = .returned (.tuple #[plV pl v, .bool b]) ∧ IntRow w.heap.size w' v pc) ∧ Below w.heap.size w w' := by
  have h := iPolyPlain_any low zs a n n b w hs (Nat.le_refl _) hb
  unfold plainedP at hp
  rwa [← hb, hp, hb] at h

end Go.Proofs.Ytakfobihakbefaa

/- min and max of ints; the model's l6pSum. -/

namespace Go.Proofs.Ytakfobihakbefaa
open Go.RowKit

theorem min_int (x y : Int) (W : World) : (Builtin.min_ #[3, 3] 3 #[.int .i64 x, .int .i64 y]).run Try.prog W = .ok (.int .i64 (if x ≤ y then x else y)) W := by
  by_cases h : x ≤ y
  · rw [if_pos h]; simp [Builtin.min_, Builtin.min2, go_sem]; omega
  · rw [if_neg h]; simp [Builtin.min_, Builtin.min2, go_sem]; omega
theorem max_int (x y : Int) (W : World) : (Builtin.max_ #[3, 3] 3 #[.int .i64 x, .int .i64 y]).run Try.prog W = .ok (.int .i64 (if y ≤ x then x else y)) W := by
  by_cases h : y ≤ x
  · rw [if_pos h]; simp [Builtin.max_, Builtin.max2, go_sem]; omega
  · rw [if_neg h]; simp [Builtin.max_, Builtin.max2, go_sem]; omega

/-- Two boxes and the answer's cells behind them. -/
theorem boxes3 {w w1 W : World} {t1 t2 t3 : TypeId} {x y u v : Value} (hW : ((w.alloc (.cells #[x, y] t1)).alloc (.cells #[u, v] t2)).alloc (.cells #[.int .i64 0, .slice none 0 0] t3) = W) (hg : Below W.heap.size W w1) :
    (w1.cell? ⟨w.heap.size, 0, none⟩ = some x ∧ w1.cell? ⟨w.heap.size, 1, none⟩ = some y) ∧ (w1.cell? ⟨w.heap.size + 1, 0, none⟩ = some u ∧ w1.cell? ⟨w.heap.size + 1, 1, none⟩ = some v) ∧ (w1.cell? ⟨w.heap.size + 2, 0, none⟩ = some (.int .i64 0) ∧ w1.cell? ⟨w.heap.size + 2, 1, none⟩ = some (.slice none 0 0) ∧ w1.frozen? ⟨w.heap.size + 2, 0, none⟩ = false ∧ w1.frozen? ⟨w.heap.size + 2, 1, none⟩ = false) := by
  have hsz : W.heap.size = w.heap.size + 3 := by rw [← hW]; simp
  have e0 := hg.block w.heap.size (by omega)
  have e1 := hg.block (w.heap.size + 1) (by omega)
  have e2 := hg.block (w.heap.size + 2) (by omega)
  have c0 : W.heap[w.heap.size]? = some (.cells #[x, y] t1 (0, 0)) := by
    rw [← hW, Below.heap_alloc _ _ _ (by simp; omega), Below.heap_alloc _ _ _ (by simp)]
    exact World.alloc_heap_new w _
  have c1 : W.heap[w.heap.size + 1]? = some (.cells #[u, v] t2 (0, 0)) := by
    rw [← hW, Below.heap_alloc _ _ _ (by simp)]
    have h := World.alloc_heap_new (w.alloc (.cells #[x, y] t1)) (.cells #[u, v] t2)
    rwa [World.size_alloc] at h
  have c2 : W.heap[w.heap.size + 2]? = some (.cells #[.int .i64 0, .slice none 0 0] t3 (0, 0)) := by
    rw [← hW]
    have h := World.alloc_heap_new ((w.alloc (.cells #[x, y] t1)).alloc (.cells #[u, v] t2)) (.cells #[.int .i64 0, .slice none 0 0] t3)
    rwa [World.size_alloc, World.size_alloc] at h
  rw [c0] at e0
  rw [c1] at e1
  rw [c2] at e2
  refine ⟨⟨?_, ?_⟩, ⟨?_, ?_⟩, ?_, ?_, ?_, ?_⟩ <;> simp [World.cell?, World.frozen?, e0, e1, e2]
theorem boxes3Below {w W : World} {t1 t2 t3 : TypeId} {x y u v : Value} (hW : ((w.alloc (.cells #[x, y] t1)).alloc (.cells #[u, v] t2)).alloc (.cells #[.int .i64 0, .slice none 0 0] t3) = W) : Below w.heap.size w W ∧ W.heap.size = w.heap.size + 3 := by
  subst hW
  exact ⟨(((Below.refl _ w).alloc (Nat.le_refl _) _).alloc (by simp) _).alloc (by simp; omega) _, by simp⟩
theorem resRow2 {w2 : World} {r base : Nat} {v : Value} {zs : List Int} (x y : Value) (h : IntRow base w2 v zs) (hb : r + 2 < base) : IntRow r ((w2.setCell ⟨r + 2, 0, none⟩ x).setCell ⟨r + 2, 1, none⟩ y) v zs :=
  IntRow.mono (resRow (r := r + 2) x y h hb) (by omega)
theorem resBelow2 {w w2 : World} {r : Nat} (x y : Value) (h : Below r w w2) : Below r w ((w2.setCell ⟨r + 2, 0, none⟩ x).setCell ⟨r + 2, 1, none⟩ y) :=
  (h.setCell (p := ⟨r + 2, 0, none⟩) (Nat.le_add_right _ _) x).setCell (p := ⟨r + 2, 1, none⟩) (Nat.le_add_right _ _) y

set_option maxRecDepth 100000 in
set_option maxHeartbeats 8000000 in
theorem l6pSum_some (l1 l2 m : Int) (x y : List Int) (a1 a2 : Option Addr) (c1 c2 n1 n2 : Nat) (w : World) (h1 : Ints w a1 n1 x) (h2 : Ints w a2 n2 y) (h0 : 0 < n2)
    (hl1 : -100000 ≤ l1 ∧ l1 ≤ 100000) (hl2 : -100000 ≤ l2 ∧ l2 ≤ 100000) (hn1 : n1 ≤ 100000) (hn2 : n2 ≤ 100000)
    (hx : ∀ i, -4000000000000000000 ≤ x.getD i 0 ∧ x.getD i 0 ≤ 4000000000000000000) (hy : ∀ i, -4000000000000000000 ≤ m * y.getD i 0 ∧ m * y.getD i 0 ≤ 4000000000000000000) :
    Calls Try.prog 104 #[plV l1 (.slice a1 n1 c1), .int .i64 m, plV l2 (.slice a2 n2 c2)] w fun e w' => (∃ v, e = .returned (plV (sumP ⟨l1, x⟩ m ⟨l2, y⟩).low v) ∧ IntRow w.heap.size w' v (sumP ⟨l1, x⟩ m ⟨l2, y⟩).cs) ∧ Below w.heap.size w w' := by
  obtain ⟨i0, hi, hz0, hz1, hz2⟩ := info_parts infoInt
  have hmx : Try.prog.follows .mixedOrders = true := by kernel_rfl
  obtain ⟨W, hW⟩ : ∃ W, ((w.alloc (.cells #[.int .i64 l1, .slice a1 n1 c1] 25)).alloc (.cells #[.int .i64 l2, .slice a2 n2 c2] 25)).alloc (.cells #[.int .i64 0, .slice none 0 0] 25) = W := ⟨_, rfl⟩
  obtain ⟨hbW, hsz⟩ := boxes3Below hW
  have HC : Hid (∀ w1, Below W.heap.size W w1 → _) := Lib.hid fun w1 (hg : Below W.heap.size W w1) => boxes3 hW hg
  have hC := boxes3 hW (Below.refl _ _)
  rw [← hW] at hC
  obtain ⟨⟨p0, p1⟩, ⟨q0, q1⟩, _⟩ := hC
  obtain ⟨LO, hLO⟩ : ∃ LO, sumLow ⟨l1, x⟩ ⟨l2, y⟩ = LO := ⟨_, rfl⟩
  obtain ⟨HI, hHI⟩ : ∃ HI, sumHigh ⟨l1, x⟩ ⟨l2, y⟩ = HI := ⟨_, rfl⟩
  have hx1 := h1.len
  have hx2 := h2.len
  have hLO2 : LO = if n1 = 0 then l2 else (if l2 ≤ l1 then l2 else l1) := by rw [← hLO]; unfold sumLow; show (if x.length = 0 then _ else _) = _; rw [hx1]
  have hHI2 : HI = if n1 = 0 then l2 + n2 else (if l1 + n1 ≤ l2 + n2 then l2 + n2 else l1 + n1) := by rw [← hHI]; unfold sumHigh; show (if x.length = 0 then l2 + (y.length : Int) else if l1 + (x.length : Int) ≤ l2 + (y.length : Int) then l2 + (y.length : Int) else l1 + (x.length : Int)) = _; rw [hx1, hx2]
  have hLr : LO ≤ l2 ∧ (n1 = 0 ∨ LO ≤ l1) ∧ l2 + n2 ≤ HI ∧ (n1 = 0 ∨ l1 + n1 ≤ HI) ∧ -100000 ≤ LO ∧ HI ≤ 200000 := by
    rw [hLO2, hHI2]
    by_cases e : n1 = 0
    · rw [if_pos e, if_pos e]; omega
    · rw [if_neg e, if_neg e]
      refine ⟨?_, ?_, ?_, ?_, ?_, ?_⟩ <;> split <;> omega
  have HLO := Lib.hid hLO2
  have HHI := Lib.hid hHI2
  have HLO1 := Lib.hid hLO
  have HHI1 := Lib.hid hHI
  have H1 := Lib.hid (h1.below hbW)
  have H2 := Lib.hid (h2.below hbW)
  have HN1 := Lib.hid hx1
  have HN2 := Lib.hid hx2
  have HX := Lib.hid hx
  have HY := Lib.hid hy
  have HBW := Lib.hid hbW
  have HW := Lib.hid hW
  have h0i : ¬ (n2 : Int) = 0 := by omega
  have h0b : ((n2 : Int) == 0) = false := by simpa using h0i
  have hwe : IntKind.i64.wrap (l2 + (n2 : Int)) = l2 + (n2 : Int) := IntWalk.i64_in _ (by omega)
  have hwe1 : IntKind.i64.wrap (l1 + (n1 : Int)) = l1 + (n1 : Int) := IntWalk.i64_in _ (by omega)
  obtain ⟨hr1, hr2, hr3, hr4, hr5, hr6⟩ := hLr
  have hwN : IntKind.i64.wrap (HI - LO) = ((HI - LO).toNat : Int) := by rw [IntWalk.i64_in _ (by omega)]; omega
  obtain ⟨N, hN⟩ : ∃ N, (HI - LO).toNat = N := ⟨_, rfl⟩
  rw [hN] at hwN
  have hNb : N ≤ 300000 := by omega
  have hNI : (N : Int) = HI - LO := by omega
  have HNI := Lib.hid hNI
  have HNN := Lib.hid hN
  have HSZ := Lib.hid hsz
  clear hW hbW h1 h2 hx hy hLO hHI hLO2 hHI2 hx1 hx2 hN hNI hsz
  go_enter Try.func104, Try.ntmps104
  go_upto_if 28 with fail
  rw [HW.out]
  go_cut [7, 8] (fun s7 s8 wx => s7 = .int .i64 LO ∧ s8 = .int .i64 HI ∧ wx = W)
  case first =>
    obtain ⟨⟨p0, p1⟩, ⟨q0, q1⟩, _⟩ := HC.out W (Below.refl _ _)
    by_cases hn0 : n1 = 0
    · have hd : decide ((0 : Int) < (n1 : Int)) = false := decide_eq_false (by omega)
      go_wp2_with fail
      go_meet
      exact ⟨by rw [HLO.out, if_pos hn0], by rw [HHI.out, if_pos hn0], rfl⟩
    · have hd : decide ((0 : Int) < (n1 : Int)) = true := decide_eq_true (by omega)
      have hdi : (0 : Int) < (n1 : Int) := by omega
      have hmin : ∀ V : World, (Builtin.min_ #[3, 3] 3 #[.int .i64 l2, .int .i64 l1]).run Try.prog V = .ok (.int .i64 LO) V := fun V => by rw [min_int, HLO.out, if_neg hn0]
      have hmax : ∀ V : World, (Builtin.max_ #[3, 3] 3 #[.int .i64 (l2 + (n2 : Int)), .int .i64 (l1 + (n1 : Int))]).run Try.prog V = .ok (.int .i64 HI) V := fun V => by rw [max_int, HHI.out, if_neg hn0]
      go_wp2_with fail
      go_meet
      exact ⟨rfl, rfl, rfl⟩
  case rest =>
  obtain ⟨h7, h8, hw⟩ := hcut
  subst h7
  subst h8
  have hw := hw.symm
  subst hw
  clear HLO HHI hwe hwe1
  go_wp2_with (at_make; refine wpList_make_full _ rfl _ _ 23 rfl W.heap.size 3 i0 (.int .i64 0) 1 Try.underlying23 hi hz0 hz1 .i64 .i64 _ _ N rfl rfl rfl rfl (by rw [hz2]; omega) (by unfold maxLen; omega) (Nat.le_refl _) ?_; intro w1 hrow hgrow)
  rw [show (madeCells (Value.cells (.int .i64 0)) (N * 1)).toList = intsV (listP (upto (pat ⟨l1, x⟩) (l1 + (0 : Nat))) LO N) by
    rw [show Value.cells (.int .i64 0) = #[.int .i64 0] from rfl, toList_madeCells_one, listP_congr (g := fun _ => 0) (fun k _ _ => by rw [show l1 + ((0 : Nat) : Int) = l1 by omega]; exact upto_low ⟨l1, x⟩ k), listP_zero]; simp [intsV]] at hrow
  have HR1 := Lib.hid hrow
  have HB1 : Hid (Below W.heap.size W w1) := Lib.hid ((Below.refl _ _).grown hgrow (Nat.le_refl _) (fun k e => by cases e))
  clear hrow hgrow hwN
  go_loopw [10] (fun i wr => ∃ k : Nat, k ≤ n1 ∧ i = .int .i64 (k : Int) ∧ Hid (wr.ownsRow W.heap.size 3 1 (.slice (some ⟨W.heap.size, 0, none⟩) N N) N (intsV (listP (upto (pat ⟨l1, x⟩) (l1 + (k : Int))) LO N))) ∧ Hid (Below W.heap.size W wr)) (fun i _ => n1 - (intOf i).toNat)
  case atStart => exact ⟨0, Nat.zero_le _, rfl, HR1, HB1⟩
  case round =>
    obtain ⟨k, hk, rfl, HR, HB⟩ := hrel
    obtain ⟨⟨p0, p1⟩, ⟨q0, q1⟩, _⟩ := HC.out wr HB.out
    by_cases hlt : k < n1
    · obtain ⟨xa, rfl, hxb, hxc⟩ := H1.out.at_ (by omega)
      have hkx : k < x.length := by rw [HN1.out]; exact hlt
      obtain ⟨z, hz⟩ : ∃ z, x.getD k 0 = z := ⟨_, rfl⟩
      have hzz : x[k] = z := by rw [← hz, List.getD_eq_getElem?_getD, List.getElem?_eq_getElem hkx]; rfl
      have hcz : wr.cell? (xa.add k) = some (.int .i64 z) := by rw [← hzz]; exact (HB.out.cell (p := xa.add k) (by rw [addr_add_block]; exact hxb)).trans (hxc k hkx)
      obtain ⟨d, hd⟩ : ∃ d : Nat, l1 - LO = (d : Int) := ⟨(l1 - LO).toNat, by omega⟩
      obtain ⟨j, hj⟩ : ∃ j : Nat, d + k = j := ⟨_, rfl⟩
      have hNI := HNI.out
      have hjN : j < N := by omega
      have hjNi : (j : Int) < (N : Int) := by omega
      have hj0 : (0 : Int) ≤ (j : Int) := by omega
      have hki : (k : Int) < (n1 : Int) := by omega
      have hk0 : (0 : Int) ≤ (k : Int) := by omega
      have hw1 : IntKind.i64.wrap (l1 - LO) = (d : Int) := by rw [IntWalk.i64_in _ (by omega)]; exact hd
      have hw2 : IntKind.i64.wrap ((d : Int) + (k : Int)) = (j : Int) := by rw [IntWalk.i64_in _ (by omega)]; omega
      have hlj : LO + (j : Int) = l1 + (k : Int) := by omega
      have hck : wr.cell? ⟨W.heap.size, j, none⟩ = some (.int .i64 0) := by
        rw [HR.out.cellAt _ (by omega), listP_cell hjN, hlj, upto_here]
      have hfk := HR.out.frozenAt j
      have HST : Hid ((intsV (listP (upto (pat ⟨l1, x⟩) (l1 + (k : Int))) LO N)).set j (.int .i64 z) = intsV (listP (upto (pat ⟨l1, x⟩) (l1 + ((k + 1 : Nat) : Int))) LO N)) := Lib.hid (listP_set (fun q hq => by
          rw [show l1 + ((k + 1 : Nat) : Int) = l1 + (k : Int) + 1 by omega]
          exact upto_next (by omega)) (by
          rw [show l1 + ((k + 1 : Nat) : Int) = l1 + (k : Int) + 1 by omega, hlj, upto_at]
          exact (pat_at ⟨l1, x⟩ k).trans hz))
      clear hz hzz hxc hd hj hlj hNI
      go_wp2
      go_still_tail 13, hmx
      change wpList _ _ _ _ _ wr.drew
      obtain ⟨wd, hwd⟩ : ∃ wd, wr.drew = wd := ⟨_, rfl⟩
      have ec : wd.cell? ⟨W.heap.size, j, none⟩ = some (.int .i64 0) := by rw [← hwd]; exact hck
      have ef : wd.frozen? ⟨W.heap.size, j, none⟩ = false := by rw [← hwd]; exact hfk
      have HRd : Hid (wd.ownsRow W.heap.size 3 1 (.slice (some ⟨W.heap.size, 0, none⟩) N N) N (intsV (listP (upto (pat ⟨l1, x⟩) (l1 + (k : Int))) LO N))) := Lib.hid (by rw [← hwd]; exact HR.out.drew)
      have HBd : Hid (Below W.heap.size W wd) := Lib.hid (by rw [← hwd]; exact HB.out.drew)
      have ez : wd.cell? (xa.add k) = some (.int .i64 z) := by rw [← hwd]; exact hcz
      clear hck hfk hcz p0 p1 q0 q1
      obtain ⟨⟨p0, p1⟩, ⟨q0, q1⟩, _⟩ := HC.out wd HBd.out
      rw [hwd]
      clear hwd
      go_wp2
      go_roundw
      case rel =>
        have h1 := HRd.out.stored j (.int .i64 z)
        refine ⟨k + 1, by omega, by go_num, Lib.hid ?_, Lib.hid (HBd.out.setCell (p := ⟨W.heap.size, j, none⟩) (Nat.le_refl _) _)⟩
        rw [← HST.out]
        exact h1.1
      case measure => simp [intOf]; omega
    · obtain rfl : k = n1 := by omega
      have HR2 : Hid (wr.ownsRow W.heap.size 3 1 (.slice (some ⟨W.heap.size, 0, none⟩) N N) N (intsV (listP (fun z => pat ⟨l1, x⟩ z + upto (fun z => m * pat ⟨l2, y⟩ z) (l2 + ((0 : Nat) : Int)) z) LO N))) := Lib.hid (by
        have e : listP (upto (pat ⟨l1, x⟩) (l1 + (k : Int))) LO N = listP (fun z => pat ⟨l1, x⟩ z + upto (fun z => m * pat ⟨l2, y⟩ z) (l2 + ((0 : Nat) : Int)) z) LO N := listP_congr fun z _ _ => by
          have h1 := upto_high ⟨l1, x⟩ z
          rw [show (⟨l1, x⟩ : Pl).low + ((⟨l1, x⟩ : Pl).cs.length : Int) = l1 + (k : Int) by show l1 + (x.length : Int) = _; rw [HN1.out]] at h1
          rw [h1]
          unfold upto
          by_cases hz : z < l2 + ((0 : Nat) : Int)
          · rw [if_pos hz]
            show pat ⟨l1, x⟩ z = pat ⟨l1, x⟩ z + m * pat ⟨l2, y⟩ z
            rw [pat_low ⟨l2, y⟩ (by show z < l2; omega), Int.mul_zero, Int.add_zero]
          · rw [if_neg hz, Int.add_zero]
        rw [← e]
        exact HR.out)
      clear HR
      go_wp2
      go_loopw [11] (fun i wr => ∃ k : Nat, k ≤ n2 ∧ i = .int .i64 (k : Int) ∧ Hid (wr.ownsRow W.heap.size 3 1 (.slice (some ⟨W.heap.size, 0, none⟩) N N) N (intsV (listP (fun z => pat ⟨l1, x⟩ z + upto (fun z => m * pat ⟨l2, y⟩ z) (l2 + (k : Int)) z) LO N))) ∧ Hid (Below W.heap.size W wr)) (fun i _ => n2 - (intOf i).toNat)
      case atStart => exact ⟨0, Nat.zero_le _, rfl, HR2, HB⟩
      case round =>
        obtain ⟨k', hk', rfl, HR, HB⟩ := hrel
        obtain ⟨⟨p0, p1⟩, ⟨q0, q1⟩, _⟩ := HC.out wr HB.out
        by_cases hlt2 : k' < n2
        · obtain ⟨xa, rfl, hxb, hxc⟩ := H2.out.at_ (by omega)
          have hkx : k' < y.length := by rw [HN2.out]; exact hlt2
          obtain ⟨z, hz⟩ : ∃ z, y.getD k' 0 = z := ⟨_, rfl⟩
          have hzz : y[k'] = z := by rw [← hz, List.getD_eq_getElem?_getD, List.getElem?_eq_getElem hkx]; rfl
          have hcz : wr.cell? (xa.add k') = some (.int .i64 z) := by rw [← hzz]; exact (HB.out.cell (p := xa.add k') (by rw [addr_add_block]; exact hxb)).trans (hxc k' hkx)
          obtain ⟨u, hu⟩ : ∃ u, pat ⟨l1, x⟩ (l2 + (k' : Int)) = u := ⟨_, rfl⟩
          obtain ⟨q, hq⟩ : ∃ q, m * z = q := ⟨_, rfl⟩
          have hub : -4000000000000000000 ≤ u ∧ u ≤ 4000000000000000000 := by
            rw [← hu]
            unfold pat
            split
            · exact HX.out _
            · omega
          have hqb := HY.out k'
          rw [hz, hq] at hqb
          obtain ⟨hub1, hub2⟩ := hub
          obtain ⟨hqb1, hqb2⟩ := hqb
          obtain ⟨d, hd⟩ : ∃ d : Nat, l2 - LO = (d : Int) := ⟨(l2 - LO).toNat, by omega⟩
          obtain ⟨j, hj⟩ : ∃ j : Nat, d + k' = j := ⟨_, rfl⟩
          have hNI := HNI.out
          have hjN : j < N := by omega
          have hjNi : (j : Int) < (N : Int) := by omega
          have hj0 : (0 : Int) ≤ (j : Int) := by omega
          have hki : (k' : Int) < (n2 : Int) := by omega
          have hk0 : (0 : Int) ≤ (k' : Int) := by omega
          have hw1 : IntKind.i64.wrap (l2 - LO) = (d : Int) := by rw [IntWalk.i64_in _ (by omega)]; exact hd
          have hw2 : IntKind.i64.wrap ((d : Int) + (k' : Int)) = (j : Int) := by rw [IntWalk.i64_in _ (by omega)]; omega
          have hw3 : IntKind.i64.wrap (m * z) = q := by rw [hq]; exact IntWalk.i64_in _ (by omega)
          have hw4 : IntKind.i64.wrap (u + q) = u + q := IntWalk.i64_in _ (by omega)
          have hlj : LO + (j : Int) = l2 + (k' : Int) := by omega
          have hck : wr.cell? ⟨W.heap.size, j, none⟩ = some (.int .i64 u) := by
            rw [HR.out.cellAt _ (by omega), listP_cell hjN, hlj, upto_here, hu, Int.add_zero]
          have hfk := HR.out.frozenAt j
          have HST : Hid ((intsV (listP (fun z => pat ⟨l1, x⟩ z + upto (fun z => m * pat ⟨l2, y⟩ z) (l2 + (k' : Int)) z) LO N)).set j (.int .i64 (u + q)) = intsV (listP (fun z => pat ⟨l1, x⟩ z + upto (fun z => m * pat ⟨l2, y⟩ z) (l2 + ((k' + 1 : Nat) : Int)) z) LO N)) := Lib.hid (listP_set (fun p hp => by
              rw [show l2 + ((k' + 1 : Nat) : Int) = l2 + (k' : Int) + 1 by omega, upto_next (by omega)]) (by
              rw [show l2 + ((k' + 1 : Nat) : Int) = l2 + (k' : Int) + 1 by omega, hlj, upto_at, hu]
              show u + m * pat ⟨l2, y⟩ (l2 + (k' : Int)) = u + q
              rw [show pat ⟨l2, y⟩ (l2 + (k' : Int)) = z from (pat_at ⟨l2, y⟩ k').trans hz, hq]))
          clear hz hzz hxc hd hj hlj hNI hu hq
          go_wp2
          go_still_tail 25, hmx
          change wpList _ _ _ _ _ wr.drew
          obtain ⟨wd, hwd⟩ : ∃ wd, wr.drew = wd := ⟨_, rfl⟩
          have ec : wd.cell? ⟨W.heap.size, j, none⟩ = some (.int .i64 u) := by rw [← hwd]; exact hck
          have ef : wd.frozen? ⟨W.heap.size, j, none⟩ = false := by rw [← hwd]; exact hfk
          have HRd : Hid (wd.ownsRow W.heap.size 3 1 (.slice (some ⟨W.heap.size, 0, none⟩) N N) N (intsV (listP (fun z => pat ⟨l1, x⟩ z + upto (fun z => m * pat ⟨l2, y⟩ z) (l2 + (k' : Int)) z) LO N))) := Lib.hid (by rw [← hwd]; exact HR.out.drew)
          have HBd : Hid (Below W.heap.size W wd) := Lib.hid (by rw [← hwd]; exact HB.out.drew)
          have ez : wd.cell? (xa.add k') = some (.int .i64 z) := by rw [← hwd]; exact hcz
          clear hck hfk hcz p0 p1 q0 q1
          obtain ⟨⟨p0, p1⟩, ⟨q0, q1⟩, _⟩ := HC.out wd HBd.out
          rw [hwd]
          clear hwd
          go_wp2
          go_roundw
          case rel =>
            have h1 := HRd.out.stored j (.int .i64 (u + q))
            refine ⟨k' + 1, by omega, by go_num, Lib.hid ?_, Lib.hid (HBd.out.setCell (p := ⟨W.heap.size, j, none⟩) (Nat.le_refl _) _)⟩
            rw [← HST.out]
            exact h1.1
          case measure => simp [intOf]; omega
        · obtain rfl : k' = n2 := by omega
          have hpatb : ∀ z, -4000000000000000000 ≤ pat ⟨l1, x⟩ z ∧ pat ⟨l1, x⟩ z ≤ 4000000000000000000 := fun z => by
            unfold pat
            split
            · exact HX.out _
            · omega
          have hpatc : ∀ z, -4000000000000000000 ≤ m * pat ⟨l2, y⟩ z ∧ m * pat ⟨l2, y⟩ z ≤ 4000000000000000000 := fun z => by
            unfold pat
            split
            · exact HY.out _
            · rw [Int.mul_zero]; omega
          have e : listP (fun z => pat ⟨l1, x⟩ z + upto (fun z => m * pat ⟨l2, y⟩ z) (l2 + (k' : Int)) z) LO N = listP (sumF ⟨l1, x⟩ m ⟨l2, y⟩) LO N := listP_congr fun z _ _ => by
            unfold sumF upto
            by_cases hz : z < l2 + (k' : Int)
            · rw [if_pos hz]
            · rw [if_neg hz, pat_high ⟨l2, y⟩ (by show l2 + (y.length : Int) ≤ z; rw [HN2.out]; omega), Int.mul_zero]
          have hr : IntRow W.heap.size wr (.slice (some ⟨W.heap.size, 0, none⟩) N N) (listP (sumF ⟨l1, x⟩ m ⟨l2, y⟩) LO N) := by
            rw [← e]
            exact rowI HR.out (listP_len _ _ _)
          have hwf : ∀ z ∈ listP (sumF ⟨l1, x⟩ m ⟨l2, y⟩) LO N, -9223372036854775808 ≤ z ∧ z ≤ 9223372036854775807 := fun z hz => by
            unfold listP at hz
            obtain ⟨i, _, rfl⟩ := List.mem_map.1 hz
            have h1 := hpatb (LO + (i : Int))
            have h2 := hpatc (LO + (i : Int))
            unfold sumF
            omega
          obtain ⟨a3, c3, hv, hc3, hi3⟩ := hr.readc hwf
          have HWF := Lib.hid hwf
          rw [listP_len] at hv hi3 hc3
          simp at hv
          obtain ⟨rfl, rfl⟩ := hv
          have HSP : Hid (tidyP LO (listP (sumF ⟨l1, x⟩ m ⟨l2, y⟩) LO N) = sumP ⟨l1, x⟩ m ⟨l2, y⟩) := Lib.hid (by
            unfold sumP
            rw [if_neg (by show ¬ y.length = 0; rw [HN2.out]; omega), HLO1.out, HHI1.out, HNN.out])
          have HT := Lib.hid (l6pTidy_any LO (listP (sumF ⟨l1, x⟩ m ⟨l2, y⟩) LO N) (some ⟨W.heap.size, 0, none⟩) N N wr hi3 (Nat.le_refl _) (by omega) (by omega) (by omega))
          have hsr := HB.out.size
          clear hr hwf hi3 hc3 e hpatb hpatc HR
          go_wp2_with fail
          refine HT.out.mono ?_
          rintro e w3 ⟨⟨v, rfl, hr⟩, hb3⟩
          rw [HSP.out] at hr ⊢
          obtain ⟨_, _, d0, d1, f0, f1⟩ := HC.out w3 (HB.out.trans (hb3.mono hsr))
          have HR3 := Lib.hid hr
          have HB3 := Lib.hid (HBW.out.trans ((HB.out.trans (hb3.mono hsr)).mono HBW.out.size))
          obtain ⟨g2, gg, cap3, rfl, _⟩ := hr.shape
          clear hr hb3
          go_wp2
          have hss := HSZ.out
          refine bodyPost_ret (v := plV (sumP ⟨l1, x⟩ m ⟨l2, y⟩).low (.slice g2 (sumP ⟨l1, x⟩ m ⟨l2, y⟩).cs.length cap3)) ?_ rfl ⟨⟨_, rfl, resRow2 (.int .i64 (sumP ⟨l1, x⟩ m ⟨l2, y⟩).low) (.slice g2 (sumP ⟨l1, x⟩ m ⟨l2, y⟩).cs.length cap3) HR3.out (by omega)⟩, resBelow2 (.int .i64 (sumP ⟨l1, x⟩ m ⟨l2, y⟩).low) (.slice g2 (sumP ⟨l1, x⟩ m ⟨l2, y⟩).cs.length cap3) HB3.out⟩
          simp [results, Try.results104, go_sem, d0, d1, plV]

end Go.Proofs.Ytakfobihakbefaa

/- The model's l6pSum whatever comes in, and PolyAdd. -/

namespace Go.Proofs.Ytakfobihakbefaa
open Go.RowKit

set_option maxRecDepth 100000 in
set_option maxHeartbeats 4000000 in
theorem l6pSum_none (l1 l2 m : Int) (a1 a2 : Option Addr) (c1 c2 n1 : Nat) (w : World) :
    Calls Try.prog 104 #[plV l1 (.slice a1 n1 c1), .int .i64 m, plV l2 (.slice a2 0 c2)] w fun e w' => e = .returned (plV l1 (.slice a1 n1 c1)) ∧ Below w.heap.size w w' := by
  obtain ⟨W, hW⟩ : ∃ W, ((w.alloc (.cells #[.int .i64 l1, .slice a1 n1 c1] 25)).alloc (.cells #[.int .i64 l2, .slice a2 0 c2] 25)).alloc (.cells #[.int .i64 0, .slice none 0 0] 25) = W := ⟨_, rfl⟩
  obtain ⟨hbW, hsz⟩ := boxes3Below hW
  have hC := boxes3 hW (Below.refl _ _)
  have hD := boxes3 hW (Below.refl _ _)
  rw [← hW] at hC
  obtain ⟨⟨p0, p1⟩, ⟨q0, q1⟩, r0, r1, f0, f1⟩ := hC
  have HBW := Lib.hid hbW
  have HW := Lib.hid hW
  have HD := Lib.hid hD
  clear hW hbW hsz hD
  go_enter Try.func104, Try.ntmps104
  go_upto_if 15 with fail
  rw [HW.out]
  clear p0 p1 q0 q1 r0 r1 f0 f1
  obtain ⟨⟨p0, p1⟩, ⟨q0, q1⟩, r0, r1, f0, f1⟩ := HD.out
  go_wp2
  refine bodyPost_ret (v := plV l1 (.slice a1 n1 c1)) ?_ rfl ⟨rfl, resBelow2 (.int .i64 l1) (.slice a1 n1 c1) HBW.out⟩
  simp [results, Try.results104, go_sem, r0, r1, plV]

theorem sum_mem {a b : Pl} {m : Int} (hx : ∀ i, -4000000000000000000 ≤ a.cs.getD i 0 ∧ a.cs.getD i 0 ≤ 4000000000000000000) (hy : ∀ i, -4000000000000000000 ≤ m * b.cs.getD i 0 ∧ m * b.cs.getD i 0 ≤ 4000000000000000000) :
    ∀ z ∈ (sumP a m b).cs, -9223372036854775808 ≤ z ∧ z ≤ 9223372036854775807 := fun z hz => by
  unfold sumP at hz
  split at hz
  · obtain ⟨i, hi, rfl⟩ := List.mem_iff_getElem.1 hz
    have := hx i
    rw [List.getD_eq_getElem?_getD, List.getElem?_eq_getElem hi] at this
    have : -4000000000000000000 ≤ a.cs[i] ∧ a.cs[i] ≤ 4000000000000000000 := this
    omega
  · rcases tidy_mem hz with rfl | hz
    · omega
    · unfold listP at hz
      obtain ⟨i, _, rfl⟩ := List.mem_map.1 hz
      have h1 : -4000000000000000000 ≤ pat a (sumLow a b + (i : Int)) ∧ pat a (sumLow a b + (i : Int)) ≤ 4000000000000000000 := by
        unfold pat
        split
        · exact hx _
        · omega
      have h2 : -4000000000000000000 ≤ m * pat b (sumLow a b + (i : Int)) ∧ m * pat b (sumLow a b + (i : Int)) ≤ 4000000000000000000 := by
        unfold pat
        split
        · exact hy _
        · rw [Int.mul_zero]; omega
      unfold sumF
      omega
theorem sum_len {a b : Pl} {m : Int} (h1 : -100000 ≤ a.low ∧ a.low ≤ 100000) (h2 : -100000 ≤ b.low ∧ b.low ≤ 100000) (hn1 : a.cs.length ≤ 100000) (hn2 : b.cs.length ≤ 100000) : (sumP a m b).cs.length ≤ 300000 := by
  unfold sumP
  split
  · omega
  · refine Nat.le_trans (tidy_len _ _) ?_
    rw [listP_len]
    unfold sumHigh sumLow
    repeat' split
    all_goals omega

theorem l6pSum_any (l1 l2 m : Int) (x y : List Int) (a1 a2 : Option Addr) (c1 c2 n1 n2 : Nat) (w : World) (h1 : Ints w a1 n1 x) (h2 : Ints w a2 n2 y) (hc1 : n1 ≤ c1)
    (hl1 : -100000 ≤ l1 ∧ l1 ≤ 100000) (hl2 : -100000 ≤ l2 ∧ l2 ≤ 100000) (hn1 : n1 ≤ 100000) (hn2 : n2 ≤ 100000)
    (hx : ∀ i, -4000000000000000000 ≤ x.getD i 0 ∧ x.getD i 0 ≤ 4000000000000000000) (hy : ∀ i, -4000000000000000000 ≤ m * y.getD i 0 ∧ m * y.getD i 0 ≤ 4000000000000000000) :
    Calls Try.prog 104 #[plV l1 (.slice a1 n1 c1), .int .i64 m, plV l2 (.slice a2 n2 c2)] w fun e w' => (∃ v, e = .returned (plV (sumP ⟨l1, x⟩ m ⟨l2, y⟩).low v) ∧ Reads w' v (sumP ⟨l1, x⟩ m ⟨l2, y⟩).cs) ∧ Below w.heap.size w w' := by
  by_cases h0 : n2 = 0
  · subst h0
    have e : sumP ⟨l1, x⟩ m ⟨l2, y⟩ = ⟨l1, x⟩ := by unfold sumP; exact if_pos h2.len
    rw [e]
    refine (l6pSum_none l1 l2 m a1 a2 c1 c2 n1 w).mono ?_
    rintro e w1 ⟨rfl, hb⟩
    have hl := h1.len
    subst hl
    exact ⟨⟨_, rfl, a1, c1, rfl, hc1, h1.below hb⟩, hb⟩
  · refine (l6pSum_some l1 l2 m x y a1 a2 c1 c2 n1 n2 w h1 h2 (by omega) hl1 hl2 hn1 hn2 hx hy).mono ?_
    rintro e w1 ⟨⟨v, rfl, hr⟩, hb⟩
    exact ⟨⟨v, rfl, hr.reads (sum_mem (a := ⟨l1, x⟩) (b := ⟨l2, y⟩) hx hy)⟩, hb⟩

def addPB (a b : Pl) : Bool := polyB a && (polyB b && polyB (sumP a 1 b))
def addP (a b : Pl) : Pl := doneP (addPB a b) (sumP a 1 b)

set_option maxRecDepth 100000 in
set_option maxHeartbeats 4000000 in
theorem sPolyAdd_any (l1 l2 : Int) (x y : List Int) (a1 a2 : Option Addr) (c1 c2 n1 n2 : Nat) (ba bb t : Bool) (w : World) (h1 : Ints w a1 n1 x) (h2 : Ints w a2 n2 y) (hc1 : n1 ≤ c1)
    (hba : polyB ⟨l1, x⟩ = ba) (hbb : polyB ⟨l2, y⟩ = bb) (ht : (ba && (bb && polyB (sumP ⟨l1, x⟩ 1 ⟨l2, y⟩))) = t) :
    Calls Try.prog 110 #[plV l1 (.slice a1 n1 c1), plV l2 (.slice a2 n2 c2)] w fun e w' => (∃ v, e = .returned (.tuple #[plV (doneP t (sumP ⟨l1, x⟩ 1 ⟨l2, y⟩)).low v, .bool t]) ∧ IntRow w.heap.size w' v (doneP t (sumP ⟨l1, x⟩ 1 ⟨l2, y⟩)).cs) ∧ Below w.heap.size w w' := by
  obtain ⟨W, hW⟩ : ∃ W, ((w.alloc (.cells #[.int .i64 l1, .slice a1 n1 c1] 25)).alloc (.cells #[.int .i64 l2, .slice a2 n2 c2] 25)).alloc (.cells #[.int .i64 0, .slice none 0 0] 25) = W := ⟨_, rfl⟩
  obtain ⟨hbW, hsz⟩ := boxes3Below hW
  have HC : Hid (∀ w1, Below W.heap.size W w1 → _) := Lib.hid fun w1 (hg : Below W.heap.size W w1) => boxes3 hW hg
  have hC := boxes3 hW (Below.refl _ _)
  rw [← hW] at hC
  obtain ⟨⟨p0, p1⟩, ⟨q0, q1⟩, _⟩ := hC
  have H1 := Lib.hid (h1.below hbW)
  have H2 := Lib.hid (h2.below hbW)
  have HBA := Lib.hid hba
  have HBB := Lib.hid hbb
  have HN1 := Lib.hid h1.len
  have HN2 := Lib.hid h2.len
  have HBW := Lib.hid hbW
  have HW := Lib.hid hW
  have HSZ := Lib.hid hsz
  have HT := Lib.hid ht
  clear hW hbW h1 h2 hba hbb hsz ht
  go_enter Try.func110, Try.ntmps110
  go_wp2_with fail
  rw [HW.out]
  clear p0 p1 q0 q1
  refine (sPolyIn_any l1 x a1 c1 n1 ba W H1.out HBA.out).mono ?_
  rintro e w1 ⟨rfl, hb1⟩
  have HB1 := Lib.hid hb1
  obtain ⟨⟨p0, p1⟩, ⟨q0, q1⟩, d0, d1, f0, f1⟩ := HC.out w1 hb1
  have hs1 := hb1.size
  clear hb1
  cases ba with
  | false =>
    obtain rfl : t = false := by rw [← HT.out]; rfl
    go_wp2_with fail
    refine (l6pNone_any _).mono ?_
    rintro e w2 ⟨⟨v, rfl, hr⟩, hb2⟩
    obtain ⟨_, _, d0, d1, f0, f1⟩ := HC.out w2 (HB1.out.trans (hb2.mono hs1))
    have HR := Lib.hid hr
    have HB2 := Lib.hid (HBW.out.trans ((HB1.out.trans (hb2.mono hs1)).mono HBW.out.size))
    obtain ⟨g1, gg, cap1, rfl, _⟩ := hr.shape
    clear hr hb2
    go_wp2
    have hss := HSZ.out
    refine bodyPost_ret (v := .tuple #[plV 0 (.slice g1 0 cap1), .bool false]) ?_ rfl ⟨⟨_, rfl, resRow2 (.int .i64 0) (.slice g1 0 cap1) HR.out (by omega)⟩, resBelow2 (.int .i64 0) (.slice g1 0 cap1) HB2.out⟩
    simp [results, Try.results110, go_sem, d0, d1, plV]
  | true =>
    go_wp2_with fail
    refine (sPolyIn_any l2 y a2 c2 n2 bb w1 (H2.out.below HB1.out) HBB.out).mono ?_
    rintro e w2 ⟨rfl, hb2⟩
    have HB2 := Lib.hid (HB1.out.trans (hb2.mono hs1))
    have hs2 := HB2.out.size
    clear hb2 p0 p1 q0 q1 d0 d1 f0 f1
    obtain ⟨⟨p0, p1⟩, ⟨q0, q1⟩, d0, d1, f0, f1⟩ := HC.out w2 HB2.out
    cases bb with
    | false =>
      obtain rfl : t = false := by rw [← HT.out]; rfl
      go_wp2_with fail
      refine (l6pNone_any _).mono ?_
      rintro e w3 ⟨⟨v, rfl, hr⟩, hb3⟩
      clear d0 d1 f0 f1
      obtain ⟨_, _, d0, d1, f0, f1⟩ := HC.out w3 (HB2.out.trans (hb3.mono hs2))
      have HR := Lib.hid hr
      have HB3 := Lib.hid (HBW.out.trans ((HB2.out.trans (hb3.mono hs2)).mono HBW.out.size))
      obtain ⟨g1, gg, cap1, rfl, _⟩ := hr.shape
      clear hr hb3
      go_wp2
      have hss := HSZ.out
      refine bodyPost_ret (v := .tuple #[plV 0 (.slice g1 0 cap1), .bool false]) ?_ rfl ⟨⟨_, rfl, resRow2 (.int .i64 0) (.slice g1 0 cap1) HR.out (by omega)⟩, resBelow2 (.int .i64 0) (.slice g1 0 cap1) HB3.out⟩
      simp [results, Try.results110, go_sem, d0, d1, plV]
    | true =>
      obtain ⟨_, hx200, hxl1, hxl2, hxc⟩ := polyB_trim HBA.out
      obtain ⟨_, hy200, hyl1, hyl2, hyc⟩ := polyB_trim HBB.out
      have hx200 : x.length ≤ 200 := hx200
      have hy200 : y.length ≤ 200 := hy200
      have hxl1 : -300 ≤ l1 := hxl1
      have hxl2 : l1 ≤ 300 := hxl2
      have hyl1 : -300 ≤ l2 := hyl1
      have hyl2 : l2 ≤ 300 := hyl2
      have hxc : ∀ i, -1000000000 ≤ x.getD i 0 ∧ x.getD i 0 ≤ 1000000000 := hxc
      have hyc : ∀ i, -1000000000 ≤ y.getD i 0 ∧ y.getD i 0 ≤ 1000000000 := hyc
      have hx1 := HN1.out
      have hx2 := HN2.out
      have HS := Lib.hid (l6pSum_any l1 l2 1 x y a1 a2 c1 c2 n1 n2 w2 (H1.out.below HB2.out) (H2.out.below HB2.out) hc1 (by omega) (by omega) (by omega) (by omega) (fun i => by have := hxc i; omega) (fun i => by have := hyc i; omega))
      have hsl : (sumP ⟨l1, x⟩ 1 ⟨l2, y⟩).cs.length ≤ 300000 := sum_len (a := ⟨l1, x⟩) (b := ⟨l2, y⟩) (by show -100000 ≤ l1 ∧ l1 ≤ 100000; omega) (by show -100000 ≤ l2 ∧ l2 ≤ 100000; omega) (by show x.length ≤ 100000; omega) (by show y.length ≤ 100000; omega)
      clear hxc hyc hx1 hx2
      go_wp2_with fail
      refine HS.out.mono ?_
      rintro e w3 ⟨⟨v, rfl, hrd⟩, hb3⟩
      obtain ⟨a3, c3, rfl, hc3, hi3⟩ := hrd
      have HB3 := Lib.hid (HB2.out.trans (hb3.mono hs2))
      have hs3 := HB3.out.size
      have HD := Lib.hid (l6pDone_any (sumP ⟨l1, x⟩ 1 ⟨l2, y⟩).low (sumP ⟨l1, x⟩ 1 ⟨l2, y⟩).cs a3 c3 _ t w3 hi3 (by omega) (by have := HT.out; rwa [Bool.true_and, Bool.true_and] at this))
      clear hb3 hi3
      go_wp2_with fail
      refine HD.out.mono ?_
      rintro e w4 ⟨⟨v, rfl, hr⟩, hb4⟩
      clear d0 d1 f0 f1
      obtain ⟨_, _, d0, d1, f0, f1⟩ := HC.out w4 (HB3.out.trans (hb4.mono hs3))
      have HR := Lib.hid hr
      have HB4 := Lib.hid (HBW.out.trans ((HB3.out.trans (hb4.mono hs3)).mono HBW.out.size))
      obtain ⟨g1, gg, cap1, rfl, _⟩ := hr.shape
      clear hr hb4
      go_wp2
      have hss := HSZ.out
      refine bodyPost_ret (v := .tuple #[plV (doneP t (sumP ⟨l1, x⟩ 1 ⟨l2, y⟩)).low (.slice g1 (doneP t (sumP ⟨l1, x⟩ 1 ⟨l2, y⟩)).cs.length cap1), .bool t]) ?_ rfl ⟨⟨_, rfl, resRow2 (.int .i64 (doneP t (sumP ⟨l1, x⟩ 1 ⟨l2, y⟩)).low) (.slice g1 (doneP t (sumP ⟨l1, x⟩ 1 ⟨l2, y⟩)).cs.length cap1) HR.out (by omega)⟩, resBelow2 (.int .i64 (doneP t (sumP ⟨l1, x⟩ 1 ⟨l2, y⟩)).low) (.slice g1 (doneP t (sumP ⟨l1, x⟩ 1 ⟨l2, y⟩)).cs.length cap1) HB4.out⟩
      simp [results, Try.results110, go_sem, d0, d1, plV]

end Go.Proofs.Ytakfobihakbefaa

/- A drawn region whose head makes memory but has fixed values, and whose tail comes in one order only. -/

namespace Go.Proofs.Ytakfobihakbefaa
open Go.RowKit

section
variable {P : Program} {ops : Array Oper} {md : Region.Mode} {C : World → Prop}

/-- The head in whatever order, up to the place where L holds. -/
def headQ (P : Program) (md : Region.Mode) (ops : Array Oper) (C : World → Prop) (n : Nat) (L : Array Bool → Act → Prop) : Nat → Array Bool → Act → Prop
  | 0, listed, a => L listed a
  | f + 1, listed, a => Region.ready md ops listed ≠ [] ∧ ∀ i ∈ Region.ready md ops listed, i < n ∧ qOp P ops C i (headQ P md ops C n L f (listed.setIfInBounds i true)) a

theorem wpAny_headQ {n g : Nat} {L : Array Bool → Act → Prop} {Q' : Exit → Act → World → Prop} (hL : ∀ listed a w, C w → L listed a → wpAny P md ops Q' g listed a w) :
    ∀ (f : Nat) (listed : Array Bool) (a : Act) (w : World), C w → headQ P md ops C n L f listed a → wpAny P md ops Q' (f + g) listed a w
  | 0, _, _, _, hw, h => by rw [Nat.zero_add]; exact hL _ _ _ hw h
  | f + 1, listed, a, w, hw, h => by
    rw [Nat.succ_add]
    exact ⟨fun h0 => absurd h0 h.1, fun i hi => wpOp_of_qOp hw (fun a' w' hw' h' => wpAny_headQ hL f _ a' w' hw' h') (h.2 i hi).2⟩

theorem headQ_first {n i : Nat} {oi : Oper} {v : Value} {L : Array Bool → Act → Prop} (hi : ops[i]? = some oi) (hsel : ∀ (j : Nat) (o : Oper) cs b, ops[j]? = some o → o.op ≠ .select cs b)
    (hs : Region.sinkB md ops n = true) (hc : Region.chainB md ops n = true) (hn : n < ops.size) (hin : i < n) (hdone : ∀ listed a, L listed a → ∀ j ∈ Region.ready md ops listed, n ≤ j) :
    ∀ (f : Nat) (listed : Array Bool) (a : Act), HeadInv md ops n listed →
      (∀ j oj, ops[j]? = some oj → j ≠ i → listed.getD j true = false → (∀ e ∈ oj.after, Region.binds md e = true → e.on ≠ i) → oi.apart ops oj = true) →
      i ∈ Region.ready md ops listed → YieldsIn P ops C oi v a →
      headQ P md ops C n L f (listed.setIfInBounds i true) (a.put oi.dst v) → headQ P md ops C n L (f + 1) listed a := by
  intro f
  induction f with
  | zero =>
    intro listed a inv _ hr hy H
    refine ⟨fun h => (by rw [h] at hr; cases hr), fun j hj => ?_⟩
    have hjn : j < n := Nat.lt_of_not_le fun h => tail_waits hs hc hn inv _ i rfl hin (mem_ready.1 hr).1 j h hj
    refine ⟨hjn, ?_⟩
    by_cases hji : j = i
    · subst hji; exact hy.qOp hi H
    · exact absurd (hdone _ _ H j (ready_mono hj hji)) (by omega)
  | succ f ih =>
    intro listed a inv hfree hr hy H
    have hun := (mem_ready.1 hr).1
    refine ⟨fun h => (by rw [h] at hr; cases hr), fun j hj => ?_⟩
    have hjn : j < n := Nat.lt_of_not_le fun h => tail_waits hs hc hn inv _ i rfl hin hun j h hj
    refine ⟨hjn, ?_⟩
    by_cases hji : j = i
    · subst hji; exact hy.qOp hi H
    · obtain ⟨hjun, oj, hoj, hall⟩ := mem_ready.1 hj
      have hnot : ∀ e ∈ oj.after, Region.binds md e = true → e.on ≠ i := fun e he hb heq => by
        have h1 := hall e he hb
        rw [heq, getD_both hun] at h1
        cases h1
      have h2 := qOp_put hoj (hfree j oj hoj hji hjun hnot) (fun cs b => hsel i oi cs b hi) (fun cs b => hsel j oj cs b hoj) hy (H.2 j (ready_mono hj hji)).2
      refine qOp_mono (fun a' h3 => ih _ a' (inv.set hj hjn) (fun k ok hk hki hu hno => hfree k ok hk hki ?_ hno) (ready_mono hr (Ne.symm hji)) h3.1 ?_) h2
      · by_cases hjk : j = k
        · subst hjk; exact hjun
        · rw [getD_set_ne true hjk] at hu; exact hu
      · rw [Array.setIfInBounds_comm _ _ hji]
        exact h3.2

theorem headQ_lex {n g : Nat} {Lq : Act → Prop} (hsel : Region.noSelect ops = true) (hs : Region.sinkB md ops n = true) (hc : Region.chainB md ops n = true) (hn : n < ops.size) :
    ∀ (l : List Oper) (k : Nat) (listed : Array Bool) (a : Act), (∀ j, j < l.length → l[j]? = ops[k + j]?) → k + l.length = n → HeadInv md ops n listed →
    Region.lexHead md ops g l.length k listed = true → wpQuiet P ops C Lq l a → headQ P md ops C n (fun listed' a' => Region.seqB md ops g n listed' = true ∧ Lq a') l.length listed a
  | [], k, listed, a, _, hk, _, hB, h => by
    obtain rfl : k = n := by simpa using hk
    exact ⟨by simpa [Region.lexHead] using hB, h⟩
  | o :: l, k, listed, a, hl, hk, inv, hB, h => by
    have h0 : ops[k]? = some o := by simpa using (hl 0 (by simp)).symm
    simp only [List.length_cons, Region.lexHead, Bool.and_eq_true] at hB
    have hkn : k < n := by simp only [List.length_cons] at hk; omega
    have hr' : k ∈ Region.ready md ops listed := by simpa using hB.1.1
    have hst : qOp P ops C k (wpQuiet P ops C Lq l) a := by unfold qOp; simp only [h0]; exact h
    obtain ⟨v, hy, hK⟩ := yieldsIn_of_qOp h0 hst
    exact headQ_first h0 (Region.noSelect_spec hsel) hs hc hn hkn (fun listed' a' hL => seqB_ready hL.1) l.length listed a inv (Region.free_spec h0 hB.1.2) hr' hy
      (headQ_lex hsel hs hc hn l (k + 1) _ _ (fun j hj => by have := hl (j + 1) (by simp; omega); simpa [Nat.add_assoc, Nat.add_comm 1 j] using this) (by simp only [List.length_cons] at hk; omega) (inv.set hr' hkn) hB.2 hK)

/-- The head walked once, in every world of the class; then the tail. -/
theorem wp_region_quiet_tail {id : Nat} {Q : Exit → Act → World → Prop} {a : Act} {w : World} {l : List Oper} (n : Nat) (hm : P.follows .mixedOrders = true) (hB : Region.lexTailB .any l.toArray n = true) (hC : C { w with drawn := w.drawn + 1 })
    (h : wpQuiet P l.toArray C (fun a' => ∀ w', C w' → wpList P l.toArray Q (l.drop n) a' w') (l.take n) a) : (Code.region id l.toArray true).wp P Q a w := by
  simp only [Region.lexTailB, Bool.and_eq_true, decide_eq_true_eq] at hB
  obtain ⟨⟨⟨⟨hsel, hn⟩, hs⟩, hc⟩, hlex⟩ := hB
  have hn' : n < l.length := by simpa using hn
  have htl : (l.take n).length = n := by simp; omega
  have hdl : (l.drop n).length = l.toArray.size - n := by simp
  have inv0 : HeadInv .any l.toArray n (Array.replicate l.toArray.size false) :=
    ⟨by simp, fun j oj _ hl => (by rw [getD_replicate_false] at hl; cases hl), fun t _ ht => getD_in (by simpa using ht) (getD_replicate_false _ _)⟩
  have H := headQ_lex (md := .any) (g := l.toArray.size - n) hsel hs hc hn (l.take n) 0 _ a (fun j hj => by
    have hj' : j < n := by rw [htl] at hj; exact hj
    simp [hj']) (by simpa using htl) inv0 (by rw [htl]; exact hlex) h
  refine wp_region_any hm ?_
  have := wpAny_headQ (Q' := Q) (g := l.toArray.size - n) (fun listed a' w' hw' hL => by
    have := wpAny_of_seq (md := .any) (Q' := Q) (l.drop n) n listed a' w' (fun j => by simp [List.getElem?_drop]) (by rw [hdl]; exact hL.1) (hL.2 w' hw')
    rwa [hdl] at this) _ _ _ _ hC H
  rw [htl, show n + (l.toArray.size - n) = l.toArray.size by omega] at this
  exact this
/-- At the worlds behind w. -/
theorem wp_region_below_tail {id : Nat} {Q : Exit → Act → World → Prop} {a : Act} {w : World} {l : List Oper} (n : Nat) (hm : P.follows .mixedOrders = true) (hB : Region.lexTailB .any l.toArray n = true)
    (h : wpQuiet P l.toArray (fun w' => ∃ p : BelowBy w, w' = p.world) (fun a' => ∀ w', (∃ p : BelowBy w, w' = p.world) → wpList P l.toArray Q (l.drop n) a' w') (l.take n) a) : (Code.region id l.toArray true).wp P Q a w :=
  wp_region_quiet_tail n hm hB ⟨⟨w.drew, (Below.refl _ _).drew⟩, rfl⟩ h
end

end Go.Proofs.Ytakfobihakbefaa

/- The program's add, and its PolyAdd. -/

namespace Go.Proofs.Ytakfobihakbefaa
open Go.RowKit

set_option maxRecDepth 100000 in
set_option maxHeartbeats 4000000 in
theorem add_any (base g N capN : Nat) (f : Int → Int) (la lb : Int) (y : List Int) (a2 : Option Addr) (c2 n2 : Nat) (w : World)
    (hr : w.ownsRow base 3 1 (.slice (some ⟨g, 0, none⟩) N capN) N (intsV (listP f la N))) (h2 : Ints w a2 n2 y)
    (hla : -100000 ≤ la ∧ la ≤ 100000) (hlb : -100000 ≤ lb ∧ lb ≤ 100000) (hN : N ≤ 300000) (hn2 : n2 ≤ 100000) (hin : n2 = 0 ∨ (la ≤ lb ∧ lb + n2 ≤ la + N)) (hne : n2 = 0 ∨ ∀ x, a2 = some x → x.block ≠ g)
    (hf : ∀ z, -4000000000000000000 ≤ f z ∧ f z ≤ 4000000000000000000) (hy : ∀ i, -4000000000000000000 ≤ y.getD i 0 ∧ y.getD i 0 ≤ 4000000000000000000) :
    Calls Try.prog 106 #[plV la (.slice (some ⟨g, 0, none⟩) N capN), plV lb (.slice a2 n2 c2)] w fun e w' => e = .returned (.tuple #[]) ∧ w'.ownsRow base 3 1 (.slice (some ⟨g, 0, none⟩) N capN) N (intsV (listP (fun z => f z + pat ⟨lb, y⟩ z) la N)) ∧ w.grownBy w' (some g) := by
  obtain ⟨W, hW⟩ : ∃ W, (w.alloc (.cells #[.int .i64 la, .slice (some ⟨g, 0, none⟩) N capN] 25)).alloc (.cells #[.int .i64 lb, .slice a2 n2 c2] 25) = W := ⟨_, rfl⟩
  have hsz : W.heap.size = w.heap.size + 2 := by rw [← hW]; simp
  have hbW : Below w.heap.size w W := by rw [← hW]; exact ((Below.refl _ w).alloc (Nat.le_refl _) _).alloc (by simp) _
  have hgl : g < w.heap.size := own_lt hr g rfl
  have HC : Hid (∀ w1, W.grownBy w1 (some g) → w1.cell? ⟨w.heap.size, 0, none⟩ = some (.int .i64 la) ∧ w1.cell? ⟨w.heap.size, 1, none⟩ = some (.slice (some ⟨g, 0, none⟩) N capN) ∧ w1.cell? ⟨w.heap.size + 1, 0, none⟩ = some (.int .i64 lb) ∧ w1.cell? ⟨w.heap.size + 1, 1, none⟩ = some (.slice a2 n2 c2)) := Lib.hid fun w1 hg => by
    have e0 := hg.block w.heap.size (by omega) (by simp; omega)
    have e1 := hg.block (w.heap.size + 1) (by omega) (by simp; omega)
    have d0 : W.heap[w.heap.size]? = some (.cells #[.int .i64 la, .slice (some ⟨g, 0, none⟩) N capN] 25 (0, 0)) := by
      rw [← hW, Below.heap_alloc _ _ _ (by simp)]
      exact World.alloc_heap_new w _
    have d1 : W.heap[w.heap.size + 1]? = some (.cells #[.int .i64 lb, .slice a2 n2 c2] 25 (0, 0)) := by
      rw [← hW]
      have h := World.alloc_heap_new (w.alloc (.cells #[.int .i64 la, .slice (some ⟨g, 0, none⟩) N capN] 25)) (.cells #[.int .i64 lb, .slice a2 n2 c2] 25)
      rwa [World.size_alloc] at h
    rw [d0] at e0
    rw [d1] at e1
    refine ⟨?_, ?_, ?_, ?_⟩ <;> simp [World.cell?, e0, e1]
  have hC := HC.out W (World.grownBy.refl _ _)
  rw [← hW] at hC
  obtain ⟨p0, p1, q0, q1⟩ := hC
  have HGW : Hid (w.grownBy W (some g)) := Lib.hid ⟨hbW.os, hbW.tape, hbW.output, hbW.size, fun i hi _ => hbW.block i hi⟩
  have HS2 : Hid (∀ w1, W.grownBy w1 (some g) → ∀ k, k < n2 → ∀ x, a2 = some x → ∀ z, y.getD k 0 = z → w1.cell? (x.add k) = some (.int .i64 z)) := Lib.hid fun w1 hg k hk x hx z hz => by
    obtain ⟨x', e, hb, hc⟩ := h2.at_ (by omega)
    obtain rfl : x = x' := by rw [hx] at e; simpa using e
    have hl := h2.len
    have hne' : (x.add k).block ≠ g := by rw [addr_add_block]; exact (hne.resolve_left (by omega)) x hx
    have hbk := hbW.cell (p := x.add k) (by rw [addr_add_block]; exact hb)
    have hbl : (x.add k).block < W.heap.size := by rw [addr_add_block]; omega
    have e1 := hg.block (x.add k).block hbl (by simp; exact hne')
    have e2 : w1.cell? (x.add k) = W.cell? (x.add k) := by unfold World.cell?; rw [e1]
    rw [e2, hbk, hc k (by omega), ← hz, List.getD_eq_getElem?_getD, List.getElem?_eq_getElem (by omega)]
    rfl
  have HAT : Hid (0 < n2 → ∃ x, a2 = some x) := Lib.hid fun h => by obtain ⟨x, e, _⟩ := h2.at_ h; exact ⟨x, e⟩
  have HR0 : Hid (W.ownsRow base 3 1 (.slice (some ⟨g, 0, none⟩) N capN) N (intsV (listP (fun z => f z + upto (pat ⟨lb, y⟩) (lb + ((0 : Nat) : Int)) z) la N))) := Lib.hid (by
    have e : listP (fun z => f z + upto (pat ⟨lb, y⟩) (lb + ((0 : Nat) : Int)) z) la N = listP f la N := listP_congr fun z _ _ => by
      rw [show lb + ((0 : Nat) : Int) = lb by omega]
      show f z + upto (pat ⟨lb, y⟩) (⟨lb, y⟩ : Pl).low z = f z
      rw [upto_low, Int.add_zero]
    rw [e]
    exact hr.kept ⟨hbW.os, hbW.tape, hbW.output, hbW.size, fun j hj _ => hbW.block j hj⟩ (row := none) (.inr (by simp [Value.ownBlock])))
  have HN2 := Lib.hid h2.len
  have HF := Lib.hid hf
  have HY := Lib.hid hy
  have HW := Lib.hid hW
  have HIN := Lib.hid hin
  clear hW hbW h2 hf hy hsz hne hr hin hgl
  go_enter Try.func106, Try.ntmps106
  go_wp2_with fail
  rw [HW.out]
  clear p0 p1 q0 q1
  go_loopw [4, 5, 9] (fun _ _ i wr => ∃ k : Nat, k ≤ n2 ∧ i = .int .i64 (k : Int) ∧ Hid (wr.ownsRow base 3 1 (.slice (some ⟨g, 0, none⟩) N capN) N (intsV (listP (fun z => f z + upto (pat ⟨lb, y⟩) (lb + (k : Int)) z) la N))) ∧ Hid (W.grownBy wr (some g))) (fun _ _ i _ => n2 - (intOf i).toNat)
  case atStart => exact ⟨0, Nat.zero_le _, rfl, HR0, Lib.hid (World.grownBy.refl _ _)⟩
  case round =>
    obtain ⟨k, hk, rfl, HR, HG⟩ := hrel
    obtain ⟨p0, p1, q0, q1⟩ := HC.out wr HG.out
    by_cases hlt : k < n2
    · obtain ⟨x, rfl⟩ := HAT.out (by omega)
      obtain ⟨z, hz⟩ : ∃ z, y.getD k 0 = z := ⟨_, rfl⟩
      have hcz := HS2.out wr HG.out k hlt x rfl z hz
      have hin := HIN.out.resolve_left (by omega)
      obtain ⟨hin1, hin2⟩ := hin
      obtain ⟨u, hu⟩ : ∃ u, f (lb + (k : Int)) = u := ⟨_, rfl⟩
      have hub := HF.out (lb + (k : Int))
      rw [hu] at hub
      have hzb := HY.out k
      rw [hz] at hzb
      obtain ⟨hub1, hub2⟩ := hub
      obtain ⟨hzb1, hzb2⟩ := hzb
      obtain ⟨d, hd⟩ : ∃ d : Nat, lb - la = (d : Int) := ⟨(lb - la).toNat, by omega⟩
      obtain ⟨j, hj⟩ : ∃ j : Nat, d + k = j := ⟨_, rfl⟩
      have hjN : j < N := by omega
      have hjNi : (j : Int) < (N : Int) := by omega
      have hj0 : (0 : Int) ≤ (j : Int) := by omega
      have hki : (k : Int) < (n2 : Int) := by omega
      have hk0 : (0 : Int) ≤ (k : Int) := by omega
      have hw1 : IntKind.i64.wrap (lb - la) = (d : Int) := by rw [IntWalk.i64_in _ (by omega)]; exact hd
      have hw2 : IntKind.i64.wrap ((d : Int) + (k : Int)) = (j : Int) := by rw [IntWalk.i64_in _ (by omega)]; omega
      have hw4 : IntKind.i64.wrap (u + z) = u + z := IntWalk.i64_in _ (by omega)
      have hlj : la + (j : Int) = lb + (k : Int) := by omega
      have hck : wr.cell? ⟨g, j, none⟩ = some (.int .i64 u) := by
        rw [HR.out.cellAt _ (by omega), listP_cell hjN, hlj, upto_here, hu, Int.add_zero]
      have hfk := HR.out.frozenAt j
      have HST : Hid ((intsV (listP (fun z => f z + upto (pat ⟨lb, y⟩) (lb + (k : Int)) z) la N)).set j (.int .i64 (u + z)) = intsV (listP (fun z => f z + upto (pat ⟨lb, y⟩) (lb + ((k + 1 : Nat) : Int)) z) la N)) := Lib.hid (listP_set (fun p hp => by
          rw [show lb + ((k + 1 : Nat) : Int) = lb + (k : Int) + 1 by omega, upto_next (by omega)]) (by
          rw [show lb + ((k + 1 : Nat) : Int) = lb + (k : Int) + 1 by omega, hlj, upto_at, hu]
          rw [show pat ⟨lb, y⟩ (lb + (k : Int)) = z from (pat_at ⟨lb, y⟩ k).trans hz]))
      clear hz hd hj hlj hu
      go_wp2
      go_roundw
      case rel =>
        have h1 := HR.out.stored j (.int .i64 (u + z))
        refine ⟨k + 1, by omega, by go_num, Lib.hid ?_, Lib.hid (HG.out.trans h1.2)⟩
        rw [← HST.out]
        exact h1.1
      case measure => simp [intOf]; omega
    · obtain rfl : k = n2 := by omega
      have e : listP (fun z => f z + upto (pat ⟨lb, y⟩) (lb + (k : Int)) z) la N = listP (fun z => f z + pat ⟨lb, y⟩ z) la N := listP_congr fun z _ _ => by
        have h1 := upto_high ⟨lb, y⟩ z
        rw [show (⟨lb, y⟩ : Pl).low + ((⟨lb, y⟩ : Pl).cs.length : Int) = lb + (k : Int) by show lb + (y.length : Int) = _; rw [HN2.out]] at h1
        rw [h1]
      have hr := HR.out
      rw [e] at hr
      have HRR := Lib.hid hr
      clear hr e HR
      go_wp2
      go_end0
      exact ⟨rfl, HRR.out, HGW.out.trans HG.out⟩

end Go.Proofs.Ytakfobihakbefaa

/- What the laws' proofs stand on, part 4 of 4. -/
import Derived.Laws.CopyOwn
import Derived.Deep.AppendLies
import Derived.Laws.AppendOwnNone
import Derived.Lib.Strings
import Derived.IntWalk
import Derived.RangeFuncBox
import Derived.Laws.BitsAllLaws
import Derived.Deep.QuietTactic
import Derived.BigQuiet
import Derived.ChangeSlices
import Derived.Test.YtebgcebjlbhjjaaBa
import Derived.Test.YtebgcebjlbhjjaaBb
import Derived.Test.YtebgcebjlbhjjaaBc

/- The contracts of the laws' 'toTermSS', 'eqTermSS', 'markTermSS' and 'heldTermSS'. -/

namespace Go.Proofs.Ytebgcebjlbhjjaa
open Go.RowKit Go.Shelf

/-- Blocks that ascend. -/
def AscV (vals : List Value) (k : Nat) : Prop := ∀ (i j : Nat) (u x : Value) (b c : Nat), i < j → j < k → vals[i]? = some u → vals[j]? = some x → u.ownBlock = some b → x.ownBlock = some c → b < c
theorem AscV.apart {vals : List Value} {k : Nat} (h : AscV vals k) {i j : Nat} {u x : Value} {b : Nat} (hi : i < k) (hj : j < k) (hu : vals[i]? = some u) (hx : vals[j]? = some x) (hne : i ≠ j) (e1 : u.ownBlock = some b) (e2 : x.ownBlock = some b) : False := by
  rcases Nat.lt_or_ge i j with h1 | h1
  · have := h i j u x b b h1 hj hu hx e1 e2; omega
  · have := h j i x u b b (by omega) hi hx hu e2 e1; omega

/-- Rows that are filled in one by one, in a block that lies ahead of them all. -/
structure Filling (lo B : Nat) (w : World) (vals : List Value) (n k : Nat) (rows : List (List Tm)) : Prop where
  row : w.ownsRow lo TT 1 (.slice (some ⟨B, 0, none⟩) n n) n vals
  each : ∀ (j : Nat) (h : j < rows.length), j < k → ∃ u, vals[j]? = some u ∧ OwnT (B + 1) w u rows[j]
  asc : AscV vals k
theorem Filling.start {lo B : Nat} {w : World} {vals : List Value} {n : Nat} {rows : List (List Tm)} (h : w.ownsRow lo TT 1 (.slice (some ⟨B, 0, none⟩) n n) n vals) : Filling lo B w vals n 0 rows :=
  ⟨h, fun _ _ h0 => absurd h0 (Nat.not_lt_zero _), fun _ _ _ _ _ _ _ h0 => absurd h0 (Nat.not_lt_zero _)⟩
theorem Filling.below {lo B : Nat} {w w' : World} {vals : List Value} {n k : Nat} {rows : List (List Tm)} (h : Filling lo B w vals n k rows) (hb : Below w.heap.size w w') : Filling lo B w' vals n k rows :=
  ⟨ownsRow_past h.row hb, fun j hj hk => by obtain ⟨u, h1, h2⟩ := h.each j hj hk; exact ⟨u, h1, h2.below hb⟩, h.asc⟩
/-- One row more: it was made behind all earlier ones. -/
theorem Filling.more {lo B : Nat} {w w2 : World} {vals : List Value} {n k : Nat} {rows : List (List Tm)} {v : Value} (h : Filling lo B w vals n k rows) (hb : Below w.heap.size w w2) (hk : k < n) (hl : rows.length = n) (hkr : k < rows.length) (ho : OwnT w.heap.size w2 v rows[k]) :
    Filling lo B (w2.setCell ⟨B, k, none⟩ v) (vals.set k v) n (k + 1) rows := by
  have hB : B < w.heap.size := (ownsRow_cap h.row).2.2.2
  have hst := (h.below hb).row.stored k v
  have hvl := h.row.1
  rw [Nat.mul_one] at hvl
  have hbl : ∀ b, B + 1 ≤ b → (w2.setCell ⟨B, k, none⟩ v).heap[b]? = w2.heap[b]? := fun b hb => Below.heap_setCell w2 ⟨B, k, none⟩ v b (by show b ≠ B; omega)
  have hkeep : ∀ {u : Value} {ts : List Tm}, OwnT (B + 1) w2 u ts → OwnT (B + 1) (w2.setCell ⟨B, k, none⟩ v) u ts := fun hu => ownsRow_touched hu fun b hb _ => hbl b (hu.lt b hb).1
  refine ⟨hst.1, fun j hj hjk => ?_, fun i j u x b c hij hjk hu hx hb' hc => ?_⟩
  · by_cases e : j = k
    · subst e
      exact ⟨v, List.getElem?_set_self (by omega), hkeep (ho.mono (by omega))⟩
    · obtain ⟨u, h1, h2⟩ := h.each j hj (by omega)
      exact ⟨u, by rw [List.getElem?_set_ne (by omega)]; exact h1, hkeep (h2.below hb)⟩
  · by_cases e : j = k
    · subst e
      rw [List.getElem?_set_self (by omega)] at hx
      cases hx
      rw [List.getElem?_set_ne (by omega)] at hu
      obtain ⟨u', h1, h2⟩ := h.each i (by omega) hij
      rw [h1] at hu
      cases hu
      have p1 := (h2.lt b hb').2
      have p2 := (ho.lt c hc).1
      omega
    · rw [List.getElem?_set_ne (by omega)] at hx
      rw [List.getElem?_set_ne (by omega)] at hu
      exact h.asc i j u x b c hij (by omega) hu hx hb' hc
theorem Filling.done {lo B : Nat} {w : World} {vals : List Value} {n : Nat} {rows : List (List Tm)} (h : Filling lo B w vals n n rows) (hl : rows.length = n) (hlo : lo ≤ B) : OwnTT lo w (.slice (some ⟨B, 0, none⟩) n n) vals rows := by
  have hvl := h.row.1
  rw [Nat.mul_one] at hvl
  have hi : ∀ {i : Nat} {u : Value}, vals[i]? = some u → i < n := fun hu => by have := (List.getElem?_eq_some_iff.1 hu).1; omega
  refine ⟨by rw [hl]; exact h.row, fun i hi2 u hu => ?_, fun i j u x b hu hx hne e1 e2 => h.asc.apart (hi hu) (hi hx) hu hx hne e1 e2, fun i u b hu hv e => ?_⟩
  · obtain ⟨u', h1, h2⟩ := h.each i hi2 (hi hu)
    rw [h1] at hu
    cases hu
    exact h2.mono (by omega)
  · obtain ⟨u', h1, h2⟩ := h.each i (by have := hi hu; omega) (hi hu)
    rw [h1] at hu
    cases hu
    have := (h2.lt b e).1
    simp only [Value.ownBlock, Option.some.injEq] at hv
    omega

def marksTT (k : Nat) : List (List Tm) → List (List Tm)
  | [] => []
  | r :: rs => marksT k r.length :: marksTT (k + 2 * r.length) rs
theorem marksTT_len : ∀ (rs : List (List Tm)) (k : Nat), (marksTT k rs).length = rs.length
  | [], _ => rfl
  | r :: rs, k => by rw [marksTT, List.length_cons, marksTT_len rs, List.length_cons]
theorem marksTT_get : ∀ (rs : List (List Tm)) (k i : Nat) (h : i < rs.length), (marksTT k rs)[i]'(by rw [marksTT_len]; exact h) = marksT (k + 2 * total (rs.take i)) (rs[i]).length
  | r :: rs, k, 0, _ => by simp [marksTT, total]
  | r :: rs, k, i + 1, h => by
    have ih := marksTT_get rs (k + 2 * r.length) i (by simpa using h)
    simp only [marksTT, List.getElem_cons_succ, List.take_succ_cons]
    rw [ih]
    congr 1
    unfold total
    simp only [List.map_cons, List.sum_cons]
    omega
/-- The first j rows are marked. -/
def halfTT (k j : Nat) (rows : List (List Tm)) : List (List Tm) := (marksTT k rows).take j ++ rows.drop j
theorem halfTT_len (k j : Nat) (rows : List (List Tm)) : (halfTT k j rows).length = rows.length := by
  unfold halfTT; rw [List.length_append, List.length_take, marksTT_len, List.length_drop]; omega
theorem halfTT_get (k j : Nat) (rows : List (List Tm)) (i : Nat) (h : i < rows.length) : (halfTT k j rows)[i]'(by rw [halfTT_len]; exact h) = if i < j then (marksTT k rows)[i]'(by rw [marksTT_len]; exact h) else rows[i] := by
  have hl : ((marksTT k rows).take j).length = min j rows.length := by rw [List.length_take, marksTT_len]
  unfold halfTT
  by_cases hij : i < j
  · rw [if_pos hij, List.getElem_append_left (by rw [hl]; omega), List.getElem_take]
  · rw [if_neg hij, List.getElem_append_right (by rw [hl]; omega), List.getElem_drop]
    congr 1
    rw [hl]; omega

theorem OwnTT.marked {lo k j : Nat} {w w2 : World} {v u : Value} {vals : List Value} {rows : List (List Tm)} (h : OwnTT lo w v vals (halfTT k j rows)) (hj : j < rows.length) (hu : vals[j]? = some u) (hg : w.grownBy w2 u.ownBlock) (ho : OwnT lo w2 u (marksT (k + 2 * total (rows.take j)) rows[j].length)) :
    OwnTT lo w2 v vals (halfTT k (j + 1) rows) := by
  refine ⟨?_, fun i hi x hx => ?_, h.apart, h.head⟩
  · have h1 := h.row
    rw [halfTT_len] at h1 ⊢
    exact ownsRow_touched h1 fun b hb hl => hg.block b hl fun e => h.head j u b hu hb e.symm
  · have hi' : i < rows.length := by rw [halfTT_len] at hi; exact hi
    rw [halfTT_get k (j + 1) rows i hi']
    by_cases e : i = j
    · subst e
      rw [hu] at hx
      cases hx
      rw [if_pos (by omega), marksTT_get rows k i hi']
      exact ho
    · have h2 := h.each i (by rw [halfTT_len]; exact hi') x hx
      rw [halfTT_get k j rows i hi'] at h2
      have h3 : OwnT lo w2 x (if i < j then (marksTT k rows)[i]'(by rw [marksTT_len]; exact hi') else rows[i]) := ownsRow_touched h2 fun b hb hl => hg.block b hl fun e2 => h.apart i j x u b hx hu e hb e2.symm
      by_cases hij : i < j
      · rw [if_pos hij] at h3; rw [if_pos (by omega)]; exact h3
      · rw [if_neg hij] at h3; rw [if_neg (by omega)]; exact h3

end Go.Proofs.Ytebgcebjlbhjjaa

/- The contract of the program's 'beginnings'. -/

namespace Go.Proofs.Ytebgcebjlbhjjaa
open Go.RowKit Go.Shelf

theorem row_heap {w : World} {base : Nat} {e : TypeId} {g n : Nat} {xs : List Value} (h : w.ownsRow base e 1 (.slice (some ⟨g, 0, none⟩) n n) n xs) : w.heap[g]? = some (.cells xs.toArray e (0, 0)) := by
  rcases h.2 with ⟨h2, _⟩ | ⟨g', cap, cur, h2, _, hgb, _, _, hcs, htk⟩
  · cases h2
  · cases h2
    rw [hgb]
    have e2 : cur.toList.take (n * 1) = cur.toList := List.take_of_length_le (by simp [hcs])
    rw [e2] at htk
    rw [← htk]
theorem letters_heap {w : World} {g : Nat} {l : List UInt8} {e : TypeId} (h : w.heap[g]? = some (.cells (bytesV l).toArray e (0, 0))) : Letters g 0 l w :=
  ⟨(Array.getElem?_eq_some_iff.1 h).1, fun j hj => by
    unfold World.cell?
    simp only [h]
    simp [bytesV, hj]⟩

/-- A row of all beginnings of the letters l, over one array. -/
def StartsAt (w : World) (B : Nat) (l : List UInt8) : Prop :=
  B < w.heap.size ∧ ∃ G, Letters G 0 l w ∧ ∀ j, j ≤ l.length → w.cell? ⟨B, j, none⟩ = some (.slice (some ⟨G, 0, none⟩) j j)
theorem StartsAt.below {w w' : World} {B : Nat} {l : List UInt8} (h : StartsAt w B l) (hb : Below w.heap.size w w') : StartsAt w' B l := by
  obtain ⟨h1, G, h2, h3⟩ := h
  exact ⟨Nat.lt_of_lt_of_le h1 hb.size, G, h2.below hb, fun j hj => (hb.cell (p := ⟨B, j, none⟩) h1).trans (h3 j hj)⟩
theorem Letters.take {g off : Nat} {l : List UInt8} {w : World} (h : Letters g off l w) (k : Nat) : Letters g off (l.take k) w :=
  ⟨h.1, fun j hj => by
    rw [List.getElem_take]
    exact h.2 j (by rw [List.length_take] at hj; omega)⟩

theorem infoLetter : (Try.prog.info? 93).map (fun i => (i.zero, i.size, i.bytes)) = some (some (.int .u8 0), 1, 1) := by kernel_rfl

set_option maxRecDepth 100000 in
set_option maxHeartbeats 2000000 in
theorem beginnings_any (g off cap n : Nat) (l : List UInt8) (w : World) (hl : l.length = n) (hn : n ≤ 60) (hlet : Letters g off l w) :
    Calls Try.prog 106 #[.slice (some ⟨g, off, none⟩) n cap] w fun e w' => ∃ B, e = .returned (.slice (some ⟨B, 0, none⟩) (n + 1 : Nat) (n + 1 : Nat)) ∧ StartsAt w' B l ∧ Below w.heap.size w w' := by
  obtain ⟨hgs, hcells⟩ := hlet
  have HCe := Lib.hid hcells
  have HL := Lib.hid hl
  clear hcells hl
  obtain ⟨i0, hi, hz0, hz1, hz2⟩ := info_parts infoLetter
  obtain ⟨j0, hj, hy0, hy1, hy2⟩ := info_parts infoWord
  have hone : (Try.prog.info? 93).map (·.size) = some 1 := by kernel_rfl
  obtain ⟨bl, hbl⟩ : ∃ bl, bytesV l = bl := ⟨_, rfl⟩
  have HBL := Lib.hid hbl
  have hbn : bl.length = n := by rw [← hbl, bytesV_length, HL.out]
  clear hbl
  go_enter Try.func106, Try.ntmps106
  have hmk : (madeCells (Value.cells (.int .u8 0)) (n * 1)).toList = List.replicate n (.int .u8 0) := by
    rw [show Value.cells (.int .u8 0) = #[.int .u8 0] from rfl, toList_madeCells_one, Nat.mul_one]
  have hsrc : ∀ w1, Below w.heap.size w w1 → ∀ j v, bl[j]? = some v → w1.cell? ((⟨g, off, none⟩ : Addr).add j) = some v := fun w1 hb1 j v hv => by
    rw [← HBL.out] at hv
    have hjl : j < l.length := by have := (List.getElem?_eq_some_iff.1 hv).1; rwa [bytesV_length] at this
    have hc := (hb1.cell (p := ⟨g, off + j, none⟩) hgs).trans (HCe.out j hjl)
    rw [show (⟨g, off, none⟩ : Addr).add j = ⟨g, off + j, none⟩ by unfold Addr.add; split <;> simp_all]
    rw [hc]
    simp [bytesV, hjl] at hv
    rw [hv]
  have h1c : ∀ v ∈ bl, v.oneCell' = true := fun v hv => by
    rw [← HBL.out] at hv
    unfold bytesV at hv
    obtain ⟨c, _, rfl⟩ := List.mem_map.1 hv
    rfl
  have HMK := Lib.hid hmk
  have HSRC := Lib.hid hsrc
  have H1C := Lib.hid h1c
  clear hsrc h1c hmk
  go_wp2_with (first | (refine wpList_copy_splice rfl _ _ _ _ rfl 93 Try.underlying70 hone _ _ n n n cap rfl rfl w.heap.size 0 (List.replicate n (.int .u8 0)) 93 HH1.out bl (by rw [hbn]; exact (Nat.min_self n).symm) (fun _ => ⟨rfl, _, rfl, HSRC.out _ HB1.out⟩) (by simp [hbn]) H1C.out w.heap.size w HB1.out (Nat.le_refl _) ?_; intro w2 hg2 hb2) | (at_make; refine wpList_make_full _ rfl _ _ 70 rfl w.heap.size 93 i0 (.int .u8 0) 1 Try.underlying70 hi hz0 hz1 .i64 .i64 _ _ n rfl rfl rfl rfl (by rw [hz2]; omega) (by unfold maxLen; omega) (Nat.le_refl _) ?_; intro w1 hrow hgrow; rw [HMK.out] at hrow; have HH1 := Lib.hid (row_heap hrow); have HB1 : Hid (Below w.heap.size w w1) := Lib.hid ((Below.refl _ _).grown hgrow (Nat.le_refl _) (fun k e => by cases e)); clear hrow hgrow) | (at_make; refine wpList_make_full _ rfl _ _ 63 rfl w2.heap.size 70 j0 (.slice none 0 0) 1 Try.underlying63 hj hy0 hy1 .i64 .i64 _ _ (n + 1) rfl rfl rfl rfl (by rw [hy2]; omega) (by unfold maxLen; omega) (Nat.le_refl _) ?_; intro w3 hrow hgrow))
  have hsp : splice (List.replicate n (Value.int .u8 0)) 0 bl = bl := by unfold splice; simp [hbn]
  rw [hsp, ← HBL.out] at hg2
  have HG := Lib.hid (letters_heap hg2.out)
  clear hg2 hsp
  have hb3 : Below w2.heap.size w2 w3 := (Below.refl _ _).grown hgrow (Nat.le_refl _) (fun k e => by cases e)
  have hs3 := (ownsRow_cap hrow).2.2.2
  have HR3 := Lib.hid hrow
  clear hrow hgrow
  go_wp2_with fail
  go_loopw [18] (fun i wr => ∃ (k : Nat) (vals : List Value), k ≤ n + 1 ∧ i = .int .i64 k ∧ Hid (wr.ownsRow w2.heap.size WT 1 (.slice (some ⟨w2.heap.size, 0, none⟩) (n + 1) (n + 1)) (n + 1) vals) ∧ Hid (∀ j, j < k → vals[j]? = some (.slice (some ⟨w.heap.size, 0, none⟩) j j)) ∧ Below w2.heap.size w2 wr)
    (fun i _ => n + 1 - (intOf i).toNat)
  case atStart => exact ⟨0, _, Nat.zero_le _, rfl, HR3, Lib.hid (fun j h => absurd h (Nat.not_lt_zero _)), hb3⟩
  case round =>
    obtain ⟨k, vals, hk, rfl, HR, HV, hB⟩ := hrel
    by_cases hlt : k < n + 1
    · have hl := HR.out.1
      rw [Nat.mul_one] at hl
      have hd : ∃ u, wr.cell? ⟨w2.heap.size, k, none⟩ = some u := by rw [HR.out.cellAt k (by omega)]; exact ⟨_, List.getElem?_eq_getElem (by omega)⟩
      obtain ⟨u, hu⟩ := hd
      have hfr := HR.out.frozenAt k
      have hkn : k ≤ n := by omega
      go_wp2
      go_roundw
      case rel =>
        have hst := HR.out.stored k (.slice (some ⟨w.heap.size, 0, none⟩) k k)
        refine ⟨k + 1, _, by omega, by go_num, Lib.hid hst.1, Lib.hid ?_, hB.setCell (p := ⟨w2.heap.size, k, none⟩) (Nat.le_refl _) _⟩
        intro j hj
        by_cases hjk : j = k
        · subst hjk; rw [List.getElem?_set_self (by omega)]
        · rw [List.getElem?_set_ne (by omega)]; exact HV.out j (by omega)
      case measure => simp [intOf]; omega
    · obtain rfl : k = n + 1 := by omega
      go_wp2_with fail
      go_ret
      refine ⟨w2.heap.size, rfl, ⟨(ownsRow_cap HR.out).2.2.2, w.heap.size, HG.out.below hB, fun j hj => ?_⟩, hb2.trans (hB.mono hb2.size)⟩
      rw [HR.out.cellAt j (by have := HL.out; omega)]
      exact HV.out j (by have := HL.out; omega)

end Go.Proofs.Ytebgcebjlbhjjaa

/- The contract of the program's 'derivative'. -/

namespace Go.Proofs.Ytebgcebjlbhjjaa
open Go.RowKit Go.Shelf

set_option maxRecDepth 100000 in
set_option maxHeartbeats 4000000 in
theorem derivative_any (g off cap n : Nat) (l : List UInt8) (gi c : Int) (w : World) (hl : l.length = n) (hn : n ≤ 60) (hlet : Letters g off l w) (hll : letL l = true) (hc : -1000000 ≤ c ∧ c ≤ 1000000) :
    Calls Try.prog 85 #[.slice (some ⟨g, off, none⟩) n cap, .int .i64 gi, .int .i64 c] w fun e w' => (∃ v, e = .returned v ∧ OwnT w.heap.size w' v (foxL gi c l)) ∧ Below w.heap.size w w' := by
  have HBg := Lib.hid (beginnings_any g off cap n l w hl hn hlet)
  obtain ⟨hgs, hcells⟩ := hlet
  obtain ⟨i0, hi, hz0, hz1, hz2⟩ := info_parts infoTerm
  have HCe := Lib.hid hcells
  have HL := Lib.hid hl
  have HLL := Lib.hid hll
  have HC := Lib.hid hc
  have hmx : Try.prog.follows .mixedOrders = true := by kernel_rfl
  clear hcells hl hll hc
  go_enter Try.func85, Try.ntmps85
  go_wp2_with fail
  refine HBg.out.mono ?_
  rintro e w1 ⟨B, rfl, hst, hb1⟩
  have HST := Lib.hid hst
  have HB1 := Lib.hid hb1
  clear hst hb1
  go_wp2_with fail
  go_loopw [8, 16] (fun v i wr => ∃ k : Nat, k ≤ n ∧ i = .int .i64 k ∧ Hid (OwnT w1.heap.size wr v (foxN gi c l k)) ∧ Below w1.heap.size w1 wr) (fun _ i _ => n - (intOf i).toNat)
  case atStart => exact ⟨0, Nat.zero_le _, rfl, Lib.hid ⟨rfl, .inl ⟨rfl, rfl⟩⟩, Below.refl _ _⟩
  case round =>
    obtain ⟨k, hk, rfl, HO, hB⟩ := hrel
    by_cases hlt : k < n
    · have hkl : k < l.length := by rw [HL.out]; exact hlt
      obtain ⟨x, hx⟩ : ∃ x, l[k] = x := ⟨_, rfl⟩
      have hsrc : wr.cell? ⟨g, off + k, none⟩ = some (.int .u8 (x.toNat : Int)) := by
        rw [← hx]; exact ((HB1.out.trans (hB.mono HB1.out.size)).cell (p := ⟨g, off + k, none⟩) hgs).trans (HCe.out k hkl)
      have hlet : letB x = true := by rw [← hx]; exact letL_get _ HLL.out k hkl
      have hsucc := foxN_succ gi c l k hkl
      rw [hx] at hsucc
      obtain ⟨q, hq⟩ : ∃ q, idxB x = q := ⟨_, rfl⟩
      have HIX : Hid (∀ W, Calls Try.prog 82 #[.int .u8 (x.toNat : Int)] W fun e w' => e = .returned (.int .i64 (q : Int)) ∧ w' = W) := Lib.hid fun W => by rw [← hq]; exact iIndex_any x W hlet
      obtain ⟨hBs, G, hLG, hcs⟩ := HST.out.below hB
      have c0 := hcs k (by omega)
      have c1 := hcs (k + 1) (by omega)
      obtain ⟨u, hu⟩ : ∃ u, sgnB x = u := ⟨_, rfl⟩
      have hcu : -1000000 ≤ c * u ∧ c * u ≤ 1000000 := by rw [← hu]; exact mul_sgn HC.out x
      have hmul : IntKind.i64.wrap (c * u) = c * u := IntWalk.i64_in _ (by omega)
      have HSX : Hid (∀ W, Calls Try.prog 83 #[.int .u8 (x.toNat : Int)] W fun e w' => e = .returned (.int .i64 u) ∧ w' = W) := Lib.hid fun W => by rw [← hu]; exact iSign_any x W hlet
      have HSB : Hid (∀ p : BelowBy wr, Calls Try.prog 83 #[.int .u8 (x.toNat : Int)] p.world fun e w' => e = .returned (.int .i64 u) ∧ Below p.world.heap.size p.world w') :=
        Lib.hid fun p => (HSX.out p.world).mono fun e w' ⟨h1, h2⟩ => ⟨h1, by rw [h2]; exact Below.refl _ _⟩
      by_cases hg : (q : Int) = gi
      · have hgg : (idxB x : Int) = gi := by rw [hq]; exact hg
        have hlen := foxN_len gi c l k
        obtain ⟨N, hN⟩ : ∃ N, (foxN gi c l k).length = N := ⟨_, rfl⟩
        rw [hN] at hlen
        have hown := HO.out
        unfold OwnT at hown
        rw [hN] at hown
        have HOW := Lib.hid hown
        have HN := Lib.hid hN
        have hbs := hB.size
        clear hown hN
        by_cases h97 : 97 ≤ x.toNat
        · have hu0 : ¬ u < 0 := by rw [← hu]; unfold sgnB; rw [if_pos h97]; omega
          have hdu : decide (u < 0) = false := decide_eq_false hu0
          rw [foxT_hi hgg h97, hu] at hsucc
          obtain ⟨r, hr⟩ : ∃ r, bstr (l.take k) = r := ⟨_, rfl⟩
          rw [hr] at hsucc
          have HTX : Hid (∀ p : BelowBy wr, Calls Try.prog 101 #[.slice (some ⟨G, 0, none⟩) k k] p.world fun e w' => e = .returned (.string r) ∧ Below p.world.heap.size p.world w') :=
            Lib.hid fun p => by rw [← hr]; exact text_letters G 0 k k (l.take k) p.world (by rw [List.length_take]; omega) (by omega) ((hLG.below p.below).take k)
          have HS := Lib.hid hsucc
          have hbk := hBs
          clear hsucc hr hgg hq hu hlet hcs hLG hcu
          go_wp2_with fail
          refine (HIX.out _).mono ?_
          rintro e w2 ⟨rfl, rfl⟩
          go_wp2_with fail
          refine (HSX.out _).mono ?_
          rintro e w2 ⟨rfl, rfl⟩
          go_wp2_with fail
          refine (HSX.out _).mono ?_
          rintro e w2 ⟨rfl, rfl⟩
          go_wp2_with fail
          refine (HTX.out ⟨w2, Below.refl _ _⟩).mono ?_
          rintro e w3 ⟨rfl, hb3⟩
          have HB3 := Lib.hid (hB.trans (hb3.mono hbs))
          have HO3 := Lib.hid (show w3.ownsRow w1.heap.size TI 2 u8 N (termsV (foxN gi c l k)) from ownsRow_past HOW.out hb3)
          have hs3 : w1.heap.size ≤ w3.heap.size := HB3.out.size
          clear hb3
          go_wp2_with (at_builtin; refine wpList_append_lies _ rfl _ _ _ rfl w1.heap.size TI i0 _ 2 24 Try.underlying23 hi hz0 hz1 hz2 rfl (by omega) u8 N (termsV (foxN gi c l k)) rfl (HO3.out.alloc _) ⟨w3.heap.size, 0, none⟩ 1 1 [.int .i64 (c * u), .string r] rfl rfl (World.news_of_block (cs := #[.int .i64 (c * u), .string r]) (t := TI) (fr := (0, 0)) (heap_alloc_new w3 _)) (by simp [Value.oneCell']) (by omega) (by unfold maxLen; omega) (by omega) (by simp; omega) (w3.heap.size + 1) (by simp) ?_; intro gg cap1 w7 hown7 hgrow7 hat hlt7)
          have hlow := ownsRow_low HO3.out
          have hB7 : Below w1.heap.size w1 w7 := HB3.out.trans (((Below.refl w1.heap.size w3).alloc hs3 _).grown hgrow7 (by simp; omega) hlow)
          have HO7 := Lib.hid hown7
          clear hown7 hgrow7 hat hlt7 hlow
          go_wp2
          go_roundw
          case rel =>
            refine ⟨k + 1, by omega, by go_num, Lib.hid ?_, hB7⟩
            rw [HS.out]
            unfold OwnT
            rw [List.length_append, HN.out, termsV_append]
            exact HO7.out
          case measure => simp [intOf]; omega
        · have hu0 : u < 0 := by rw [← hu]; unfold sgnB; rw [if_neg h97]; omega
          have hdu : decide (u < 0) = true := decide_eq_true hu0
          rw [foxT_lo hgg h97, hu, ← hx, ← take_snoc l k hkl] at hsucc
          obtain ⟨r, hr⟩ : ∃ r, bstr (l.take (k + 1)) = r := ⟨_, rfl⟩
          rw [hr] at hsucc
          have HTX : Hid (∀ p : BelowBy wr, Calls Try.prog 101 #[.slice (some ⟨G, 0, none⟩) (k + 1 : Nat) (k + 1 : Nat)] p.world fun e w' => e = .returned (.string r) ∧ Below p.world.heap.size p.world w') :=
            Lib.hid fun p => by rw [← hr]; exact text_letters G 0 (k + 1) (k + 1) (l.take (k + 1)) p.world (by rw [List.length_take]; omega) (by omega) ((hLG.below p.below).take (k + 1))
          have HS := Lib.hid hsucc
          have hbk := hBs
          clear hsucc hr hgg hq hu hlet hcs hLG hcu hx
          go_wp2_with fail
          refine (HIX.out _).mono ?_
          rintro e w2 ⟨rfl, rfl⟩
          go_wp2_with fail
          refine (HSX.out _).mono ?_
          rintro e w2 ⟨rfl, rfl⟩
          go_wp2_with fail
          refine (HSX.out _).mono ?_
          rintro e w2 ⟨rfl, rfl⟩
          go_wp2_with fail
          refine (HTX.out ⟨w2, Below.refl _ _⟩).mono ?_
          rintro e w3 ⟨rfl, hb3⟩
          have HB3 := Lib.hid (hB.trans (hb3.mono hbs))
          have HO3 := Lib.hid (show w3.ownsRow w1.heap.size TI 2 u8 N (termsV (foxN gi c l k)) from ownsRow_past HOW.out hb3)
          have hs3 : w1.heap.size ≤ w3.heap.size := HB3.out.size
          clear hb3
          go_wp2_with (at_builtin; refine wpList_append_lies _ rfl _ _ _ rfl w1.heap.size TI i0 _ 2 24 Try.underlying23 hi hz0 hz1 hz2 rfl (by omega) u8 N (termsV (foxN gi c l k)) rfl (HO3.out.alloc _) ⟨w3.heap.size, 0, none⟩ 1 1 [.int .i64 (c * u), .string r] rfl rfl (World.news_of_block (cs := #[.int .i64 (c * u), .string r]) (t := TI) (fr := (0, 0)) (heap_alloc_new w3 _)) (by simp [Value.oneCell']) (by omega) (by unfold maxLen; omega) (by omega) (by simp; omega) (w3.heap.size + 1) (by simp) ?_; intro gg cap1 w7 hown7 hgrow7 hat hlt7)
          have hlow := ownsRow_low HO3.out
          have hB7 : Below w1.heap.size w1 w7 := HB3.out.trans (((Below.refl w1.heap.size w3).alloc hs3 _).grown hgrow7 (by simp; omega) hlow)
          have HO7 := Lib.hid hown7
          clear hown7 hgrow7 hat hlt7 hlow
          go_wp2
          go_roundw
          case rel =>
            refine ⟨k + 1, by omega, by go_num, Lib.hid ?_, hB7⟩
            rw [HS.out]
            unfold OwnT
            rw [List.length_append, HN.out, termsV_append]
            exact HO7.out
          case measure => simp [intOf]; omega
      · have hgg : ¬ (idxB x : Int) = gi := by rw [hq]; exact hg
        have hdg : decide ((q : Int) = gi) = false := decide_eq_false hg
        rw [foxT_no hgg, List.append_nil] at hsucc
        have HS := Lib.hid hsucc
        clear hsucc hgg hq hu hlet hcs hLG hcu
        go_wp2_with fail
        refine (HIX.out _).mono ?_
        rintro e w2 ⟨rfl, rfl⟩
        go_wp2_with fail
        go_roundw
        case rel => exact ⟨k + 1, by omega, by go_num, Lib.hid (by rw [HS.out]; exact HO.out), hB⟩
        case measure => simp [intOf]; omega
    · obtain rfl : k = n := by omega
      go_wp2_with fail
      go_ret
      refine ⟨⟨_, rfl, ?_⟩, HB1.out.trans (hB.mono HB1.out.size)⟩
      unfold foxL
      rw [HL.out]
      exact HO.out.mono HB1.out.size

end Go.Proofs.Ytebgcebjlbhjjaa

/- The contracts of the program's 'FoxSum' and 'FoxOf'. -/

namespace Go.Proofs.Ytebgcebjlbhjjaa
open Go.RowKit Go.Shelf

/-- A list of terms of the call's own is put behind another one. -/
theorem wpList_append_terms {w : World} {ops : Array Oper} {rest : List Oper} {o : Oper} {a : Act} {Q : Exit → Act → World → Prop} (hgd : o.guard = none) (s x : Operand)
    (ho : o.op = .call { callee := .builtin .append, args := #[s, x], argTypes := #[23, 23] }) (base b2 : Nat) (v1 v2 : Value) (ts1 ts2 : List Tm) (hs : a.eval s = v1) (hx : a.eval x = v2)
    (h1 : OwnT base w v1 ts1) (h2 : OwnT b2 w v2 ts2) (hl : ts1.length + ts2.length ≤ 1000000) (hbase : base ≤ w.heap.size)
    (h : ∀ v' w', OwnT base w' v' (ts1 ++ ts2) → w.grownBy w' v1.ownBlock → wpList Try.prog ops Q rest (a.put o.dst v') w') : wpList Try.prog ops Q (o :: rest) a w := by
  obtain ⟨i0, hi, hz0, hz1, hz2⟩ := info_parts infoTerm
  rcases h2.2 with ⟨rfl, h0⟩ | ⟨g, cap, cur, rfl, _⟩
  · have h20 : ts2 = [] := List.eq_nil_of_length_eq_zero h0
    subst h20
    refine wpList_append_own_none hgd s x 23 ho base TI i0 2 Try.underlying23 hi v1 ts1.length (termsV ts1) hs h1 hx ?_
    refine h v1 w (by rw [List.append_nil]; exact h1) ⟨rfl, rfl, rfl, Nat.le_refl _, fun _ _ _ => rfl⟩
  · have hat := termsAt_of_owns rfl h2
    have hc : ∀ j u, (termsV ts2)[j]? = some u → w.cell? ((⟨g, 0, none⟩ : Addr).add j) = some u := hat.cells
    refine wpList_append_own _ hgd s x 23 ho base TI i0 (.agg #[.int .i64 0, .string ByteArray.empty]) 2 24 Try.underlying23 hi hz0 hz1 hz2 rfl (by decide) v1 ts1.length (termsV ts1) hs h1
      ⟨g, 0, none⟩ ts2.length cap (termsV ts2) hx (termsV_len ts2) hc (oneCell_terms _) (by unfold maxLen; omega) (by omega) hbase ?_
    intro v' w' h3 h4 _
    refine h v' w' ?_ h4
    unfold OwnT
    rw [List.length_append, termsV_append]
    exact h3

set_option maxRecDepth 100000 in
set_option maxHeartbeats 4000000 in
theorem iFoxSum_noSum (a : Option Addr) (cap n : Nat) (x : List Tm) (g : Int) (w : World) (hx : IsTerms w a n x) (hb : sumB x = false) :
    Calls Try.prog 45 #[.slice a n cap, .int .i64 g] w (ITold w false []) := by
  have HX := Lib.hid hx
  have HBX := Lib.hid hb
  clear hx hb
  go_enter Try.func45, Try.ntmps45
  go_wp2_with fail
  refine (sumWords_any a cap n x _ HX.out).mono ?_
  rintro e w1 ⟨⟨rfl, hf⟩ | ⟨g1, vals, rfl, hf, _, _⟩, hb1⟩
  · have HB1 := Lib.hid hb1
    clear hb1 hf
    go_wp2
    go_ret2
    exact ⟨⟨_, rfl, ownNil _ _⟩, HB1.out⟩
  · rw [HBX.out] at hf; cases hf

set_option maxRecDepth 100000 in
set_option maxHeartbeats 4000000 in
theorem iFoxSum_noGen (a : Option Addr) (cap n : Nat) (x : List Tm) (g : Int) (w : World) (hx : IsTerms w a n x) (hb : inR 0 3 g = false) :
    Calls Try.prog 45 #[.slice a n cap, .int .i64 g] w (ITold w false []) := by
  have HX := Lib.hid hx
  have hgn : ¬ (0 ≤ g ∧ g ≤ 3) := by
    intro h
    unfold inR at hb
    rw [decide_eq_true h.1, decide_eq_true h.2] at hb
    cases hb
  clear hx hb
  by_cases h0 : g < 0
  · have hd : decide (g < 0) = true := decide_eq_true h0
    go_enter Try.func45, Try.ntmps45
    go_wp2_with fail
    refine (sumWords_any a cap n x _ HX.out).mono ?_
    rintro e w1 ⟨⟨rfl, hf⟩ | ⟨g1, vals, rfl, hf, _, _⟩, hb1⟩
    · have HB1 := Lib.hid hb1
      clear hb1 hf
      go_wp2
      go_ret2
      exact ⟨⟨_, rfl, ownNil _ _⟩, HB1.out⟩
    · have HB1 := Lib.hid hb1
      clear hb1 hf
      go_wp2
      go_ret2
      exact ⟨⟨_, rfl, ownNil _ _⟩, HB1.out⟩
  · have hd : decide (g < 0) = false := decide_eq_false h0
    have h4 : 4 ≤ g := by omega
    have hd4 : decide (4 ≤ g) = true := decide_eq_true h4
    go_enter Try.func45, Try.ntmps45
    go_wp2_with fail
    refine (sumWords_any a cap n x _ HX.out).mono ?_
    rintro e w1 ⟨⟨rfl, hf⟩ | ⟨g1, vals, rfl, hf, _, _⟩, hb1⟩
    · have HB1 := Lib.hid hb1
      clear hb1 hf
      go_wp2
      go_ret2
      exact ⟨⟨_, rfl, ownNil _ _⟩, HB1.out⟩
    · have HB1 := Lib.hid hb1
      clear hb1 hf
      go_wp2
      go_ret2
      exact ⟨⟨_, rfl, ownNil _ _⟩, HB1.out⟩

set_option maxRecDepth 100000 in
set_option maxHeartbeats 4000000 in
theorem iFoxSum_yes (a : Option Addr) (cap n : Nat) (x : List Tm) (g : Int) (b : Bool) (w : World) (hx : IsTerms w a n x) (hbx : sumB x = true) (hg : inR 0 3 g = true) (hb : twB (canonT (foxI g x)) = b) :
    Calls Try.prog 45 #[.slice a n cap, .int .i64 g] w (ITold w b (canonT (foxI g x))) := by
  obtain ⟨hlx, hwx⟩ := canon_len_words (sumB_parts hbx).1
  have hn : n ≤ 300 := by rw [← hx.len]; exact hlx
  have HX := Lib.hid hx
  have HBX := Lib.hid hbx
  have HWX := Lib.hid hwx
  have HBB := Lib.hid hb
  obtain ⟨hg0, hg3⟩ : 0 ≤ g ∧ g ≤ 3 := by unfold inR at hg; simpa using hg
  have hd : decide (g < 0) = false := decide_eq_false (by omega)
  have hd4 : decide (4 ≤ g) = false := decide_eq_false (by omega)
  have HLEN : Hid (∀ k, k ≤ n → (foxI g (x.take k)).length ≤ 18000) := Lib.hid fun k hk => by
    have h1 := foxI_len g (x.take k) fun t ht => (termB_iff (hwx t (List.mem_of_mem_take ht))).1
    have h2 : (x.take k).length ≤ 300 := by rw [List.length_take]; omega
    omega
  clear hx hbx hlx hwx hb hg
  go_enter Try.func45, Try.ntmps45
  go_wp2_with fail
  refine (sumWords_any a cap n x _ HX.out).mono ?_
  rintro e w1 ⟨⟨rfl, hf⟩ | ⟨g1, vals, rfl, hf, hr1, hv1⟩, hb1⟩
  · rw [HBX.out] at hf; cases hf
  have HB1 := Lib.hid hb1
  have HW1 := Lib.hid (wordsAt_of HX.out.len hr1 hv1)
  clear hb1 hf hr1 hv1
  go_wp2_with fail
  go_loopw [8, 28] (fun v i wr => ∃ k : Nat, k ≤ n ∧ i = .int .i64 k ∧ Hid (OwnT w1.heap.size wr v (foxI g (x.take k))) ∧ Below w1.heap.size w1 wr) (fun _ i _ => n - (intOf i).toNat)
  case atStart => exact ⟨0, Nat.zero_le _, rfl, Lib.hid ⟨rfl, .inl ⟨rfl, rfl⟩⟩, Below.refl _ _⟩
  case round =>
    obtain ⟨k, hk, rfl, HO, hB⟩ := hrel
    by_cases hlt : k < n
    · have hkx : k < x.length := by rw [HX.out.len]; exact hlt
      obtain ⟨z, rfl, hz⟩ := HX.out.at_ (by omega)
      obtain ⟨t, ht⟩ : ∃ t, x[k] = t := ⟨_, rfl⟩
      have htb := HWX.out _ (List.getElem_mem hkx)
      obtain ⟨gw, cw, hcw, hiw⟩ := (HW1.out.below hB).2 k hkx
      have hzw := hz.below (HB1.out.trans (hB.mono HB1.out.size))
      have hc := hzw.2 k hkx
      rw [ht] at htb hcw hiw hc
      obtain ⟨c0, _⟩ := hc
      have hti := termB_iff htb
      have hlet := ((wordB_iff _).1 (termB_word htb)).2.1
      obtain ⟨_, offw, _, heq, hgw, hq0, hcells⟩ := hiw
      simp only [Value.slice.injEq, Option.some.injEq, Addr.mk.injEq] at heq
      obtain ⟨⟨rfl, rfl, hq1⟩, hq2, rfl⟩ := heq
      clear hq0 hq1 hq2
      have hlw : Letters gw 0 t.s.data.toList wr := ⟨hgw, hcells⟩
      have HD : Hid (Calls Try.prog 85 #[.slice (some ⟨gw, 0, none⟩) t.s.size cw, .int .i64 g, .int .i64 t.c] wr fun e w' => (∃ v, e = .returned v ∧ OwnT wr.heap.size w' v (foxL g t.c t.s.data.toList)) ∧ Below wr.heap.size wr w') :=
        Lib.hid (derivative_any gw 0 cw t.s.size t.s.data.toList g t.c wr (by simp) hti.1 hlw hlet hti.2)
      have hsucc := foxI_succ g x k hkx
      rw [ht] at hsucc
      have hlen := HLEN.out (k + 1) (by omega)
      rw [hsucc, List.length_append] at hlen
      have HS := Lib.hid hsucc
      have HLE := Lib.hid hlen
      have hbs := hB.size
      clear ht htb hzw hti hlet hcells hlw hsucc hlen hz
      go_wp2_with fail
      refine HD.out.mono ?_
      rintro e w3 ⟨⟨vd, rfl, hod⟩, hb3⟩
      have HOD := Lib.hid hod
      have HO3 := Lib.hid (HO.out.below hb3)
      have HB3 := Lib.hid (hB.trans (hb3.mono hbs))
      have hs3 : w1.heap.size ≤ w3.heap.size := HB3.out.size
      clear hod hb3
      go_wp2_with (at_builtin; refine wpList_append_terms rfl _ _ rfl w1.heap.size wr.heap.size _ _ _ _ rfl rfl HO3.out HOD.out (by have := HLE.out; omega) hs3 ?_; intro v' w5 ho5 hg5)
      have hB5 : Below w1.heap.size w1 w5 := HB3.out.trans ((Below.refl w1.heap.size w3).grown hg5 hs3 (ownsRow_low HO3.out))
      have HO5 := Lib.hid ho5
      clear ho5 hg5
      go_wp2
      go_roundw
      case rel => exact ⟨k + 1, by omega, by go_num, Lib.hid (by rw [HS.out]; exact HO5.out), hB5⟩
      case measure => simp [intOf]; omega
    · obtain rfl : k = n := by omega
      have hown := HO.out
      rw [List.take_of_length_le (by rw [HX.out.len]; exact Nat.le_refl _)] at hown
      have hcf : ∀ t ∈ foxI g x, t.s.size ≤ 60 ∧ -1000000 ≤ t.c ∧ t.c ≤ 1000000 := fun t ht => foxI_mem (fun u hu => termB_iff (HWX.out u hu)) ht
      have hlen := HLEN.out k (Nat.le_refl _)
      rw [List.take_of_length_le (by rw [HX.out.len]; exact Nat.le_refl _)] at hlen
      have hsm : SmallT (foxI g x) := ⟨by unfold maxLen; omega, fun t ht => by have := hcf t ht; unfold maxLen; omega⟩
      obtain ⟨av, cv, rfl, hI⟩ := hown.isTerms hsm
      obtain ⟨N, hN⟩ : ∃ N, (foxI g x).length = N := ⟨_, rfl⟩
      rw [hN] at hI hlen ⊢
      have htold := toldSum_any av cv N (foxI g x) b wr hI (by omega) (fun t ht => by have := hcf t ht; omega) HBB.out
      have HTo := Lib.hid htold
      have HBr := Lib.hid hB
      clear hown hcf hsm hI hN htold
      go_wp2_with fail
      refine HTo.out.mono ?_
      rintro e w5 ⟨⟨v', rfl, ho⟩, hb5⟩
      have HO := Lib.hid ho
      have HB5 := Lib.hid (HB1.out.trans ((HBr.out.trans (hb5.mono HBr.out.size)).mono HB1.out.size))
      have hs5 := HBr.out.size
      have hs1 := HB1.out.size
      clear ho hb5
      go_wp2
      go_ret2
      exact ⟨⟨_, rfl, HO.out.mono (by omega)⟩, HB5.out⟩

end Go.Proofs.Ytebgcebjlbhjjaa

/- The contracts of both 'FoxOf' and both 'FoxTwice'. -/

namespace Go.Proofs.Ytebgcebjlbhjjaa
open Go.RowKit Go.Shelf

theorem iFoxSum_any (a : Option Addr) (cap n : Nat) (x : List Tm) (g : Int) (b : Bool) (w : World) (hx : IsTerms w a n x) (hb : foxSumB x g = b) :
    Calls Try.prog 45 #[.slice a n cap, .int .i64 g] w (ITold w b (canonT (foxI g x))) := by
  unfold foxSumB at hb
  cases hbx : sumB x with
  | false => rw [hbx] at hb; subst hb; exact iFoxSum_noSum _ _ _ x g w hx hbx
  | true =>
    cases hbg : inR 0 3 g with
    | false => rw [hbx, hbg] at hb; subst hb; exact iFoxSum_noGen _ _ _ x g w hx hbg
    | true => rw [hbx, hbg] at hb; exact iFoxSum_yes _ _ _ x g b w hx hbx hbg hb

/-- What FoxOf answers. -/
def foxOfB (s : ByteArray) (g : Int) : Bool := wordB s.data.toList && inR 0 3 g
theorem sum_one (s : ByteArray) : sumB [⟨1, s⟩] = wordB s.data.toList := by
  rw [sumB_canon ⟨by simp, fun t ht => by rw [List.mem_singleton.1 ht]; exact Int.one_ne_zero⟩]
  unfold twB termB inR
  simp
theorem foxI_one (s : ByteArray) (g : Int) : foxI g [⟨1, s⟩] = foxL g 1 s.data.toList := by simp [foxI]
theorem foxOf_sum {s : ByteArray} {g : Int} : foxSumB [⟨1, s⟩] g = foxOfB s g := by
  unfold foxSumB foxOfB
  rw [sum_one, foxI_one]
  cases h : wordB s.data.toList with
  | false => rfl
  | true => rw [fox_tw h, Bool.and_true]
theorem foxOfB_tw {s : ByteArray} {g : Int} {b : Bool} (h : foxOfB s g = b) : b = true → twB (canonT (foxL g 1 s.data.toList)) = true := by
  intro hb
  subst hb
  unfold foxOfB at h
  simp only [Bool.and_eq_true] at h
  exact fox_tw h.1
theorem isTerms_one (w : World) (c : Int) (s : ByteArray) (hs : s.size ≤ maxLen) (hc : -9223372036854775808 ≤ c ∧ c ≤ 9223372036854775807) :
    IsTerms (w.alloc (.cells #[.int .i64 c, .string s] TI)) (some ⟨w.heap.size, 0, none⟩) 1 [⟨c, s⟩] :=
  ⟨rfl, by unfold maxLen; omega, fun _ => ⟨_, rfl, by simp, fun i hi => by
    have hi0 : i = 0 := by simp at hi; exact hi
    subst hi0
    have ha : ∀ j, (⟨w.heap.size, 0, none⟩ : Addr).add j = ⟨w.heap.size, j, none⟩ := fun j => by unfold Addr.add; split <;> simp_all
    rw [ha, ha]
    exact ⟨(World.cell?_alloc_at _ _ _ _ (by simp)).trans rfl, (World.cell?_alloc_at _ _ _ _ (by simp)).trans rfl⟩⟩,
    fun t ht => by rw [List.mem_singleton.1 ht]; exact ⟨hs, hc⟩⟩

set_option maxRecDepth 100000 in
set_option maxHeartbeats 2000000 in
theorem iFoxOf_any (s : ByteArray) (g : Int) (b : Bool) (w : World) (hs : s.size ≤ maxLen) (hb : foxOfB s g = b) :
    Calls Try.prog 38 #[.string s, .int .i64 g] w (ITold w b (canonT (foxL g 1 s.data.toList))) := by
  have hc := iFoxSum_any (some ⟨w.heap.size, 0, none⟩) 1 1 [⟨1, s⟩] g b (w.alloc (.cells #[.int .i64 1, .string s] TI)) (isTerms_one w 1 s hs (by omega)) (by rw [foxOf_sum]; exact hb)
  rw [foxI_one] at hc
  have HC := Lib.hid hc
  clear hc hb
  go_enter Try.func38, Try.ntmps38
  go_wp2_with fail
  refine HC.out.mono ?_
  rintro e w1 ⟨⟨v', rfl, ho⟩, hb1⟩
  have HO := Lib.hid ho
  have HB1 := Lib.hid hb1
  clear ho hb1
  go_wp2
  go_ret2
  exact ⟨⟨_, rfl, HO.out.mono (by simp)⟩, ((Below.refl w.heap.size w).alloc (Nat.le_refl _) _).trans (HB1.out.mono (by simp))⟩

set_option maxRecDepth 100000 in
set_option maxHeartbeats 2000000 in
theorem sFoxOf_any (s : ByteArray) (g : Int) (b : Bool) (w : World) (hs : s.size ≤ maxLen) (hb : foxOfB s g = b) :
    Calls Try.prog 39 #[.string s, .int .i64 g] w (STold w b (canonT (foxL g 1 s.data.toList))) := by
  unfold foxOfB at hb
  cases hw : wordB s.data.toList with
  | false =>
    rw [hw] at hb
    obtain rfl : false = b := hb
    have HW := Lib.hid hw
    clear hw
    go_enter Try.func39, Try.ntmps39
    go_wp2_with fail
    refine (sWordIn_is _ false _ hs HW.out).mono ?_
    rintro e w1 ⟨rfl, hb1⟩
    have HB1 := Lib.hid hb1
    clear hb1
    go_wp2
    go_ret2
    exact ⟨⟨_, rfl, (ownEmpty w1).mono HB1.out.size⟩, HB1.out.alloc HB1.out.size _⟩
  | true =>
    cases hg : inR 0 3 g with
    | false =>
      rw [hw, hg] at hb
      obtain rfl : false = b := hb
      have HW := Lib.hid hw
      have HG := Lib.hid hg
      clear hw hg
      go_enter Try.func39, Try.ntmps39
      go_wp2_with fail
      refine (sWordIn_is _ true _ hs HW.out).mono ?_
      rintro e w1 ⟨rfl, hb1⟩
      have HB1 := Lib.hid hb1
      clear hb1
      go_wp2_with fail
      refine (l6In_is _ _ _ false _ HG.out).mono ?_
      rintro e w2 ⟨rfl, hb2⟩
      have HB2 := Lib.hid (HB1.out.trans (hb2.mono HB1.out.size))
      clear hb2
      go_wp2
      go_ret2
      exact ⟨⟨_, rfl, (ownEmpty w2).mono HB2.out.size⟩, HB2.out.alloc HB2.out.size _⟩
    | true =>
      rw [hw, hg] at hb
      obtain rfl : true = b := hb
      obtain ⟨hw1, hw2, _⟩ := (wordB_iff _).1 hw
      have HF : Hid (∀ W, Calls Try.prog 80 #[.string s, .int .i64 g] W fun e w' => (∃ v, e = .returned v ∧ Acc W.heap.size w' v (canonT (foxL g 1 s.data.toList)) 60 60) ∧ Below W.heap.size W w') :=
        Lib.hid fun W => l3Fox_any s g W (by simpa using hw1) hw2
      have HW := Lib.hid hw
      have HG := Lib.hid hg
      clear hw hg hw1 hw2
      go_enter Try.func39, Try.ntmps39
      go_wp2_with fail
      refine (sWordIn_is _ true _ hs HW.out).mono ?_
      rintro e w1 ⟨rfl, hb1⟩
      have HB1 := Lib.hid hb1
      clear hb1
      go_wp2_with fail
      refine (l6In_is _ _ _ true _ HG.out).mono ?_
      rintro e w2 ⟨rfl, hb2⟩
      have HB2 := Lib.hid (HB1.out.trans (hb2.mono HB1.out.size))
      clear hb2
      go_wp2_with fail
      refine (HF.out _).mono ?_
      rintro e w3 ⟨⟨v, rfl, ho⟩, hb3⟩
      have HO := Lib.hid ho.own
      have HB3 := Lib.hid (HB2.out.trans (hb3.mono HB2.out.size))
      have hs2 := HB2.out.size
      clear ho hb3
      go_wp2
      go_ret2
      exact ⟨⟨_, rfl, HO.out.mono hs2⟩, HB3.out⟩

/-! ### FoxTwice -/
structure Twice (s : ByteArray) (g h : Int) (b1 b2 : Bool) (us us2 : List Tm) (z : Int) (b : Bool) : Prop where
  h1 : foxOfB s g = b1
  hus : cond b1 (canonT (foxL g 1 s.data.toList)) [] = us
  h2 : foxSumB us h = b2
  hus2 : cond b2 (canonT (foxI h us)) [] = us2
  hz : cond (b1 && b2) (plainZ us2) 0 = z
  hb : (b1 && b2) = b
theorem Twice.small {s : ByteArray} {g h : Int} {b1 b2 : Bool} {us us2 : List Tm} {z : Int} {b : Bool} (t : Twice s g h b1 b2 us us2 z b) : SmallT us := (told_small (foxOfB_tw t.h1) t.hus).1
theorem Twice.small2 {s : ByteArray} {g h : Int} {b1 b2 : Bool} {us us2 : List Tm} {z : Int} {b : Bool} (t : Twice s g h b1 b2 us us2 z b) : SmallT us2 := (told_small (foxSumB_tw t.h2) t.hus2).1
theorem Twice.sum2 {s : ByteArray} {g h : Int} {b1 b2 : Bool} {us us2 : List Tm} {z : Int} {b : Bool} (t : Twice s g h b1 b2 us us2 z b) (hb : b2 = true) : sumB us2 = true := by
  have h2 := t.hus2
  rw [hb] at h2
  have h2 : canonT (foxI h us) = us2 := h2
  rw [← h2, sumB_canon (canon_of _)]
  exact foxSumB_tw t.h2 hb

theorem sFoxSum_law {gn c n : Nat} {x : List Tm} {g : Int} {b : Bool} {w : World} (hx : IsTerms w (some ⟨gn, 0, none⟩) n x) (hb : foxSumB x g = b) :
    Calls Try.prog 46 #[.slice (some ⟨gn, 0, none⟩) n c, .int .i64 g] w (STold w b (canonT (foxI g x))) := sFoxSum_any _ _ _ x g b w hx hb
theorem iFoxSum_law {gn c n : Nat} {x : List Tm} {g : Int} {b : Bool} {w : World} (hx : IsTerms w (some ⟨gn, 0, none⟩) n x) (hb : foxSumB x g = b) :
    Calls Try.prog 45 #[.slice (some ⟨gn, 0, none⟩) n c, .int .i64 g] w (ITold w b (canonT (foxI g x))) := iFoxSum_any _ _ _ x g b w hx hb
theorem sFoxOf_law {s : ByteArray} {g : Int} {b : Bool} {w : World} (hs : s.size ≤ maxLen) (hb : foxOfB s g = b) :
    Calls Try.prog 39 #[.string s, .int .i64 g] w (STold w b (canonT (foxL g 1 s.data.toList))) := sFoxOf_any s g b w hs hb
theorem iFoxOf_law {s : ByteArray} {g : Int} {b : Bool} {w : World} (hs : s.size ≤ maxLen) (hb : foxOfB s g = b) :
    Calls Try.prog 38 #[.string s, .int .i64 g] w (ITold w b (canonT (foxL g 1 s.data.toList))) := iFoxOf_any s g b w hs hb

end Go.Proofs.Ytebgcebjlbhjjaa

/- The contracts of both 'FoxBack'. -/

namespace Go.Proofs.Ytebgcebjlbhjjaa
open Go.RowKit Go.Shelf

def genS (g : Nat) : ByteArray := bstr [UInt8.ofNat (97 + g)]
/-- A generator less 1. -/
def lessT (g : Nat) : List Tm := [⟨-1, { data := #[] }⟩, ⟨1, genS g⟩]
theorem less_sum (g : Nat) (h : g < 4) : sumB (lessT g) = true := by
  have : g = 0 ∨ g = 1 ∨ g = 2 ∨ g = 3 := by omega
  rcases this with rfl | rfl | rfl | rfl <;> decide +kernel
theorem isTerms_less (w : World) (g : Nat) : IsTerms (w.alloc (.cells #[.int .i64 (-1), .string { data := #[] }, .int .i64 1, .string (genS g)] 30)) (some ⟨w.heap.size, 0, none⟩) 2 (lessT g) :=
  ⟨rfl, by unfold maxLen; omega, fun _ => ⟨_, rfl, by simp, fun i hi => by
    have ha : ∀ j, (⟨w.heap.size, 0, none⟩ : Addr).add j = ⟨w.heap.size, j, none⟩ := fun j => by unfold Addr.add; split <;> simp_all
    rw [ha, ha]
    match i, hi with
    | 0, _ => exact ⟨(World.cell?_alloc_at _ _ _ _ (by simp)).trans rfl, (World.cell?_alloc_at _ _ _ _ (by simp)).trans rfl⟩
    | 1, _ => exact ⟨(World.cell?_alloc_at _ _ _ _ (by simp)).trans rfl, (World.cell?_alloc_at _ _ _ _ (by simp)).trans rfl⟩⟩,
    fun t ht => by
      rcases List.mem_cons.1 ht with rfl | ht
      · exact ⟨Nat.zero_le _, by show (-9223372036854775808 : Int) ≤ -1; omega, by show (-1 : Int) ≤ 9223372036854775807; omega⟩
      · obtain rfl := List.mem_singleton.1 ht
        exact ⟨by show (genS g).size ≤ _; unfold genS maxLen; rw [bstr_size]; simp, by show (-9223372036854775808 : Int) ≤ 1; omega, by show (1 : Int) ≤ 9223372036854775807; omega⟩⟩

def backRow (rows : List (List Tm)) (g : Nat) : List Tm := canonT (pairsT (rows.getD g []) (lessT g))
def backN (rows : List (List Tm)) (k : Nat) : List Tm := (List.range k).flatMap (backRow rows)
theorem backN_succ (rows : List (List Tm)) (k : Nat) : backN rows (k + 1) = backN rows k ++ backRow rows k := by
  unfold backN; rw [List.range_succ, List.flatMap_append]; simp
def prodAt (rows : List (List Tm)) (g : Nat) : Bool := prodB (rows.getD g []) (lessT g)
/-- What FoxBack answers. -/
def backB (rows : List (List Tm)) : Bool := decide (rows.length = 4) && ((List.range 4).all (prodAt rows) && twB (canonT (backN rows 4)))
theorem back_false {rows : List (List Tm)} {k : Nat} (hk : k < 4) (h : prodAt rows k = false) : (List.range 4).all (prodAt rows) = false := List.all_eq_false.2 ⟨k, List.mem_range.2 hk, by simp [h]⟩
theorem back_true {rows : List (List Tm)} (h : ∀ g, g < 4 → prodAt rows g = true) : (List.range 4).all (prodAt rows) = true := List.all_eq_true.2 fun g hg => h g (List.mem_range.1 hg)
theorem back_row {rows : List (List Tm)} {g : Nat} (h : prodAt rows g = true) : (backRow rows g).length ≤ 300 ∧ ∀ t ∈ backRow rows g, termB t = true := canon_len_words (prodB_tw h rfl)
theorem back_sizes {rows : List (List Tm)} : ∀ {k : Nat}, (∀ g, g < k → prodAt rows g = true) → (backN rows k).length ≤ 300 * k ∧ ∀ t ∈ backN rows k, termB t = true
  | 0, _ => ⟨by simp [backN], fun t h => by simp [backN] at h⟩
  | k + 1, h => by
    obtain ⟨h1, h2⟩ := back_sizes (k := k) fun g hg => h g (by omega)
    obtain ⟨h3, h4⟩ := back_row (h k (by omega))
    rw [backN_succ]
    refine ⟨by rw [List.length_append]; omega, fun t ht => ?_⟩
    rcases List.mem_append.1 ht with ht | ht
    · exact h2 t ht
    · exact h4 t ht

theorem iSumTimes_any (a1 a2 : Option Addr) (c1 c2 n m : Nat) (x y : List Tm) (b : Bool) (w : World) (hx : IsTerms w a1 n x) (hy : IsTerms w a2 m y) (hb : prodB x y = b) :
    Calls Try.prog 19 #[.slice a1 n c1, .slice a2 m c2] w (ITold w b (canonT (pairsT x y))) := by
  unfold prodB at hb
  cases hbx : sumB x with
  | false => rw [hbx] at hb; subst hb; exact iSumTimes_no _ _ _ _ _ _ x y w hx hy (.inl hbx)
  | true =>
    cases hby : sumB y with
    | false => rw [hbx, hby] at hb; subst hb; exact iSumTimes_no _ _ _ _ _ _ x y w hx hy (.inr hby)
    | true => rw [hbx, hby] at hb; exact iSumTimes_yes _ _ _ _ _ _ x y b w hx hy hbx hby hb
theorem sSumTimes_any (a1 a2 : Option Addr) (c1 c2 n m : Nat) (x y : List Tm) (b : Bool) (w : World) (hx : IsTerms w a1 n x) (hy : IsTerms w a2 m y) (hb : prodB x y = b) :
    Calls Try.prog 28 #[.slice a1 n c1, .slice a2 m c2] w (STold w b (canonT (pairsT x y))) := by
  unfold prodB at hb
  cases hbx : sumB x with
  | false => rw [hbx] at hb; subst hb; exact sSumTimes_no _ _ _ _ _ _ x y w hx hy (.inl hbx)
  | true =>
    cases hby : sumB y with
    | false => rw [hbx, hby] at hb; subst hb; exact sSumTimes_no _ _ _ _ _ _ x y w hx hy (.inr hby)
    | true => rw [hbx, hby] at hb; exact sSumTimes_yes _ _ _ _ _ _ x y b w hx hy hbx hby hb

theorem gen_nat (g : Nat) (h : g < 4) : ((UInt8.ofNat (97 + g)).toNat : Int) = 97 + (g : Int) := by
  rw [UInt8.toNat_ofNat', Nat.mod_eq_of_lt (by omega)]; omega

set_option maxRecDepth 100000 in
set_option maxHeartbeats 2000000 in
theorem lessOne_any (g : Nat) (w : World) (hg : g < 4) :
    Calls Try.prog 87 #[.int .i64 g] w fun e w' => (∃ B, e = .returned (.slice (some ⟨B, 0, none⟩) 2 2) ∧ IsTerms w' (some ⟨B, 0, none⟩) 2 (lessT g)) ∧ Below w.heap.size w w' := by
  have hr0 : 0 ≤ 97 + (g : Int) := by omega
  have hr1 : 97 + (g : Int) ≤ 255 := by omega
  have hlt : Letters w.heap.size 0 [UInt8.ofNat (97 + g)] (w.alloc (.cells #[.int .u8 (97 + (g : Int))] 93)) :=
    ⟨by simp, fun j hj => by
      have hj0 : j = 0 := by simp at hj; exact hj
      subst hj0
      rw [Nat.zero_add, World.cell?_alloc_at _ _ _ _ (by simp), List.getElem_cons_zero, gen_nat g hg]; rfl⟩
  have HT : Hid (Calls Try.prog 101 #[.slice (some ⟨w.heap.size, 0, none⟩) 1 1] (w.alloc (.cells #[.int .u8 (97 + (g : Int))] 93)) fun e w' => e = .returned (.string (genS g)) ∧ Below (w.alloc (.cells #[.int .u8 (97 + (g : Int))] 93)).heap.size (w.alloc (.cells #[.int .u8 (97 + (g : Int))] 93)) w') :=
    Lib.hid (text_letters w.heap.size 0 1 1 _ _ rfl (by omega) hlt)
  clear hlt
  go_enter Try.func87, Try.ntmps87
  go_wp2_with fail
  refine HT.out.mono ?_
  rintro e w1 ⟨rfl, hb1⟩
  have HB1 : Hid (Below w.heap.size w w1) := Lib.hid (((Below.refl w.heap.size w).alloc (Nat.le_refl _) _).trans (hb1.mono (by simp)))
  clear hb1
  go_wp2
  go_ret
  exact ⟨⟨_, rfl, isTerms_less w1 g⟩, HB1.out.alloc HB1.out.size _⟩

set_option maxRecDepth 100000 in
theorem iFoxBack_not4 (a : Option Addr) (cap n : Nat) (rows : List (List Tm)) (w : World) (hs : IsTT w a n rows) (h : n ≠ 4) :
    Calls Try.prog 51 #[.slice a n cap] w (ITold w false []) := by
  have hm := hs.max
  unfold maxLen at hm
  have hd : decide ((n : Int) = 4) = false := decide_eq_false (by omega)
  have hn : ¬ (n : Int) = 4 := by omega
  clear hs
  go_enter Try.func51, Try.ntmps51
  go_wp2
  go_ret2
  exact ⟨⟨_, rfl, ownNil _ _⟩, Below.refl _ _⟩

set_option maxRecDepth 100000 in
set_option maxHeartbeats 4000000 in
theorem iFoxBack_four (a : Option Addr) (cap : Nat) (rows : List (List Tm)) (b : Bool) (w : World) (hs : IsTT w a 4 rows) (hb : ((List.range 4).all (prodAt rows) && twB (canonT (backN rows 4))) = b) :
    Calls Try.prog 51 #[.slice a 4 cap] w (ITold w b (canonT (backN rows 4))) := by
  have HS := Lib.hid hs
  have HBB := Lib.hid hb
  clear hs hb
  go_enter Try.func51, Try.ntmps51
  go_wp2
  go_loopw [4, 14] (fun v i wr => ∃ k : Nat, k ≤ 4 ∧ i = .int .i64 k ∧ Hid ((∀ g, g < k → prodAt rows g = true) ∧ OwnT w.heap.size wr v (backN rows k)) ∧ Below w.heap.size w wr) (fun _ i _ => 4 - (intOf i).toNat)
  case atStart => exact ⟨0, Nat.zero_le _, rfl, Lib.hid ⟨fun g h => absurd h (Nat.not_lt_zero _), rfl, .inl ⟨rfl, rfl⟩⟩, Below.refl _ _⟩
  case round =>
    obtain ⟨k, hk, rfl, HO, hB⟩ := hrel
    by_cases hlt : k < 4
    · have hkr : k < rows.length := by rw [HS.out.len]; exact hlt
      obtain ⟨x, rfl, hxb, hx⟩ := HS.out.at_ (by omega)
      obtain ⟨ai, ci, hc, hI⟩ := hx k hkr
      have hc0 := (hB.cell (p := x.add k) (by rw [addr_add_block]; exact hxb)).trans hc
      have hgd : rows.getD k [] = rows[k] := by rw [List.getD_eq_getElem?_getD, List.getElem?_eq_getElem hkr]; rfl
      obtain ⟨bp, hbp⟩ : ∃ bp, prodAt rows k = bp := ⟨_, rfl⟩
      obtain ⟨r, hr⟩ : ∃ r, rows[k].length = r := ⟨_, rfl⟩
      have HBP := Lib.hid hbp
      unfold prodAt at hbp
      rw [hgd] at hbp
      have hbr : backRow rows k = canonT (pairsT rows[k] (lessT k)) := by unfold backRow; rw [hgd]
      have HBR := Lib.hid hbr
      have HI := Lib.hid (hI.below hB)
      rw [hr] at hc0 HI
      have HP := Lib.hid hbp
      have hbs := hB.size
      clear hx hc hI hgd hbp hbr hr
      go_wp2_with fail
      refine (lessOne_any k _ hlt).mono ?_
      rintro e w2 ⟨⟨B, rfl, hl2⟩, hb2⟩
      have HL2 := Lib.hid hl2
      have HI2 := Lib.hid (HI.out.below hb2)
      have HB2 := Lib.hid hb2
      clear hl2 hb2
      go_wp2_with fail
      refine (iSumTimes_any ai _ ci _ r 2 rows[k] (lessT k) bp _ HI2.out HL2.out HP.out).mono ?_
      rw [← HBR.out]
      rintro e w3 ⟨⟨vp, rfl, hop⟩, hb3⟩
      have HOP := Lib.hid hop
      have HB3 := Lib.hid (HB2.out.trans (hb3.mono HB2.out.size))
      clear hop hb3
      cases bp with
      | false =>
        have hbf : b = false := by rw [← HBB.out, back_false hlt HBP.out]; rfl
        subst hbf
        go_wp2
        go_ret2
        exact ⟨⟨_, rfl, ownNil _ _⟩, hB.trans (HB3.out.mono hB.size)⟩
      | true =>
        have hall : ∀ g, g < k + 1 → prodAt rows g = true := fun g hg => by
          by_cases e : g = k
          · subst e; exact HBP.out
          · exact HO.out.1 g (by omega)
        have HA := Lib.hid hall
        have hlen := (back_sizes hall).1
        rw [backN_succ, List.length_append] at hlen
        have HLE := Lib.hid hlen
        have HO3 := Lib.hid (HO.out.2.below HB3.out)
        have HOP2 : Hid (OwnT w2.heap.size w3 vp (backRow rows k)) := Lib.hid HOP.out
        have hB3 : Below w.heap.size w w3 := hB.trans (HB3.out.mono hB.size)
        have hs3 := hB3.size
        clear hall hlen
        go_wp2_with (at_builtin; refine wpList_append_terms rfl _ _ rfl w.heap.size w2.heap.size _ _ _ _ rfl rfl HO3.out HOP2.out (by have := HLE.out; omega) hs3 ?_; intro v' w5 ho5 hg5)
        have hB5 : Below w.heap.size w w5 := hB3.trans ((Below.refl w.heap.size w3).grown hg5 hs3 (ownsRow_low HO3.out))
        have HO5 := Lib.hid ho5
        clear ho5 hg5
        go_wp2
        go_roundw
        case rel => exact ⟨k + 1, by omega, by go_num, Lib.hid ⟨HA.out, by rw [backN_succ]; exact HO5.out⟩, hB5⟩
        case measure => simp [intOf]; omega
    · obtain rfl : k = 4 := by omega
      obtain ⟨hall, hown⟩ := HO.out
      obtain ⟨hlen, hterm⟩ := back_sizes hall
      have hcf : ∀ t ∈ backN rows 4, t.s.size ≤ 60 ∧ -1000000 ≤ t.c ∧ t.c ≤ 1000000 := fun t ht => termB_iff (hterm t ht)
      have hsm : SmallT (backN rows 4) := ⟨by unfold maxLen; omega, fun t ht => by have := hcf t ht; unfold maxLen; omega⟩
      obtain ⟨av, cv, rfl, hI⟩ := hown.isTerms hsm
      obtain ⟨N, hN⟩ : ∃ N, (backN rows 4).length = N := ⟨_, rfl⟩
      rw [hN] at hI hlen ⊢
      have hbb : twB (canonT (backN rows 4)) = b := by rw [← HBB.out, back_true hall, Bool.true_and]
      have htold := toldSum_any av cv N (backN rows 4) b wr hI (by omega) (fun t ht => by have := hcf t ht; omega) hbb
      have HTo := Lib.hid htold
      have HBr := Lib.hid hB
      clear hown hcf hsm hI hN htold hbb hall hterm
      go_wp2_with fail
      refine HTo.out.mono ?_
      rintro e w5 ⟨⟨v', rfl, ho⟩, hb5⟩
      have HO' := Lib.hid ho
      have HB5 := Lib.hid (HBr.out.trans (hb5.mono HBr.out.size))
      have hs5 := HBr.out.size
      clear ho hb5
      go_wp2
      go_ret2
      exact ⟨⟨_, rfl, HO'.out.mono hs5⟩, HB5.out⟩

theorem backB_tw {rows : List (List Tm)} {b : Bool} (h : backB rows = b) : b = true → twB (canonT (backN rows 4)) = true := by
  intro hb
  subst hb
  unfold backB at h
  simp only [Bool.and_eq_true] at h
  exact h.2.2
theorem iFoxBack_any (a : Option Addr) (cap n : Nat) (rows : List (List Tm)) (b : Bool) (w : World) (hs : IsTT w a n rows) (hb : backB rows = b) :
    Calls Try.prog 51 #[.slice a n cap] w (ITold w b (canonT (backN rows 4))) := by
  unfold backB at hb
  by_cases h4 : n = 4
  · subst h4
    rw [decide_eq_true hs.len, Bool.true_and] at hb
    exact iFoxBack_four a cap rows b w hs hb
  · rw [decide_eq_false (by rw [hs.len]; exact h4), Bool.false_and] at hb
    subst hb
    exact iFoxBack_not4 a cap n rows w hs h4

end Go.Proofs.Ytebgcebjlbhjjaa

/- The contract of the laws' own 'sameSum'. -/

namespace Go.Proofs.Ytebgcebjlbhjjaa
open Go.RowKit Go.Shelf

set_option maxRecDepth 100000 in
set_option maxHeartbeats 4000000 in
theorem sameSum_yes (a1 a2 : Option Addr) (c1 c2 n : Nat) (ts : List Tm) (w : World) (h1 : IsTerms w a1 n ts) (h2 : IsTerms w a2 n ts) :
    Calls Try.prog 20 #[.slice a1 n c1, .slice a2 n c2] w fun e w' => e = .returned (.bool true) ∧ Below w.heap.size w w' := by
  have H1 := Lib.hid h1
  have H2 := Lib.hid h2
  have HN := Lib.hid h1.len
  have hm := h1.max
  unfold maxLen at hm
  clear h1 h2
  go_enter Try.func20, Try.ntmps20
  go_wp2
  go_loopw [5] (fun i wr => ∃ k : Nat, k ≤ n ∧ i = .int .i64 k ∧ Below w.heap.size w wr) (fun i _ => n - (intOf i).toNat)
  case atStart => exact ⟨0, Nat.zero_le _, rfl, Below.refl _ _⟩
  case round =>
    obtain ⟨k, hk, rfl, hB⟩ := hrel
    by_cases hlt : k < n
    · have hkz : k < ts.length := by rw [HN.out]; exact hlt
      obtain ⟨x, rfl, hx⟩ := H1.out.at_ (by omega)
      obtain ⟨y, rfl, hy⟩ := H2.out.at_ (by omega)
      obtain ⟨t, ht⟩ : ∃ t, ts[k] = t := ⟨_, rfl⟩
      have hc := (hx.below hB).2 k hkz
      have hd := (hy.below hB).2 k hkz
      rw [ht, addr_next] at hc hd
      obtain ⟨c0, c1'⟩ := hc
      obtain ⟨d0, d1'⟩ := hd
      have HB := Lib.hid hB
      have hki : (k : Int) < (n : Int) := by omega
      clear hx hy ht hB
      go_wp2
      go_quiet (fail)
      go_wp2
      go_roundw
      case rel => exact ⟨k + 1, by omega, by go_num, ⟨HB.out.os, HB.out.tape, HB.out.output, HB.out.size, HB.out.block⟩⟩
      case measure => simp [intOf]; omega
    · obtain rfl : k = n := by omega
      go_wp2
      go_ret
      exact ⟨rfl, hB⟩

end Go.Proofs.Ytebgcebjlbhjjaa

/- The contracts of both sides' functions on sums, the answer under a name of its own. -/

namespace Go.Proofs.Ytebgcebjlbhjjaa
open Go.RowKit Go.Shelf

/-- A slice of terms, nil or not. -/
structure TermsIn (w : World) (a : Option Addr) (n c : Nat) (ts : List Tm) : Prop where
  is : IsTerms w a n ts
  part : PartT w (.slice a n c) ts
theorem TermsIn.below {w w' : World} {a : Option Addr} {n c : Nat} {ts : List Tm} (h : TermsIn w a n c ts) (hb : Below w.heap.size w w') : TermsIn w' a n c ts := ⟨h.is.below hb, h.part.below hb⟩
theorem TermsIn.len {w : World} {a : Option Addr} {n c : Nat} {ts : List Tm} (h : TermsIn w a n c ts) : ts.length = n := h.is.len
theorem termsIn_some {w : World} {ad : Addr} {n c : Nat} {ts : List Tm} (h : IsTerms w (some ad) n ts) : TermsIn w (some ad) n c ts := ⟨h, partT_of h⟩
theorem OwnT.termsIn {base : Nat} {w : World} {v : Value} {ts : List Tm} (h : OwnT base w v ts) (hs : SmallT ts) : ∃ a c, v = .slice a ts.length c ∧ TermsIn w a ts.length c ts := by
  obtain ⟨a, c, rfl, hi⟩ := h.isTerms hs
  exact ⟨a, c, rfl, hi, partT_own h⟩
/-- What a function that tells a sum comes to. -/
def TermsT (W : World) (b : Bool) (n : Nat) (us : List Tm) (e : Ending) (w' : World) : Prop := (∃ a c, e = .returned (.tuple #[.slice a n c, .bool b]) ∧ TermsIn w' a n c us) ∧ Below W.heap.size W w'
theorem ITold.terms {W w' : World} {b : Bool} {L us : List Tm} {n : Nat} {e : Ending} (h : ITold W b L e w') (hs : SmallT us) (hu : cond b L [] = us) (hn : us.length = n) : TermsT W b n us e w' := by
  subst hn hu
  obtain ⟨⟨v, rfl, ho⟩, hb⟩ := h
  obtain ⟨a, c, rfl, hi⟩ := ho.termsIn hs
  exact ⟨⟨a, c, rfl, hi⟩, hb⟩
theorem STold.terms {W w' : World} {b : Bool} {L us : List Tm} {n : Nat} {e : Ending} (h : STold W b L e w') (hs : SmallT us) (hu : cond b L [] = us) (hn : us.length = n) : TermsT W b n us e w' := by
  obtain ⟨⟨v, rfl, ho⟩, hb⟩ := h
  exact ITold.terms ⟨⟨v, rfl, ho.own⟩, hb⟩ hs hu hn
theorem ofB_tw {x : List Tm} {b : Bool} (h : ofB x = b) : b = true → twB (canonT x) = true := by
  intro hb
  subst hb
  unfold ofB at h
  simp only [Bool.and_eq_true] at h
  exact (sumB_parts h.2).1

section
variable {W : World} {a a2 : Option Addr} {n c m c2 k : Nat} {x y us : List Tm} {b : Bool}
theorem iSumIn_t (h : TermsIn W a n c x) (hb : sumB x = b) : Calls Try.prog 16 #[.slice a n c] W fun e w' => e = .returned (.bool b) ∧ Below W.heap.size W w' := iSumIn_is _ _ _ x b W h.is hb
theorem sSumIn_t (h : TermsIn W a n c x) (hb : sumB x = b) : Calls Try.prog 17 #[.slice a n c] W fun e w' => e = .returned (.bool b) ∧ Below W.heap.size W w' := sSumIn_is _ _ _ x b W h.is hb
theorem iSumOf_t (h : TermsIn W a n c x) (hb : ofB x = b) (hu : cond b (canonT x) [] = us) (hk : us.length = k) : Calls Try.prog 18 #[.slice a n c] W (TermsT W b k us) :=
  (iSumOf_any a c n x b W h.is hb).mono fun _ _ hh => hh.terms (told_small (ofB_tw hb) hu).1 hu hk
theorem sSumOf_t (h : TermsIn W a n c x) (hb : ofB x = b) (hu : cond b (canonT x) [] = us) (hk : us.length = k) : Calls Try.prog 22 #[.slice a n c] W (TermsT W b k us) :=
  (sSumOf_any a c n x b W h.is hb).mono fun _ _ hh => hh.terms (told_small (ofB_tw hb) hu).1 hu hk
theorem iSumAdd_t (h : TermsIn W a n c x) (h2 : TermsIn W a2 m c2 y) (hb : addB x y = b) (hu : cond b (canonT (x ++ y)) [] = us) (hk : us.length = k) :
    Calls Try.prog 24 #[.slice a n c, .slice a2 m c2] W (TermsT W b k us) := by
  have hs := (told_small (addB_tw hb) hu).1
  unfold addB at hb
  cases hx : sumB x with
  | false =>
    rw [hx] at hb
    obtain rfl : false = b := hb
    exact (iSumAdd_no _ _ _ _ _ _ x y W h.is h2.is (.inl hx)).mono fun _ _ hh => ITold.terms (b := false) (L := []) hh hs (by rw [← hu]; rfl) hk
  | true =>
    cases hy : sumB y with
    | false =>
      rw [hx, hy] at hb
      obtain rfl : false = b := hb
      exact (iSumAdd_no _ _ _ _ _ _ x y W h.is h2.is (.inr hy)).mono fun _ _ hh => ITold.terms (b := false) (L := []) hh hs (by rw [← hu]; rfl) hk
    | true =>
      rw [hx, hy] at hb
      exact (iSumAdd_yes _ _ _ _ _ _ x y b W h.is h2.is h.part h2.part hx hy hb).mono fun _ _ hh => hh.terms hs hu hk
theorem sSumAdd_t {ad : Addr} (h : TermsIn W (some ad) n c x) (h2 : TermsIn W a2 m c2 y) (hb : addB x y = b) (hu : cond b (canonT (x ++ y)) [] = us) (hk : us.length = k) :
    Calls Try.prog 25 #[.slice (some ad) n c, .slice a2 m c2] W (TermsT W b k us) := by
  have hs := (told_small (addB_tw hb) hu).1
  unfold addB at hb
  cases hx : sumB x with
  | false =>
    rw [hx] at hb
    obtain rfl : false = b := hb
    exact (sSumAdd_no _ _ _ _ _ _ x y W h.is h2.is (.inl hx)).mono fun _ _ hh => STold.terms (b := false) (L := []) hh hs (by rw [← hu]; rfl) hk
  | true =>
    cases hy : sumB y with
    | false =>
      rw [hx, hy] at hb
      obtain rfl : false = b := hb
      exact (sSumAdd_no _ _ _ _ _ _ x y W h.is h2.is (.inr hy)).mono fun _ _ hh => STold.terms (b := false) (L := []) hh hs (by rw [← hu]; rfl) hk
    | true =>
      rw [hx, hy] at hb
      exact (sSumAdd_yes _ _ _ _ _ _ x y b W h.is h2.is hx hy hb).mono fun _ _ hh => hh.terms hs hu hk
theorem iSumTimes_t (h : TermsIn W a n c x) (h2 : TermsIn W a2 m c2 y) (hb : prodB x y = b) (hu : cond b (canonT (pairsT x y)) [] = us) (hk : us.length = k) :
    Calls Try.prog 19 #[.slice a n c, .slice a2 m c2] W (TermsT W b k us) :=
  (iSumTimes_any a a2 c c2 n m x y b W h.is h2.is hb).mono fun _ _ hh => hh.terms (told_small (prodB_tw hb) hu).1 hu hk
theorem sSumTimes_t (h : TermsIn W a n c x) (h2 : TermsIn W a2 m c2 y) (hb : prodB x y = b) (hu : cond b (canonT (pairsT x y)) [] = us) (hk : us.length = k) :
    Calls Try.prog 28 #[.slice a n c, .slice a2 m c2] W (TermsT W b k us) :=
  (sSumTimes_any a a2 c c2 n m x y b W h.is h2.is hb).mono fun _ _ hh => hh.terms (told_small (prodB_tw hb) hu).1 hu hk
theorem iSumTurned_t (h : TermsIn W a n c x) (hb : turnedB x = b) (hu : cond b (canonT (x.map (mapT backL))) [] = us) (hk : us.length = k) :
    Calls Try.prog 30 #[.slice a n c] W (TermsT W b k us) :=
  (iSumTurned_any a c n x b W h.is hb).mono fun _ _ hh => hh.terms (told_small (turnedB_tw hb) hu).1 hu hk
theorem sSumTurned_t {g : Nat} (h : TermsIn W (some ⟨g, 0, none⟩) n c x) (hb : turnedB x = b) (hu : cond b (canonT (x.map (mapT backL))) [] = us) (hk : us.length = k) :
    Calls Try.prog 31 #[.slice (some ⟨g, 0, none⟩) n c] W (TermsT W b k us) :=
  (sSumTurned_law h.is hb).mono fun _ _ hh => hh.terms (told_small (turnedB_tw hb) hu).1 hu hk
theorem iSumPlain_t {z : Int} (h : TermsIn W a n c x) (hb : sumB x = b) (hz : cond b (plainZ x) 0 = z) :
    Calls Try.prog 26 #[.slice a n c] W fun e w' => e = .returned (.tuple #[.int .i64 z, .bool b]) ∧ Below W.heap.size W w' := by
  subst hz
  cases b with
  | false => exact iSumPlain_no a c n x W h.is hb
  | true => exact iSumPlain_yes a c n x W h.is hb
theorem sSumPlain_t {z : Int} (h : TermsIn W a n c x) (hb : sumB x = b) (hz : cond b (plainZ x) 0 = z) :
    Calls Try.prog 33 #[.slice a n c] W fun e w' => e = .returned (.tuple #[.int .i64 z, .bool b]) ∧ Below W.heap.size W w' := by
  subst hz
  cases b with
  | false => exact sSumPlain_no a c n x W h.is hb
  | true => exact sSumPlain_yes a c n x W h.is hb
theorem iSumPut_t {g1 g2 : Nat} {zs : List ByteArray} (h : TermsIn W (some ⟨g1, 0, none⟩) n c x) (hm : m ≤ maxLen) (hs : StrsIn W (some ⟨g2, 0, none⟩) g2 m zs) (hb : sumPutB x zs = b) (hu : cond b (canonT (x.map (mapT (putF zs)))) [] = us) (hk : us.length = k) :
    Calls Try.prog 35 #[.slice (some ⟨g1, 0, none⟩) n c, .slice (some ⟨g2, 0, none⟩) m c2] W (TermsT W b k us) :=
  (iSumPut_law h.is hm hs hb).mono fun _ _ hh => hh.terms (told_small (sumPutB_tw hb) hu).1 hu hk
theorem sSumPut_t {g1 g2 : Nat} {zs : List ByteArray} (h : TermsIn W (some ⟨g1, 0, none⟩) n c x) (hm : m ≤ maxLen) (hs : StrsIn W (some ⟨g2, 0, none⟩) g2 m zs) (hb : sumPutB x zs = b) (hu : cond b (canonT (x.map (mapT (putF zs)))) [] = us) (hk : us.length = k) :
    Calls Try.prog 36 #[.slice (some ⟨g1, 0, none⟩) n c, .slice (some ⟨g2, 0, none⟩) m c2] W (TermsT W b k us) :=
  (sSumPut_law h.is hm hs hb).mono fun _ _ hh => hh.terms (told_small (sumPutB_tw hb) hu).1 hu hk
end

theorem termsIn_lit (w : World) (c : Int) (s : ByteArray) (hs : s.size ≤ maxLen) (hc : -9223372036854775808 ≤ c ∧ c ≤ 9223372036854775807) :
    TermsIn (w.alloc (.cells #[.int .i64 c, .string s] TI)) (some ⟨w.heap.size, 0, none⟩) 1 1 [⟨c, s⟩] :=
  termsIn_some ⟨rfl, by unfold maxLen; omega, fun _ => ⟨_, rfl, by simp, fun i hi => by
    have hi0 : i = 0 := by simp at hi; exact hi
    subst hi0
    have ha : ∀ j, (⟨w.heap.size, 0, none⟩ : Addr).add j = ⟨w.heap.size, j, none⟩ := fun j => by unfold Addr.add; split <;> simp_all
    rw [ha, ha]
    exact ⟨(World.cell?_alloc_at _ _ _ _ (by simp)).trans rfl, (World.cell?_alloc_at _ _ _ _ (by simp)).trans rfl⟩⟩,
    fun t ht => by rw [List.mem_singleton.1 ht]; exact ⟨hs, hc⟩⟩
theorem termsIn_one (w : World) (s : ByteArray) (hs : s.size ≤ maxLen) : TermsIn (w.alloc (.cells #[.int .i64 1, .string s] TI)) (some ⟨w.heap.size, 0, none⟩) 1 1 (oneS s) := termsIn_lit w 1 s hs (by omega)
theorem one_any (s : ByteArray) (W : World) : Calls Try.prog 42 #[.string s] W fun e w' => e = .returned (.slice (some ⟨W.heap.size, 0, none⟩) 1 1) ∧ Below W.heap.size W w' ∧ (s.size ≤ maxLen → TermsIn w' (some ⟨W.heap.size, 0, none⟩) 1 1 (oneS s)) := by
  go_enter Try.func42, Try.ntmps42
  go_wp2
  go_ret
  exact ⟨rfl, (Below.refl _ W).alloc (Nat.le_refl _) _, fun hs => termsIn_one W s hs⟩
theorem sameSum_t {w : World} {a1 a2 : Option Addr} {c1 c2 n : Nat} {ts : List Tm} (h1 : TermsIn w a1 n c1 ts) (h2 : TermsIn w a2 n c2 ts) :
    Calls Try.prog 20 #[.slice a1 n c1, .slice a2 n c2] w fun e w' => e = .returned (.bool true) ∧ Below w.heap.size w w' := sameSum_yes a1 a2 c1 c2 n ts w h1.is h2.is
/-- A sum that was drawn. -/
def SumV (base : Nat) (w' : World) (v : Value) : Prop := ∃ g c n ts, v = .slice (some ⟨g, 0, none⟩) n c ∧ base ≤ g ∧ TermsIn w' (some ⟨g, 0, none⟩) n c ts ∧ n ≤ 4 ∧ ∀ t ∈ ts, t.s.size ≤ 6 ∧ -20 ≤ t.c ∧ t.c ≤ 20

/-! ### What sums are told -/
theorem ofB_sum {x : List Tm} (h : sumB x = true) : ofB x = true := by
  unfold ofB
  rw [(sumB_parts h).1, sum_id h, h]; rfl
theorem twB_one : twB [] = true := rfl
theorem fit_of_words {x : List Tm} (h : WordsT x) : fitB x = true := List.all_eq_true.2 fun t ht => by
  have := ((wordB_iff _).1 (h t ht)).1
  have e : t.s.data.toList.length = t.s.size := by simp
  exact decide_eq_true (by omega)
theorem sum_oneS {s : ByteArray} (h : wordB s.data.toList = true) : sumB (oneS s) = true := by
  rw [sumB_canon ⟨by simp [oneS], fun t ht => by rw [List.mem_singleton.1 ht]; exact Int.one_ne_zero⟩]
  unfold twB termB inR oneS
  simp [h]
theorem addB_iff {x y : List Tm} : addB x y = true ↔ sumB x = true ∧ sumB y = true ∧ twB (canonT (x ++ y)) = true := by
  unfold addB; simp only [Bool.and_eq_true]
theorem prodB_iff {x y : List Tm} : prodB x y = true ↔ sumB x = true ∧ sumB y = true ∧ fitB (pairsT x y) = true ∧ twB (canonT (pairsT x y)) = true := by
  unfold prodB; simp only [Bool.and_eq_true]
theorem turnedB_iff {x : List Tm} : turnedB x = true ↔ sumB x = true ∧ twB (canonT (x.map (mapT backL))) = true := by
  unfold turnedB; simp only [Bool.and_eq_true]
theorem sumPutB_iff {x : List Tm} {zs : List ByteArray} : sumPutB x zs = true ↔ sumB x = true ∧ fourB zs = true ∧ fitB (x.map (mapT (putF zs))) = true ∧ twB (canonT (x.map (mapT (putF zs)))) = true := by
  unfold sumPutB; simp only [Bool.and_eq_true]
theorem coef_range {x : List Tm} (h : sumB x = true) (q : ByteArray) : -1000000 ≤ coefAt q x ∧ coefAt q x ≤ 1000000 := by
  by_cases hq : ∃ t ∈ x, t.s = q
  · obtain ⟨t, ht, rfl⟩ := hq
    rw [coefAt_get (canon_of_sum h) ht]
    exact ((sumB_small h).2.1 t ht).2
  · rw [coefAt_none fun t ht e => hq ⟨t, ht, e⟩]; omega
/-- A sum turned is a sum. -/
theorem turned_sum {x : List Tm} (h : sumB x = true) : turnedB x = true := by
  refine turnedB_iff.2 ⟨h, ?_⟩
  have hw := words_of_sum h
  obtain ⟨h3, _, _⟩ := sumB_small h
  have hlen : (canonT (x.map (mapT backL))).length ≤ 300 := by
    have := fold_len (x.map (mapT backL)) []
    rw [List.length_map] at this
    unfold canonT
    simp only [List.length_nil] at this
    omega
  refine twB_of hlen fun j hj => ?_
  have hm := List.getElem_mem hj
  obtain ⟨v, hv, e⟩ := canon_words hm
  obtain ⟨t, ht, rfl⟩ := List.mem_map.1 hv
  have hwt := hw t ht
  have hwb : wordB (canonT (x.map (mapT backL)))[j].s.data.toList = true := by
    rw [← e]
    show wordB (bstr (backL t.s.data.toList)).data.toList = true
    rw [bstr_toList]; exact word_back hwt
  have hc : (canonT (x.map (mapT backL)))[j].c = coefAt (bstr (backL (canonT (x.map (mapT backL)))[j].s.data.toList)) x := by
    rw [← coefAt_get (canonT_spec _).1 hm, (canonT_spec _).2, coef_lin, lin_map, coef_lin]
    refine linT_congr fun u hu => ?_
    have hlu := ((wordB_iff _).1 (hw u hu)).2.1
    have hlj := ((wordB_iff _).1 hwb).2.1
    unfold hitB
    by_cases hh : bstr (backL u.s.data.toList) = (canonT (x.map (mapT backL)))[j].s
    · rw [if_pos hh, if_pos (by rw [← hh, bstr_toList, back_back _ hlu, bstr_of])]
    · rw [if_neg hh, if_neg (fun e2 => hh (by rw [e2, bstr_toList, back_back _ hlj, bstr_of]))]
  have hr := coef_range h (bstr (backL (canonT (x.map (mapT backL)))[j].s.data.toList))
  unfold termB
  rw [hwb, Bool.true_and, hc]
  unfold inR
  simp only [Bool.and_eq_true, decide_eq_true_eq]
  exact hr
theorem plain_bnd {x : List Tm} (h : sumB x = true) : -300000000 ≤ plainZ x ∧ plainZ x ≤ 300000000 := by
  obtain ⟨h1, h2, _⟩ := sumB_small h
  have key : ∀ l : List Tm, (∀ t ∈ l, t.s.size ≤ 60 ∧ -1000000 ≤ t.c ∧ t.c ≤ 1000000) → -(1000000 * l.length : Int) ≤ plainZ l ∧ plainZ l ≤ 1000000 * l.length := fun l => by
    induction l with
    | nil => intro _; simp [plainZ]
    | cons t r ih =>
      intro hh
      have h3 := ih fun u hu => hh u (by simp [hu])
      have h4 := hh t (by simp)
      unfold plainZ at *
      rw [List.map_cons, List.sum_cons, List.length_cons]; omega
  have := key x h2
  omega

end Go.Proofs.Ytebgcebjlbhjjaa

/- Series as functions of texts: products, inverses, reduced words; the depth of a commutator. -/

namespace Go.Proofs.Ytebgcebjlbhjjaa
open Go.RowKit

abbrev Fs := List UInt8 → Int
/-- The product of two series, at a text. -/
def conv : Fs → Fs → Fs
  | f, g, [] => f [] * g []
  | f, g, c :: r => f [] * g (c :: r) + conv (fun u => f (c :: u)) g r
def oneF : Fs := fun l => if l = [] then 1 else 0
theorem conv_congr : ∀ (w : List UInt8) {f f' g g' : Fs}, (∀ l, l.length ≤ w.length → f l = f' l) → (∀ l, l.length ≤ w.length → g l = g' l) → conv f g w = conv f' g' w
  | [], f, f', g, g', h1, h2 => by rw [conv, conv, h1 [] (by simp), h2 [] (by simp)]
  | c :: r, f, f', g, g', h1, h2 => by
    rw [conv, conv, h1 [] (by simp), h2 (c :: r) (Nat.le_refl _), conv_congr r (fun l hl => h1 (c :: l) (by simp; omega)) (fun l hl => h2 l (by simp; omega))]
theorem conv_add1 : ∀ (w : List UInt8) (f f' g : Fs), conv (fun l => f l + f' l) g w = conv f g w + conv f' g w
  | [], f, f', g => by rw [conv, conv, conv, Int.add_mul]
  | c :: r, f, f', g => by rw [conv, conv, conv, conv_add1 r, Int.add_mul]; omega
theorem conv_add2 : ∀ (w : List UInt8) (f g g' : Fs), conv f (fun l => g l + g' l) w = conv f g w + conv f g' w
  | [], f, g, g' => by rw [conv, conv, conv, Int.mul_add]
  | c :: r, f, g, g' => by rw [conv, conv, conv, conv_add2 r, Int.mul_add]; omega
theorem conv_sub1 : ∀ (w : List UInt8) (f f' g : Fs), conv (fun l => f l - f' l) g w = conv f g w - conv f' g w
  | [], f, f', g => by rw [conv, conv, conv, Int.sub_mul]
  | c :: r, f, f', g => by rw [conv, conv, conv, conv_sub1 r, Int.sub_mul]; omega
theorem conv_mul1 (k : Int) : ∀ (w : List UInt8) (f g : Fs), conv (fun l => k * f l) g w = k * conv f g w
  | [], f, g => by rw [conv, conv, Int.mul_assoc]
  | c :: r, f, g => by rw [conv, conv, conv_mul1 k r, Int.mul_add, Int.mul_assoc]
theorem conv_zero1 : ∀ (w : List UInt8) (g : Fs), conv (fun _ => 0) g w = 0
  | [], g => by rw [conv, Int.zero_mul]
  | c :: r, g => by rw [conv, conv_zero1 r, Int.zero_mul]; rfl
theorem conv_zero2 : ∀ (w : List UInt8) (f : Fs), conv f (fun _ => 0) w = 0
  | [], g => by rw [conv, Int.mul_zero]
  | c :: r, g => by rw [conv, conv_zero2 r, Int.mul_zero]; rfl
theorem conv_assoc : ∀ (w : List UInt8) (f g h : Fs), conv (conv f g) h w = conv f (conv g h) w
  | [], f, g, h => by rw [conv, conv, conv, conv, Int.mul_assoc]
  | c :: r, f, g, h => by
    have e : (fun u => conv f g (c :: u)) = fun u => f [] * g (c :: u) + conv (fun v => f (c :: v)) g u := by funext u; rw [conv]
    have h1 := conv_assoc r (fun v => f (c :: v)) g h
    rw [conv, e, conv_add1 r (fun u => f [] * g (c :: u)) (conv (fun v => f (c :: v)) g) h, conv_mul1, h1, conv, conv, conv, Int.mul_add, Int.mul_assoc]
    omega
theorem conv_one1 (w : List UInt8) (g : Fs) : conv oneF g w = g w := by
  cases w with
  | nil => rw [conv]; simp [oneF]
  | cons c r =>
    have e : (fun u => oneF (c :: u)) = fun _ => 0 := by funext u; simp [oneF]
    rw [conv, e, conv_zero1]; simp [oneF]
theorem conv_one2 : ∀ (w : List UInt8) (f : Fs), conv f oneF w = f w
  | [], f => by rw [conv]; simp [oneF]
  | c :: r, f => by rw [conv, conv_one2 r]; simp [oneF]
/-- Products of what is 0 below two degrees are 0 below their sum. -/
theorem conv_low : ∀ (w : List UInt8) (f g : Fs) (p q : Nat), (∀ l, l.length < p → f l = 0) → (∀ l, l.length < q → g l = 0) → w.length < p + q → conv f g w = 0
  | [], f, g, p, q, hf, hg, hw => by
    rw [conv]
    simp only [List.length_nil] at hw
    by_cases hp : 0 < p
    · rw [hf [] hp, Int.zero_mul]
    · rw [hg [] (by simp; omega), Int.mul_zero]
  | c :: r, f, g, p, q, hf, hg, hw => by
    rw [conv]
    simp only [List.length_cons] at hw
    have h1 : conv (fun u => f (c :: u)) g r = 0 := conv_low r _ g (p - 1) q (fun l hl => hf (c :: l) (by simp; omega)) hg (by omega)
    rw [h1]
    by_cases hp : 0 < p
    · rw [hf [] hp, Int.zero_mul]; rfl
    · rw [hg (c :: r) (by simp; omega), Int.mul_zero]; rfl

/-! ### Lists of terms as functions -/
def cf (x : List Tm) : Fs := fun l => coefAt (bstr l) x
def dl (a : List UInt8) (c : Int) : Fs := fun l => if a = l then c else 0
theorem conv_dl : ∀ (a : List UInt8) (c : Int) (b : List UInt8) (d : Int) (w : List UInt8), conv (dl a c) (dl b d) w = if a ++ b = w then c * d else 0
  | [], c, b, d, w => by
    cases w with
    | nil => rw [conv]; simp only [dl, List.nil_append]; by_cases h : b = [] <;> simp [h]
    | cons x r =>
      have e : (fun u => dl [] c (x :: u)) = fun _ => 0 := by funext u; simp [dl]
      rw [conv, e, conv_zero1]
      simp only [dl, List.nil_append]
      by_cases h : b = x :: r <;> simp [h]
  | y :: a, c, b, d, w => by
    cases w with
    | nil => rw [conv]; simp [dl]
    | cons x r =>
      have e0 : dl (y :: a) c [] = 0 := by simp [dl]
      rw [conv, e0, Int.zero_mul, Int.zero_add]
      by_cases h : y = x
      · subst h
        have e : (fun u => dl (y :: a) c (y :: u)) = dl a c := by funext u; simp [dl]
        rw [e, conv_dl a c b d r]
        simp
      · have e : (fun u => dl (y :: a) c (x :: u)) = fun _ => 0 := by funext u; simp [dl, h]
        rw [e, conv_zero1]
        simp [h]
theorem cf_nil : cf [] = fun _ => 0 := rfl
theorem bstr_eq {s : ByteArray} {l : List UInt8} : s = bstr l ↔ s.data.toList = l := ⟨fun h => by rw [h, bstr_toList], fun h => by rw [← h]; exact bytes_ext (by rw [bstr_toList])⟩
theorem cf_cons (t : Tm) (x : List Tm) : cf (t :: x) = fun l => dl t.s.data.toList t.c l + cf x l := by
  funext l
  unfold cf dl
  rw [coefAt]
  by_cases h : t.s.data.toList = l
  · rw [if_pos (bstr_eq.2 h), if_pos h]
  · rw [if_neg (fun e => h (bstr_eq.1 e)), if_neg h]
theorem conv_row (t : Tm) : ∀ (y : List Tm) (w : List UInt8), w.length ≤ 4 → cf (rowS t y) w = conv (dl t.s.data.toList t.c) (cf y) w
  | [], w, _ => by
    have e : cf (rowS t []) w = 0 := rfl
    rw [e, cf_nil, conv_zero2]
  | u :: r, w, hw => by
    have ih := conv_row t r w hw
    have e1 : cf ([pairS t u].filter short) w = if t.s.data.toList ++ u.s.data.toList = w then t.c * u.c else 0 := by
      rw [List.filter_cons, List.filter_nil]
      have hlen : (t.s ++ u.s).size = (t.s.data.toList ++ u.s.data.toList).length := by rw [append_size, List.length_append]; simp
      have hdat : (t.s ++ u.s).data.toList = t.s.data.toList ++ u.s.data.toList := by simp
      by_cases hs : (t.s ++ u.s).size ≤ 4
      · rw [if_pos (show short (pairS t u) = true from decide_eq_true hs), cf_cons, cf_nil]
        show dl (t.s ++ u.s).data.toList (t.c * u.c) w + 0 = _
        rw [hdat]; unfold dl; omega
      · rw [if_neg (show ¬ short (pairS t u) = true by unfold short pairS; simpa using hs), if_neg (fun e => hs (by rw [hlen, e]; exact hw))]; rfl
    have e2 : cf (rowS t (u :: r)) w = cf ([pairS t u].filter short) w + cf (rowS t r) w := by
      unfold cf; rw [rowS_cons, coefAt_append]
    rw [e2, e1, ih, cf_cons, conv_add2, conv_dl]
theorem conv_pairs : ∀ (x y : List Tm) (w : List UInt8), w.length ≤ 4 → cf (pairsS x y) w = conv (cf x) (cf y) w
  | [], y, w, _ => by rw [cf_nil, conv_zero1]; rfl
  | t :: r, y, w, hw => by
    have e : pairsS (t :: r) y = rowS t y ++ pairsS r y := by unfold pairsS rowS; rw [List.flatMap_cons]
    have e2 : cf (pairsS (t :: r) y) w = cf (rowS t y) w + cf (pairsS r y) w := by unfold cf; rw [e, coefAt_append]
    rw [e2, conv_row t y w hw, conv_pairs r y w hw, cf_cons, conv_add1]

/-! ### Words -/
def Eq4 (f g : Fs) : Prop := ∀ w, w.length ≤ 4 → f w = g w
theorem Eq4.refl (f : Fs) : Eq4 f f := fun _ _ => rfl
theorem Eq4.symm {f g : Fs} (h : Eq4 f g) : Eq4 g f := fun w hw => (h w hw).symm
theorem Eq4.trans {f g h : Fs} (h1 : Eq4 f g) (h2 : Eq4 g h) : Eq4 f h := fun w hw => (h1 w hw).trans (h2 w hw)
theorem Eq4.mul {f f' g g' : Fs} (h1 : Eq4 f f') (h2 : Eq4 g g') : Eq4 (conv f g) (conv f' g') := fun w hw => conv_congr w (fun l hl => h1 l (by omega)) (fun l hl => h2 l (by omega))
theorem eq4_assoc (f g h : Fs) : Eq4 (conv (conv f g) h) (conv f (conv g h)) := fun w _ => conv_assoc w f g h
theorem eq4_one1 (g : Fs) : Eq4 (conv oneF g) g := fun w _ => conv_one1 w g
theorem eq4_one2 (f : Fs) : Eq4 (conv f oneF) f := fun w _ => conv_one2 w f
def cs (l : List UInt8) : Fs := cf (serW l)
theorem cf_one : Eq4 (cf oneT) oneF := fun w _ => by
  unfold oneT
  rw [cf_cons, cf_nil]
  show dl [] 1 w + 0 = _
  unfold dl oneF
  by_cases h : w = []
  · simp [h]
  · rw [if_neg (Ne.symm h), if_neg h]; rfl
theorem cs_nil : Eq4 (cs []) oneF := cf_one
theorem cs_snoc (l : List UInt8) (c : UInt8) : Eq4 (cs (l ++ [c])) (conv (cs l) (cf (letS c))) := fun w hw => by
  unfold cs
  rw [← conv_pairs _ _ w hw, serW_snoc]
  exact (canonT_spec _).2 _
theorem cs_append (a b : List UInt8) : Eq4 (cs (a ++ b)) (conv (cs a) (cs b)) := by
  generalize hn : b.length = n
  induction n generalizing b with
  | zero =>
    rw [List.length_eq_zero_iff.1 hn, List.append_nil]
    exact ((Eq4.refl _).mul cs_nil |>.trans (eq4_one2 _)).symm
  | succ n ih =>
    obtain ⟨p, c, rfl⟩ := last_split b (by omega)
    have hp : p.length = n := by rw [List.length_append] at hn; simp at hn; exact hn
    rw [← List.append_assoc]
    refine (cs_snoc (a ++ p) c).trans ?_
    refine ((ih p hp).mul (Eq4.refl _)).trans ?_
    refine (eq4_assoc _ _ _).trans ?_
    exact (Eq4.refl _).mul (cs_snoc p c).symm
theorem cs_one (c : UInt8) : Eq4 (cs [c]) (cf (letS c)) := (cs_snoc [] c).trans ((cs_nil.mul (Eq4.refl _)).trans (eq4_one1 _))
instance : DecidableEq Tm := fun a b => if h : a.c = b.c ∧ a.s = b.s then isTrue (by cases a; cases b; simp at h; rw [h.1, h.2]) else isFalse (fun e => h (by rw [e]; exact ⟨rfl, rfl⟩))
theorem turn_facts : ∀ n : Fin 8, canonT (pairsS (letS (UInt8.ofNat (if n.val < 4 then 97 + n.val else 61 + n.val))) (letS (turnB (UInt8.ofNat (if n.val < 4 then 97 + n.val else 61 + n.val))))) = oneT := by decide +kernel
theorem turn_one {c : UInt8} (hc : letB c = true) : Eq4 (conv (cf (letS c)) (cf (letS (turnB c)))) oneF := fun w hw => by
  have h := let_cases (P := fun c => canonT (pairsS (letS c) (letS (turnB c))) = oneT) turn_facts hc
  rw [← conv_pairs _ _ w hw, ← cf_one w hw, ← h]
  exact ((canonT_spec _).2 _).symm
theorem turn_one2 {c : UInt8} (hc : letB c = true) : Eq4 (conv (cf (letS (turnB c))) (cf (letS c))) oneF := by
  obtain ⟨h1, h2⟩ := turn_turn c hc
  have := turn_one h2
  rwa [h1] at this
/-- A word and its inverse. -/
theorem cs_back (a : List UInt8) (ha : letL a = true) : Eq4 (conv (cs a) (cs (backL a))) oneF := by
  generalize hn : a.length = n
  induction n generalizing a with
  | zero =>
    rw [List.length_eq_zero_iff.1 hn]
    exact (cs_nil.mul cs_nil).trans (eq4_one1 _)
  | succ n ih =>
    obtain ⟨p, c, rfl⟩ := last_split a (by omega)
    have hp : p.length = n := by rw [List.length_append] at hn; simp at hn; exact hn
    rw [letL_append, Bool.and_eq_true] at ha
    have hc : letB c = true := by have := ha.2; simp [letL] at this; exact this
    have e : backL (p ++ [c]) = [turnB c] ++ backL p := by rw [backL_append]; rfl
    rw [e]
    refine ((cs_snoc p c).mul ((cs_append _ _).trans ((cs_one _).mul (Eq4.refl _)))).trans ?_
    refine (eq4_assoc _ _ _).trans ?_
    refine ((Eq4.refl _).mul ?_).trans (ih p ha.1 hp)
    refine (eq4_assoc _ _ _).symm.trans ?_
    exact ((turn_one hc).mul (Eq4.refl _)).trans (eq4_one1 _)
/-- Reducing changes nothing. -/
theorem cs_red : ∀ (s acc : List UInt8), letL s = true → Eq4 (cs (redL acc s)) (cs (acc ++ s))
  | [], acc, _ => by rw [redL_nil, List.append_nil]; exact Eq4.refl _
  | c :: s, acc, h => by
    rw [letL_cons, Bool.and_eq_true] at h
    have e : redL acc (c :: s) = redL (redStep acc c) s := rfl
    rw [e]
    refine (cs_red s (redStep acc c) h.2).trans ?_
    by_cases hl : acc.getLast? = some (turnB c)
    · obtain ⟨p, x, rfl⟩ := last_split acc (by cases acc with | nil => simp at hl | cons a l => simp)
      have hx : x = turnB c := by simpa using hl
      subst hx
      rw [redStep_pop p (turnB c) c rfl]
      have e2 : p ++ [turnB c] ++ c :: s = p ++ ([turnB c] ++ ([c] ++ s)) := by simp
      rw [e2]
      refine (cs_append p s).trans ?_
      refine Eq4.trans ?_ (cs_append p _).symm
      refine (Eq4.refl _).mul ?_
      refine Eq4.trans ?_ ((cs_append _ _).trans ((cs_one _).mul ((cs_append _ _).trans ((cs_one _).mul (Eq4.refl _))))).symm
      refine Eq4.trans ?_ (eq4_assoc _ _ _)
      exact (((turn_one2 h.1).mul (Eq4.refl _)).trans (eq4_one1 _)).symm
    · have e2 : redStep acc c = acc ++ [c] := by unfold redStep; rw [if_neg hl]
      rw [e2, List.append_assoc]
      exact Eq4.refl _
/-- What the series of a commutator lacks to 1 begins as late as those of its two words together. -/
theorem comm_low {a b : List UInt8} (ha : letL a = true) (hb : letL b = true) {p q : Nat} (hA0 : cs a [] = 1) (hB0 : cs b [] = 1) (hA : ∀ l, 0 < l.length → l.length < p → cs a l = 0) (hB : ∀ l, 0 < l.length → l.length < q → cs b l = 0)
    (w : List UInt8) (hw4 : w.length ≤ 4) (hw : w.length < p + q) : cs (a ++ b ++ backL a ++ backL b) w = oneF w := by
  obtain ⟨u, hu⟩ : ∃ u : Fs, u = fun l => cs a l - oneF l := ⟨_, rfl⟩
  obtain ⟨v, hv⟩ : ∃ v : Fs, v = fun l => cs b l - oneF l := ⟨_, rfl⟩
  have hu0 : ∀ l, l.length < p → u l = 0 := fun l hl => by
    rw [hu]
    cases l with
    | nil => simp [oneF, hA0]
    | cons c r => simp only [hA (c :: r) (by simp) hl]; simp [oneF]
  have hv0 : ∀ l, l.length < q → v l = 0 := fun l hl => by
    rw [hv]
    cases l with
    | nil => simp [oneF, hB0]
    | cons c r => simp only [hB (c :: r) (by simp) hl]; simp [oneF]
  have ea : cs a = fun l => oneF l + u l := by funext l; rw [hu]; show _ = oneF l + (cs a l - oneF l); omega
  have eb : cs b = fun l => oneF l + v l := by funext l; rw [hv]; show _ = oneF l + (cs b l - oneF l); omega
  have hR : ∀ l, l.length < p + q → conv (cs a) (cs b) l - conv (cs b) (cs a) l = 0 := fun l hl => by
    have h1 : conv (cs a) (cs b) l = oneF l + v l + (u l + conv u v l) := by
      rw [ea, conv_add1 l oneF u, conv_one1]
      rw [eb, conv_add2 l u oneF v, conv_one2]
    have h2 : conv (cs b) (cs a) l = oneF l + u l + (v l + conv v u l) := by
      rw [eb, conv_add1 l oneF v, conv_one1]
      rw [ea, conv_add2 l v oneF u, conv_one2]
    rw [h1, h2, conv_low l u v p q hu0 hv0 hl, conv_low l v u q p hv0 hu0 (by omega)]
    omega
  have hZ : Eq4 (cs (backL a ++ backL b)) (conv (cs (backL a)) (cs (backL b))) := cs_append _ _
  have h1 : cs (a ++ b ++ backL a ++ backL b) w = conv (conv (cs a) (cs b)) (conv (cs (backL a)) (cs (backL b))) w := by
    rw [List.append_assoc (a ++ b)]
    exact (((cs_append _ _).trans ((cs_append a b).mul hZ)) w hw4)
  have h2 : conv (conv (cs b) (cs a)) (conv (cs (backL a)) (cs (backL b))) w = oneF w := by
    have : Eq4 (conv (conv (cs b) (cs a)) (conv (cs (backL a)) (cs (backL b)))) oneF := by
      refine (eq4_assoc _ _ _).trans ?_
      refine ((Eq4.refl _).mul ((eq4_assoc _ _ _).symm.trans (((cs_back a ha).mul (Eq4.refl _)).trans (eq4_one1 _)))).trans ?_
      exact cs_back b hb
    exact this w hw4
  have h3 : conv (fun l => conv (cs a) (cs b) l - conv (cs b) (cs a) l) (conv (cs (backL a)) (cs (backL b))) w = 0 := conv_low w _ _ (p + q) 0 hR (fun l hl => absurd hl (Nat.not_lt_zero _)) (by omega)
  rw [conv_sub1 w (conv (cs a) (cs b)) (conv (cs b) (cs a))] at h3
  rw [h1]
  omega

theorem letL_redL : ∀ (s acc : List UInt8), letL s = true → letL acc = true → letL (redL acc s) = true
  | [], _, _, h => h
  | c :: s, acc, h, ha => by
    rw [letL_cons, Bool.and_eq_true] at h
    refine letL_redL s (redStep acc c) h.2 ?_
    unfold redStep
    split
    · exact List.all_eq_true.2 fun x hx => List.all_eq_true.1 ha x (List.dropLast_subset _ hx)
    · rw [letL_append, ha, letL_cons, h.1]; rfl

/-! ### Depths -/
theorem depth_below {ts : List Tm} (hc : Canon ts) (h1 : coefAt noS ts = 1) {q : ByteArray} (h0 : 0 < q.size) (hq : q.size < depthT ts) : coefAt q ts = 0 := by
  obtain ⟨u, r, rfl, hu, _, hr⟩ := canon_first hc h1
  obtain ⟨h2, h3⟩ := List.pairwise_cons.1 hc.1
  cases r with
  | nil =>
    rw [depthT, if_pos (no_iff.1 hu)] at hq
    exact absurd hq (Nat.not_lt_zero _)
  | cons t r =>
    rw [depthT, if_pos (no_iff.1 hu), depthT, if_neg (hr t (by simp))] at hq
    obtain ⟨h4, h5⟩ := List.pairwise_cons.1 h3
    refine coefAt_none fun v hv e => ?_
    rcases List.mem_cons.1 hv with rfl | hv
    · rw [hu] at e; rw [← e] at h0; exact absurd h0 (Nat.not_lt_zero _)
    · rcases List.mem_cons.1 hv with rfl | hv
      · rw [e] at hq; omega
      · have := h4 v hv
        rw [e] at this
        unfold lessW at this
        split at this
        · omega
        · have := of_decide_eq_true this; omega
theorem depth_at {ts : List Tm} (hc : Canon ts) (h1 : coefAt noS ts = 1) (hd : depthT ts ≠ 0) : ∃ t ∈ ts, t.s.size = depthT ts ∧ coefAt t.s ts ≠ 0 := by
  obtain ⟨u, r, rfl, hu, _, hr⟩ := canon_first hc h1
  cases r with
  | nil =>
    rw [depthT, if_pos (no_iff.1 hu)] at hd
    exact absurd rfl hd
  | cons t r =>
    refine ⟨t, by simp, ?_, ?_⟩
    · rw [depthT, if_pos (no_iff.1 hu), depthT, if_neg (hr t (by simp))]
    · rw [coefAt_get hc (by simp)]; exact hc.2 t (by simp)
theorem cs_at (l : List UInt8) (q : ByteArray) : cs l q.data.toList = coefAt q (serW l) := by
  unfold cs cf
  rw [show bstr q.data.toList = q from (bstr_eq.2 rfl).symm]
/-- The depth of a commutator is not less than those of its two words together. -/
theorem depth_comm {a b : List UInt8} (ha : letL a = true) (hb : letL b = true) (hn : depthT (serW (redL [] (commL a b))) ≠ 0) (hp : depthT (serW a) ≠ 0) (hq : depthT (serW b) ≠ 0) (hl : letL (redL [] (commL a b)) = true) :
    depthT (serW a) + depthT (serW b) ≤ depthT (serW (redL [] (commL a b))) := by
  have hlc : letL (commL a b) = true := by unfold commL; rw [letL_append, letL_append, letL_append, ha, hb, letL_back a ha, letL_back b hb]; rfl
  have hok := serW_ok _ hl
  obtain ⟨t, ht, hts, htc⟩ := depth_at hok.canon (serW_no _ hl) hn
  by_cases hlt : depthT (serW a) + depthT (serW b) ≤ depthT (serW (redL [] (commL a b)))
  · exact hlt
  · exfalso
    apply htc
    have h4 : t.s.size ≤ 4 := mono_size (hok.mono t ht)
    have hlen : t.s.data.toList.length = t.s.size := by simp
    have h1 := cs_red (commL a b) [] hlc t.s.data.toList (by omega)
    rw [List.nil_append] at h1
    have h2 := comm_low ha hb (p := depthT (serW a)) (q := depthT (serW b)) (by have := serW_no a ha; exact this) (by have := serW_no b hb; exact this)
      (fun l h0 h5 => by
        have := depth_below (serW_ok a ha).canon (serW_no a ha) (q := bstr l) (by have : (bstr l).data.toList.length = l.length := by rw [bstr_toList]
                                                                                  have e : (bstr l).size = (bstr l).data.toList.length := by simp
                                                                                  omega) (by
          have : (bstr l).data.toList.length = l.length := by rw [bstr_toList]
          have e : (bstr l).size = (bstr l).data.toList.length := by simp
          omega)
        exact this)
      (fun l h0 h5 => by
        have := depth_below (serW_ok b hb).canon (serW_no b hb) (q := bstr l) (by have : (bstr l).data.toList.length = l.length := by rw [bstr_toList]
                                                                                  have e : (bstr l).size = (bstr l).data.toList.length := by simp
                                                                                  omega) (by
          have : (bstr l).data.toList.length = l.length := by rw [bstr_toList]
          have e : (bstr l).size = (bstr l).data.toList.length := by simp
          omega)
        exact this) t.s.data.toList (by omega) (by omega)
    rw [← cs_at, h1]
    have h3 : cs (commL a b) t.s.data.toList = oneF t.s.data.toList := h2
    rw [h3]
    unfold oneF
    rw [if_neg (fun e => by rw [e] at hlen; simp at hlen; omega)]

end Go.Proofs.Ytebgcebjlbhjjaa

/- Coefficients of two letters are sums of letters ahead of letters: what derivatives in turn come to. -/

namespace Go.Proofs.Ytebgcebjlbhjjaa
open Go.RowKit

def sigB (h : Nat) (c : UInt8) : Int := if idxB c = h then sgnB c else 0
def sigL (h : Nat) : List UInt8 → Int
  | [] => 0
  | c :: r => sigB h c + sigL h r
theorem sigL_append (h : Nat) : ∀ a b : List UInt8, sigL h (a ++ b) = sigL h a + sigL h b
  | [], b => by simp [sigL]
  | c :: r, b => by rw [List.cons_append, sigL, sigL, sigL_append h r b]; omega
/-! ### Derivatives -/
theorem foxN_snoc (g c : Int) (l : List UInt8) (x : UInt8) : ∀ k, k ≤ l.length → foxN g c (l ++ [x]) k = foxN g c l k
  | 0, _ => rfl
  | k + 1, hk => by
    rw [foxN_succ g c (l ++ [x]) k (by simp; omega), foxN_succ g c l k (by omega), foxN_snoc g c l x k (by omega), List.take_append_of_le_length (by omega)]
    rw [List.getElem_append_left]
theorem foxL_snoc (g c : Int) (l : List UInt8) (x : UInt8) : foxL g c (l ++ [x]) = foxL g c l ++ foxT g c l x := by
  unfold foxL
  rw [List.length_append, List.length_singleton, foxN_succ g c (l ++ [x]) l.length (by simp), foxN_snoc g c l x _ (Nat.le_refl _)]
  simp
theorem plain_lin : ∀ ts : List Tm, plainZ ts = linT (fun _ => 1) ts
  | [] => rfl
  | t :: r => by
    have := plain_lin r
    unfold plainZ at *
    rw [List.map_cons, List.sum_cons, linT, this]; omega
theorem linT_scale (f : ByteArray → Int) (c : Int) : ∀ ts, linT f (scaleT c ts) = c * linT f ts
  | [] => by simp [scaleT, linT]
  | t :: r => by
    have ih := linT_scale f c r
    unfold scaleT at *
    rw [List.map_cons, linT, linT, ih, Int.mul_add, Int.mul_assoc]
theorem fox_sig (h : Nat) (l : List UInt8) : linT (fun _ => 1) (foxL h 1 l) = sigL h l := by
  generalize hn : l.length = n
  induction n generalizing l with
  | zero => rw [List.length_eq_zero_iff.1 hn]; rfl
  | succ n ih =>
    obtain ⟨p, c, rfl⟩ := last_split l (by omega)
    have hp : p.length = n := by rw [List.length_append] at hn; simp at hn; exact hn
    rw [foxL_snoc, linT_append, ih p hp, sigL_append]
    have e : linT (fun _ => 1) (foxT h 1 p c) = sigB h c := by
      unfold foxT sigB
      by_cases hi : idxB c = h
      · rw [if_pos (by omega), if_pos hi, linT, linT]; show 1 * sgnB c * 1 + 0 = _; omega
      · rw [if_neg (by omega), if_neg hi, linT]
    rw [e, sigL, sigL]; omega
def twoL (h g : Nat) (l : List UInt8) : Int := linT (fun s => sigL h s.data.toList) (foxL g 1 l)
def twoB (h g : Nat) (c : UInt8) : Int := if idxB c = h ∧ idxB c = g ∧ ¬ 97 ≤ c.toNat then 1 else 0
theorem two_snoc (h g : Nat) (l : List UInt8) (c : UInt8) : twoL h g (l ++ [c]) = twoL h g l + sigL h l * sigB g c + twoB h g c := by
  unfold twoL
  rw [foxL_snoc, linT_append]
  have e : linT (fun s => sigL h s.data.toList) (foxT g 1 l c) = sigL h l * sigB g c + twoB h g c := by
    unfold foxT sigB twoB
    by_cases hi : idxB c = g
    · rw [if_pos (by omega), if_pos hi, linT, linT]
      show 1 * sgnB c * sigL h (bstr _).data.toList + 0 = _
      rw [bstr_toList]
      by_cases hx : 97 ≤ c.toNat
      · rw [if_pos hx, if_neg (fun e => e.2.2 hx), Int.one_mul, Int.mul_comm]
      · rw [if_neg hx, sigL_append, sigL, sigL]
        have hs : sgnB c = -1 := by unfold sgnB; rw [if_neg hx]
        unfold sigB
        rw [hs]
        by_cases hh : idxB c = h
        · rw [if_pos hh, if_pos ⟨hh, hi, hx⟩]; omega
        · rw [if_neg hh, if_neg (fun e => hh e.1)]; omega
    · rw [if_neg (by omega), if_neg hi, if_neg (fun e => hi e.2.1), linT]; omega
  rw [e]; omega
/-- What derivatives in turn come to. -/
theorem twice_two (h g : Nat) (l : List UInt8) : plainZ (canonT (foxI h (canonT (foxL g 1 l)))) = twoL h g l := by
  rw [plain_lin, linT_canon]
  have e : ∀ a : List Tm, linT (fun _ => 1) (foxI h a) = linT (fun s => sigL h s.data.toList) a := fun a => by
    induction a with
    | nil => rfl
    | cons t r ih =>
      unfold foxI at *
      rw [List.flatMap_cons, linT_append, ih, foxL_scale, linT_scale, fox_sig, linT]
  rw [e, linT_canon]; rfl

/-! ### Series -/
def xB (h : Nat) : UInt8 := UInt8.ofNat (97 + h)
theorem let_coefs : ∀ n : Fin 8, ∀ h g : Fin 4, cf (letS (UInt8.ofNat (if n.val < 4 then 97 + n.val else 61 + n.val))) [] = 1 ∧
    cf (letS (UInt8.ofNat (if n.val < 4 then 97 + n.val else 61 + n.val))) [xB h.val] = sigB h.val (UInt8.ofNat (if n.val < 4 then 97 + n.val else 61 + n.val)) ∧
    cf (letS (UInt8.ofNat (if n.val < 4 then 97 + n.val else 61 + n.val))) [xB h.val, xB g.val] = twoB h.val g.val (UInt8.ofNat (if n.val < 4 then 97 + n.val else 61 + n.val)) := by
  unfold cf sigB twoB
  decide +kernel
theorem let_coef {c : UInt8} (hc : letB c = true) {h g : Nat} (hh : h < 4) (hg : g < 4) :
    cf (letS c) [] = 1 ∧ cf (letS c) [xB h] = sigB h c ∧ cf (letS c) [xB h, xB g] = twoB h g c :=
  let_cases (P := fun c => cf (letS c) [] = 1 ∧ cf (letS c) [xB h] = sigB h c ∧ cf (letS c) [xB h, xB g] = twoB h g c) (fun n => let_coefs n ⟨h, hh⟩ ⟨g, hg⟩) hc
theorem cs_two {h g : Nat} (hh : h < 4) (hg : g < 4) (l : List UInt8) (hl : letL l = true) : cs l [] = 1 ∧ cs l [xB h] = sigL h l ∧ cs l [xB h, xB g] = twoL h g l := by
  generalize hn : l.length = n
  induction n generalizing l with
  | zero =>
    rw [List.length_eq_zero_iff.1 hn, cs_nil [] (by simp), cs_nil [xB h] (by simp), cs_nil [xB h, xB g] (by simp)]
    exact ⟨rfl, rfl, rfl⟩
  | succ n ih =>
    obtain ⟨p, c, rfl⟩ := last_split l (by omega)
    have hp : p.length = n := by rw [List.length_append] at hn; simp at hn; exact hn
    rw [letL_append, Bool.and_eq_true] at hl
    have hc : letB c = true := by have := hl.2; simp [letL] at this; exact this
    obtain ⟨h0, h1, h2⟩ := ih p hl.1 hp
    obtain ⟨k0, k1, k2⟩ := let_coef hc hh hg
    obtain ⟨_, k3, _⟩ := let_coef hc hg hg
    refine ⟨?_, ?_, ?_⟩
    · rw [cs_snoc p c [] (by simp), conv, h0, k0]; rfl
    · rw [cs_snoc p c [xB h] (by simp), conv, conv, h0, h1, k0, k1, sigL_append, sigL, sigL]; omega
    · rw [cs_snoc p c [xB h, xB g] (by simp), conv, conv, conv, h0, h1, h2, k0, k2, k3, two_snoc]; omega
/-- Coefficients are derivatives, derived in turn. -/
theorem coef_fox {h g : Nat} (hh : h < 4) (hg : g < 4) (l : List UInt8) (hl : letL l = true) : coefAt (bstr [xB h, xB g]) (serW l) = plainZ (canonT (foxI h (canonT (foxL g 1 l)))) := by
  rw [twice_two]; exact (cs_two hh hg l hl).2.2

end Go.Proofs.Ytebgcebjlbhjjaa

/- Derivatives in the free group's ring: of products, inverses, reduced words, sums; the fundamental identity; derivatives in turn. -/

namespace Go.Proofs.Ytebgcebjlbhjjaa
open Go.RowKit

/-- The derivative of letters, its words reduced. -/
def rdL (g : Int) (l : List UInt8) : List Tm := (foxL g 1 l).map (mapT (redL []))
def frontL (a : List UInt8) (x : List Tm) : List Tm := x.map (mapT fun r => redL [] (a ++ r))
theorem foxT_shift (g c : Int) (a p : List UInt8) (x : UInt8) : foxT g c (a ++ p) x = (foxT g c p x).map (mapT fun r => a ++ r) := by
  unfold foxT
  by_cases h : (idxB x : Int) = g
  · rw [if_pos h, if_pos h]
    show [_] = [_]
    unfold mapT
    show [(⟨c * sgnB x, _⟩ : Tm)] = [⟨c * sgnB x, bstr (a ++ (bstr _).data.toList)⟩]
    rw [bstr_toList]
    by_cases h2 : 97 ≤ x.toNat
    · rw [if_pos h2, if_pos h2]
    · rw [if_neg h2, if_neg h2, List.append_assoc]
  · rw [if_neg h, if_neg h]; rfl
theorem foxL_append (g c : Int) (a b : List UInt8) : foxL g c (a ++ b) = foxL g c a ++ (foxL g c b).map (mapT fun r => a ++ r) := by
  generalize hn : b.length = n
  induction n generalizing b with
  | zero => rw [List.length_eq_zero_iff.1 hn, List.append_nil]; show _ = _ ++ []; rw [List.append_nil]
  | succ n ih =>
    obtain ⟨p, x, rfl⟩ := last_split b (by omega)
    have hp : p.length = n := by rw [List.length_append] at hn; simp at hn; exact hn
    rw [← List.append_assoc, foxL_snoc, ih p hp, foxL_snoc, List.map_append, foxT_shift, List.append_assoc]
theorem fox_letters {g : Int} {l : List UInt8} (hl : letL l = true) : ∀ t ∈ foxL g 1 l, letL t.s.data.toList = true := fun t ht => by
  obtain ⟨_, j, _, e⟩ := foxN_mem (C := 1) (by omega) (Nat.le_refl _) ht
  rw [e, bstr_toList]
  exact letL_of_mem l _ hl fun _ h => List.mem_of_mem_take h
theorem map_map (x : List Tm) (g k : List UInt8 → List UInt8) : (x.map (mapT g)).map (mapT k) = x.map (mapT fun l => k (g l)) := by
  rw [List.map_map]
  refine List.map_congr_left fun t _ => ?_
  show (⟨t.c, bstr (k (bstr (g t.s.data.toList)).data.toList)⟩ : Tm) = ⟨t.c, bstr (k (g t.s.data.toList))⟩
  rw [bstr_toList]
theorem map_congr {x : List Tm} {g k : List UInt8 → List UInt8} (h : ∀ t ∈ x, g t.s.data.toList = k t.s.data.toList) : x.map (mapT g) = x.map (mapT k) :=
  List.map_congr_left fun t ht => by unfold mapT; rw [h t ht]
/-- The product rule. -/
theorem rd_append (g : Int) (a b : List UInt8) (hb : letL b = true) : rdL g (a ++ b) = rdL g a ++ frontL a (rdL g b) := by
  unfold rdL frontL
  rw [foxL_append, List.map_append, map_map, map_map]
  congr 1
  exact map_congr fun _ ht => (red_right (fox_letters hb _ ht)).symm
theorem front_same {x y : List Tm} (h : Same x y) (a : List UInt8) : Same (frontL a x) (frontL a y) := h.map _
theorem front_red (a : List UInt8) (x : List Tm) : frontL (redL [] a) x = frontL a x := map_congr fun _ _ => red_append a _
theorem rd_word {g : Int} {l : List UInt8} (h : wordB l = true) : rdL g l = foxL g 1 l := by
  unfold rdL
  refine map_id_same fun t ht => ?_
  obtain ⟨_, j, _, e⟩ := foxN_mem (C := 1) (by omega) (Nat.le_refl _) ht
  rw [e, bstr_toList]
  exact ((wordB_iff _).1 (word_take h j)).2.2
theorem rd_nil (g : Int) : rdL g [] = [] := rfl
theorem rd_one (g : Int) (c : UInt8) : rdL g [c] = if (idxB c : Int) = g then [⟨sgnB c, bstr (if 97 ≤ c.toNat then [] else [c])⟩] else [] := by
  unfold rdL
  have e : foxL g 1 [c] = foxT g 1 [] c := by
    have := foxL_snoc g 1 [] c
    rw [List.nil_append] at this
    rw [this]; rfl
  rw [e]
  unfold foxT
  by_cases h : (idxB c : Int) = g
  · rw [if_pos h, if_pos h]
    show [mapT (redL []) ⟨1 * sgnB c, _⟩] = _
    unfold mapT
    rw [bstr_toList, Int.one_mul]
    by_cases h2 : 97 ≤ c.toNat
    · rw [if_pos h2, if_pos h2]; rfl
    · rw [if_neg h2, if_neg h2]; show [(⟨_, bstr (redL [] ([] ++ [c]))⟩ : Tm)] = _; rw [List.nil_append]; rfl
  · rw [if_neg h, if_neg h]; rfl
/-- A letter and its inverse have no derivative. -/
theorem rd_pair (g : Int) {c : UInt8} (hc : letB c = true) : Same (rdL g [turnB c, c]) [] := fun f => by
  obtain ⟨h1, h2⟩ := sg_turn hc
  obtain ⟨h3, h4⟩ := turn_turn c hc
  have e := rd_append g [turnB c] [c] (by simp [letL, hc])
  rw [show [turnB c, c] = [turnB c] ++ [c] from rfl, e, linT_append, rd_one, rd_one, h1, h2]
  unfold frontL
  by_cases hg : (idxB c : Int) = g
  · rw [if_pos hg, if_pos hg]
    have hl := (letB_iff c).1 hc
    rw [lin_map]
    simp only [linT]
    rcases hl with h | h
    · have := turnB_hi c h.1
      rw [if_neg (by omega), if_pos (by omega), bstr_toList, List.append_nil]
      have e2 : redL [] [turnB c] = [turnB c] := rfl
      rw [e2, Int.neg_mul]; omega
    · have := turnB_lo c (by omega)
      rw [if_pos (by omega), if_neg (by omega), bstr_toList]
      have e2 : redL [] ([turnB c] ++ [c]) = [] := by
        show redStep (redStep [] (turnB c)) c = []
        have := step_cancel noC_nil h4
        rwa [h3] at this
      rw [e2, Int.neg_mul]; omega
  · rw [if_neg hg, if_neg hg]; rfl
/-- Reducing changes no derivative. -/
theorem rd_red (g : Int) : ∀ (s acc : List UInt8), letL s = true → letL acc = true → Same (rdL g (redL acc s)) (rdL g (acc ++ s))
  | [], acc, _, _ => by rw [redL_nil, List.append_nil]; exact Same.refl _
  | c :: s, acc, h, ha => by
    rw [letL_cons, Bool.and_eq_true] at h
    have e : redL acc (c :: s) = redL (redStep acc c) s := rfl
    rw [e]
    refine (rd_red g s (redStep acc c) h.2 (letL_step ha h.1)).trans ?_
    have hs : letL s = true := h.2
    have hcs : letL (c :: s) = true := by rw [letL_cons, h.1, hs]; rfl
    by_cases hl : acc.getLast? = some (turnB c)
    · obtain ⟨p, x, rfl⟩ := last_split acc (by cases acc with | nil => simp at hl | cons a l => simp)
      have hx : x = turnB c := by simpa using hl
      subst hx
      rw [redStep_pop p (turnB c) c rfl]
      have e2 : p ++ [turnB c] ++ c :: s = p ++ [turnB c, c] ++ s := by simp
      have h2 : letL [turnB c, c] = true := by simp [letL, h.1, (turn_turn c h.1).2]
      rw [e2, rd_append g p s hs, rd_append g (p ++ [turnB c, c]) s hs, rd_append g p _ h2]
      refine Same.append ?_ ?_
      · have h3 := (front_same (rd_pair g h.1) p)
        have h4 : Same (rdL g p ++ frontL p (rdL g [turnB c, c])) (rdL g p ++ frontL p []) := (Same.refl _).append h3
        have h5 : rdL g p ++ frontL p [] = rdL g p := by show _ ++ [] = _; rw [List.append_nil]
        rw [h5] at h4
        exact h4.symm
      · have e3 : frontL (p ++ [turnB c, c]) (rdL g s) = frontL p (rdL g s) := map_congr fun t _ => by
          have h5 : redL [] (p ++ [turnB c, c]) = redL [] p := by
            rw [show p ++ [turnB c, c] = p ++ [turnB c] ++ [c] by simp, redL_snoc, redL_snoc]
            have := step_cancel (noC_red p [] noC_nil) (turn_turn c h.1).2
            rwa [(turn_turn c h.1).1] at this
          rw [redL_append [] (p ++ [turnB c, c]), h5, ← redL_append]
        rw [e3]; exact Same.refl _
    · have e2 : redStep acc c = acc ++ [c] := by unfold redStep; rw [if_neg hl]
      rw [e2, List.append_assoc]
      exact Same.refl _
/-- Derivatives of words that come of products. -/
theorem fox_times {g : Int} {a b : List UInt8} (ha : wordB a = true) (hb : wordB b = true) (hw : wordB (redL [] (a ++ b)) = true) :
    Same (foxL g 1 (redL [] (a ++ b))) (foxL g 1 a ++ frontL a (foxL g 1 b)) := by
  have hla := ((wordB_iff _).1 ha).2.1
  have hlb := ((wordB_iff _).1 hb).2.1
  rw [← rd_word hw, ← rd_word ha, ← rd_word hb, ← rd_append g a b hlb]
  exact rd_red g (a ++ b) [] (by rw [letL_append, hla, hlb]; rfl) rfl
theorem front_pairs (s : ByteArray) (c : Int) (x : List Tm) : Same (pairsT [⟨c, s⟩] x) (scaleT c (frontL s.data.toList x)) := fun f => by
  unfold frontL
  rw [lin_pairs, linT_scl, lin_map]
  simp only [linT]
  show c * linT (fun r => f (mulB s r)) x + 0 = _
  rw [Int.add_zero]; rfl
/-- The rule of inverses. -/
theorem fox_back {g : Int} {a : List UInt8} (ha : wordB a = true) : Same (foxL g 1 (backL a)) (scaleT (-1) (frontL (backL a) (foxL g 1 a))) := fun f => by
  have hla := ((wordB_iff _).1 ha).2.1
  have hwb := word_back ha
  have h1 := rd_append g (backL a) a hla
  have h2 := rd_red g (backL a ++ a) [] (by rw [letL_append, letL_back a hla, hla]; rfl) rfl f
  have e0 : redL [] (backL a ++ a) = [] := by have := red_inv2 hla []; rwa [List.nil_append] at this
  rw [List.nil_append, e0, rd_nil, h1, linT_append, rd_word hwb, rd_word ha] at h2
  rw [linT_scl]
  simp only [linT] at h2
  omega
/-! ### Sums -/
theorem lin_fox (g : Int) (f : ByteArray → Int) : ∀ a : List Tm, linT f (foxI g a) = linT (fun s => linT f (foxL g 1 s.data.toList)) a
  | [] => rfl
  | t :: r => by
    have ih := lin_fox g f r
    unfold foxI at *
    rw [List.flatMap_cons, linT_append, ih, foxL_scale, linT_scl, linT]
theorem Same.fox {x y : List Tm} (h : Same x y) (g : Int) : Same (foxI g x) (foxI g y) := fun f => by rw [lin_fox, lin_fox]; exact h _
theorem fox_add (g : Int) (x y : List Tm) : foxI g (x ++ y) = foxI g x ++ foxI g y := by unfold foxI; rw [List.flatMap_append]
theorem fox_noS (g : Int) : foxI g (oneS noS) = [] := rfl
/-! ### The fundamental identity -/
theorem lin_less (g : Nat) (f : ByteArray → Int) (s : ByteArray) : linT (fun r => f (mulB s r)) (lessT g) = f (bstr (redL [] (s.data.toList ++ [UInt8.ofNat (97 + g)]))) - f (bstr (redL [] s.data.toList)) := by
  unfold lessT
  simp only [linT]
  unfold mulB genS
  have h0 : ({ data := #[] } : ByteArray).data.toList = [] := rfl
  rw [h0, List.append_nil]
  simp only [bstr_toList]
  omega
def sumF (f : Nat → Int) : Int := f 0 + f 1 + f 2 + f 3
theorem lin_back (f : ByteArray → Int) (rows : List (List Tm)) : linT f (backN rows 4) = sumF fun g => linT f (backRow rows g) := by
  have e : backN rows 4 = backRow rows 0 ++ backRow rows 1 ++ backRow rows 2 ++ backRow rows 3 := by
    rw [backN_succ, backN_succ, backN_succ, backN_succ]; rfl
  rw [e, linT_append, linT_append, linT_append]; rfl
theorem fund_step (f : ByteArray → Int) (g : Nat) (l : List UInt8) {c : UInt8} (hc : letB c = true) (hg : idxB c = g) :
    linT (fun s => linT (fun r => f (mulB s r)) (lessT g)) ((foxT g 1 l c).map (mapT (redL []))) = f (bstr (redL [] (l ++ [c]))) - f (bstr (redL [] l)) := by
  have hx : (idxB c : Int) = (g : Int) := by omega
  have hL := (letB_iff c).1 hc
  unfold foxT
  rw [if_pos hx, lin_map]
  simp only [linT, lin_less, bstr_toList, red_red]
  rcases hL with h | h
  · have hs : sgnB c = 1 := by unfold sgnB; rw [if_pos (by omega)]
    have e : UInt8.ofNat (97 + g) = c := by
      rw [← hg]; unfold idxB
      rw [if_pos (by omega), show 97 + (c.toNat - 97) = c.toNat by omega]; simp
    rw [if_pos (by omega), hs, e, red_append]; omega
  · have hs : sgnB c = -1 := by unfold sgnB; rw [if_neg (by omega)]
    have e : UInt8.ofNat (97 + g) = turnB c := by
      rw [← hg]; unfold idxB turnB
      rw [if_neg (by omega), if_neg (by omega)]
      apply UInt8.toNat_inj.1
      rw [UInt8.toNat_add, UInt8.toNat_ofNat']
      have : (32 : UInt8).toNat = 32 := rfl
      omega
    rw [if_neg (by omega), hs, e, red_append]
    have e2 : redL [] (l ++ [c] ++ [turnB c]) = redL [] l := by
      have := red_inv (s := [c]) (by simp [letL, hc]) l
      have e3 : backL [c] = [turnB c] := rfl
      rwa [e3] at this
    rw [e2]; omega
theorem fundamental (f : ByteArray → Int) (l : List UInt8) (hl : letL l = true) :
    (sumF fun g => linT (fun s => linT (fun r => f (mulB s r)) (lessT g)) (rdL g l)) = f (bstr (redL [] l)) - f (bstr []) := by
  generalize hn : l.length = n
  induction n generalizing l with
  | zero => rw [List.length_eq_zero_iff.1 hn]; unfold sumF; simp only [rd_nil, linT, redL_nil]; omega
  | succ n ih =>
    obtain ⟨p, c, rfl⟩ := last_split l (by omega)
    have hp : p.length = n := by rw [List.length_append] at hn; simp at hn; exact hn
    rw [letL_append, Bool.and_eq_true] at hl
    have hc : letB c = true := by have := hl.2; simp [letL] at this; exact this
    have h1 := ih p hl.1 hp
    have hi := idxB_lt c hc
    have hs := fund_step f (idxB c) p hc rfl
    have e : ∀ g : Nat, rdL g (p ++ [c]) = rdL g p ++ (foxT g 1 p c).map (mapT (redL [])) := fun g => by unfold rdL; rw [foxL_snoc, List.map_append]
    have hz : ∀ g : Nat, idxB c ≠ g → linT (fun s => linT (fun r => f (mulB s r)) (lessT g)) ((foxT g 1 p c).map (mapT (redL []))) = 0 := fun g hg => by
      rw [foxT_no (by omega)]; rfl
    unfold sumF at *
    dsimp only at h1
    simp only [e, linT_append]
    rcases (show idxB c = 0 ∨ idxB c = 1 ∨ idxB c = 2 ∨ idxB c = 3 by omega) with h | h | h | h
    · rw [h] at hs; rw [hs, hz 1 (by omega), hz 2 (by omega), hz 3 (by omega)]; omega
    · rw [h] at hs; rw [hs, hz 0 (by omega), hz 2 (by omega), hz 3 (by omega)]; omega
    · rw [h] at hs; rw [hs, hz 0 (by omega), hz 1 (by omega), hz 3 (by omega)]; omega
    · rw [h] at hs; rw [hs, hz 0 (by omega), hz 1 (by omega), hz 2 (by omega)]; omega
/-! ### Derivatives in turn -/
theorem two_both {g h : Nat} (hgh : g ≠ h) (l : List UInt8) : twoL h g l + twoL g h l = sigL g l * sigL h l := by
  generalize hn : l.length = n
  induction n generalizing l with
  | zero => rw [List.length_eq_zero_iff.1 hn]; rfl
  | succ n ih =>
    obtain ⟨p, c, rfl⟩ := last_split l (by omega)
    have hp : p.length = n := by rw [List.length_append] at hn; simp at hn; exact hn
    have h1 := ih p hp
    rw [two_snoc, two_snoc, sigL_append, sigL_append]
    have e1 : twoB h g c = 0 := by unfold twoB; rw [if_neg (fun e => hgh (e.2.1.symm.trans e.1))]
    have e2 : twoB g h c = 0 := by unfold twoB; rw [if_neg (fun e => hgh (e.1.symm.trans e.2.1))]
    have e3 : sigB g c * sigB h c = 0 := by
      unfold sigB
      by_cases hc : idxB c = g
      · rw [if_neg (fun e => hgh (hc.symm.trans e)), Int.mul_zero]
      · rw [if_neg hc, Int.zero_mul]
    simp only [sigL, e1, e2, Int.add_zero]
    rw [Int.add_mul, Int.mul_add, Int.mul_add, e3, ← h1, Int.mul_comm (sigB g c) (sigL h p)]
    omega

end Go.Proofs.Ytebgcebjlbhjjaa

/- The contract of the laws' own 'sameInts'; slices of ints that lie somewhere; sums of letters as such. -/

namespace Go.Proofs.Ytebgcebjlbhjjaa
open Go.RowKit

structure IntsAt (w : World) (a : Option Addr) (n : Nat) (zs : List Int) : Prop where
  len : zs.length = n
  max : n ≤ maxLen
  at_ : 0 < n → ∃ g, a = some ⟨g, 0, none⟩ ∧ g < w.heap.size ∧ ∀ j (h : j < zs.length), w.cell? ⟨g, j, none⟩ = some (.int .i64 zs[j])
theorem IntsAt.below {w w' : World} {a : Option Addr} {n : Nat} {zs : List Int} (h : IntsAt w a n zs) (hb : Below w.heap.size w w') : IntsAt w' a n zs :=
  ⟨h.len, h.max, fun h0 => by
    obtain ⟨g, e, hg, hc⟩ := h.at_ h0
    exact ⟨g, e, Nat.lt_of_lt_of_le hg hb.size, fun j hj => (hb.cell (p := ⟨g, j, none⟩) hg).trans (hc j hj)⟩⟩
theorem IntRow.ints {base : Nat} {w : World} {v : Value} {zs : List Int} (h : IntRow base w v zs) : ∃ a cap, v = .slice a zs.length cap ∧ IntsAt w a zs.length zs := by
  obtain ⟨a, g, cap, rfl, h1, h2, h3⟩ := h.shape
  exact ⟨a, cap, rfl, rfl, h2, fun h0 => ⟨g, (h1 h0).1, (h1 h0).2.2, fun j hj => (h3 j hj).1⟩⟩
theorem intsAt_four (w : World) : IntsAt (w.alloc (.cells #[.int .i64 0, .int .i64 0, .int .i64 0, .int .i64 0] 3)) (some ⟨w.heap.size, 0, none⟩) 4 [0, 0, 0, 0] :=
  ⟨rfl, by unfold maxLen; omega, fun _ => ⟨_, rfl, by simp, fun j hj => by
    have hj4 : j < 4 := hj
    rcases (show j = 0 ∨ j = 1 ∨ j = 2 ∨ j = 3 by omega) with rfl | rfl | rfl | rfl <;> exact (World.cell?_alloc_at _ _ _ _ (by simp)).trans rfl⟩⟩

/-- What WordSums answers. -/
def SumsT (W : World) (b : Bool) (n : Nat) (zs : List Int) (e : Ending) (w' : World) : Prop := (∃ a c, e = .returned (.tuple #[.slice a n c, .bool b]) ∧ IntsAt w' a n zs) ∧ Below W.heap.size W w'
theorem iSums_t {s : ByteArray} (h : wordB s.data.toList = true) (W : World) :
    Calls Try.prog 40 #[.string s] W (SumsT W true 4 (sumsL s.data.toList)) :=
  (iWordSums_yes s W h).mono fun e w' ⟨v, he, hr, hb⟩ => by
    have h4 := (sumsL_inv _ ((wordB_iff _).1 h).2.1).1
    obtain ⟨a, c, rfl, hi⟩ := hr.ints
    rw [h4] at he hi
    exact ⟨⟨a, c, he, hi⟩, hb⟩
theorem iSums_f {s : ByteArray} (hs : s.size ≤ maxLen) (h : wordB s.data.toList = false) (W : World) :
    Calls Try.prog 40 #[.string s] W (SumsT W false 0 []) :=
  (iWordSums_no s W hs h).mono fun e w' ⟨v, he, hr, hb⟩ => by
    obtain ⟨a, c, rfl, hi⟩ := hr.ints
    exact ⟨⟨a, c, he, hi⟩, hb⟩
/-- The cells of the sums of a word's letters. -/
theorem IntsAt.four {w : World} {a : Option Addr} {zs : List Int} (h : IntsAt w a 4 zs) : ∃ g, a = some ⟨g, 0, none⟩ ∧ g < w.heap.size ∧ ∀ i, i < 4 → w.cell? ⟨g, i, none⟩ = some (.int .i64 (zs.getD i 0)) := by
  obtain ⟨g, e, hg, hc⟩ := h.at_ (by omega)
  refine ⟨g, e, hg, fun i hi => ?_⟩
  have hl := h.len
  rw [List.getD_eq_getElem?_getD, List.getElem?_eq_getElem (by omega)]
  exact hc i (by omega)
theorem sums_getD {s : List UInt8} (hl : letL s = true) (i : Nat) (hi : i < 4) : (sumsL s).getD i 0 = sgL i s := by
  have h4 := (sumsL_inv s hl).1
  rw [List.getD_eq_getElem?_getD, List.getElem?_eq_getElem (by omega)]
  exact sums_get s hl i (by omega)
theorem sgL_bnd (i : Nat) : ∀ s : List UInt8, -(s.length : Int) ≤ sgL i s ∧ sgL i s ≤ s.length
  | [] => by simp [sgL]
  | c :: r => by
    have h := sgL_bnd i r
    have h2 := sgnB_bnd2 c
    rw [sgL, List.length_cons]
    split <;> omega

end Go.Proofs.Ytebgcebjlbhjjaa

/- The contract of the program's 'WordCore'. -/

namespace Go.Proofs.Ytebgcebjlbhjjaa
open Go.RowKit Go.Shelf

theorem letters_core {g off : Nat} {l : List UInt8} {w : World} (h : Letters g off l w) : Letters g (off + 1) (l.tail.dropLast) w :=
  ⟨h.1, fun j hj => by
    have := h.2 (j + 1) (by simp at hj; omega)
    rw [core_get l j hj, show off + 1 + j = off + (j + 1) by omega]
    exact this⟩

end Go.Proofs.Ytebgcebjlbhjjaa

/- The contracts of both sides' functions on words, the answer under a name of its own. -/

namespace Go.Proofs.Ytebgcebjlbhjjaa
open Go.RowKit Go.Shelf

/-- A text that is a row of letters. -/
def Is (x : ByteArray) (l : List UInt8) : Prop := x.data.toList = l
theorem Is.eq {x : ByteArray} {l : List UInt8} (h : Is x l) : bstr l = x := by unfold Is at h; rw [← h]; exact bstr_of x
theorem is_of (l : List UInt8) : ∃ x, Is x l := ⟨bstr l, bstr_toList l⟩
theorem Is.size {x : ByteArray} {l : List UInt8} (h : Is x l) : x.size = l.length := by unfold Is at h; rw [← h]; simp
theorem Is.same {x y : ByteArray} {l : List UInt8} (h : Is x l) (h2 : Is y l) : x = y := by rw [← h.eq, h2.eq]
def OutT (x : ByteArray) (W : World) (e : Ending) (w' : World) : Prop := e = .returned (.tuple #[.string x, .bool true]) ∧ Below W.heap.size W w'
theorem toldV_is {x : ByteArray} {l : List UInt8} (h : Is x l) (hx : x.size ≤ 60) : toldV l = .tuple #[.string x, .bool true] := by
  rw [toldV_yes (by have := h.size; omega), h.eq]

theorem iTimes_t {a b x : ByteArray} (ha : wordB a.data.toList = true) (hb : wordB b.data.toList = true) (h : Is x (redL [] (a.data.toList ++ b.data.toList))) (h60 : x.size ≤ 60) (W : World) :
    Calls Try.prog 41 #[.string a, .string b] W fun e w' => e = .returned (.tuple #[.string x, .bool true]) ∧ Below W.heap.size W w' := by
  rw [← toldV_is h h60]; exact iTimes_yes a b W ha hb
theorem iTurned_t {s x : ByteArray} (hs : wordB s.data.toList = true) (h : Is x (backL s.data.toList)) (W : World) :
    Calls Try.prog 43 #[.string s] W fun e w' => e = .returned (.tuple #[.string x, .bool true]) ∧ Below W.heap.size W w' := by
  rw [← h.eq]; exact iWordTurned_yes s W hs
theorem sWordIn_t {s : ByteArray} {b : Bool} (hs : s.size ≤ maxLen) (h : wordB s.data.toList = b) (W : World) :
    Calls Try.prog 56 #[.string s] W fun e w' => e = .returned (.bool b) ∧ Below W.heap.size W w' := by
  rw [← h]; exact sWordIn_any s W hs
theorem iTimes_f {a b : ByteArray} (ha : wordB a.data.toList = true) (hb : wordB b.data.toList = true) (h : ¬ (redL [] (a.data.toList ++ b.data.toList)).length ≤ 60) (W : World) :
    Calls Try.prog 41 #[.string a, .string b] W fun e w' => e = .returned (.tuple #[.string ByteArray.empty, .bool false]) ∧ Below W.heap.size W w' := by
  rw [← toldV_no h]; exact iTimes_yes a b W ha hb
/-- Sizes of what words come to. -/
theorem word_of_is {x : ByteArray} {l : List UInt8} (hl : letL l = true) (h : Is x (redL [] l)) (h60 : x.size ≤ 60) : wordB x.data.toList = true := by
  have hsz := h.size
  unfold Is at h
  rw [h]; exact word_of_red hl (by omega)
theorem is_red_size {x : ByteArray} {l : List UInt8} (h : Is x (redL [] l)) : x.size ≤ l.length := by
  have := redL_len l []
  rw [h.size]; simpa using this

end Go.Proofs.Ytebgcebjlbhjjaa

/- The contracts of both sides' functions of derivatives, the answer under a name of its own. -/

namespace Go.Proofs.Ytebgcebjlbhjjaa
open Go.RowKit Go.Shelf

section
variable {W : World} {a : Option Addr} {n c k : Nat} {x us : List Tm} {s : ByteArray} {g : Int} {b : Bool}
theorem iFoxOf_t (hs : s.size ≤ maxLen) (hb : foxOfB s g = b) (hu : cond b (canonT (foxL g 1 s.data.toList)) [] = us) (hk : us.length = k) :
    Calls Try.prog 38 #[.string s, .int .i64 g] W (TermsT W b k us) :=
  (iFoxOf_any s g b W hs hb).mono fun _ _ hh => hh.terms (told_small (foxOfB_tw hb) hu).1 hu hk
theorem sFoxOf_t (hs : s.size ≤ maxLen) (hb : foxOfB s g = b) (hu : cond b (canonT (foxL g 1 s.data.toList)) [] = us) (hk : us.length = k) :
    Calls Try.prog 39 #[.string s, .int .i64 g] W (TermsT W b k us) :=
  (sFoxOf_any s g b W hs hb).mono fun _ _ hh => hh.terms (told_small (foxOfB_tw hb) hu).1 hu hk
theorem iFoxSum_t (h : TermsIn W a n c x) (hb : foxSumB x g = b) (hu : cond b (canonT (foxI g x)) [] = us) (hk : us.length = k) :
    Calls Try.prog 45 #[.slice a n c, .int .i64 g] W (TermsT W b k us) :=
  (iFoxSum_any a c n x g b W h.is hb).mono fun _ _ hh => hh.terms (told_small (foxSumB_tw hb) hu).1 hu hk
theorem sFoxSum_t (h : TermsIn W a n c x) (hb : foxSumB x g = b) (hu : cond b (canonT (foxI g x)) [] = us) (hk : us.length = k) :
    Calls Try.prog 46 #[.slice a n c, .int .i64 g] W (TermsT W b k us) :=
  (sFoxSum_any a c n x g b W h.is hb).mono fun _ _ hh => hh.terms (told_small (foxSumB_tw hb) hu).1 hu hk
end
theorem foxOfB_iff {s : ByteArray} {g : Int} : foxOfB s g = true ↔ wordB s.data.toList = true ∧ 0 ≤ g ∧ g ≤ 3 := by
  unfold foxOfB inR; simp only [Bool.and_eq_true, decide_eq_true_eq]
theorem foxSumB_iff {x : List Tm} {g : Int} : foxSumB x g = true ↔ sumB x = true ∧ (0 ≤ g ∧ g ≤ 3) ∧ twB (canonT (foxI g x)) = true := by
  unfold foxSumB inR; simp only [Bool.and_eq_true, decide_eq_true_eq]
theorem foxOf_sumB {s : ByteArray} {g : Int} (h : foxOfB s g = true) : sumB (canonT (foxL g 1 s.data.toList)) = true := sum_of_tw (fox_tw (foxOfB_iff.1 h).1)
theorem sgL_sig (i : Nat) : ∀ l : List UInt8, sgL i l = sigL i l
  | [] => rfl
  | c :: r => by rw [sgL, sigL, sgL_sig i r]; rfl
theorem plain_fox (h : Nat) (l : List UInt8) : plainZ (canonT (foxL h 1 l)) = sgL h l := by rw [plain_canon, plain_is, fox_sig, sgL_sig]
/-- A word alone, times a sum. -/
theorem one_pairs (s : ByteArray) (x : List Tm) : Same (pairsT (oneS s) x) (frontL s.data.toList x) := fun f => by
  have := front_pairs s 1 x f
  rw [linT_scl, Int.one_mul] at this
  exact this
/-- The derivative of a small sum is told. -/
theorem foxI_tw {g : Int} {x : List Tm} (hw : WordsT x) (hl : x.length ≤ 10) (hs : ∀ t ∈ x, t.s.size ≤ 10 ∧ -100 ≤ t.c ∧ t.c ≤ 100) : twB (canonT (foxI g x)) = true := by
  have hlen : ∀ y : List Tm, (∀ t ∈ y, t.s.size ≤ 10) → (foxI g y).length ≤ 10 * y.length := fun y => by
    induction y with
    | nil => intro _; simp [foxI]
    | cons t r ih =>
      intro h
      have h1 := ih fun u hu => h u (by simp [hu])
      have h2 := foxN_len g t.c t.s.data.toList t.s.data.toList.length
      have h3 := h t (by simp)
      have h4 := toList_size t.s
      unfold foxI foxL at *
      rw [List.flatMap_cons, List.length_append, List.length_cons]; omega
  have h1 := hlen x fun t ht => (hs t ht).1
  have h2 := fold_len (foxI g x) []
  have hmem : ∀ u ∈ foxI g x, (-100 ≤ u.c ∧ u.c ≤ 100) ∧ wordB u.s.data.toList = true := fun u hu => by
    obtain ⟨t, ht, hu⟩ := List.mem_flatMap.1 hu
    obtain ⟨h3, j, _, e⟩ := foxN_mem (C := 100) (hs t ht).2 (Nat.le_refl _) hu
    refine ⟨h3, ?_⟩
    rw [e, bstr_toList]; exact word_take (hw t ht) j
  have hlc : (canonT (foxI g x)).length ≤ 300 := by unfold canonT; simp only [List.length_nil] at h2; omega
  refine twB_of hlc fun j hj => ?_
  have hm := List.getElem_mem hj
  have hb := fold_bound (C := 100) (by omega) (foxI g x) [] 0 (by omega) (fun t ht => (hmem t ht).1) (fun u hu => by cases hu) _ hm
  obtain ⟨v, hv, e⟩ := canon_words hm
  unfold termB
  rw [← e, (hmem v hv).2, Bool.true_and]
  unfold inR
  simp only [Bool.and_eq_true, decide_eq_true_eq]
  unfold canonT at *
  omega
/-- What is known of the derivative of a short word. -/
theorem fox_few {g : Int} {l : List UInt8} (hl : l.length ≤ 10) : (canonT (foxL g 1 l)).length ≤ 10 ∧ ∀ t ∈ canonT (foxL g 1 l), t.s.size ≤ 10 ∧ -100 ≤ t.c ∧ t.c ≤ 100 := by
  have h1 := foxN_len g 1 l l.length
  have h2 := fold_len (foxL g 1 l) []
  refine ⟨by unfold canonT foxL at *; simp only [List.length_nil] at h2; omega, fun t ht => ?_⟩
  have hb := fold_bound (C := 1) (by omega) (foxL g 1 l) [] 0 (by omega) (fun t ht => (foxN_mem (C := 1) (by omega) (Nat.le_refl _) ht).1) (fun u hu => by cases hu) t ht
  have h3 : (foxL g 1 l).length ≤ 10 := by unfold foxL; omega
  obtain ⟨v, hv, e⟩ := canon_words ht
  obtain ⟨_, j, _, e2⟩ := foxN_mem (C := 1) (by omega) (Nat.le_refl _) hv
  refine ⟨by rw [← e, e2, bstr_size, List.length_take]; omega, by omega, by omega⟩
theorem mul_bnd9 {p q : Int} (hp : -9 ≤ p ∧ p ≤ 9) (hq : -9 ≤ q ∧ q ≤ 9) : -81 ≤ p * q ∧ p * q ≤ 81 := by
  obtain ⟨a, rfl⟩ : ∃ a : Fin 19, p = (a.val : Int) - 9 := ⟨⟨(p + 9).toNat, by omega⟩, by show p = ((p + 9).toNat : Int) - 9; omega⟩
  obtain ⟨b, rfl⟩ : ∃ b : Fin 19, q = (b.val : Int) - 9 := ⟨⟨(q + 9).toNat, by omega⟩, by show q = ((q + 9).toNat : Int) - 9; omega⟩
  have : ∀ a b : Fin 19, -81 ≤ ((a.val : Int) - 9) * ((b.val : Int) - 9) ∧ ((a.val : Int) - 9) * ((b.val : Int) - 9) ≤ 81 := by decide
  exact this a b
def abS : ByteArray := { data := #[97, 98] }
theorem abS_word : wordB abS.data.toList = true := by decide +kernel

end Go.Proofs.Ytebgcebjlbhjjaa

/- The contracts of both 'FoxAll'. -/

namespace Go.Proofs.Ytebgcebjlbhjjaa
open Go.RowKit Go.Shelf

/-- All four derivatives of a word. -/
def foxRow (s : ByteArray) (g : Nat) : List Tm := canonT (foxL g 1 s.data.toList)
def foxRows (s : ByteArray) : List (List Tm) := (List.range 4).map (foxRow s)
theorem foxRows_len (s : ByteArray) : (foxRows s).length = 4 := by simp [foxRows]
theorem foxRows_get (s : ByteArray) (g : Nat) (h : g < (foxRows s).length) : (foxRows s)[g] = foxRow s g := by simp [foxRows]
theorem foxRow_len (s : ByteArray) (g : Nat) (hs : s.data.toList.length ≤ 60) : (foxRow s g).length ≤ 60 := by
  have h1 := fold_len (foxL g 1 s.data.toList) []
  have h2 := foxN_len g 1 s.data.toList s.data.toList.length
  unfold foxRow canonT foxL at *
  simp only [List.length_nil] at h1
  omega
theorem foxRow_small (s : ByteArray) (g : Nat) (h : wordB s.data.toList = true) : SmallT (foxRow s g) := by
  obtain ⟨h1, h2⟩ := canon_len_words (fox_tw (g := (g : Int)) h)
  exact ⟨by unfold foxRow maxLen; omega, fun t ht => by have := termB_iff (h2 t ht); unfold maxLen; omega⟩
theorem foxRows_total (s : ByteArray) (hs : s.data.toList.length ≤ 60) : total (foxRows s) ≤ 240 := by
  have h0 := foxRow_len s 0 hs
  have h1 := foxRow_len s 1 hs
  have h2 := foxRow_len s 2 hs
  have h3 := foxRow_len s 3 hs
  simp only [foxRows, total, List.range, List.range.loop, List.map_cons, List.map_nil, List.sum_cons, List.sum_nil]
  omega

/-- Rows that are put one behind the other. -/
structure Grows (lo : Nat) (w : World) (v : Value) (vals : List Value) (k : Nat) (rows : List (List Tm)) : Prop where
  row : w.ownsRow lo TT 1 v k vals
  each : ∀ (j : Nat) (h : j < rows.length), j < k → ∃ u, vals[j]? = some u ∧ OwnT lo w u rows[j]
  head : ∀ (i : Nat) (u : Value) (b : Nat), vals[i]? = some u → v.ownBlock = some b → u.ownBlock = some b → False
theorem Grows.below {lo : Nat} {w w' : World} {v : Value} {vals : List Value} {k : Nat} {rows : List (List Tm)} (h : Grows lo w v vals k rows) (hb : Below w.heap.size w w') : Grows lo w' v vals k rows :=
  ⟨ownsRow_past h.row hb, fun j hj hk => by obtain ⟨u, h1, h2⟩ := h.each j hj hk; exact ⟨u, h1, h2.below hb⟩, h.head⟩
theorem Grows.more {lo : Nat} {w w1 w2 : World} {v u : Value} {vals : List Value} {k g cap : Nat} {rows : List (List Tm)} (h : Grows lo w v vals k rows) (hb : Below w.heap.size w w1) (hk : k < rows.length) (hlo : lo ≤ w.heap.size) (ho : OwnT w.heap.size w1 u rows[k])
    (hr : w2.ownsRow lo TT 1 (.slice (some ⟨g, 0, none⟩) (k + 1) cap) (k + 1) (vals ++ [u])) (hg : w1.grownBy w2 v.ownBlock) (hat : v.ownBlock = some g ∨ w1.heap.size ≤ g) (hkr : k ≤ rows.length) :
    Grows lo w2 (.slice (some ⟨g, 0, none⟩) (k + 1) cap) (vals ++ [u]) (k + 1) rows := by
  have hvl := h.row.1
  rw [Nat.mul_one] at hvl
  have hlow := ownLow h.row
  have hvb : ∀ b, v.ownBlock = some b → b < w.heap.size := fun b e => (h.row.lt b e).2
  refine ⟨hr, fun j hj hjk => ?_, fun i x b hx hv e => ?_⟩
  · by_cases e : j = k
    · subst e
      refine ⟨u, by rw [List.getElem?_append_right (by omega), hvl]; simp, ?_⟩
      refine OwnT.mono (ownsRow_touched ho fun b hb2 hl => hg.block b hl fun e2 => ?_) hlo
      have p1 := (ho.lt b hb2).1
      have p2 := hvb b e2.symm
      omega
    · obtain ⟨x, h1, h2⟩ := h.each j hj (by omega)
      refine ⟨x, by rw [List.getElem?_append_left (by omega)]; exact h1, ownsRow_touched (h2.below hb) fun b hb2 hl => hg.block b hl fun e2 => h.head j x b h1 e2.symm hb2⟩
  · simp only [Value.ownBlock, Option.some.injEq] at hv
    subst hv
    by_cases hik : i < k
    · rw [List.getElem?_append_left (by omega)] at hx
      rcases hat with h1 | h1
      · exact h.head i x _ hx h1 e
      · obtain ⟨x', h2, h3⟩ := h.each i (by omega) hik
        rw [h2] at hx
        cases hx
        have := (h3.lt _ e).2
        have := hb.size
        omega
    · have hi : i = k := by have := (List.getElem?_eq_some_iff.1 hx).1; simp at this; omega
      subst hi
      rw [List.getElem?_append_right (by omega), hvl] at hx
      simp at hx
      subst hx
      have p1 := ho.lt _ e
      rcases hat with h1 | h1
      · have := hvb _ h1; omega
      · omega
theorem Grows.isTT {lo : Nat} {w : World} {v : Value} {vals : List Value} {n : Nat} {rows : List (List Tm)} (h : Grows lo w v vals n rows) (hl : rows.length = n) (hs : ∀ r ∈ rows, SmallT r) (hn : n ≤ maxLen) : ∃ a cap, v = .slice a n cap ∧ IsTT w a n rows := by
  rcases h.row.2 with ⟨rfl, h0⟩ | ⟨g, cap, cur, rfl, hb, hg, h3⟩
  · exact ⟨none, 0, by rw [h0], hl, hn, fun hp => absurd hp (by omega)⟩
  · refine ⟨_, cap, rfl, hl, hn, fun _ => ⟨_, rfl, (Array.getElem?_eq_some_iff.1 hg).1, fun i hi => ?_⟩⟩
    obtain ⟨u, hu, ho⟩ := h.each i hi (by omega)
    obtain ⟨ai, ci, rfl, hI⟩ := ho.isTerms (hs _ (List.getElem_mem hi))
    exact ⟨ai, ci, h.row.cells rfl i _ hu, hI⟩

/-- What a function of the model hands back: lists of lists. -/
def SAll (w : World) (b : Bool) (n : Nat) (rows : List (List Tm)) (e : Ending) (w' : World) : Prop := (∃ a c, e = .returned (.tuple #[.slice a n c, .bool b]) ∧ IsTT w' a n rows) ∧ Below w.heap.size w w'
def IAll (w : World) (b : Bool) (rows : List (List Tm)) (e : Ending) (w' : World) : Prop := (∃ v vals, e = .returned (.tuple #[v, .bool b]) ∧ OwnTT w.heap.size w' v vals rows) ∧ Below w.heap.size w w'

set_option maxRecDepth 100000 in
set_option maxHeartbeats 2000000 in
theorem sFoxAll_no (s : ByteArray) (w : World) (hs : s.size ≤ maxLen) (hb : wordB s.data.toList = false) :
    Calls Try.prog 49 #[.string s] w (SAll w false 0 []) := by
  have HW := Lib.hid hb
  clear hb
  have hba : Below w.heap.size w (w.alloc (.cells #[] TT)) := (Below.refl _ _).alloc (Nat.le_refl _) _
  have HBA := Lib.hid hba
  clear hba
  go_enter Try.func49, Try.ntmps49
  go_wp2_with fail
  refine (sWordIn_is _ false _ hs HW.out).mono ?_
  rintro e w1 ⟨rfl, hb1⟩
  have HB1 := Lib.hid (HBA.out.trans (hb1.mono HBA.out.size))
  clear hb1
  go_wp2
  go_ret2
  exact ⟨⟨_, _, rfl, IsTT.none _ _⟩, HB1.out⟩

set_option maxRecDepth 100000 in
set_option maxHeartbeats 4000000 in
theorem sFoxAll_yes (s : ByteArray) (w : World) (hs : s.size ≤ maxLen) (hb : wordB s.data.toList = true) :
    Calls Try.prog 49 #[.string s] w (SAll w true 4 (foxRows s)) := by
  obtain ⟨i0, hi, hz0, hz1, hz2⟩ := info_parts infoTerms
  obtain ⟨hw1, hw2, _⟩ := (wordB_iff _).1 hb
  have HF : Hid (∀ (g : Nat) (W : World), Calls Try.prog 80 #[.string s, .int .i64 g] W fun e w' => (∃ v, e = .returned v ∧ Acc W.heap.size w' v (foxRow s g) 60 60) ∧ Below W.heap.size W w') :=
    Lib.hid fun g W => l3Fox_any s g W (by simpa using hw1) hw2
  have HW := Lib.hid hb
  have HSm := Lib.hid (fun g => foxRow_small s g hb)
  have hba : Below w.heap.size w (w.alloc (.cells #[] TT)) := (Below.refl _ _).alloc (Nat.le_refl _) _
  have HBA := Lib.hid hba
  have hmade := World.ownsRow_made (base := w.heap.size) (e := TT) (size := 1) w #[] 0 (Nat.le_refl _) (Nat.zero_le _) rfl
  have HMd := Lib.hid hmade
  clear hba hb hw1 hw2 hmade
  go_enter Try.func49, Try.ntmps49
  go_wp2_with fail
  refine (sWordIn_is _ true _ hs HW.out).mono ?_
  rintro e w1 ⟨rfl, hb1⟩
  have HB1 := Lib.hid (HBA.out.trans (hb1.mono HBA.out.size))
  have HG1 : Hid (Grows w.heap.size w1 (.slice (some ⟨w.heap.size, 0, none⟩) 0 0) [] 0 (foxRows s)) := Lib.hid ⟨ownsRow_past HMd.out hb1, fun j _ h => absurd h (Nat.not_lt_zero _), fun i u b h => by simp at h⟩
  clear hb1
  go_wp2_with fail
  go_loopw [4, 5] (fun v i wr => ∃ (k : Nat) (vals : List Value), k ≤ 4 ∧ i = .int .i64 k ∧ Hid (Grows w.heap.size wr v vals k (foxRows s)) ∧ Below w.heap.size w wr) (fun _ i _ => 4 - (intOf i).toNat)
  case atStart => exact ⟨0, _, Nat.zero_le _, rfl, HG1, HB1.out⟩
  case round =>
    obtain ⟨k, vals, hk, rfl, HG, hB⟩ := hrel
    by_cases hlt : k < 4
    · have hkr : k < (foxRows s).length := by rw [foxRows_len]; exact hlt
      go_wp2_with fail
      refine (HF.out k _).mono ?_
      rintro e w3 ⟨⟨u, rfl, ho⟩, hb3⟩
      have HO : Hid (OwnT wr.heap.size w3 u (foxRows s)[k]) := Lib.hid (by rw [foxRows_get]; exact ho.own.own)
      have HB3 := Lib.hid hb3
      have hs3 : w.heap.size ≤ w3.heap.size := Nat.le_trans hB.size hb3.size
      have HR3 := Lib.hid (ownsRow_past HG.out.row hb3)
      obtain ⟨au, lu, cu, rfl⟩ : ∃ a l c, u = .slice a l c := by
        rcases HO.out.2 with ⟨rfl, _⟩ | ⟨g, cap, cur, rfl, _⟩
        · exact ⟨_, _, _, rfl⟩
        · exact ⟨_, _, _, rfl⟩
      clear ho hb3
      go_wp2_with (at_builtin; refine wpList_append_lies _ rfl _ _ _ rfl w.heap.size TT i0 _ 1 24 Try.underlying55 hi hz0 hz1 hz2 rfl (by omega) u4 k vals rfl (HR3.out.alloc _) ⟨w3.heap.size, 0, none⟩ 1 1 [.slice au lu cu] rfl rfl (World.news_of_block (cs := #[.slice au lu cu]) (t := TT) (fr := (0, 0)) (heap_alloc_new w3 _)) (by simp [Value.oneCell']) (by omega) (by unfold maxLen; omega) (by omega) (by simp; omega) (w3.heap.size + 1) (by simp) ?_; intro gg cap1 w7 hown7 hgrow7 hat hlt7)
      have hB7 : Below w.heap.size w w7 := (hB.trans (HB3.out.mono hB.size)).trans (((Below.refl w.heap.size w3).alloc hs3 _).grown hgrow7 (by simp; omega) (ownsRow_low HR3.out))
      have hba : Below wr.heap.size wr (w3.alloc (.cells #[.slice au lu cu] TT)) := HB3.out.alloc HB3.out.size _
      have hat2 : u4.ownBlock = some gg ∨ (w3.alloc (.cells #[.slice au lu cu] TT)).heap.size ≤ gg := by
        rcases hat with h | h
        · exact .inl h
        · exact .inr (by simp; omega)
      have HG7 := Lib.hid (HG.out.more hba hkr hB.size (HO.out.below ((Below.refl _ _).alloc (Nat.le_refl _) _)) hown7 hgrow7 hat2 (Nat.le_of_lt hkr))
      clear hown7 hgrow7 hat hlt7 hba hat2
      go_wp2
      go_roundw
      case rel => exact ⟨k + 1, _, by omega, by go_num, HG7, hB7⟩
      case measure => simp [intOf]; omega
    · obtain rfl : k = 4 := by omega
      obtain ⟨a, cap, rfl, hI⟩ := HG.out.isTT (foxRows_len s) (fun r hr => by obtain ⟨g, _, rfl⟩ := List.mem_map.1 hr; exact HSm.out g) (by unfold maxLen; omega)
      have HI := Lib.hid hI
      clear hI
      go_wp2
      go_ret2
      exact ⟨⟨_, _, rfl, HI.out⟩, hB⟩

set_option maxRecDepth 100000 in
set_option maxHeartbeats 4000000 in
theorem iFoxAll_any (s : ByteArray) (b : Bool) (w : World) (hs : s.size ≤ maxLen) (hb : wordB s.data.toList = b) :
    Calls Try.prog 48 #[.string s] w (IAll w b (cond b (foxRows s) [])) := by
  obtain ⟨i0, hi, hz0, hz1, hz2⟩ := info_parts infoTerms
  have HF : Hid (∀ (g : Nat) (W : World), g < 4 → Calls Try.prog 38 #[.string s, .int .i64 g] W (ITold W b (foxRow s g))) :=
    Lib.hid fun g W hg => iFoxOf_any s g b W hs (by unfold foxOfB inR; rw [hb, decide_eq_true (by omega : (0 : Int) ≤ (g : Int)), decide_eq_true (by omega : (g : Int) ≤ 3)]; cases b <;> rfl)
  clear hb
  go_enter Try.func48, Try.ntmps48
  go_wp2_with (at_make; refine wpList_make_full _ rfl _ _ 55 rfl w.heap.size TT i0 (.slice none 0 0) 1 Try.underlying55 hi hz0 hz1 .i64 .i64 _ _ 4 rfl rfl rfl rfl (by rw [hz2]; decide) (by unfold maxLen; decide) (Nat.le_refl _) ?_; intro w1 hrow hgrow)
  have hB1 : Below w.heap.size w w1 := (Below.refl _ _).grown hgrow (Nat.le_refl _) (fun k e => by cases e)
  have HF1 : Hid (Filling w.heap.size w.heap.size w1 _ 4 0 (foxRows s)) := Lib.hid (Filling.start hrow)
  clear hrow hgrow
  go_loopw [11] (fun i wr => ∃ (k : Nat) (vals : List Value), k ≤ 4 ∧ i = .int .i64 k ∧ Hid (k = 0 ∨ b = true) ∧ Hid (Filling w.heap.size w.heap.size wr vals 4 k (foxRows s)) ∧ Below w.heap.size w wr) (fun i _ => 4 - (intOf i).toNat)
  case atStart => exact ⟨0, _, Nat.zero_le _, rfl, Lib.hid (.inl rfl), HF1, hB1⟩
  case round =>
    obtain ⟨k, vals, hk, rfl, HK, HFi, hB⟩ := hrel
    by_cases hlt : k < 4
    · have hkr : k < (foxRows s).length := by rw [foxRows_len]; exact hlt
      go_wp2_with fail
      refine (HF.out k _ hlt).mono ?_
      rintro e w2 ⟨⟨u, rfl, ho⟩, hb2⟩
      have HO0 := Lib.hid ho
      have HB2 := Lib.hid hb2
      clear ho hb2
      cases b with
      | false =>
        go_wp2
        go_ret2
        exact ⟨⟨_, [], rfl, ⟨⟨rfl, .inl ⟨rfl, rfl⟩⟩, fun i hi => absurd hi (Nat.not_lt_zero _), fun i j u x b h => by simp at h, fun i u b h => by simp at h⟩⟩, hB.trans (HB2.out.mono hB.size)⟩
      | true =>
        have HO : Hid (OwnT wr.heap.size w2 u (foxRows s)[k]) := Lib.hid (by rw [foxRows_get]; exact HO0.out)
        obtain ⟨au, lu, cu, rfl⟩ : ∃ a l c, u = .slice a l c := by
          rcases HO.out.2 with ⟨rfl, _⟩ | ⟨g, cap, cur, rfl, _⟩
          · exact ⟨_, _, _, rfl⟩
          · exact ⟨_, _, _, rfl⟩
        have HF2 := HFi.out.below HB2.out
        have hd : ∃ x, w2.cell? ⟨w.heap.size, k, none⟩ = some x := by
          have hl := HF2.row.1
          rw [Nat.mul_one] at hl
          rw [HF2.row.cellAt k (by omega)]; exact ⟨_, List.getElem?_eq_getElem (by omega)⟩
        obtain ⟨x, hx⟩ := hd
        have hfr := HF2.row.frozenAt k
        clear HF2 HO0
        go_wp2
        go_roundw
        case rel =>
          exact ⟨k + 1, _, by omega, by go_num, Lib.hid (by right; trivial), Lib.hid (HFi.out.more HB2.out hlt (foxRows_len s) hkr HO.out), (hB.trans (HB2.out.mono hB.size)).setCell (p := ⟨w.heap.size, k, none⟩) (Nat.le_refl _) _⟩
        case measure => simp [intOf]; omega
    · obtain rfl : k = 4 := by omega
      obtain rfl : b = true := by rcases HK.out with h | h; · omega
                                  · exact h
      go_wp2
      go_ret2
      exact ⟨⟨_, vals, rfl, HFi.out.done (foxRows_len s) (Nat.le_refl _)⟩, hB⟩

end Go.Proofs.Ytebgcebjlbhjjaa

/- The contract of the laws' own 'sameSums'; the contracts of 'FoxAll' and 'FoxBack', the answer under a name of its own. -/

namespace Go.Proofs.Ytebgcebjlbhjjaa
open Go.RowKit Go.Shelf

set_option maxRecDepth 100000 in
set_option maxHeartbeats 4000000 in
theorem sameSums_yes (a b : Option Addr) (c d n : Nat) (rows : List (List Tm)) (w : World) (h1 : IsTT w a n rows) (h2 : IsTT w b n rows) :
    Calls Try.prog 50 #[.slice a n c, .slice b n d] w fun e w' => e = .returned (.bool true) ∧ Below w.heap.size w w' := by
  have hm := h1.max
  have HN := Lib.hid h1.len
  have H1 := Lib.hid h1
  have H2 := Lib.hid h2
  have hmx : Try.prog.follows .mixedOrders = true := by kernel_rfl
  clear h1 h2
  unfold maxLen at hm
  go_enter Try.func50, Try.ntmps50
  go_wp2
  go_loopw [5] (fun i wr => ∃ k : Nat, k ≤ n ∧ i = .int .i64 k ∧ Below w.heap.size w wr) (fun i _ => n - (intOf i).toNat)
  case atStart => exact ⟨0, Nat.zero_le _, rfl, Below.refl _ _⟩
  case round =>
    obtain ⟨k, hk, rfl, hB⟩ := hrel
    by_cases hlt : k < n
    · have hkz : k < rows.length := by rw [HN.out]; exact hlt
      obtain ⟨x, rfl, hxb, hx⟩ := H1.out.at_ (by omega)
      obtain ⟨y, rfl, hyb, hy⟩ := H2.out.at_ (by omega)
      obtain ⟨ai, ci, hc, hI⟩ := hx k hkz
      obtain ⟨bi, di, he, hJ⟩ := hy k hkz
      have hc0 := (hB.cell (p := x.add k) (by rw [addr_add_block]; exact hxb)).trans hc
      have he0 := (hB.cell (p := y.add k) (by rw [addr_add_block]; exact hyb)).trans he
      have v0 := BelowBy.cell (w := wr) (by rw [addr_add_block]; exact Nat.lt_of_lt_of_le hxb hB.size) hc0
      have v1 := BelowBy.cell (w := wr) (by rw [addr_add_block]; exact Nat.lt_of_lt_of_le hyb hB.size) he0
      obtain ⟨r, hr⟩ : ∃ r, rows[k].length = r := ⟨_, rfl⟩
      rw [hr] at hI hJ v0 v1
      have HT : Hid (∀ p : BelowBy wr, Calls Try.prog 20 #[.slice ai r ci, .slice bi r di] p.world fun e w' => e = .returned (.bool true) ∧ Below p.world.heap.size p.world w') :=
        Lib.hid fun p => sameSum_yes _ _ _ _ _ _ _ ((hI.below hB).below p.below) ((hJ.below hB).below p.below)
      clear hx hy hc he hc0 he0 hI hJ hr
      go_wp2
      refine wp_region_below hmx (by kernel_rfl) ?_
      repeat (((with_reducible refine wpQuiet_step (fun K hK => ?_)); go_simp; first | ((with_reducible refine hK _ ?_); clear hK K) | (refine (if_neg (by decide)).mpr ?_; (with_reducible refine hK _ ?_); clear hK K) | (apply Exists.intro; (with_reducible refine ⟨fun _ => ?_, hK _ ?_⟩); (go_at_call 20; exact Calls.bel (HT.out _)); clear hK K)))
      with_reducible refine wpQuiet_nil ?_
      rintro _ ⟨⟨W, hW⟩, rfl⟩
      clear v0 v1
      go_wp2
      go_roundw
      case rel => exact ⟨k + 1, by omega, by go_num, hB.trans (hW.mono hB.size)⟩
      case measure => simp [intOf]; omega
    · go_wp2
      go_ret
      exact ⟨rfl, hB⟩

/-- What a function that tells rows comes to. -/
def RowsT (W : World) (b : Bool) (n : Nat) (rows : List (List Tm)) (e : Ending) (w' : World) : Prop := (∃ a c, e = .returned (.tuple #[.slice a n c, .bool b]) ∧ IsTT w' a n rows) ∧ Below W.heap.size W w'
theorem foxRows_small {s : ByteArray} (h : wordB s.data.toList = true) : ∀ r ∈ foxRows s, SmallT r := fun r hr => by
  obtain ⟨g, _, rfl⟩ := List.mem_map.1 hr
  exact foxRow_small s g h
theorem iFoxAll_t {s : ByteArray} {b : Bool} {n : Nat} {rows : List (List Tm)} {W : World} (hs : s.size ≤ maxLen) (hb : wordB s.data.toList = b) (hu : cond b (foxRows s) [] = rows) (hn : rows.length = n) :
    Calls Try.prog 48 #[.string s] W (RowsT W b n rows) :=
  (iFoxAll_any s b W hs hb).mono fun e w' ⟨⟨v, vals, he, ho⟩, hbl⟩ => by
    rw [hu] at ho
    have hsm : ∀ r ∈ rows, SmallT r := by
      cases b with
      | false => subst hu; intro r hr; cases hr
      | true => subst hu; exact foxRows_small hb
    have hl : rows.length ≤ maxLen := by
      cases b with
      | false => subst hu; unfold maxLen; simp
      | true => subst hu; show (foxRows s).length ≤ _; rw [foxRows_len]; unfold maxLen; omega
    obtain ⟨a, c, rfl, hI⟩ := ho.isTT hsm hl
    rw [hn] at he hI
    exact ⟨⟨a, c, he, hI⟩, hbl⟩
theorem sFoxAll_t {s : ByteArray} {b : Bool} {n : Nat} {rows : List (List Tm)} {W : World} (hs : s.size ≤ maxLen) (hb : wordB s.data.toList = b) (hu : cond b (foxRows s) [] = rows) (hn : rows.length = n) :
    Calls Try.prog 49 #[.string s] W (RowsT W b n rows) := by
  subst hu
  cases b with
  | false =>
    obtain rfl : 0 = n := hn
    exact sFoxAll_no s W hs hb
  | true =>
    have hn' : (foxRows s).length = n := hn
    rw [foxRows_len] at hn'
    obtain rfl : 4 = n := hn'
    exact sFoxAll_yes s W hs hb
theorem iFoxBack_t {a : Option Addr} {n c k : Nat} {rows : List (List Tm)} {us : List Tm} {b : Bool} {W : World} (h : IsTT W a n rows) (hb : backB rows = b) (hu : cond b (canonT (backN rows 4)) [] = us) (hk : us.length = k) :
    Calls Try.prog 51 #[.slice a n c] W (TermsT W b k us) :=
  (iFoxBack_any a c n rows b W h hb).mono fun _ _ hh => hh.terms (told_small (backB_tw hb) hu).1 hu hk
/-- A word less 1. -/
def dueT (s : ByteArray) : List Tm := [⟨1, s⟩, ⟨-1, noS⟩]
theorem termsIn_due (w : World) (s : ByteArray) (hs : s.size ≤ maxLen) : TermsIn (w.alloc (.cells #[.int .i64 1, .string s, .int .i64 (-1), .string noS] TI)) (some ⟨w.heap.size, 0, none⟩) 2 2 (dueT s) :=
  termsIn_some ⟨rfl, by unfold maxLen; omega, fun _ => ⟨_, rfl, by simp, fun i hi => by
    have ha : ∀ j, (⟨w.heap.size, 0, none⟩ : Addr).add j = ⟨w.heap.size, j, none⟩ := fun j => by unfold Addr.add; split <;> simp_all
    have hi2 : i < 2 := hi
    rcases (show i = 0 ∨ i = 1 by omega) with rfl | rfl <;> rw [ha, ha] <;> exact ⟨(World.cell?_alloc_at _ _ _ _ (by simp)).trans rfl, (World.cell?_alloc_at _ _ _ _ (by simp)).trans rfl⟩⟩,
    fun t ht => by
      rcases List.mem_cons.1 ht with rfl | ht
      · exact ⟨hs, by show (-9223372036854775808 : Int) ≤ 1; omega, by show (1 : Int) ≤ 9223372036854775807; omega⟩
      · rw [List.mem_singleton.1 ht]; exact ⟨by show 0 ≤ _; exact Nat.zero_le _, by show (-9223372036854775808 : Int) ≤ -1; omega, by show (-1 : Int) ≤ 9223372036854775807; omega⟩⟩
/-- The fundamental identity. -/
theorem fund_same {s : ByteArray} (h : wordB s.data.toList = true) : Same (backN (foxRows s) 4) (dueT s) := fun f => by
  obtain ⟨_, hl, hr⟩ := (wordB_iff _).1 h
  have h1 := fundamental f s.data.toList hl
  rw [lin_back]
  have e : ∀ g, g < 4 → linT f (backRow (foxRows s) g) = linT (fun t => linT (fun r => f (mulB t r)) (lessT g)) (rdL g s.data.toList) := fun g hg => by
    have hget : (foxRows s).getD g [] = foxRow s g := by
      rw [List.getD_eq_getElem?_getD, List.getElem?_eq_getElem (by rw [foxRows_len]; exact hg), foxRows_get]; rfl
    unfold backRow
    rw [hget, linT_canon, lin_pairs, rd_word h]
    exact linT_canon _ _
  unfold sumF at h1 ⊢
  dsimp only at h1 ⊢
  rw [e 0 (by omega), e 1 (by omega), e 2 (by omega), e 3 (by omega), h1, hr, bstr_of]
  unfold dueT
  simp only [linT]
  have e2 : bstr [] = noS := rfl
  rw [e2]; omega
theorem due_of {s : ByteArray} (h : wordB s.data.toList = true) : ofB (dueT s) = true := by
  have htw : twB (dueT s) = true := by
    have h0 : wordB (noS : ByteArray).data.toList = true := rfl
    unfold twB termB inR dueT
    simp [h, h0]
  unfold ofB
  rw [htw, Bool.true_and, sumB_canon (canonT_spec _).1]
  have hlen := fold_len (dueT s) []
  have h2 : (dueT s).length = 2 := rfl
  have hlc : (canonT (dueT s)).length ≤ 300 := by unfold canonT; simp only [List.length_nil] at hlen; omega
  refine twB_of hlc fun j hj => ?_
  have hm := List.getElem_mem hj
  have hb := fold_bound (C := 1) (by omega) (dueT s) [] 0 (by omega) (fun t ht => by
    rcases List.mem_cons.1 ht with rfl | ht
    · show (-1 : Int) ≤ 1 ∧ (1 : Int) ≤ 1; omega
    · rw [List.mem_singleton.1 ht]; show (-1 : Int) ≤ -1 ∧ (-1 : Int) ≤ 1; omega) (fun u hu => by cases hu) _ hm
  obtain ⟨v, hv, e⟩ := canon_words hm
  have hvw := words_of_tw htw v hv
  unfold termB
  rw [← e, hvw, Bool.true_and]
  unfold inR
  simp only [Bool.and_eq_true, decide_eq_true_eq]
  rw [h2] at hb
  unfold canonT at *
  omega

end Go.Proofs.Ytebgcebjlbhjjaa

/- The contracts of the model's reader of drawn inputs: 'l6Open', 'pick', 'of'. -/

namespace Go.Proofs.Ytebgcebjlbhjjaa
open Go.RowKit Go.Shelf

theorem i64_xor (a b : Nat) (ha : a < 2 ^ 63) (hb : b < 2 ^ 63) : bits .xor .i64 (a : Int) (b : Int) = ((a ^^^ b : Nat) : Int) := by
  show IntKind.i64.wrap ((BitVec.ofInt 64 (a : Int) ^^^ BitVec.ofInt 64 (b : Int)).toNat : Int) = _
  rw [BitVec.toNat_xor, ofInt_u64 a (by omega), ofInt_u64 b (by omega)]
  have : a ^^^ b < 2 ^ 63 := Nat.xor_lt_two_pow ha hb
  exact IntWalk.i64_in _ (by omega)

abbrev RdT : TypeId := 99
/-- A slice of bytes, as numbers, in a block below base. -/
structure BsAt (base : Nat) (w : World) (a : Option Addr) (n cap : Nat) (zs : List Int) : Prop where
  len : zs.length = n
  fit : n ≤ cap ∧ cap ≤ maxLen
  at_ : 0 < n → ∃ x, a = some x ∧ x.block < base ∧ ∀ j (h : j < zs.length), w.cell? (x.add j) = some (.int .u8 zs[j])
  byte : ∀ z ∈ zs, 0 ≤ z ∧ z ≤ 255
theorem BsAt.below {base : Nat} {w w' : World} {a : Option Addr} {n cap : Nat} {zs : List Int} (h : BsAt base w a n cap zs) (hb : Below base w w') : BsAt base w' a n cap zs :=
  ⟨h.len, h.fit, fun h0 => by obtain ⟨x, e, hx, hc⟩ := h.at_ h0; exact ⟨x, e, hx, fun j hj => (hb.cell (p := x.add j) (by show (x.add j).block < _; rw [addr_add_block]; exact hx)).trans (hc j hj)⟩, h.byte⟩
theorem bs_of {H : Type} {enc : TypeId × Value → H} {W : World} {base : Nat} {spare : Nat → Bool} {held : Bool} {fuel : Nat} {a : Option Addr} {len cap : Nat} {x : DataW H × List MemPlace}
    (h : DataW.trod enc Try.prog W base spare held fuel 22 [.slice a len cap] = some x) : ∃ zs, BsAt W.heap.size W a len cap zs := by
  rcases Go.ChangeShapes.open_ints Try.underlying22 Try.underlying5 (by kernel_rfl) h with ⟨hcs, _⟩ | ⟨y, l, c, zs, hcs, hb, hl, hm, hz, _, hx, hwf⟩
  · simp at hcs
    obtain ⟨rfl, rfl, rfl⟩ := hcs
    exact ⟨[], rfl, ⟨Nat.le_refl _, Nat.zero_le _⟩, fun h => absurd h (Nat.lt_irrefl _), fun z h => by cases h⟩
  · simp at hcs
    obtain ⟨rfl, rfl, rfl⟩ := hcs
    have hlz : len ≤ zs.length := by rw [hz]; split <;> omega
    refine ⟨zs.take len, by rw [List.length_take]; omega, ⟨hl, hm⟩, fun h0 => ⟨y, rfl, ?_, fun j hj => ?_⟩, fun z hzm => ?_⟩
    · have := World.block_lt_of_cell? _ _ (hx 0 (by omega))
      rwa [addr_add_block] at this
    · rw [List.length_take] at hj
      rw [hx j (by omega), List.getD_eq_getElem?_getD, List.getElem?_eq_getElem (by omega), List.getElem_take]; rfl
    · have h2 := hwf z (List.mem_of_mem_take hzm)
      simp only [Lit.wf, Bool.and_eq_true, decide_eq_true_eq] at h2
      have e1 : IntKind.u8.min = 0 := by decide
      have e2 : IntKind.u8.max = 255 := by decide
      omega
/-- A reader and how far it is. -/
structure Rd (base : Nat) (w : World) (rb : Nat) (a : Option Addr) (n cap : Nat) (zs : List Int) (p : Nat) : Prop where
  lo : base ≤ rb
  box : w.heap[rb]? = some (.cells #[.slice a n cap, .int .i64 p] RdT (0, 0))
  data : BsAt base w a n cap zs
  short : n ≤ 2000
theorem Rd.lt {base : Nat} {w : World} {rb : Nat} {a : Option Addr} {n cap : Nat} {zs : List Int} {p : Nat} (h : Rd base w rb a n cap zs p) : rb < w.heap.size := (Array.getElem?_eq_some_iff.1 h.box).1
theorem Rd.c0 {base : Nat} {w : World} {rb : Nat} {a : Option Addr} {n cap : Nat} {zs : List Int} {p : Nat} (h : Rd base w rb a n cap zs p) : w.cell? ⟨rb, 0, none⟩ = some (.slice a n cap) := by simp [World.cell?, h.box]
theorem Rd.c1 {base : Nat} {w : World} {rb : Nat} {a : Option Addr} {n cap : Nat} {zs : List Int} {p : Nat} (h : Rd base w rb a n cap zs p) : w.cell? ⟨rb, 1, none⟩ = some (.int .i64 p) := by simp [World.cell?, h.box]
theorem Rd.fr {base : Nat} {w : World} {rb : Nat} {a : Option Addr} {n cap : Nat} {zs : List Int} {p : Nat} (h : Rd base w rb a n cap zs p) : w.frozen? ⟨rb, 1, none⟩ = false := by simp [World.frozen?, h.box]
theorem Rd.below {base : Nat} {w w' : World} {rb : Nat} {a : Option Addr} {n cap : Nat} {zs : List Int} {p : Nat} (h : Rd base w rb a n cap zs p) (hb : Below w.heap.size w w') : Rd base w' rb a n cap zs p :=
  ⟨h.lo, (hb.block rb h.lt).trans h.box, h.data.below (hb.mono (Nat.le_of_lt (Nat.lt_of_le_of_lt h.lo h.lt))), h.short⟩
theorem Rd.set {base : Nat} {w : World} {rb : Nat} {a : Option Addr} {n cap : Nat} {zs : List Int} {p : Nat} (h : Rd base w rb a n cap zs p) (q : Nat) : Rd base (w.setCell ⟨rb, 1, none⟩ (.int .i64 q)) rb a n cap zs q := by
  refine ⟨h.lo, ?_, h.data.below ((Below.refl _ w).setCell (p := ⟨rb, 1, none⟩) h.lo _), h.short⟩
  obtain ⟨hlt, hk⟩ := Array.getElem?_eq_some_iff.1 h.box
  show (w.heap.modify rb _)[rb]? = _
  rw [Array.getElem?_eq_getElem (by rw [Array.size_modify]; exact hlt), Array.getElem_modify_self, hk]
  rfl

theorem grown_set (w : World) (a : Addr) (v : Value) : w.grownBy (w.setCell a v) (some a.block) :=
  ⟨rfl, rfl, rfl, by show _ ≤ (w.heap.modify a.block _).size; rw [Array.size_modify]; exact Nat.le_refl _, fun k hk hne => by
    show (w.heap.modify a.block _)[k]? = _
    rw [Array.getElem?_modify, if_neg (fun e => hne (by rw [e]))]⟩

set_option maxRecDepth 100000 in
set_option maxHeartbeats 4000000 in
theorem pick_any (base rb : Nat) (a : Option Addr) (n cap : Nat) (zs : List Int) (p m : Nat) (w : World) (h : Rd base w rb a n cap zs p) (hp : p ≤ 100000) (hm : 1 ≤ m) (hm2 : m ≤ 1000) :
    Calls Try.prog 63 #[.pointer (some ⟨rb, 0, none⟩), .int .i64 m] w fun e w' => (∃ z : Nat, e = .returned (.int .i64 z) ∧ z < m) ∧ Rd base w' rb a n cap zs (p + 1) ∧ Below base w w' ∧ w.grownBy w' (some rb) := by
  have hlt := h.lt
  have hc0 := h.c0
  have hc1 := h.c1
  have hfr := h.fr
  have hsh := h.short
  have hw1 : IntKind.i64.wrap ((p : Int) + 1) = (p : Int) + 1 := IntWalk.i64_in _ (by omega)
  have ep : ((p + 1 : Nat) : Int) = (p : Int) + 1 := by push_cast; rfl
  have hR := h.set (p + 1)
  rw [ep] at hR
  have hB : Below base w (w.setCell ⟨rb, 1, none⟩ (.int .i64 ((p : Int) + 1))) := (Below.refl _ w).setCell (p := ⟨rb, 1, none⟩) h.lo _
  have hG := grown_set w ⟨rb, 1, none⟩ (.int .i64 ((p : Int) + 1))
  obtain ⟨V, hV⟩ : ∃ V, w.setCell ⟨rb, 1, none⟩ (.int .i64 ((p : Int) + 1)) = V := ⟨_, rfl⟩
  have HV := Lib.hid hV
  rw [hV] at hR hB hG
  have HG := Lib.hid hG
  have hd0 := hR.c0
  have hd1 := hR.c1
  rw [ep] at hd1
  have hml : decide ((m : Int) < 1) = false := decide_eq_false (by omega)
  have hml2 : ¬ (m : Int) < 1 := by omega
  have HR := Lib.hid hR
  have HB := Lib.hid hB
  have hmz : ¬ (m : Int) = 0 := by omega
  have HD := Lib.hid hR.data
  have hw2 : IntKind.i64.wrap ((p : Int) + 1 - 1) = (p : Int) := by rw [IntWalk.i64_in _ (by omega)]; omega
  have hrem : ∀ z : Int, 0 ≤ z → ∃ r : Nat, z.tmod (m : Int) = (r : Int) ∧ r < m := fun z hz => ⟨z.toNat % m, by
    rw [Int.tmod_eq_emod_of_nonneg hz, Int.natCast_emod, Int.toNat_of_nonneg hz], Nat.mod_lt _ (by omega)⟩
  have HREM := Lib.hid hrem
  clear h hR hB hV hrem hG
  by_cases hn : n = 0
  · subst hn
    go_enter Try.func63, Try.ntmps63
    go_wp2
    go_ret
    rw [HV.out]
    exact ⟨⟨0, rfl, by omega⟩, HR.out, HB.out, HG.out⟩
  · have hn0 : ¬ (n : Int) = 0 := by omega
    have hne : ((n : Int) == 0) = false := by simpa using hn0
    obtain ⟨x, rfl, hxb, hcx⟩ := HD.out.at_ (by omega)
    have hzl := HD.out.len
    by_cases hpn : p < n
    · have hpz : p < zs.length := by omega
      obtain ⟨z, hz⟩ : ∃ z, zs[p] = z := ⟨_, rfl⟩
      have hcp := hcx p hpz
      rw [hz, ← HV.out] at hcp
      have hzb := HD.out.byte z (by rw [← hz]; exact List.getElem_mem hpz)
      obtain ⟨r, hr, hrm⟩ := HREM.out z hzb.1
      have hwz : IntKind.i64.wrap z = z := IntWalk.i64_in _ (by omega)
      have hwr : IntKind.i64.wrap (r : Int) = (r : Int) := IntWalk.i64_in _ (by omega)
      have hpi : (p : Int) < (n : Int) := by omega
      go_enter Try.func63, Try.ntmps63
      go_wp2_with fail
      go_ret
      rw [HV.out]
      exact ⟨⟨r, rfl, hrm⟩, HR.out, HB.out, HG.out⟩
    · have hpi : ¬ (p : Int) < (n : Int) := by omega
      have hn1 : 0 < n := by omega
      obtain ⟨k1, hk1⟩ : ∃ k, p % n = k := ⟨_, rfl⟩
      obtain ⟨k2, hk2⟩ : ∃ k, (p * 7 + 3) % n = k := ⟨_, rfl⟩
      obtain ⟨d, hd⟩ : ∃ d, p / n = d := ⟨_, rfl⟩
      have hk1n : k1 < n := by rw [← hk1]; exact Nat.mod_lt _ hn1
      have hk2n : k2 < n := by rw [← hk2]; exact Nat.mod_lt _ hn1
      have hdp : d ≤ p := by rw [← hd]; exact Nat.div_le_self _ _
      have ht1 : (p : Int).tmod (n : Int) = (k1 : Int) := by rw [Int.tmod_eq_emod_of_nonneg (by omega), ← hk1]; rfl
      have ht2 : ((p : Int) * 7 + 3).tmod (n : Int) = (k2 : Int) := by rw [Int.tmod_eq_emod_of_nonneg (by omega), ← hk2]; push_cast; rfl
      have ht3 : (p : Int).tdiv (n : Int) = (d : Int) := by rw [Int.tdiv_eq_ediv_of_nonneg (by omega), ← hd]; rfl
      have hz1 : k1 < zs.length := by omega
      have hz2 : k2 < zs.length := by omega
      obtain ⟨q1, hq1⟩ : ∃ z, zs[k1] = z := ⟨_, rfl⟩
      obtain ⟨q2, hq2⟩ : ∃ z, zs[k2] = z := ⟨_, rfl⟩
      have hcp1 := hcx k1 hz1
      have hcp2 := hcx k2 hz2
      rw [hq1, ← HV.out] at hcp1
      rw [hq2, ← HV.out] at hcp2
      have hb1 := HD.out.byte q1 (by rw [← hq1]; exact List.getElem_mem hz1)
      have hb2 := HD.out.byte q2 (by rw [← hq2]; exact List.getElem_mem hz2)
      have hk1i : (k1 : Int) < (n : Int) := by omega
      have hk2i : (k2 : Int) < (n : Int) := by omega
      have a1 : IntKind.i64.wrap (k1 : Int) = (k1 : Int) := IntWalk.i64_in _ (by omega)
      have a2 : IntKind.i64.wrap (k2 : Int) = (k2 : Int) := IntWalk.i64_in _ (by omega)
      have a3 : IntKind.i64.wrap (d : Int) = (d : Int) := IntWalk.i64_in _ (by omega)
      have a4 : IntKind.i64.wrap q1 = q1 := IntWalk.i64_in _ (by omega)
      have a5 : IntKind.i64.wrap q2 = q2 := IntWalk.i64_in _ (by omega)
      have a6 : IntKind.i64.wrap (q1 * 131) = q1 * 131 := IntWalk.i64_in _ (by omega)
      have a7 : IntKind.i64.wrap (q2 * 1117) = q2 * 1117 := IntWalk.i64_in _ (by omega)
      have a8 : IntKind.i64.wrap ((p : Int) * 7) = (p : Int) * 7 := IntWalk.i64_in _ (by omega)
      have a9 : IntKind.i64.wrap ((p : Int) * 7 + 3) = (p : Int) * 7 + 3 := IntWalk.i64_in _ (by omega)
      have b1 : IntKind.i64.wrap (q1 * 131 + q2 * 1117) = q1 * 131 + q2 * 1117 := IntWalk.i64_in _ (by omega)
      have b2 : IntKind.i64.wrap ((p : Int) * 29) = (p : Int) * 29 := IntWalk.i64_in _ (by omega)
      have b3 : IntKind.i64.wrap (q1 * 131 + q2 * 1117 + (p : Int) * 29) = q1 * 131 + q2 * 1117 + (p : Int) * 29 := IntWalk.i64_in _ (by omega)
      have b4 : IntKind.i64.wrap ((d : Int) * 53) = (d : Int) * 53 := IntWalk.i64_in _ (by omega)
      obtain ⟨X, hX⟩ : ∃ X : Nat, q1 * 131 + q2 * 1117 + (p : Int) * 29 + (d : Int) * 53 = (X : Int) := ⟨(q1 * 131 + q2 * 1117 + (p : Int) * 29 + (d : Int) * 53).toNat, by omega⟩
      have hXb : X ≤ 10000000 := by omega
      have b5 : IntKind.i64.wrap (X : Int) = (X : Int) := IntWalk.i64_in _ (by omega)
      have ht4 : (X : Int).tdiv 64 = ((X / 64 : Nat) : Int) := by rw [Int.tdiv_eq_ediv_of_nonneg (by omega)]; rfl
      have hY : X / 64 ≤ X := Nat.div_le_self _ _
      obtain ⟨Y, hYe⟩ : ∃ Y, X / 64 = Y := ⟨_, rfl⟩
      rw [hYe] at ht4 hY
      have b6 : IntKind.i64.wrap (Y : Int) = (Y : Int) := IntWalk.i64_in _ (by omega)
      have hxor := i64_xor X Y (by omega) (by omega)
      obtain ⟨Z, hZ⟩ : ∃ Z, X ^^^ Y = Z := ⟨_, rfl⟩
      rw [hZ] at hxor
      obtain ⟨r, hr, hrm⟩ := HREM.out (Z : Int) (by omega)
      have b7 : IntKind.i64.wrap (r : Int) = (r : Int) := IntWalk.i64_in _ (by omega)
      have HRM := Lib.hid hrm
      clear hk1 hk2 hd hq1 hq2 hb1 hb2 hdp hXb hY hYe hZ hcx hrm hzl hz1 hz2
      go_enter Try.func63, Try.ntmps63
      go_wp2
      go_quiet (fail)
      go_wp2
      go_ret
      rw [HV.out]
      exact ⟨⟨r, rfl, HRM.out⟩, ⟨HR.out.lo, HR.out.box, ⟨HR.out.data.len, HR.out.data.fit, HR.out.data.at_, HR.out.data.byte⟩, HR.out.short⟩, ⟨HB.out.os, HB.out.tape, HB.out.output, HB.out.size, HB.out.block⟩, ⟨HG.out.os, HG.out.tape, HG.out.output, HG.out.size, HG.out.block⟩⟩

set_option maxHeartbeats 1000000 in
theorem open_any (a : Option Addr) (n cap : Nat) (zs : List Int) (w : World) (h : BsAt w.heap.size w a n cap zs) :
    Calls Try.prog 53 #[.slice a n cap] w fun e w' => ∃ n' zs', e = .returned (.pointer (some ⟨w.heap.size, 0, none⟩)) ∧ Rd w.heap.size w' w.heap.size a n' cap zs' 0 ∧ Below w.heap.size w w' := by
  have hf := h.fit
  have hl := h.len
  unfold maxLen at hf
  have hB : ∀ m : Nat, Below w.heap.size w (w.alloc (.cells #[.slice a m cap, .int .i64 0] RdT)) := fun m => (Below.refl _ w).alloc (Nat.le_refl _) _
  have hRd : ∀ (m : Nat) (ys : List Int), m ≤ 2000 → BsAt w.heap.size w a m cap ys → Rd w.heap.size (w.alloc (.cells #[.slice a m cap, .int .i64 0] RdT)) w.heap.size a m cap ys 0 := fun m ys hm hd => ⟨Nat.le_refl _, World.alloc_heap_new w _, hd.below (hB m), hm⟩
  have HRD := Lib.hid hRd
  have HBD := Lib.hid hB
  have H := Lib.hid h
  clear h hRd hB
  by_cases hn : n ≤ 2000
  · have hd : decide ((2000 : Int) < (n : Int)) = false := decide_eq_false (by omega)
    go_enter Try.func53, Try.ntmps53
    go_wp2
    go_ret
    exact ⟨n, zs, rfl, HRD.out n zs hn H.out, HBD.out n⟩
  · have hd : decide ((2000 : Int) < (n : Int)) = true := decide_eq_true (by omega)
    obtain ⟨x, rfl, hxb, hc⟩ := H.out.at_ (by omega)
    have hcap : (2000 : Int) ≤ (cap : Int) := by omega
    have hcap2 : 2000 ≤ cap := by omega
    have H2 : Hid (BsAt w.heap.size w (some x) 2000 cap (zs.take 2000)) := Lib.hid ⟨by rw [List.length_take]; omega, ⟨hcap2, H.out.fit.2⟩, fun _ => ⟨x, rfl, hxb, fun j hj => by rw [List.getElem_take]; exact hc j (by rw [List.length_take] at hj; omega)⟩, fun z hz => H.out.byte z (List.mem_of_mem_take hz)⟩
    clear hc
    go_enter Try.func53, Try.ntmps53
    go_wp2
    go_ret
    exact ⟨2000, zs.take 2000, rfl, HRD.out 2000 _ (Nat.le_refl _) H2.out, HBD.out 2000⟩

end Go.Proofs.Ytebgcebjlbhjjaa

/- The contracts of the model's 'of', 'l91Mono' and 'DrawSeriesShuffle'. -/

namespace Go.Proofs.Ytebgcebjlbhjjaa
open Go.RowKit Go.Shelf

def abL : List ByteArray := [{ data := #[97] }, { data := #[98] }]
theorem abL_size : ∀ s ∈ abL, s.size = 1 := by decide

end Go.Proofs.Ytebgcebjlbhjjaa

/- The contracts of the model's 'l91Word', 'l91Two' and 'DrawWordComm'. -/

namespace Go.Proofs.Ytebgcebjlbhjjaa
open Go.RowKit Go.Shelf

theorem conv_byte (c : UInt8) (v : Int) (hv : (c.toNat : Int) = v) (V : World) : (convert 22 9 (.slice (some ⟨V.heap.size, 0, none⟩) 1 1)).run Try.prog (V.alloc (.cells #[.int .u8 v] 5)) = .ok (.string (bstr [c])) (V.alloc (.cells #[.int .u8 v] 5)) := by
  have := run_convert_bytes_back (P := Try.prog) (V.alloc (.cells #[.int .u8 v] 5)) 22 9 5 ⟨V.heap.size, 0, none⟩ 1 [c] Try.underlying22 Try.underlying5 Try.underlying9 (fun j hj => by
    have hj0 : j = 0 := by simp at hj; exact hj
    subst hj0
    show (V.alloc _).cell? ((⟨V.heap.size, 0, none⟩ : Addr).add 0) = some (.int .u8 (c.toNat : Int))
    rw [hv]
    exact cell_one_new _ _ _ 0 _ rfl)
  exact this

theorem grownAny_of_below {w w' : World} (hb : Below w.heap.size w w') (row : Option Nat) : w.grownBy w' row := ⟨hb.os, hb.tape, hb.output, hb.size, fun j hj _ => hb.block j hj⟩

set_option maxRecDepth 100000 in
set_option maxHeartbeats 2000000 in
theorem l91Word_grown (base rb : Nat) (a : Option Addr) (n cap : Nat) (zs : List Int) (p most gens : Nat) (w : World) (h : Rd base w rb a n cap zs p) (hp : p ≤ 90000) (hm : most ≤ 20) (hg1 : 1 ≤ gens) (hg2 : gens ≤ 4) :
    Calls Try.prog 64 #[.pointer (some ⟨rb, 0, none⟩), .int .i64 most, .int .i64 gens] w fun e w' => (∃ s : ByteArray, e = .returned (.string s) ∧ s.size ≤ most + 1) ∧ (∃ p', p' ≤ p + 60 ∧ Rd base w' rb a n cap zs p') ∧ Below base w w' ∧ w.grownBy w' (some rb) := by
  have hw1 : IntKind.i64.wrap ((most : Int) + 1) = ((most + 1 : Nat) : Int) := by rw [IntWalk.i64_in _ (by omega)]; push_cast; rfl
  have hlo := h.lo
  have hrl := h.lt
  have HP := Lib.hid (pick_any base rb a n cap zs p (most + 1) w h (by omega) (by omega) (by omega))
  clear h
  go_enter Try.func64, Try.ntmps64
  go_wp2_with fail
  refine HP.out.mono ?_
  rintro e w1 ⟨⟨N, rfl, hN⟩, hR1, hB1, hG1⟩
  have HR1 := Lib.hid hR1
  have HB1 := Lib.hid hB1
  have HG1 := Lib.hid hG1
  clear hR1 hB1 hG1
  go_wp2_with fail
  go_loopw [7, 9] (fun v i wr => ∃ (k : Nat) (s : ByteArray), k ≤ N ∧ v = .string s ∧ i = .int .i64 k ∧ s.size ≤ k ∧ Rd base wr rb a n cap zs (p + 1 + 2 * k) ∧ Below base w wr ∧ w.grownBy wr (some rb)) (fun _ i _ => N - (intOf i).toNat)
  case atStart => exact ⟨0, _, Nat.zero_le _, rfl, rfl, Nat.le_refl _, HR1.out, HB1.out, HG1.out⟩
  case round =>
    obtain ⟨k, s, hk, rfl, rfl, hsz, hR, hB, hG⟩ := hrel
    have HR := Lib.hid hR
    have HB := Lib.hid hB
    have HG := Lib.hid hG
    have hbl := hR.lt
    clear hR hB hG
    by_cases hlt : k < N
    · have hli : (k : Int) < (N : Int) := by omega
      have HP2 := Lib.hid (pick_any base rb a n cap zs (p + 1 + 2 * k) gens wr HR.out (by omega) hg1 (by omega))
      go_wp2_with fail
      refine HP2.out.mono ?_
      rintro e w5 ⟨⟨z, rfl, hz⟩, hR5, hB5, hG5⟩
      have HP3 := Lib.hid (pick_any base rb a n cap zs (p + 1 + 2 * k + 1) 2 w5 hR5 (by omega) (by omega) (by omega))
      have HB5 := Lib.hid (HB.out.trans hB5)
      have HG5 := Lib.hid (HG.out.trans hG5)
      have hwz : IntKind.i64.wrap (97 + (z : Int)) = 97 + (z : Int) := IntWalk.i64_in _ (by omega)
      have hwu : IntKind.u8.wrap (97 + (z : Int)) = 97 + (z : Int) := IntWalk.u8_in _ (by omega)
      clear hR5 hB5 hG5
      go_wp2_with fail
      refine HP3.out.mono ?_
      rintro e w6 ⟨⟨y, rfl, hy⟩, hR6, hB6, hG6⟩
      have HB6 := Lib.hid (HB5.out.trans hB6)
      have HG6 := Lib.hid (HG5.out.trans hG6)
      have hb6l := hR6.lt
      have hnot : ¬ 9223372036854775807 < s.size + 1 := by omega
      have HR6 := Lib.hid hR6
      clear hR6 hB6 hG6
      by_cases hy0 : y = 0
      · subst hy0
        have hws : IntKind.u8.wrap (97 + (z : Int) - 32) = 65 + (z : Int) := by rw [show (97 : Int) + (z : Int) - 32 = 65 + (z : Int) by omega]; exact IntWalk.u8_in _ (by omega)
        obtain ⟨t, ht⟩ : ∃ t, bstr [UInt8.ofNat (65 + z)] = t := ⟨_, rfl⟩
        have hts : t.size = 1 := by rw [← ht]; rfl
        have hcv := conv_byte (UInt8.ofNat (65 + z)) (65 + (z : Int)) (by rw [UInt8.toNat_ofNat', Nat.mod_eq_of_lt (by omega)]; push_cast; rfl) w6
        rw [ht] at hcv
        have hnot2 : ¬ 9223372036854775807 < s.size + t.size := by omega
        have HR7 := Lib.hid (HR6.out.below ((Below.refl _ w6).alloc (Nat.le_refl _) (.cells #[.int .u8 (65 + (z : Int))] 5)))
        have HB7 := Lib.hid (HB6.out.alloc (by omega) (.cells #[.int .u8 (65 + (z : Int))] 5))
        have HG7 := Lib.hid (HG6.out.trans (World.grownBy_alloc w6 (.cells #[.int .u8 (65 + (z : Int))] 5) _))
        clear ht
        go_wp2
        go_roundw
        case rel => exact ⟨k + 1, _, by omega, rfl, by go_num, by rw [ByteArray.size_append]; omega, (show p + 1 + 2 * (k + 1) = p + 1 + 2 * k + 1 + 1 by omega) ▸ HR7.out, HB7.out, HG7.out⟩
        case measure => simp [intOf]; omega
      · have hyi : ((y : Int) == 0) = false := by simpa using hy0
        have hyn : ¬ (y : Int) = 0 := by omega
        obtain ⟨t, ht⟩ : ∃ t, bstr [UInt8.ofNat (97 + z)] = t := ⟨_, rfl⟩
        have hts : t.size = 1 := by rw [← ht]; rfl
        have hcv := conv_byte (UInt8.ofNat (97 + z)) (97 + (z : Int)) (by rw [UInt8.toNat_ofNat', Nat.mod_eq_of_lt (by omega)]; push_cast; rfl) w6
        rw [ht] at hcv
        have hnot2 : ¬ 9223372036854775807 < s.size + t.size := by omega
        have HR7 := Lib.hid (HR6.out.below ((Below.refl _ w6).alloc (Nat.le_refl _) (.cells #[.int .u8 (97 + (z : Int))] 5)))
        have HB7 := Lib.hid (HB6.out.alloc (by omega) (.cells #[.int .u8 (97 + (z : Int))] 5))
        have HG7 := Lib.hid (HG6.out.trans (World.grownBy_alloc w6 (.cells #[.int .u8 (97 + (z : Int))] 5) _))
        clear ht
        go_wp2
        go_roundw
        case rel => exact ⟨k + 1, _, by omega, rfl, by go_num, by rw [ByteArray.size_append]; omega, (show p + 1 + 2 * (k + 1) = p + 1 + 2 * k + 1 + 1 by omega) ▸ HR7.out, HB7.out, HG7.out⟩
        case measure => simp [intOf]; omega
    · obtain rfl : N = k := by omega
      have HP2 := Lib.hid (pick_any base rb a n cap zs (p + 1 + 2 * N) 30 wr HR.out (by omega) (by omega) (by omega))
      go_wp2_with fail
      refine HP2.out.mono ?_
      rintro e w6 ⟨⟨z, rfl, hz⟩, hR6, hB6, hG6⟩
      have hb6l := hR6.lt
      have HR6 := Lib.hid hR6
      have HB6 := Lib.hid (HB.out.trans hB6)
      have HG6 := Lib.hid (HG.out.trans hG6)
      have hnot : ¬ 9223372036854775807 < s.size + 1 := by omega
      clear hR6 hB6 hG6
      by_cases hz0 : z = 0
      · subst hz0
        go_wp2
        go_ret
        exact ⟨⟨_, rfl, by rw [ByteArray.size_append]; show s.size + 1 ≤ _; omega⟩, ⟨_, by omega, HR6.out⟩, HB6.out, HG6.out⟩
      · have hzi : ((z : Int) == 0) = false := by simpa using hz0
        have hzn : ¬ (z : Int) = 0 := by omega
        have hrl2 := redL_len s.data.toList []
        obtain ⟨q, hq⟩ : ∃ q, bstr (redL [] s.data.toList) = q := ⟨_, rfl⟩
        have hqs : q.size ≤ s.size := by
          have e1 : q.size = (redL [] s.data.toList).length := by rw [← hq]; have : (bstr (redL [] s.data.toList)).size = (bstr (redL [] s.data.toList)).data.toList.length := by simp
                                                                  rw [this, bstr_toList]
          have e2 : s.data.toList.length = s.size := by simp
          simp only [List.length_nil] at hrl2
          omega
        have HRe := Lib.hid (reduce_is s q w6 (by omega) hq)
        clear hq hrl2
        go_wp2_with fail
        refine HRe.out.mono ?_
        rintro e w7 ⟨rfl, hb7⟩
        have HR7 := Lib.hid (HR6.out.below hb7)
        have HB7 := Lib.hid (HB6.out.trans (hb7.mono (by omega)))
        have HG7 := Lib.hid (HG6.out.trans (grownAny_of_below hb7 _))
        clear hb7
        go_wp2
        go_ret
        exact ⟨⟨_, rfl, by omega⟩, ⟨_, by omega, HR7.out⟩, HB7.out, HG7.out⟩

theorem l91Word_any (base rb : Nat) (a : Option Addr) (n cap : Nat) (zs : List Int) (p most gens : Nat) (w : World) (h : Rd base w rb a n cap zs p) (hp : p ≤ 90000) (hm : most ≤ 20) (hg1 : 1 ≤ gens) (hg2 : gens ≤ 4) :
    Calls Try.prog 64 #[.pointer (some ⟨rb, 0, none⟩), .int .i64 most, .int .i64 gens] w fun e w' => (∃ s : ByteArray, e = .returned (.string s) ∧ s.size ≤ most + 1) ∧ (∃ p', p' ≤ p + 60 ∧ Rd base w' rb a n cap zs p') ∧ Below base w w' := 
  (l91Word_grown base rb a n cap zs p most gens w h hp hm hg1 hg2).mono fun _ _ ⟨h1, h2, h3, _⟩ => ⟨h1, h2, h3⟩

end Go.Proofs.Ytebgcebjlbhjjaa

/- The contracts of the model's 'l91Gen' and 'DrawFoxTwice'. -/

namespace Go.Proofs.Ytebgcebjlbhjjaa
open Go.RowKit Go.Shelf

set_option maxRecDepth 100000 in
set_option maxHeartbeats 2000000 in
theorem l91Gen_grown (base rb : Nat) (a : Option Addr) (n cap : Nat) (zs : List Int) (p : Nat) (w : World) (h : Rd base w rb a n cap zs p) (hp : p ≤ 90000) :
    Calls Try.prog 79 #[.pointer (some ⟨rb, 0, none⟩)] w fun e w' => (∃ g : Int, e = .returned (.int .i64 g) ∧ -1 ≤ g ∧ g ≤ 4) ∧ (∃ p', p' ≤ p + 2 ∧ Rd base w' rb a n cap zs p') ∧ Below base w w' ∧ w.grownBy w' (some rb) := by
  have hlo := h.lo
  have hrl := h.lt
  have HP := Lib.hid (pick_any base rb a n cap zs p 24 w h (by omega) (by omega) (by omega))
  clear h
  go_enter Try.func79, Try.ntmps79
  go_wp2_with fail
  refine HP.out.mono ?_
  rintro e w1 ⟨⟨N, rfl, hN⟩, hR1, hB1, hG1⟩
  have HR1 := Lib.hid hR1
  have HB1 := Lib.hid hB1
  have hbl := hR1.lt
  have HG1 := Lib.hid hG1
  clear hR1 hB1 hG1
  by_cases hN0 : N = 0
  · subst hN0
    have hb2 : Below w1.heap.size w1 (w1.alloc (.cells #[.int .i64 (-1), .int .i64 4] 3)) := (Below.refl _ w1).alloc (Nat.le_refl _) _
    have HR2 := Lib.hid (HR1.out.below hb2)
    have HB2 := Lib.hid (HB1.out.trans (hb2.mono (by omega)))
    have HG2 := Lib.hid (HG1.out.trans (grownAny_of_below hb2 _))
    have c0 : (w1.alloc (.cells #[.int .i64 (-1), .int .i64 4] 3)).cell? ⟨w1.heap.size, 0, none⟩ = some (.int .i64 (-1)) := (World.cell?_alloc_at _ _ _ _ (by simp)).trans rfl
    have c1 : (w1.alloc (.cells #[.int .i64 (-1), .int .i64 4] 3)).cell? ⟨w1.heap.size, 1, none⟩ = some (.int .i64 4) := (World.cell?_alloc_at _ _ _ _ (by simp)).trans rfl
    have hsz : (w1.alloc (.cells #[.int .i64 (-1), .int .i64 4] 3)).heap.size = w1.heap.size + 1 := by simp
    have HP2 := Lib.hid (pick_any base rb a n cap zs (p + 1) 2 _ HR2.out (by omega) (by omega) (by omega))
    have HC0 := Lib.hid c0
    have HC1 := Lib.hid c1
    have HSZ := Lib.hid hsz
    clear hb2 c0 c1 hsz
    go_wp2_with fail
    refine HP2.out.mono ?_
    rintro e w5 ⟨⟨z, rfl, hz⟩, hR5, hB5, hG⟩
    have hcz : w5.cell? ⟨w1.heap.size, z, none⟩ = some (.int .i64 (if z = 0 then -1 else 4)) := by
      have h2 : z = 0 ∨ z = 1 := by omega
      unfold World.cell?
      rw [hG.block w1.heap.size (by rw [HSZ.out]; omega) (fun e => by cases e; omega)]
      rcases h2 with rfl | rfl
      · exact HC0.out
      · exact HC1.out
    obtain ⟨g, hg⟩ : ∃ g : Int, (if z = 0 then (-1 : Int) else 4) = g := ⟨_, rfl⟩
    rw [hg] at hcz
    have hgb : -1 ≤ g ∧ g ≤ 4 := by rw [← hg]; split <;> omega
    have hzi : (z : Int) < 2 := by omega
    have HR5 := Lib.hid hR5
    have HB5 := Lib.hid (HB2.out.trans hB5)
    have HG5 := Lib.hid (HG2.out.trans hG)
    clear hR5 hB5 hG hg
    go_wp2_with fail
    go_ret
    exact ⟨⟨_, rfl, hgb⟩, ⟨_, by omega, HR5.out⟩, HB5.out, HG5.out⟩
  · have hni : ((N : Int) == 0) = false := by simpa using hN0
    have hnn : ¬ (N : Int) = 0 := by omega
    have HP2 := Lib.hid (pick_any base rb a n cap zs (p + 1) 3 _ HR1.out (by omega) (by omega) (by omega))
    go_wp2_with fail
    refine HP2.out.mono ?_
    rintro e w5 ⟨⟨z, rfl, hz⟩, hR5, hB5, hG⟩
    have HR5 := Lib.hid hR5
    have HB5 := Lib.hid (HB1.out.trans hB5)
    have HG5 := Lib.hid (HG1.out.trans hG)
    clear hR5 hB5 hG
    go_wp2_with fail
    go_ret
    exact ⟨⟨_, rfl, by omega⟩, ⟨_, by omega, HR5.out⟩, HB5.out, HG5.out⟩

theorem l91Gen_any (base rb : Nat) (a : Option Addr) (n cap : Nat) (zs : List Int) (p : Nat) (w : World) (h : Rd base w rb a n cap zs p) (hp : p ≤ 90000) :
    Calls Try.prog 79 #[.pointer (some ⟨rb, 0, none⟩)] w fun e w' => (∃ g : Int, e = .returned (.int .i64 g) ∧ -1 ≤ g ∧ g ≤ 4) ∧ (∃ p', p' ≤ p + 2 ∧ Rd base w' rb a n cap zs p') ∧ Below base w w' :=
  (l91Gen_grown base rb a n cap zs p w h hp).mono fun _ _ ⟨h1, h2, h3, _⟩ => ⟨h1, h2, h3⟩

end Go.Proofs.Ytebgcebjlbhjjaa

/- The contracts of the model's 'l91Four' and 'DrawWordPut'. -/

namespace Go.Proofs.Ytebgcebjlbhjjaa
open Go.RowKit Go.Shelf

theorem Rd.past {base N : Nat} {w w' : World} {rb : Nat} {a : Option Addr} {n cap : Nat} {zs : List Int} {p : Nat} (h : Rd base w rb a n cap zs p) (hb : Below N w w') (hN : rb < N) : Rd base w' rb a n cap zs p :=
  ⟨h.lo, (hb.block rb hN).trans h.box, h.data.below (hb.mono (Nat.le_of_lt (Nat.lt_of_le_of_lt h.lo hN))), h.short⟩
theorem ownS_made2 (w : World) : OwnS w.heap.size (w.alloc (.cells #[] 9)) (.slice (some ⟨w.heap.size, 0, none⟩) 0 0) [] :=
  World.ownsRow_made w #[] 0 (Nat.le_refl _) (Nat.zero_le _) rfl
theorem OwnS.kept {base : Nat} {w w' : World} {v : Value} {zs : List ByteArray} (h : OwnS base w v zs) {rb : Nat} (hg : w.grownBy w' (some rb)) (hr : rb < base) : OwnS base w' v zs :=
  World.ownsRow.kept h hg (by
    cases hv : v.ownBlock with
    | none => exact .inl rfl
    | some k => exact .inr fun e => by have := (h.lt k hv).1; cases e; omega)

theorem StrsIn.taken {w : World} {g n : Nat} {zs : List ByteArray} (h : StrsIn w (some ⟨g, 0, none⟩) g n zs) (k : Nat) (hk : k ≤ n) : StrsIn w (some ⟨g, 0, none⟩) g k (zs.take k) :=
  ⟨by rw [List.length_take, h.len]; omega, fun _ => rfl, h.blk, fun i hi => by rw [List.getElem_take]; exact h.cells i (by rw [List.length_take] at hi; omega), fun s hs => h.small s (List.mem_of_mem_take hs)⟩
theorem StrsIn.at_ {w : World} {g n : Nat} {zs : List ByteArray} (h : StrsIn w (some ⟨g, 0, none⟩) g n zs) : StrsAt w (some ⟨g, 0, none⟩) zs :=
  ⟨fun _ => ⟨_, rfl, h.blk, fun i hi => by
    have e : (⟨g, 0, none⟩ : Addr).add i = ⟨g, i, none⟩ := by unfold Addr.add; split <;> simp_all
    rw [e]; exact h.cells i hi⟩, h.small⟩
theorem strsIn_abcd (w : World) : StrsIn (w.alloc (.cells #[.string { data := #[97] }, .string { data := #[98] }, .string { data := #[99] }, .string { data := #[100] }] 9)) (some ⟨w.heap.size, 0, none⟩) w.heap.size 4 abcd :=
  ⟨rfl, fun _ => rfl, by simp, fun j hj => by
    have hj4 : j < 4 := hj
    rcases (show j = 0 ∨ j = 1 ∨ j = 2 ∨ j = 3 by omega) with rfl | rfl | rfl | rfl <;> exact (World.cell?_alloc_at _ _ _ _ (by simp)).trans rfl, by
    have : ∀ s ∈ abcd, s.size = 1 := by decide
    intro s hs
    rw [this s hs]; unfold maxLen; omega⟩

/-- Few texts that lie in a block of the call's own. -/
def FourS (base : Nat) (w' : World) (v : Value) : Prop := ∃ g c n zs, v = .slice (some ⟨g, 0, none⟩) n c ∧ base ≤ g ∧ StrsIn w' (some ⟨g, 0, none⟩) g n zs ∧ n ≤ 4 ∧ ∀ z ∈ zs, z.size ≤ 4

theorem _root_.Go.World.grownBy.past {w w1 w2 : World} {rb N : Nat} (hg : w.grownBy w1 (some rb)) (hb : Below N w1 w2) (hN : w.heap.size ≤ N := by omega) : w.grownBy w2 (some rb) :=
  ⟨hb.os.trans hg.os, hb.tape.trans hg.tape, hb.output.trans hg.output, Nat.le_trans hg.size hb.size, fun k hk hne => (hb.block k (by omega)).trans (hg.block k hk hne)⟩
theorem FourS.mono {b1 b2 : Nat} {w : World} {v : Value} (h : FourS b1 w v) (hb : b2 ≤ b1) : FourS b2 w v := by
  obtain ⟨g, c, n, ts, rfl, h1, h2⟩ := h
  exact ⟨g, c, n, ts, rfl, Nat.le_trans hb h1, h2⟩

set_option maxRecDepth 100000 in
set_option maxHeartbeats 4000000 in
theorem l91Four_grown (base rb : Nat) (a : Option Addr) (n cap : Nat) (zs : List Int) (p : Nat) (w : World) (h : Rd base w rb a n cap zs p) (hp : p ≤ 80000) :
    Calls Try.prog 73 #[.pointer (some ⟨rb, 0, none⟩)] w fun e w' => (∃ v, e = .returned v ∧ FourS w.heap.size w' v) ∧ (∃ p', p' ≤ p + 300 ∧ Rd base w' rb a n cap zs p') ∧ Below base w w' ∧ w.grownBy w' (some rb) := by
  obtain ⟨i0, hi, hz0, hz1, hz2⟩ := info_parts infoStr
  have hlo := h.lo
  have hrl := h.lt
  have H := Lib.hid (h.past ((Below.refl w.heap.size w).alloc (Nat.le_refl _) (.cells #[] 9)) hrl)
  clear h
  go_enter Try.func73, Try.ntmps73
  go_wp2
  go_loopw [3, 4] (fun v i wr => ∃ (k q g c : Nat) (ys : List ByteArray), v = .slice (some ⟨g, 0, none⟩) k c ∧ k ≤ 4 ∧ i = .int .i64 k ∧ q ≤ p + 61 * k ∧ w.heap.size ≤ g ∧ Hid (ys.length = k ∧ OwnS w.heap.size wr (.slice (some ⟨g, 0, none⟩) k c) ys ∧ (∀ y ∈ ys, y.size ≤ 4) ∧ Rd base wr rb a n cap zs q ∧ Below base w wr ∧ w.grownBy wr (some rb)) ∧ w.heap.size < wr.heap.size) (fun _ i _ => 4 - (intOf i).toNat)
  case atStart => exact ⟨0, p, w.heap.size, 0, [], rfl, by omega, rfl, by omega, Nat.le_refl _, Lib.hid ⟨rfl, ownS_made2 w, by simp, H.out, ((Below.refl w.heap.size w).alloc (Nat.le_refl _) _).mono (by omega), grownAny_of_below ((Below.refl w.heap.size w).alloc (Nat.le_refl _) _) _⟩, by simp⟩
  case round =>
    obtain ⟨k, q, g, c, ys, rfl, hk, rfl, hq, hg, HH, hsz⟩ := hrel
    by_cases hlt : k < 4
    · have hli : (k : Int) < 4 := by omega
      go_wp2_with fail
      refine (l91Word_grown base rb a n cap zs q 3 3 wr HH.out.2.2.2.1 (by omega) (by omega) (by omega) (by omega)).mono ?_
      rintro e w5 ⟨⟨t, rfl, ht⟩, ⟨q5, hq5, hR5⟩, hB5, hG5⟩
      have HO := Lib.hid (HH.out.2.1.kept hG5 (by omega))
      have HR5 := Lib.hid hR5
      have HB5 := Lib.hid (HH.out.2.2.2.2.1.trans hB5)
      have HG5 := Lib.hid (HH.out.2.2.2.2.2.trans hG5)
      have HYL := Lib.hid HH.out.1
      have HYS := Lib.hid HH.out.2.2.1
      have hs5 := hG5.size
      have hrb5 := hR5.lt
      have hown := HO.out
      unfold OwnS at hown
      rw [HYL.out] at hown
      have HOW := Lib.hid hown
      clear hR5 hB5 hG5 hown
      go_wp2_with (at_builtin; refine wpList_append_lies _ rfl _ _ _ rfl w.heap.size 9 i0 _ 1 16 Try.underlying37 hi hz0 hz1 hz2 rfl (by omega) (.slice (some ⟨g, 0, none⟩) k c) k (strsV ys) rfl (HOW.out.alloc _) ⟨w5.heap.size, 0, none⟩ 1 1 [.string t] rfl rfl (World.news_of_block (cs := #[.string t]) (t := 9) (fr := (0, 0)) (heap_alloc_new w5 _)) (by simp [Value.oneCell']) (by omega) (by unfold maxLen; omega) (by omega) (by simp; omega) (w5.heap.size + 1) (by simp) ?_; intro gg cap1 w7 hown7 hgrow7 hat hlt7)
      have hgg : w.heap.size ≤ gg := (hown7.lt gg rfl).1
      have hB57 : Below w.heap.size w5 w7 := ((Below.refl w.heap.size w5).alloc (by omega) _).grown hgrow7 (by simp; omega) (ownsRow_low HOW.out)
      have HB7 := Lib.hid (HB5.out.trans (hB57.mono (by omega)))
      have HR7 := Lib.hid (HR5.out.past hB57 (by omega))
      have HG7 : Hid (w.grownBy w7 (some rb)) := Lib.hid (HG5.out.past hB57)
      have HO7 := Lib.hid hown7
      have hs7 := hB57.size
      clear hown7 hgrow7 hat hlt7 hB57
      go_wp2
      go_roundw
      case rel =>
        refine ⟨k + 1, q5, gg, cap1, ys ++ [t], rfl, by omega, by go_num, by omega, hgg, Lib.hid ⟨by rw [List.length_append, HYL.out]; rfl, ?_, ?_, HR7.out, HB7.out, HG7.out⟩, by omega⟩
        · unfold OwnS
          rw [List.length_append, HYL.out, show strsV (ys ++ [t]) = strsV ys ++ [.string t] by simp [strsV]]
          exact HO7.out
        · intro y hy
          rcases List.mem_append.1 hy with h | h
          · exact HYS.out y h
          · rw [List.mem_singleton.1 h]; exact ht
      case measure => simp [intOf]; omega
    · obtain rfl : k = 4 := by omega
      have HP := Lib.hid (pick_any base rb a n cap zs q 20 wr HH.out.2.2.2.1 (by omega) (by omega) (by omega))
      go_wp2_with fail
      refine HP.out.mono ?_
      rintro e w6 ⟨⟨z, rfl, hz⟩, hR6, hB6, hG6⟩
      have HO6 := Lib.hid (HH.out.2.1.kept hG6 (by omega))
      have hgl : g < w6.heap.size := (HO6.out.lt g rfl).2
      have HR6 := Lib.hid hR6
      have HB6 := Lib.hid (HH.out.2.2.2.2.1.trans hB6)
      have HG6 := Lib.hid (HH.out.2.2.2.2.2.trans hG6)
      have HYL := Lib.hid HH.out.1
      have hown := HO6.out
      unfold OwnS at hown
      rw [HYL.out] at hown
      have hcap := ownsRow_cap hown
      have hc3 : 3 ≤ c := by omega
      have hc3i : (3 : Int) ≤ (c : Int) := by omega
      have hcm := hcap.2.1
      unfold maxLen at hcm
      obtain ⟨q1, q2, q3⟩ := strsAt_of_owns HYL.out hown (fun z hz => by have := HH.out.2.2.1 z hz; unfold maxLen; omega)
      have HF : Hid (StrsIn w6 (some ⟨g, 0, none⟩) g 4 ys) := Lib.hid ⟨HYL.out, fun _ => rfl, q2, q3, q1.small⟩
      have HF3 : Hid (StrsIn w6 (some ⟨g, 0, none⟩) g 3 (ys.take 3)) := Lib.hid (HF.out.taken 3 (by omega))
      have HYS := Lib.hid HH.out.2.2.1
      clear hR6 hB6 hG6 hown hcap q1 q2 q3
      by_cases hz0 : z = 0
      · subst hz0
        go_wp2
        go_ret
        exact ⟨⟨_, rfl, g, _, 3, ys.take 3, rfl, hg, HF3.out, by omega, fun z hz => HYS.out z (List.mem_of_mem_take hz)⟩, ⟨_, by omega, HR6.out⟩, HB6.out, HG6.out⟩
      · have hzi : ((z : Int) == 0) = false := by simpa using hz0
        have hzn : ¬ (z : Int) = 0 := by omega
        go_wp2
        go_ret
        exact ⟨⟨_, rfl, g, _, 4, ys, rfl, hg, HF.out, by omega, HYS.out⟩, ⟨_, by omega, HR6.out⟩, HB6.out, HG6.out⟩

theorem l91Four_any (base rb : Nat) (a : Option Addr) (n cap : Nat) (zs : List Int) (p : Nat) (w : World) (h : Rd base w rb a n cap zs p) (hp : p ≤ 80000) :
    Calls Try.prog 73 #[.pointer (some ⟨rb, 0, none⟩)] w fun e w' => (∃ v, e = .returned v ∧ FourS w.heap.size w' v) ∧ (∃ p', p' ≤ p + 300 ∧ Rd base w' rb a n cap zs p') ∧ Below base w w' :=
  (l91Four_grown base rb a n cap zs p w h hp).mono fun _ _ ⟨h1, h2, h3, _⟩ => ⟨h1, h2, h3⟩

end Go.Proofs.Ytebgcebjlbhjjaa

/- The contracts of the model's draws of sums: 'l91Sum', 'l91Sums' and the draws of chapter 2 and of FoxSum. -/

namespace Go.Proofs.Ytebgcebjlbhjjaa
open Go.RowKit Go.Shelf

theorem OwnT.keptBut {base : Nat} {w w' : World} {v : Value} {ts : List Tm} (h : OwnT base w v ts) {rb : Nat} (hg : w.grownBy w' (some rb)) (hr : rb < base) : OwnT base w' v ts :=
  World.ownsRow.kept h hg (by
    cases hv : v.ownBlock with
    | none => exact .inl rfl
    | some k => exact .inr fun e => by have := (h.lt k hv).1; cases e; omega)
theorem TermsIn.keptBut {w w' : World} {g n c rb : Nat} {ts : List Tm} (h : TermsIn w (some ⟨g, 0, none⟩) n c ts) (hg : w.grownBy w' (some rb)) (hne : g ≠ rb) : TermsIn w' (some ⟨g, 0, none⟩) n c ts :=
  termsIn_some ⟨h.is.len, h.is.max, fun h0 => by
    obtain ⟨x, e, hx⟩ := h.is.at_ h0
    cases e
    refine ⟨_, rfl, Nat.lt_of_lt_of_le hx.1 hg.size, fun i hi => ?_⟩
    obtain ⟨h1, h2⟩ := hx.2 i hi
    exact ⟨hg.cell h1 (by rw [addr_add_block]; intro e; cases e; exact hne rfl), hg.cell h2 (by rw [addr_add_block]; intro e; cases e; exact hne rfl)⟩, h.is.small⟩
theorem SumV.keptBut {base : Nat} {w w' : World} {v : Value} {rb : Nat} (h : SumV base w v) (hg : w.grownBy w' (some rb)) (hr : rb < base) : SumV base w' v := by
  obtain ⟨g, c, n, ts, rfl, h1, h2, h3⟩ := h
  exact ⟨g, c, n, ts, rfl, h1, h2.keptBut hg (by omega), h3⟩
theorem SumV.mono {b1 b2 : Nat} {w : World} {v : Value} (h : SumV b1 w v) (hb : b2 ≤ b1) : SumV b2 w v := by
  obtain ⟨g, c, n, ts, rfl, h1, h2⟩ := h
  exact ⟨g, c, n, ts, rfl, Nat.le_trans hb h1, h2⟩

/-- Few small terms. -/
def FewT (ts : List Tm) : Prop := ts.length ≤ 4 ∧ ∀ t ∈ ts, t.s.size ≤ 6 ∧ -4 ≤ t.c ∧ t.c ≤ 4
theorem few_canon {ts : List Tm} (h : FewT ts) : (canonT ts).length ≤ 4 ∧ ∀ t ∈ canonT ts, t.s.size ≤ 6 ∧ -20 ≤ t.c ∧ t.c ≤ 20 := by
  refine ⟨by have := fold_len ts []; unfold canonT; simp only [List.length_nil] at this; have := h.1; omega, fun t ht => ?_⟩
  obtain ⟨v, hv, e⟩ := canon_words ht
  have h1 := fold_bound (C := 4) (by omega) ts [] 0 (by omega) (fun u hu => (h.2 u hu).2) (fun u hu => by cases hu) t ht
  have h2 := (h.2 v hv).1
  have h3 := h.1
  rw [← e]
  exact ⟨h2, by omega, by omega⟩
theorem few_small {ts : List Tm} (h : FewT ts) : SmallT ts := ⟨by have := h.1; unfold maxLen; omega, fun t ht => by have := h.2 t ht; unfold maxLen; omega⟩

set_option maxRecDepth 100000 in
set_option maxHeartbeats 6000000 in
theorem l91Sum_any (base rb : Nat) (a : Option Addr) (n cap : Nat) (zs : List Int) (p most : Nat) (w : World) (h : Rd base w rb a n cap zs p) (hp : p ≤ 80000) (hm : most ≤ 5) :
    Calls Try.prog 52 #[.pointer (some ⟨rb, 0, none⟩), .int .i64 most] w fun e w' => (∃ v, e = .returned v ∧ SumV w.heap.size w' v) ∧ (∃ p', p' ≤ p + 300 ∧ Rd base w' rb a n cap zs p') ∧ Below base w w' ∧ w.grownBy w' (some rb) := by
  obtain ⟨i0, hi, hz0, hz1, hz2⟩ := info_parts infoTerm
  have hlo := h.lo
  have hrl := h.lt
  have hba : Below w.heap.size w (w.alloc (.cells #[] TI)) := (Below.refl w.heap.size w).alloc (Nat.le_refl _) _
  have H := Lib.hid (h.past hba hrl)
  have HBA := Lib.hid hba
  clear h hba
  go_enter Try.func52, Try.ntmps52
  go_wp2_with fail
  refine (pick_any base rb a n cap zs p 4 _ H.out (by omega) (by omega) (by omega)).mono ?_
  rintro e w1 ⟨⟨N, rfl, hN⟩, hR1, hB1, hG1⟩
  have hO1 : OwnT w.heap.size w1 (.slice (some ⟨w.heap.size, 0, none⟩) 0 0) [] := OwnT.keptBut (World.ownsRow_made w #[] 0 (Nat.le_refl _) (Nat.zero_le _) rfl) hG1 hrl
  have HO1 := Lib.hid hO1
  have HR1 := Lib.hid hR1
  have HB1 := Lib.hid ((HBA.out.mono (by omega)).trans hB1)
  have HG1 := Lib.hid ((grownAny_of_below HBA.out (some rb)).trans hG1)
  have hs1 : w.heap.size < w1.heap.size := by have := hG1.size; simp at this; omega
  clear hR1 hB1 hG1 hO1
  go_wp2_with fail
  go_loopw [5, 7] (fun v i wr => ∃ (k q g c : Nat) (ts : List Tm), v = .slice (some ⟨g, 0, none⟩) k c ∧ k ≤ N ∧ i = .int .i64 k ∧ q ≤ p + 1 + 62 * k ∧ w.heap.size ≤ g ∧ Hid (ts.length = k ∧ OwnT w.heap.size wr (.slice (some ⟨g, 0, none⟩) k c) ts ∧ (∀ t ∈ ts, t.s.size ≤ 6 ∧ -4 ≤ t.c ∧ t.c ≤ 4) ∧ Rd base wr rb a n cap zs q ∧ Below base w wr ∧ w.grownBy wr (some rb)) ∧ w.heap.size < wr.heap.size) (fun _ i _ => N - (intOf i).toNat)
  case atStart => exact ⟨0, p + 1, w.heap.size, 0, [], rfl, Nat.zero_le _, rfl, by omega, Nat.le_refl _, Lib.hid ⟨rfl, HO1.out, by simp, HR1.out, HB1.out, HG1.out⟩, hs1⟩
  case round =>
    obtain ⟨k, q, g, c, ts, rfl, hk, rfl, hq, hg, HH, hsz⟩ := hrel
    by_cases hlt : k < N
    · have hli : (k : Int) < (N : Int) := by omega
      go_wp2_with fail
      refine (pick_any base rb a n cap zs q 9 wr HH.out.2.2.2.1 (by omega) (by omega) (by omega)).mono ?_
      rintro e w4 ⟨⟨z, rfl, hz⟩, hR4, hB4, hG4⟩
      have HO4 := Lib.hid (HH.out.2.1.keptBut hG4 (by omega))
      have HR4 := Lib.hid hR4
      have HB4 := Lib.hid (HH.out.2.2.2.2.1.trans hB4)
      have HG4 := Lib.hid (HH.out.2.2.2.2.2.trans hG4)
      have hs4 := hG4.size
      have e1 : IntKind.i64.wrap ((z : Int) - 4) = (z : Int) - 4 := IntWalk.i64_in _ (by omega)
      clear hR4 hB4 hG4
      go_wp2_with fail
      refine (l91Word_grown base rb a n cap zs (q + 1) most 2 w4 HR4.out (by omega) (by omega) (by omega) (by omega)).mono ?_
      rintro e w5 ⟨⟨s, rfl, hs⟩, ⟨q5, hq5, hR5⟩, hB5, hG5⟩
      have HO5 := Lib.hid (HO4.out.keptBut hG5 (by omega))
      have HR5 := Lib.hid hR5
      have HB5 := Lib.hid (HB4.out.trans hB5)
      have HG5 := Lib.hid (HG4.out.trans hG5)
      have HTL := Lib.hid HH.out.1
      have HTS := Lib.hid HH.out.2.2.1
      have hs5 := hG5.size
      have hrb5 := hR5.lt
      have hown := HO5.out
      unfold OwnT at hown
      rw [HTL.out] at hown
      have HOW := Lib.hid hown
      clear hR5 hB5 hG5 hown
      go_wp2_with (at_builtin; refine wpList_append_lies _ rfl _ _ _ rfl w.heap.size TI i0 _ 2 24 Try.underlying23 hi hz0 hz1 hz2 rfl (by omega) (.slice (some ⟨g, 0, none⟩) k c) k (termsV ts) rfl (HOW.out.alloc _) ⟨w5.heap.size, 0, none⟩ 1 1 [.int .i64 ((z : Int) - 4), .string s] rfl rfl (World.news_of_block (cs := #[.int .i64 ((z : Int) - 4), .string s]) (t := TI) (fr := (0, 0)) (heap_alloc_new w5 _)) (by simp [Value.oneCell']) (by omega) (by unfold maxLen; omega) (by omega) (by simp; omega) (w5.heap.size + 1) (by simp) ?_; intro gg cap1 w7 hown7 hgrow7 hat hlt7)
      have hgg : w.heap.size ≤ gg := (hown7.lt gg rfl).1
      have hB57 : Below w.heap.size w5 w7 := ((Below.refl w.heap.size w5).alloc (by omega) _).grown hgrow7 (by simp; omega) (ownsRow_low HOW.out)
      have HB7 := Lib.hid (HB5.out.trans (hB57.mono (by omega)))
      have HR7 := Lib.hid (HR5.out.past hB57 (by omega))
      have HG7 : Hid (w.grownBy w7 (some rb)) := Lib.hid (HG5.out.past hB57)
      have HO7 := Lib.hid hown7
      have hs7 := hB57.size
      clear hown7 hgrow7 hat hlt7 hB57
      go_wp2
      go_roundw
      case rel =>
        refine ⟨k + 1, q5, gg, cap1, ts ++ [⟨(z : Int) - 4, s⟩], rfl, by omega, by go_num, by omega, hgg, Lib.hid ⟨by rw [List.length_append, HTL.out]; rfl, ?_, ?_, HR7.out, HB7.out, HG7.out⟩, by omega⟩
        · unfold OwnT
          rw [List.length_append, HTL.out, termsV_append]
          exact HO7.out
        · intro t ht
          rcases List.mem_append.1 ht with h | h
          · exact HTS.out t h
          · rw [List.mem_singleton.1 h]; exact ⟨by show s.size ≤ 6; omega, by show (-4 : Int) ≤ (z : Int) - 4; omega, by show (z : Int) - 4 ≤ 4; omega⟩
      case measure => simp [intOf]; omega
    · obtain rfl : N = k := by omega
      have hfew : FewT ts := ⟨by have := HH.out.1; omega, HH.out.2.2.1⟩
      obtain ⟨a1, c1, e1, hT⟩ := HH.out.2.1.termsIn (few_small hfew)
      rw [HH.out.1] at e1 hT
      obtain ⟨rfl, rfl⟩ : a1 = some ⟨g, 0, none⟩ ∧ c1 = c := by cases e1; exact ⟨rfl, rfl⟩
      obtain ⟨b, hb⟩ : ∃ b, ofB ts = b := ⟨_, rfl⟩
      have HT := Lib.hid hT
      have HF := Lib.hid hfew
      have HB := Lib.hid hb
      have HR := Lib.hid HH.out.2.2.2.1
      have HBB := Lib.hid HH.out.2.2.2.2.1
      have HGG := Lib.hid HH.out.2.2.2.2.2
      clear e1 hT hfew hb
      have hrbw := HR.out.lt
      go_wp2_with fail
      refine (sSumOf_any _ c1 N ts b _ HT.out.is HB.out).mono ?_
      rintro e w4 ⟨⟨v, rfl, ho⟩, hb4⟩
      have HT4 := Lib.hid (HT.out.below hb4)
      have HR4 := Lib.hid (HR.out.below hb4)
      have HG4 := Lib.hid (HGG.out.trans (grownAny_of_below hb4 _))
      have HB4 := Lib.hid (HBB.out.trans (hb4.mono (by omega)))
      have hs4 := hb4.size
      clear hb4
      cases b with
      | false =>
        clear ho
        go_wp2
        go_ret
        exact ⟨⟨_, rfl, g, _, N, ts, rfl, hg, HT4.out, by omega, fun t ht => by have := HF.out.2 t ht; omega⟩, ⟨_, by omega, HR4.out⟩, HB4.out, HG4.out⟩
      | true =>
        have ho : OwnTerms wr.heap.size w4 v (canonT ts) := ho
        obtain ⟨f1, f2⟩ := few_canon HF.out
        obtain ⟨us, hus⟩ : ∃ us, canonT ts = us := ⟨_, rfl⟩
        rw [hus] at ho f1 f2
        obtain ⟨m, hm'⟩ : ∃ m, us.length = m := ⟨_, rfl⟩
        obtain ⟨g4, c4, rfl, hO4⟩ := ho
        obtain ⟨a4, c5, e5, hT5⟩ := OwnT.termsIn (show OwnT wr.heap.size w4 _ us from hO4) ⟨by unfold maxLen; omega, fun t ht => by have := f2 t ht; unfold maxLen; omega⟩
        obtain ⟨rfl, rfl⟩ : a4 = some ⟨g4, 0, none⟩ ∧ c5 = c4 := by cases e5; exact ⟨rfl, rfl⟩
        have hg4 : wr.heap.size ≤ g4 := (hO4.lt g4 rfl).1
        rw [hm'] at hT5 f1 ⊢
        have HT5 := Lib.hid hT5
        have HF2 := Lib.hid f2
        clear hus hO4 e5 hT5 f2 hm'
        go_wp2_with fail
        refine (pick_any base rb a n cap zs q 24 w4 HR4.out (by omega) (by omega) (by omega)).mono ?_
        rintro e w5 ⟨⟨z, rfl, hz⟩, hR5, hB5, hG5⟩
        have HR5 := Lib.hid hR5
        have HB5 := Lib.hid (HB4.out.trans hB5)
        have HT6 := Lib.hid (HT5.out.keptBut hG5 (by omega))
        have HT7 := Lib.hid (HT4.out.keptBut hG5 (by omega))
        have HG5 := Lib.hid (HG4.out.trans hG5)
        clear hR5 hB5 hG5
        by_cases hz0 : z = 0
        · subst hz0
          go_wp2
          go_ret
          exact ⟨⟨_, rfl, g, _, N, ts, rfl, hg, HT7.out, by omega, fun t ht => by have := HF.out.2 t ht; omega⟩, ⟨_, by omega, HR5.out⟩, HB5.out, HG5.out⟩
        · have hzi : ((z : Int) == 0) = false := by simpa using hz0
          have hzn : ¬ (z : Int) = 0 := by omega
          go_wp2
          go_ret
          exact ⟨⟨_, rfl, g4, _, m, us, rfl, by omega, HT6.out, f1, HF2.out⟩, ⟨_, by omega, HR5.out⟩, HB5.out, HG5.out⟩

set_option maxRecDepth 100000 in
set_option maxHeartbeats 2000000 in
theorem l91Sums_any (a : Option Addr) (n cap : Nat) (zs : List Int) (w : World) (h : BsAt w.heap.size w a n cap zs) :
    Calls Try.prog 67 #[.slice a n cap] w fun e w' => (∃ v u, e = .returned (.tuple #[v, u]) ∧ SumV w.heap.size w' v ∧ SumV w.heap.size w' u) ∧ Below w.heap.size w w' := by
  have HO := Lib.hid (open_any a n cap zs w h)
  clear h
  go_enter Try.func67, Try.ntmps67
  go_wp2_with fail
  refine HO.out.mono ?_
  rintro e w1 ⟨n', zs', rfl, hR1, hB1⟩
  have HR1 := Lib.hid hR1
  have HB1 := Lib.hid hB1
  have hr1 := hR1.lt
  clear hR1 hB1
  go_wp2_with fail
  refine (l91Sum_any w.heap.size w.heap.size a n' cap zs' 0 4 w1 HR1.out (by omega) (by omega)).mono ?_
  rintro e w2 ⟨⟨v, rfl, hv⟩, ⟨p2, hp2, hR2⟩, hB2, _⟩
  have HR2 := Lib.hid hR2
  have HV := Lib.hid hv
  have HB2 := Lib.hid (HB1.out.trans hB2)
  have hs2 := (HB1.out.trans hB2).size
  clear hR2 hB2 hv
  go_wp2_with fail
  refine (l91Sum_any w.heap.size w.heap.size a n' cap zs' p2 4 w2 HR2.out (by omega) (by omega)).mono ?_
  rintro e w3 ⟨⟨u, rfl, hu⟩, _, hB3, hG3⟩
  have HV3 := Lib.hid (HV.out.keptBut hG3 (by omega))
  have HU := Lib.hid hu
  have HB3 := Lib.hid (HB2.out.trans hB3)
  clear hB3 hG3 hu
  go_wp2
  go_ret2
  exact ⟨⟨v, u, rfl, HV3.out.mono (by omega), HU.out.mono hs2⟩, HB3.out⟩

theorem drawSumAdd_any (a : Option Addr) (n cap : Nat) (zs : List Int) (w : World) (h : BsAt w.heap.size w a n cap zs) :
    Calls Try.prog 23 #[.slice a n cap] w fun e w' => (∃ v u, e = .returned (.tuple #[v, u]) ∧ SumV w.heap.size w' v ∧ SumV w.heap.size w' u) ∧ Below w.heap.size w w' := by
  have HO := Lib.hid (l91Sums_any a n cap zs w h)
  clear h
  go_enter Try.func23, Try.ntmps23
  go_wp2_with fail
  refine HO.out.mono ?_
  rintro e w1 ⟨⟨v, u, rfl, hv, hu⟩, hB1⟩
  have HV := Lib.hid hv
  have HU := Lib.hid hu
  clear hv hu
  go_wp2
  go_ret2
  exact ⟨⟨v, u, rfl, HV.out, HU.out⟩, hB1⟩
theorem drawSumTimes_any (a : Option Addr) (n cap : Nat) (zs : List Int) (w : World) (h : BsAt w.heap.size w a n cap zs) :
    Calls Try.prog 27 #[.slice a n cap] w fun e w' => (∃ v u, e = .returned (.tuple #[v, u]) ∧ SumV w.heap.size w' v ∧ SumV w.heap.size w' u) ∧ Below w.heap.size w w' := by
  have HO := Lib.hid (l91Sums_any a n cap zs w h)
  clear h
  go_enter Try.func27, Try.ntmps27
  go_wp2_with fail
  refine HO.out.mono ?_
  rintro e w1 ⟨⟨v, u, rfl, hv, hu⟩, hB1⟩
  have HV := Lib.hid hv
  have HU := Lib.hid hu
  clear hv hu
  go_wp2
  go_ret2
  exact ⟨⟨v, u, rfl, HV.out, HU.out⟩, hB1⟩

set_option maxRecDepth 100000 in
theorem drawSumIn_any (a : Option Addr) (n cap : Nat) (zs : List Int) (w : World) (h : BsAt w.heap.size w a n cap zs) :
    Calls Try.prog 15 #[.slice a n cap] w fun e w' => (∃ v, e = .returned v ∧ SumV w.heap.size w' v) ∧ Below w.heap.size w w' := by
  have HO := Lib.hid (open_any a n cap zs w h)
  clear h
  go_enter Try.func15, Try.ntmps15
  go_wp2_with fail
  refine HO.out.mono ?_
  rintro e w1 ⟨n', zs', rfl, hR1, hB1⟩
  have HR1 := Lib.hid hR1
  have HB1 := Lib.hid hB1
  have hs1 := hB1.size
  clear hR1 hB1
  go_wp2_with fail
  refine (l91Sum_any w.heap.size w.heap.size a n' cap zs' 0 4 w1 HR1.out (by omega) (by omega)).mono ?_
  rintro e w2 ⟨⟨v, rfl, hv⟩, _, hB2, _⟩
  have HV := Lib.hid hv
  have HB2 := Lib.hid (HB1.out.trans hB2)
  clear hB2 hv
  go_wp2
  go_ret
  exact ⟨⟨v, rfl, HV.out.mono hs1⟩, HB2.out⟩

set_option maxRecDepth 100000 in
theorem drawSumTurned_any (a : Option Addr) (n cap : Nat) (zs : List Int) (w : World) (h : BsAt w.heap.size w a n cap zs) :
    Calls Try.prog 29 #[.slice a n cap] w fun e w' => (∃ v, e = .returned v ∧ SumV w.heap.size w' v) ∧ Below w.heap.size w w' := by
  have HO := Lib.hid (open_any a n cap zs w h)
  clear h
  go_enter Try.func29, Try.ntmps29
  go_wp2_with fail
  refine HO.out.mono ?_
  rintro e w1 ⟨n', zs', rfl, hR1, hB1⟩
  have HR1 := Lib.hid hR1
  have HB1 := Lib.hid hB1
  have hs1 := hB1.size
  clear hR1 hB1
  go_wp2_with fail
  refine (l91Sum_any w.heap.size w.heap.size a n' cap zs' 0 4 w1 HR1.out (by omega) (by omega)).mono ?_
  rintro e w2 ⟨⟨v, rfl, hv⟩, _, hB2, _⟩
  have HV := Lib.hid hv
  have HB2 := Lib.hid (HB1.out.trans hB2)
  clear hB2 hv
  go_wp2
  go_ret
  exact ⟨⟨v, rfl, HV.out.mono hs1⟩, HB2.out⟩

set_option maxRecDepth 100000 in
theorem drawSumPlain_any (a : Option Addr) (n cap : Nat) (zs : List Int) (w : World) (h : BsAt w.heap.size w a n cap zs) :
    Calls Try.prog 32 #[.slice a n cap] w fun e w' => (∃ v, e = .returned v ∧ SumV w.heap.size w' v) ∧ Below w.heap.size w w' := by
  have HO := Lib.hid (open_any a n cap zs w h)
  clear h
  go_enter Try.func32, Try.ntmps32
  go_wp2_with fail
  refine HO.out.mono ?_
  rintro e w1 ⟨n', zs', rfl, hR1, hB1⟩
  have HR1 := Lib.hid hR1
  have HB1 := Lib.hid hB1
  have hs1 := hB1.size
  clear hR1 hB1
  go_wp2_with fail
  refine (l91Sum_any w.heap.size w.heap.size a n' cap zs' 0 4 w1 HR1.out (by omega) (by omega)).mono ?_
  rintro e w2 ⟨⟨v, rfl, hv⟩, _, hB2, _⟩
  have HV := Lib.hid hv
  have HB2 := Lib.hid (HB1.out.trans hB2)
  clear hB2 hv
  go_wp2
  go_ret
  exact ⟨⟨v, rfl, HV.out.mono hs1⟩, HB2.out⟩

set_option maxRecDepth 100000 in
set_option maxHeartbeats 4000000 in
theorem drawSumOf_any (a : Option Addr) (n cap : Nat) (zs : List Int) (w : World) (h : BsAt w.heap.size w a n cap zs) :
    Calls Try.prog 21 #[.slice a n cap] w fun e w' => (∃ v, e = .returned v ∧ SumV w.heap.size w' v) ∧ Below w.heap.size w w' := by
  obtain ⟨i0, hi, hz0, hz1, hz2⟩ := info_parts infoTerm
  have HO := Lib.hid (open_any a n cap zs w h)
  clear h
  go_enter Try.func21, Try.ntmps21
  go_wp2_with fail
  refine HO.out.mono ?_
  rintro e w1 ⟨n', zs', rfl, hR1, hB1⟩
  have hr1 := hR1.lt
  have hba : Below w1.heap.size w1 (w1.alloc (.cells #[] TI)) := (Below.refl w1.heap.size w1).alloc (Nat.le_refl _) _
  have HR2 := Lib.hid (hR1.past hba hr1)
  have HBA := Lib.hid hba
  have HB2 := Lib.hid (hB1.trans (hba.mono (by omega)))
  clear hR1 hB1 hba
  go_wp2_with fail
  refine (pick_any w.heap.size w.heap.size a n' cap zs' 0 5 _ HR2.out (by omega) (by omega) (by omega)).mono ?_
  rintro e w3 ⟨⟨N, rfl, hN⟩, hR3, hB3, hG3⟩
  have hO3 : OwnT w1.heap.size w3 (.slice (some ⟨w1.heap.size, 0, none⟩) 0 0) [] := OwnT.keptBut (World.ownsRow_made w1 #[] 0 (Nat.le_refl _) (Nat.zero_le _) rfl) hG3 hr1
  have HO3 := Lib.hid hO3
  have HR3 := Lib.hid hR3
  have HB3 := Lib.hid (HB2.out.trans hB3)
  have hs3 : w1.heap.size < w3.heap.size := by have := hG3.size; simp at this; omega
  clear hR3 hB3 hG3 hO3
  go_wp2_with fail
  go_loopw [4, 6] (fun v i wr => ∃ (k q g c : Nat) (ts : List Tm), v = .slice (some ⟨g, 0, none⟩) k c ∧ k ≤ N ∧ i = .int .i64 k ∧ q ≤ 1 + 62 * k ∧ w1.heap.size ≤ g ∧ Hid (ts.length = k ∧ OwnT w1.heap.size wr (.slice (some ⟨g, 0, none⟩) k c) ts ∧ (∀ t ∈ ts, t.s.size ≤ 6 ∧ -4 ≤ t.c ∧ t.c ≤ 4) ∧ Rd w.heap.size wr w.heap.size a n' cap zs' q ∧ Below w.heap.size w wr) ∧ w1.heap.size < wr.heap.size) (fun _ i _ => N - (intOf i).toNat)
  case atStart => exact ⟨0, 0 + 1, w1.heap.size, 0, [], rfl, Nat.zero_le _, rfl, by omega, Nat.le_refl _, Lib.hid ⟨rfl, HO3.out, by simp, HR3.out, HB3.out⟩, hs3⟩
  case round =>
    obtain ⟨k, q, g, c, ts, rfl, hk, rfl, hq, hg, HH, hsz⟩ := hrel
    by_cases hlt : k < N
    · have hli : (k : Int) < (N : Int) := by omega
      go_wp2_with fail
      refine (pick_any w.heap.size w.heap.size a n' cap zs' q 7 wr HH.out.2.2.2.1 (by omega) (by omega) (by omega)).mono ?_
      rintro e w4 ⟨⟨z, rfl, hz⟩, hR4, hB4, hG4⟩
      have HO4 := Lib.hid (HH.out.2.1.keptBut hG4 (by omega))
      have HR4 := Lib.hid hR4
      have HB4 := Lib.hid (HH.out.2.2.2.2.trans hB4)
      have hs4 := hG4.size
      have e1 : IntKind.i64.wrap ((z : Int) - 3) = (z : Int) - 3 := IntWalk.i64_in _ (by omega)
      clear hR4 hB4 hG4
      go_wp2_with fail
      refine (l91Word_grown w.heap.size w.heap.size a n' cap zs' (q + 1) 2 2 w4 HR4.out (by omega) (by omega) (by omega) (by omega)).mono ?_
      rintro e w5 ⟨⟨s, rfl, hs⟩, ⟨q5, hq5, hR5⟩, hB5, hG5⟩
      have HO5 := Lib.hid (HO4.out.keptBut hG5 (by omega))
      have HR5 := Lib.hid hR5
      have HB5 := Lib.hid (HB4.out.trans hB5)
      have HTL := Lib.hid HH.out.1
      have HTS := Lib.hid HH.out.2.2.1
      have hs5 := hG5.size
      have hrb5 := hR5.lt
      have hown := HO5.out
      unfold OwnT at hown
      rw [HTL.out] at hown
      have HOW := Lib.hid hown
      clear hR5 hB5 hG5 hown
      go_wp2_with (at_builtin; refine wpList_append_lies _ rfl _ _ _ rfl w1.heap.size TI i0 _ 2 24 Try.underlying23 hi hz0 hz1 hz2 rfl (by omega) (.slice (some ⟨g, 0, none⟩) k c) k (termsV ts) rfl (HOW.out.alloc _) ⟨w5.heap.size, 0, none⟩ 1 1 [.int .i64 ((z : Int) - 3), .string s] rfl rfl (World.news_of_block (cs := #[.int .i64 ((z : Int) - 3), .string s]) (t := TI) (fr := (0, 0)) (heap_alloc_new w5 _)) (by simp [Value.oneCell']) (by omega) (by unfold maxLen; omega) (by omega) (by simp; omega) (w5.heap.size + 1) (by simp) ?_; intro gg cap1 w7 hown7 hgrow7 hat hlt7)
      have hgg : w1.heap.size ≤ gg := (hown7.lt gg rfl).1
      have hB57 : Below w1.heap.size w5 w7 := ((Below.refl w1.heap.size w5).alloc (by omega) _).grown hgrow7 (by simp; omega) (ownsRow_low HOW.out)
      have HB7 := Lib.hid (HB5.out.trans (hB57.mono (by omega)))
      have HR7 := Lib.hid (HR5.out.past hB57 (by omega))
      have HO7 := Lib.hid hown7
      have hs7 := hB57.size
      clear hown7 hgrow7 hat hlt7 hB57
      go_wp2
      go_roundw
      case rel =>
        refine ⟨k + 1, q5, gg, cap1, ts ++ [⟨(z : Int) - 3, s⟩], rfl, by omega, by go_num, by omega, hgg, Lib.hid ⟨by rw [List.length_append, HTL.out]; rfl, ?_, ?_, HR7.out, HB7.out⟩, by omega⟩
        · unfold OwnT
          rw [List.length_append, HTL.out, termsV_append]
          exact HO7.out
        · intro t ht
          rcases List.mem_append.1 ht with h | h
          · exact HTS.out t h
          · rw [List.mem_singleton.1 h]; exact ⟨by show s.size ≤ 6; omega, by show (-4 : Int) ≤ (z : Int) - 3; omega, by show (z : Int) - 3 ≤ 4; omega⟩
      case measure => simp [intOf]; omega
    · obtain rfl : N = k := by omega
      have hfew : FewT ts := ⟨by have := HH.out.1; omega, HH.out.2.2.1⟩
      obtain ⟨a1, c1, e1, hT⟩ := HH.out.2.1.termsIn (few_small hfew)
      rw [HH.out.1] at e1 hT
      obtain ⟨rfl, rfl⟩ : a1 = some ⟨g, 0, none⟩ ∧ c1 = c := by cases e1; exact ⟨rfl, rfl⟩
      have HT := Lib.hid hT
      have HF := Lib.hid hfew
      have HBB := Lib.hid HH.out.2.2.2.2
      clear e1 hT hfew
      go_wp2
      go_ret
      exact ⟨⟨_, rfl, g, _, N, ts, rfl, by omega, HT.out, by omega, fun t ht => by have := HF.out.2 t ht; omega⟩, HBB.out⟩

set_option maxRecDepth 100000 in
theorem drawSumPut_any (a : Option Addr) (n cap : Nat) (zs : List Int) (w : World) (h : BsAt w.heap.size w a n cap zs) :
    Calls Try.prog 34 #[.slice a n cap] w fun e w' => (∃ v u, e = .returned (.tuple #[v, u]) ∧ SumV w.heap.size w' v ∧ FourS w.heap.size w' u) ∧ Below w.heap.size w w' := by
  have HO := Lib.hid (open_any a n cap zs w h)
  clear h
  go_enter Try.func34, Try.ntmps34
  go_wp2_with fail
  refine HO.out.mono ?_
  rintro e w1 ⟨n', zs', rfl, hR1, hB1⟩
  have HR1 := Lib.hid hR1
  have HB1 := Lib.hid hB1
  have hr1 := hR1.lt
  clear hR1 hB1
  go_wp2_with fail
  refine (l91Sum_any w.heap.size w.heap.size a n' cap zs' 0 4 w1 HR1.out (by omega) (by omega)).mono ?_
  rintro e w2 ⟨⟨v, rfl, hv⟩, ⟨p2, hp2, hR2⟩, hB2, _⟩
  have HR2 := Lib.hid hR2
  have HV := Lib.hid hv
  have HB2 := Lib.hid (HB1.out.trans hB2)
  have hs2 := (HB1.out.trans hB2).size
  clear hR2 hB2 hv
  go_wp2_with fail
  refine (l91Four_grown w.heap.size w.heap.size a n' cap zs' p2 w2 HR2.out (by omega)).mono ?_
  rintro e w3 ⟨⟨u, rfl, hu⟩, _, hB3, hG3⟩
  have HV3 := Lib.hid (HV.out.keptBut hG3 (by omega))
  have HU := Lib.hid hu
  have HB3 := Lib.hid (HB2.out.trans hB3)
  clear hB3 hG3 hu
  go_wp2
  go_ret2
  exact ⟨⟨v, u, rfl, HV3.out.mono (by omega), HU.out.mono hs2⟩, HB3.out⟩

end Go.Proofs.Ytebgcebjlbhjjaa

/- The contracts of the model's draws of words: 'DrawWordIn', 'DrawWordReduce', 'l91Any', 'DrawWordPower', 'DrawWordCore', 'l91Four', 'DrawWordPut' and their kin. -/

namespace Go.Proofs.Ytebgcebjlbhjjaa
open Go.RowKit Go.Shelf

set_option maxRecDepth 100000 in
set_option maxHeartbeats 2000000 in
theorem l91Any_any (a : Option Addr) (n cap : Nat) (zs : List Int) (w : World) (h : BsAt w.heap.size w a n cap zs) :
    Calls Try.prog 86 #[.slice a n cap] w fun e w' => (∃ s : ByteArray, e = .returned (.string s) ∧ s.size ≤ 20) ∧ Below w.heap.size w w' := by
  have HO := Lib.hid (open_any a n cap zs w h)
  clear h
  go_enter Try.func86, Try.ntmps86
  go_wp2_with fail
  refine HO.out.mono ?_
  rintro e w1 ⟨n', zs', rfl, hR1, hB1⟩
  have HR1 := Lib.hid hR1
  have HB1 := Lib.hid hB1
  clear hR1 hB1
  go_wp2_with fail
  refine (l91Word_any w.heap.size w.heap.size a n' cap zs' 0 10 3 w1 HR1.out (by omega) (by omega) (by omega) (by omega)).mono ?_
  rintro e w2 ⟨⟨s, rfl, hs⟩, _, hB2⟩
  have HB2 := Lib.hid (HB1.out.trans hB2)
  clear hB2
  go_wp2
  go_ret
  exact ⟨⟨_, rfl, by omega⟩, HB2.out⟩

end Go.Proofs.Ytebgcebjlbhjjaa

/- The contracts of the model's 'DrawFoxOf' and 'DrawFoxSum'. -/

namespace Go.Proofs.Ytebgcebjlbhjjaa
open Go.RowKit Go.Shelf

theorem drawFoxOf_any (a : Option Addr) (n cap : Nat) (zs : List Int) (w : World) (h : BsAt w.heap.size w a n cap zs) :
    Calls Try.prog 37 #[.slice a n cap] w fun e w' => (∃ (s : ByteArray) (g : Int), e = .returned (.tuple #[.string s, .int .i64 g]) ∧ s.size ≤ 10 ∧ -1 ≤ g ∧ g ≤ 4) ∧ Below w.heap.size w w' := by
  have HO := Lib.hid (open_any a n cap zs w h)
  clear h
  go_enter Try.func37, Try.ntmps37
  go_wp2_with fail
  refine HO.out.mono ?_
  rintro e w1 ⟨n', zs', rfl, hR1, hB1⟩
  have HR1 := Lib.hid hR1
  have HB1 := Lib.hid hB1
  clear hR1 hB1
  go_wp2_with fail
  refine (l91Word_any w.heap.size w.heap.size a n' cap zs' 0 9 3 w1 HR1.out (by omega) (by omega) (by omega) (by omega)).mono ?_
  rintro e w2 ⟨⟨s, rfl, hs⟩, ⟨p2, hp2, hR2⟩, hB2⟩
  have HR2 := Lib.hid hR2
  have HB2 := Lib.hid (HB1.out.trans hB2)
  clear hR2 hB2
  go_wp2_with fail
  refine (l91Gen_any w.heap.size w.heap.size a n' cap zs' p2 w2 HR2.out (by omega)).mono ?_
  rintro e w3 ⟨⟨g, rfl, hg1, hg2⟩, _, hB3⟩
  have HB3 := Lib.hid (HB2.out.trans hB3)
  clear hB3
  go_wp2
  go_ret2
  exact ⟨⟨s, g, rfl, by omega, hg1, hg2⟩, HB3.out⟩

theorem drawFoxSum_any (a : Option Addr) (n cap : Nat) (zs : List Int) (w : World) (h : BsAt w.heap.size w a n cap zs) :
    Calls Try.prog 44 #[.slice a n cap] w fun e w' => (∃ (v : Value) (g : Int), e = .returned (.tuple #[v, .int .i64 g]) ∧ SumV w.heap.size w' v ∧ -1 ≤ g ∧ g ≤ 4) ∧ Below w.heap.size w w' := by
  have HO := Lib.hid (open_any a n cap zs w h)
  clear h
  go_enter Try.func44, Try.ntmps44
  go_wp2_with fail
  refine HO.out.mono ?_
  rintro e w1 ⟨n', zs', rfl, hR1, hB1⟩
  have HR1 := Lib.hid hR1
  have HB1 := Lib.hid hB1
  have hr1 := hR1.lt
  clear hR1 hB1
  go_wp2_with fail
  refine (l91Sum_any w.heap.size w.heap.size a n' cap zs' 0 5 w1 HR1.out (by omega) (by omega)).mono ?_
  rintro e w2 ⟨⟨v, rfl, hv⟩, ⟨p2, hp2, hR2⟩, hB2, _⟩
  have HR2 := Lib.hid hR2
  have HV := Lib.hid hv
  have HB2 := Lib.hid (HB1.out.trans hB2)
  clear hR2 hB2 hv
  go_wp2_with fail
  refine (l91Gen_grown w.heap.size w.heap.size a n' cap zs' p2 w2 HR2.out (by omega)).mono ?_
  rintro e w3 ⟨⟨g, rfl, hg1, hg2⟩, _, hB3, hG3⟩
  have HV3 := Lib.hid (HV.out.keptBut hG3 (by omega))
  have HB3 := Lib.hid (HB2.out.trans hB3)
  clear hB3 hG3
  go_wp2
  go_ret2
  exact ⟨⟨v, g, rfl, HV3.out.mono (by omega), hg1, hg2⟩, HB3.out⟩

theorem drawFoxAll_any (a : Option Addr) (n cap : Nat) (zs : List Int) (w : World) (h : BsAt w.heap.size w a n cap zs) :
    Calls Try.prog 47 #[.slice a n cap] w fun e w' => (∃ s : ByteArray, e = .returned (.string s) ∧ s.size ≤ 20) ∧ Below w.heap.size w w' := by
  have HO := Lib.hid (l91Any_any a n cap zs w h)
  clear h
  go_enter Try.func47, Try.ntmps47
  go_wp2_with fail
  refine HO.out.mono ?_
  rintro e w1 ⟨⟨s, rfl, hs⟩, hB1⟩
  go_wp2
  go_ret
  exact ⟨⟨s, rfl, hs⟩, hB1⟩

end Go.Proofs.Ytebgcebjlbhjjaa

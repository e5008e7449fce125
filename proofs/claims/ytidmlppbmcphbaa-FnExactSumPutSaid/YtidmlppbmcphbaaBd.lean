/- What the laws' proofs stand on, part 4 of 4. -/
import Derived.Deep.Slices
import Derived.Test.YtidmlppbmcphbaaBa
import Derived.Test.YtidmlppbmcphbaaBb
import Derived.Test.YtidmlppbmcphbaaBc

/- The contracts of the laws' 'toTermSS', 'eqTermSS', 'markTermSS' and 'heldTermSS'. -/

namespace Go.Proofs.Ytidmlppbmcphbaa
open Go.RowKit Go.Shelf

/-- Blocks that ascend. -/
def AscV (vals : List Value) (k : Nat) : Prop := ∀ (i j : Nat) (u x : Value) (b c : Nat), i < j → j < k → vals[i]? = some u → vals[j]? = some x → u.ownBlock = some b → x.ownBlock = some c → b < c
theorem AscV.apart {vals : List Value} {k : Nat} (h : AscV vals k) {i j : Nat} {u x : Value} {b : Nat} (hi : i < k) (hj : j < k) (hu : vals[i]? = some u) (hx : vals[j]? = some x) (hne : i ≠ j) (e1 : u.ownBlock = some b) (e2 : x.ownBlock = some b) : False := by
  rcases Nat.lt_or_ge i j with h1 | h1
  · have := h i j u x b b h1 hj hu hx e1 e2; omega
  · have := h j i x u b b (by omega) hi hx hu e2 e1; omega

/-- Rows that are filled in one by one, in a block that lies ahead of them all. -/
structure Filling (lo B : Nat) (w : World) (vals : List Value) (n k : Nat) (rows : List (List Tm)) : Prop where
  row : w.ownsRow lo TT 1 (.slice (some ⟨B, 0, none⟩) n n) n vals
  each : ∀ (j : Nat) (h : j < rows.length), j < k → ∃ u, vals[j]? = some u ∧ OwnT (B + 1) w u rows[j]
  asc : AscV vals k
theorem Filling.start {lo B : Nat} {w : World} {vals : List Value} {n : Nat} {rows : List (List Tm)} (h : w.ownsRow lo TT 1 (.slice (some ⟨B, 0, none⟩) n n) n vals) : Filling lo B w vals n 0 rows :=
  ⟨h, fun _ _ h0 => absurd h0 (Nat.not_lt_zero _), fun _ _ _ _ _ _ _ h0 => absurd h0 (Nat.not_lt_zero _)⟩
theorem Filling.below {lo B : Nat} {w w' : World} {vals : List Value} {n k : Nat} {rows : List (List Tm)} (h : Filling lo B w vals n k rows) (hb : Below w.heap.size w w') : Filling lo B w' vals n k rows :=
  ⟨ownsRow_past h.row hb, fun j hj hk => by obtain ⟨u, h1, h2⟩ := h.each j hj hk; exact ⟨u, h1, h2.below hb⟩, h.asc⟩
/-- One row more: it was made behind all earlier ones. -/
theorem Filling.more {lo B : Nat} {w w2 : World} {vals : List Value} {n k : Nat} {rows : List (List Tm)} {v : Value} (h : Filling lo B w vals n k rows) (hb : Below w.heap.size w w2) (hk : k < n) (hl : rows.length = n) (hkr : k < rows.length) (ho : OwnT w.heap.size w2 v rows[k]) :
    Filling lo B (w2.setCell ⟨B, k, none⟩ v) (vals.set k v) n (k + 1) rows := by
  have hB : B < w.heap.size := (ownsRow_cap h.row).2.2.2
  have hst := (h.below hb).row.stored k v
  have hvl := h.row.1
  rw [Nat.mul_one] at hvl
  have hbl : ∀ b, B + 1 ≤ b → (w2.setCell ⟨B, k, none⟩ v).heap[b]? = w2.heap[b]? := fun b hb => Below.heap_setCell w2 ⟨B, k, none⟩ v b (by show b ≠ B; omega)
  have hkeep : ∀ {u : Value} {ts : List Tm}, OwnT (B + 1) w2 u ts → OwnT (B + 1) (w2.setCell ⟨B, k, none⟩ v) u ts := fun hu => ownsRow_touched hu fun b hb _ => hbl b (hu.lt b hb).1
  refine ⟨hst.1, fun j hj hjk => ?_, fun i j u x b c hij hjk hu hx hb' hc => ?_⟩
  · by_cases e : j = k
    · subst e
      exact ⟨v, List.getElem?_set_self (by omega), hkeep (ho.mono (by omega))⟩
    · obtain ⟨u, h1, h2⟩ := h.each j hj (by omega)
      exact ⟨u, by rw [List.getElem?_set_ne (by omega)]; exact h1, hkeep (h2.below hb)⟩
  · by_cases e : j = k
    · subst e
      rw [List.getElem?_set_self (by omega)] at hx
      cases hx
      rw [List.getElem?_set_ne (by omega)] at hu
      obtain ⟨u', h1, h2⟩ := h.each i (by omega) hij
      rw [h1] at hu
      cases hu
      have p1 := (h2.lt b hb').2
      have p2 := (ho.lt c hc).1
      omega
    · rw [List.getElem?_set_ne (by omega)] at hx
      rw [List.getElem?_set_ne (by omega)] at hu
      exact h.asc i j u x b c hij (by omega) hu hx hb' hc
theorem Filling.done {lo B : Nat} {w : World} {vals : List Value} {n : Nat} {rows : List (List Tm)} (h : Filling lo B w vals n n rows) (hl : rows.length = n) (hlo : lo ≤ B) : OwnTT lo w (.slice (some ⟨B, 0, none⟩) n n) vals rows := by
  have hvl := h.row.1
  rw [Nat.mul_one] at hvl
  have hi : ∀ {i : Nat} {u : Value}, vals[i]? = some u → i < n := fun hu => by have := (List.getElem?_eq_some_iff.1 hu).1; omega
  refine ⟨by rw [hl]; exact h.row, fun i hi2 u hu => ?_, fun i j u x b hu hx hne e1 e2 => h.asc.apart (hi hu) (hi hx) hu hx hne e1 e2, fun i u b hu hv e => ?_⟩
  · obtain ⟨u', h1, h2⟩ := h.each i hi2 (hi hu)
    rw [h1] at hu
    cases hu
    exact h2.mono (by omega)
  · obtain ⟨u', h1, h2⟩ := h.each i (by have := hi hu; omega) (hi hu)
    rw [h1] at hu
    cases hu
    have := (h2.lt b e).1
    simp only [Value.ownBlock, Option.some.injEq] at hv
    omega

set_option maxRecDepth 100000 in
set_option maxHeartbeats 2000000 in
theorem toTermSS_any (a : Option Addr) (cap n : Nat) (rows : List (List Tm)) (w : World) (hs : IsTT w a n rows) (hm : n + total rows ≤ 1048576) :
    Calls Try.prog 44 #[.slice a n cap] w fun e w' =>
      ∃ g vals, e = .returned (.slice (some ⟨g, 0, none⟩) n n) ∧ OwnTT w.heap.size w' (.slice (some ⟨g, 0, none⟩) n n) vals rows ∧ Below w.heap.size w w' := by
  obtain ⟨i0, hi, hz0, hz1, hz2⟩ := info_parts infoTerms
  have HN := Lib.hid hs.len
  have HS := Lib.hid hs
  clear hs
  go_enter Try.func44, Try.ntmps44
  go_wp2_with (at_make; refine wpList_make_full _ rfl _ _ 49 rfl w.heap.size TT i0 (.slice none 0 0) 1 Try.underlying49 hi hz0 hz1 .i64 .i64 _ _ n rfl rfl rfl rfl (by rw [hz2]; omega) (by unfold maxLen; omega) (Nat.le_refl _) ?_; intro w1 hrow hgrow)
  have hB1 : Below w.heap.size w w1 := (Below.refl _ _).grown hgrow (Nat.le_refl _) (fun k e => by cases e)
  have HF1 : Hid (Filling w.heap.size w.heap.size w1 _ n 0 rows) := Lib.hid (Filling.start hrow)
  clear hrow hgrow
  go_loopw [4] (fun i wr => ∃ (k : Nat) (vals : List Value), k ≤ n ∧ i = .int .i64 k ∧ Hid (Filling w.heap.size w.heap.size wr vals n k rows) ∧ Below w.heap.size w wr) (fun i _ => n - (intOf i).toNat)
  case atStart => exact ⟨0, _, Nat.zero_le _, rfl, HF1, hB1⟩
  case round =>
    obtain ⟨k, vals, hk, rfl, HF, hB⟩ := hrel
    by_cases hlt : k < n
    · have hkz : k < rows.length := by rw [HN.out]; exact hlt
      obtain ⟨x, rfl, hxb, hx⟩ := HS.out.at_ (by omega)
      obtain ⟨ai, ci, hc, hI⟩ := hx k hkz
      have hc0 := (hB.cell (p := x.add k) (by rw [addr_add_block]; exact hxb)).trans hc
      have HI := Lib.hid (hI.below hB)
      have hlen := total_get rows k hkz
      obtain ⟨r, hr⟩ : ∃ r, rows[k].length = r := ⟨_, rfl⟩
      rw [hr] at hc0 HI hlen
      have HR := Lib.hid hr
      clear hx hc hI hr
      go_wp2_with fail
      refine (toTermS_any ai ci r rows[k] _ HI.out (by omega)).mono ?_
      rintro e w2 ⟨g, rfl, hown, hb2⟩
      have HO : Hid (OwnT wr.heap.size w2 (.slice (some ⟨g, 0, none⟩) r r) rows[k]) := Lib.hid (by unfold OwnT; rw [HR.out]; exact hown)
      have HF2 := HF.out.below hb2
      have hd : ∃ u, w2.cell? ⟨w.heap.size, k, none⟩ = some u := by
        have hl := HF2.row.1
        rw [Nat.mul_one] at hl
        rw [HF2.row.cellAt k (by omega)]; exact ⟨_, List.getElem?_eq_getElem (by omega)⟩
      obtain ⟨u, hu⟩ := hd
      have hfr := HF2.row.frozenAt k
      have HB2 := Lib.hid hb2
      clear hown HF2 hb2
      go_wp2
      go_roundw
      case rel =>
        exact ⟨k + 1, _, by omega, by go_num, Lib.hid (HF.out.more HB2.out hlt HN.out hkz HO.out), (hB.trans (HB2.out.mono hB.size)).setCell (p := ⟨w.heap.size, k, none⟩) (Nat.le_refl _) _⟩
      case measure => simp [intOf]; omega
    · obtain rfl : k = n := by omega
      go_wp2
      go_ret
      exact ⟨_, vals, rfl, HF.out.done HN.out (Nat.le_refl _), hB⟩

set_option maxRecDepth 100000 in
set_option maxHeartbeats 2000000 in
theorem eqTermSS_yes (a b : Option Addr) (c d n : Nat) (rows : List (List Tm)) (w : World) (h1 : IsTT w a n rows) (h2 : IsTT w b n rows) :
    Calls Try.prog 46 #[.slice a n c, .slice b n d] w fun e w' => e = .returned (.bool true) ∧ Below w.heap.size w w' := by
  have hm := h1.max
  have HN := Lib.hid h1.len
  have H1 := Lib.hid h1
  have H2 := Lib.hid h2
  have hmx : Try.prog.follows .mixedOrders = true := by kernel_rfl
  clear h1 h2
  unfold maxLen at hm
  go_enter Try.func46, Try.ntmps46
  go_wp2
  go_loopw [5] (fun i wr => ∃ k : Nat, k ≤ n ∧ i = .int .i64 k ∧ Below w.heap.size w wr) (fun i _ => n - (intOf i).toNat)
  case atStart => exact ⟨0, Nat.zero_le _, rfl, Below.refl _ _⟩
  case round =>
    obtain ⟨k, hk, rfl, hB⟩ := hrel
    by_cases hlt : k < n
    · have hkz : k < rows.length := by rw [HN.out]; exact hlt
      obtain ⟨x, rfl, hxb, hx⟩ := H1.out.at_ (by omega)
      obtain ⟨y, rfl, hyb, hy⟩ := H2.out.at_ (by omega)
      obtain ⟨ai, ci, hc, hI⟩ := hx k hkz
      obtain ⟨bi, di, he, hJ⟩ := hy k hkz
      have hc0 := (hB.cell (p := x.add k) (by rw [addr_add_block]; exact hxb)).trans hc
      have he0 := (hB.cell (p := y.add k) (by rw [addr_add_block]; exact hyb)).trans he
      have v0 := BelowBy.cell (w := wr) (by rw [addr_add_block]; exact Nat.lt_of_lt_of_le hxb hB.size) hc0
      have v1 := BelowBy.cell (w := wr) (by rw [addr_add_block]; exact Nat.lt_of_lt_of_le hyb hB.size) he0
      obtain ⟨r, hr⟩ : ∃ r, rows[k].length = r := ⟨_, rfl⟩
      rw [hr] at hI hJ v0 v1
      have HT : Hid (∀ p : BelowBy wr, Calls Try.prog 19 #[.slice ai r ci, .slice bi r di] p.world fun e w' => e = .returned (.bool true) ∧ Below p.world.heap.size p.world w') :=
        Lib.hid fun p => eqTermS_yes _ _ _ _ _ _ _ ((hI.below hB).below p.below) ((hJ.below hB).below p.below)
      clear hx hy hc he hc0 he0 hI hJ hr
      go_wp2
      refine wp_region_below hmx (by kernel_rfl) ?_
      repeat (((with_reducible refine wpQuiet_step (fun K hK => ?_)); go_simp; first | ((with_reducible refine hK _ ?_); clear hK K) | (refine (if_neg (by decide)).mpr ?_; (with_reducible refine hK _ ?_); clear hK K) | (apply Exists.intro; (with_reducible refine ⟨fun _ => ?_, hK _ ?_⟩); (go_at_call 19; exact Calls.bel (HT.out _)); clear hK K)))
      with_reducible refine wpQuiet_nil ?_
      rintro _ ⟨⟨W, hW⟩, rfl⟩
      clear v0 v1
      go_wp2
      go_roundw
      case rel => exact ⟨k + 1, by omega, by go_num, hB.trans (hW.mono hB.size)⟩
      case measure => simp [intOf]; omega
    · go_wp2
      go_ret
      exact ⟨rfl, hB⟩

/-! ### Marks -/
def marksTT (k : Nat) : List (List Tm) → List (List Tm)
  | [] => []
  | r :: rs => marksT k r.length :: marksTT (k + 2 * r.length) rs
theorem marksTT_len : ∀ (rs : List (List Tm)) (k : Nat), (marksTT k rs).length = rs.length
  | [], _ => rfl
  | r :: rs, k => by rw [marksTT, List.length_cons, marksTT_len rs, List.length_cons]
theorem marksTT_get : ∀ (rs : List (List Tm)) (k i : Nat) (h : i < rs.length), (marksTT k rs)[i]'(by rw [marksTT_len]; exact h) = marksT (k + 2 * total (rs.take i)) (rs[i]).length
  | r :: rs, k, 0, _ => by simp [marksTT, total]
  | r :: rs, k, i + 1, h => by
    have ih := marksTT_get rs (k + 2 * r.length) i (by simpa using h)
    simp only [marksTT, List.getElem_cons_succ, List.take_succ_cons]
    rw [ih]
    congr 1
    unfold total
    simp only [List.map_cons, List.sum_cons]
    omega
/-- The first j rows are marked. -/
def halfTT (k j : Nat) (rows : List (List Tm)) : List (List Tm) := (marksTT k rows).take j ++ rows.drop j
theorem halfTT_len (k j : Nat) (rows : List (List Tm)) : (halfTT k j rows).length = rows.length := by
  unfold halfTT; rw [List.length_append, List.length_take, marksTT_len, List.length_drop]; omega
theorem halfTT_get (k j : Nat) (rows : List (List Tm)) (i : Nat) (h : i < rows.length) : (halfTT k j rows)[i]'(by rw [halfTT_len]; exact h) = if i < j then (marksTT k rows)[i]'(by rw [marksTT_len]; exact h) else rows[i] := by
  have hl : ((marksTT k rows).take j).length = min j rows.length := by rw [List.length_take, marksTT_len]
  unfold halfTT
  by_cases hij : i < j
  · rw [if_pos hij, List.getElem_append_left (by rw [hl]; omega), List.getElem_take]
  · rw [if_neg hij, List.getElem_append_right (by rw [hl]; omega), List.getElem_drop]
    congr 1
    rw [hl]; omega

theorem OwnTT.marked {lo k j : Nat} {w w2 : World} {v u : Value} {vals : List Value} {rows : List (List Tm)} (h : OwnTT lo w v vals (halfTT k j rows)) (hj : j < rows.length) (hu : vals[j]? = some u) (hg : w.grownBy w2 u.ownBlock) (ho : OwnT lo w2 u (marksT (k + 2 * total (rows.take j)) rows[j].length)) :
    OwnTT lo w2 v vals (halfTT k (j + 1) rows) := by
  refine ⟨?_, fun i hi x hx => ?_, h.apart, h.head⟩
  · have h1 := h.row
    rw [halfTT_len] at h1 ⊢
    exact ownsRow_touched h1 fun b hb hl => hg.block b hl fun e => h.head j u b hu hb e.symm
  · have hi' : i < rows.length := by rw [halfTT_len] at hi; exact hi
    rw [halfTT_get k (j + 1) rows i hi']
    by_cases e : i = j
    · subst e
      rw [hu] at hx
      cases hx
      rw [if_pos (by omega), marksTT_get rows k i hi']
      exact ho
    · have h2 := h.each i (by rw [halfTT_len]; exact hi') x hx
      rw [halfTT_get k j rows i hi'] at h2
      have h3 : OwnT lo w2 x (if i < j then (marksTT k rows)[i]'(by rw [marksTT_len]; exact hi') else rows[i]) := ownsRow_touched h2 fun b hb hl => hg.block b hl fun e2 => h.apart i j x u b hx hu e hb e2.symm
      by_cases hij : i < j
      · rw [if_pos hij] at h3; rw [if_pos (by omega)]; exact h3
      · rw [if_neg hij] at h3; rw [if_neg (by omega)]; exact h3

set_option maxRecDepth 100000 in
set_option maxHeartbeats 2000000 in
theorem markTermSS_any (lo k : Nat) (v : Value) (vals : List Value) (rows : List (List Tm)) (w : World) (h : OwnTT lo w v vals rows) (hn : rows.length + total rows ≤ 1048576) (hk0 : 0 < k) (hk : k + 2 * total rows ≤ 10000000) :
    Calls Try.prog 47 #[v, .int .i64 k] w fun e w' => e = .returned (.int .i64 ((k + 2 * total rows : Nat) : Int)) ∧ OwnTT lo w' v vals (marksTT k rows) ∧ Touched (InRows vals) w w' := by
  obtain ⟨n, hl⟩ : ∃ n, rows.length = n := ⟨_, rfl⟩
  obtain ⟨a, cap, rfl⟩ : ∃ a cap, v = .slice a n cap := by
    rcases h.row.2 with ⟨rfl, h0⟩ | ⟨g, cap, cur, rfl, _⟩
    · exact ⟨none, 0, by rw [← hl, h0]⟩
    · exact ⟨_, _, by rw [hl]⟩
  have HH := Lib.hid h
  have HL := Lib.hid hl
  rw [hl] at hn
  clear h hl
  go_enter Try.func47, Try.ntmps47
  go_wp2
  go_loopw [1, 5] (fun q i wr => ∃ j m : Nat, j ≤ n ∧ q = .int .i64 m ∧ i = .int .i64 j ∧ Hid (m = k + 2 * total (rows.take j)) ∧ Hid (OwnTT lo wr (.slice a n cap) vals (halfTT k j rows)) ∧ Hid (Touched (InRows vals) w wr)) (fun _ i _ => n - (intOf i).toNat)
  case atStart => exact ⟨0, k, Nat.zero_le _, rfl, rfl, Lib.hid (by simp [total]), Lib.hid (by simpa [halfTT] using HH.out), Lib.hid (Touched.refl _ _)⟩
  case round =>
    obtain ⟨j, m, hj, rfl, rfl, HM, HR, HB⟩ := hrel
    have hmb : m ≤ 10000000 := by have := HM.out; have := total_take_le rows j; omega
    have hm0 : 0 < m := by have := HM.out; omega
    by_cases hlt : j < n
    · have hjr : j < rows.length := by rw [HL.out]; exact hlt
      obtain ⟨g, rfl, hg⟩ : ∃ g, a = some ⟨g, 0, none⟩ ∧ lo ≤ g := by
        rcases HR.out.row.2 with ⟨_, e1⟩ | ⟨g, cap1, cur, e0, hg, _⟩
        · rw [halfTT_len] at e1; omega
        · simp only [Value.slice.injEq] at e0; exact ⟨g, e0.1, hg⟩
      have hrow := HR.out.row
      rw [halfTT_len, HL.out] at hrow
      obtain ⟨u, hu⟩ := HR.out.val (i := j) (by rw [halfTT_len]; exact hjr)
      have hcell := hrow.cells rfl j u hu
      rw [show (⟨g, 0, none⟩ : Addr).add j = ⟨g, j, none⟩ by unfold Addr.add; split <;> simp_all] at hcell
      have hown := HR.out.each j (by rw [halfTT_len]; exact hjr) u hu
      rw [halfTT_get k j rows j hjr, if_neg (Nat.lt_irrefl _)] at hown
      have htg := total_get rows j hjr
      have hsucc := total_succ rows j hjr
      obtain ⟨r, hr⟩ : ∃ r, rows[j].length = r := ⟨_, rfl⟩
      rw [hr] at htg hsucc
      have hmr : m + 2 * r ≤ 10000000 := by have := HM.out; omega
      have hmk := markTermS_any lo m u rows[j] wr hown (by rw [hr]; omega) (by omega) (by omega)
      rw [hr] at hmk
      have HMK := Lib.hid hmk
      have HU := Lib.hid hu
      have HRr := Lib.hid hr
      have HSu := Lib.hid hsucc
      clear hrow hu hown hmk hr hsucc
      go_wp2_with fail
      refine HMK.out.mono ?_
      rintro e w2 ⟨rfl, ho2, hg2⟩
      have HO2 := Lib.hid ho2
      have HG2 := Lib.hid hg2
      clear ho2 hg2 hcell
      go_wp2
      go_roundw
      case rel =>
        refine ⟨j + 1, m + 2 * r, by omega, by go_num, by go_num, Lib.hid (by rw [HSu.out, HM.out]; omega), Lib.hid (HR.out.marked hjr HU.out HG2.out ?_), Lib.hid (HB.out.grown HG2.out fun b e => ⟨j, u, HU.out, e⟩)⟩
        rw [HRr.out, ← HM.out]
        exact HO2.out
      case measure => simp [intOf]; omega
    · obtain rfl : j = n := by omega
      have ht : rows.take j = rows := List.take_of_length_le (by rw [HL.out]; exact Nat.le_refl _)
      have hm := HM.out
      rw [ht] at hm
      have HM2 := Lib.hid hm
      clear hm
      have hh := HR.out
      unfold halfTT at hh
      rw [List.take_of_length_le (by rw [marksTT_len, HL.out]; exact Nat.le_refl _), List.drop_of_length_le (by rw [HL.out]; exact Nat.le_refl _), List.append_nil] at hh
      have HHH := Lib.hid hh
      clear hh ht
      go_wp2
      go_ret
      exact ⟨ret_int (by rw [HM2.out]), HHH.out, HB.out⟩

set_option maxRecDepth 100000 in
set_option maxHeartbeats 2000000 in
theorem heldTermSS_any (k : Nat) (a : Option Addr) (cap n : Nat) (rows : List (List Tm)) (w : World) (hs : IsTT w a n (marksTT k rows)) (hk0 : 0 < k) (hk : k + 2 * total rows ≤ 1000000) :
    Calls Try.prog 50 #[.slice a n cap, .int .i64 k] w fun e w' => e = .returned (.int .i64 ((k + 2 * total rows : Nat) : Int)) ∧ Below w.heap.size w w' := by
  have hmx := hs.max
  have hl := hs.len
  rw [marksTT_len] at hl
  have HL := Lib.hid hl
  have HS := Lib.hid hs
  unfold maxLen at hmx
  clear hs hl
  go_enter Try.func50, Try.ntmps50
  go_wp2
  go_loopw [1, 5] (fun q i wr => ∃ j m : Nat, j ≤ n ∧ q = .int .i64 m ∧ i = .int .i64 j ∧ Hid (m = k + 2 * total (rows.take j)) ∧ Below w.heap.size w wr) (fun _ i _ => n - (intOf i).toNat)
  case atStart => exact ⟨0, k, Nat.zero_le _, rfl, rfl, Lib.hid (by simp [total]), Below.refl _ _⟩
  case round =>
    obtain ⟨j, m, hj, rfl, rfl, HM, hB⟩ := hrel
    have hmb : m ≤ 1000000 := by have := HM.out; have := total_take_le rows j; omega
    have hm0 : 0 < m := by have := HM.out; omega
    by_cases hlt : j < n
    · have hjr : j < rows.length := by rw [HL.out]; exact hlt
      obtain ⟨x, rfl, hxb, hx⟩ := HS.out.at_ (by omega)
      obtain ⟨ai, ci, hc, hI⟩ := hx j (by rw [marksTT_len]; exact hjr)
      have hc0 := (hB.cell (p := x.add j) (by rw [addr_add_block]; exact hxb)).trans hc
      have hI2 := hI.below hB
      rw [marksTT_get rows k j hjr] at hc0 hI2
      rw [marksT_len] at hc0 hI2
      have htg := total_get rows j hjr
      have hsucc := total_succ rows j hjr
      obtain ⟨r, hr⟩ : ∃ r, rows[j].length = r := ⟨_, rfl⟩
      rw [hr] at htg hsucc hc0 hI2
      rw [← HM.out] at hI2
      have hmr : m + 2 * r ≤ 1000000 := by have := HM.out; omega
      have HI := Lib.hid hI2
      have HSu := Lib.hid hsucc
      clear hx hc hI hI2 hr hsucc
      go_wp2_with fail
      refine (heldTermS_any m ai ci r _ HI.out (by omega) (by omega) (by omega)).mono ?_
      rintro e w2 ⟨rfl, hb2⟩
      have hnn : ¬ ((m + 2 * r : Nat) : Int) < 0 := by omega
      obtain ⟨m2, hm2⟩ : ∃ m2, m + 2 * r = m2 := ⟨_, rfl⟩
      rw [hm2] at hnn ⊢
      have hdn : decide ((m2 : Int) < 0) = false := decide_eq_false hnn
      have HM2 := Lib.hid hm2
      clear hm2
      go_wp2
      go_roundw
      case rel => exact ⟨j + 1, m2, by omega, rfl, by go_num, Lib.hid (by rw [HSu.out, ← HM2.out, HM.out]; omega), hB.trans (hb2.mono hB.size)⟩
      case measure => simp [intOf]; omega
    · obtain rfl : j = n := by omega
      have ht : rows.take j = rows := List.take_of_length_le (by rw [HL.out]; exact Nat.le_refl _)
      have hm := HM.out
      rw [ht] at hm
      have HM2 := Lib.hid hm
      clear hm ht
      go_wp2
      go_ret
      exact ⟨ret_int (by rw [HM2.out]), hB⟩

end Go.Proofs.Ytidmlppbmcphbaa

/- The contracts of both 'FoxAll'. -/

namespace Go.Proofs.Ytidmlppbmcphbaa
open Go.RowKit Go.Shelf

/-- All four derivatives of a word. -/
def foxRow (s : ByteArray) (g : Nat) : List Tm := canonT (foxL g 1 s.data.toList)
def foxRows (s : ByteArray) : List (List Tm) := (List.range 4).map (foxRow s)
theorem foxRows_len (s : ByteArray) : (foxRows s).length = 4 := by simp [foxRows]
theorem foxRows_get (s : ByteArray) (g : Nat) (h : g < (foxRows s).length) : (foxRows s)[g] = foxRow s g := by simp [foxRows]
theorem foxRow_len (s : ByteArray) (g : Nat) (hs : s.data.toList.length ≤ 60) : (foxRow s g).length ≤ 60 := by
  have h1 := fold_len (foxL g 1 s.data.toList) []
  have h2 := foxN_len g 1 s.data.toList s.data.toList.length
  unfold foxRow canonT foxL at *
  simp only [List.length_nil] at h1
  omega
theorem foxRow_small (s : ByteArray) (g : Nat) (h : wordB s.data.toList = true) : SmallT (foxRow s g) := by
  obtain ⟨h1, h2⟩ := canon_len_words (fox_tw (g := (g : Int)) h)
  exact ⟨by unfold foxRow maxLen; omega, fun t ht => by have := termB_iff (h2 t ht); unfold maxLen; omega⟩
theorem foxRows_total (s : ByteArray) (hs : s.data.toList.length ≤ 60) : total (foxRows s) ≤ 240 := by
  have h0 := foxRow_len s 0 hs
  have h1 := foxRow_len s 1 hs
  have h2 := foxRow_len s 2 hs
  have h3 := foxRow_len s 3 hs
  simp only [foxRows, total, List.range, List.range.loop, List.map_cons, List.map_nil, List.sum_cons, List.sum_nil]
  omega

/-- Rows that are put one behind the other. -/
structure Grows (lo : Nat) (w : World) (v : Value) (vals : List Value) (k : Nat) (rows : List (List Tm)) : Prop where
  row : w.ownsRow lo TT 1 v k vals
  each : ∀ (j : Nat) (h : j < rows.length), j < k → ∃ u, vals[j]? = some u ∧ OwnT lo w u rows[j]
  head : ∀ (i : Nat) (u : Value) (b : Nat), vals[i]? = some u → v.ownBlock = some b → u.ownBlock = some b → False
theorem Grows.below {lo : Nat} {w w' : World} {v : Value} {vals : List Value} {k : Nat} {rows : List (List Tm)} (h : Grows lo w v vals k rows) (hb : Below w.heap.size w w') : Grows lo w' v vals k rows :=
  ⟨ownsRow_past h.row hb, fun j hj hk => by obtain ⟨u, h1, h2⟩ := h.each j hj hk; exact ⟨u, h1, h2.below hb⟩, h.head⟩
theorem Grows.more {lo : Nat} {w w1 w2 : World} {v u : Value} {vals : List Value} {k g cap : Nat} {rows : List (List Tm)} (h : Grows lo w v vals k rows) (hb : Below w.heap.size w w1) (hk : k < rows.length) (hlo : lo ≤ w.heap.size) (ho : OwnT w.heap.size w1 u rows[k])
    (hr : w2.ownsRow lo TT 1 (.slice (some ⟨g, 0, none⟩) (k + 1) cap) (k + 1) (vals ++ [u])) (hg : w1.grownBy w2 v.ownBlock) (hat : v.ownBlock = some g ∨ w1.heap.size ≤ g) (hkr : k ≤ rows.length) :
    Grows lo w2 (.slice (some ⟨g, 0, none⟩) (k + 1) cap) (vals ++ [u]) (k + 1) rows := by
  have hvl := h.row.1
  rw [Nat.mul_one] at hvl
  have hlow := ownLow h.row
  have hvb : ∀ b, v.ownBlock = some b → b < w.heap.size := fun b e => (h.row.lt b e).2
  refine ⟨hr, fun j hj hjk => ?_, fun i x b hx hv e => ?_⟩
  · by_cases e : j = k
    · subst e
      refine ⟨u, by rw [List.getElem?_append_right (by omega), hvl]; simp, ?_⟩
      refine OwnT.mono (ownsRow_touched ho fun b hb2 hl => hg.block b hl fun e2 => ?_) hlo
      have p1 := (ho.lt b hb2).1
      have p2 := hvb b e2.symm
      omega
    · obtain ⟨x, h1, h2⟩ := h.each j hj (by omega)
      refine ⟨x, by rw [List.getElem?_append_left (by omega)]; exact h1, ownsRow_touched (h2.below hb) fun b hb2 hl => hg.block b hl fun e2 => h.head j x b h1 e2.symm hb2⟩
  · simp only [Value.ownBlock, Option.some.injEq] at hv
    subst hv
    by_cases hik : i < k
    · rw [List.getElem?_append_left (by omega)] at hx
      rcases hat with h1 | h1
      · exact h.head i x _ hx h1 e
      · obtain ⟨x', h2, h3⟩ := h.each i (by omega) hik
        rw [h2] at hx
        cases hx
        have := (h3.lt _ e).2
        have := hb.size
        omega
    · have hi : i = k := by have := (List.getElem?_eq_some_iff.1 hx).1; simp at this; omega
      subst hi
      rw [List.getElem?_append_right (by omega), hvl] at hx
      simp at hx
      subst hx
      have p1 := ho.lt _ e
      rcases hat with h1 | h1
      · have := hvb _ h1; omega
      · omega
theorem Grows.isTT {lo : Nat} {w : World} {v : Value} {vals : List Value} {n : Nat} {rows : List (List Tm)} (h : Grows lo w v vals n rows) (hl : rows.length = n) (hs : ∀ r ∈ rows, SmallT r) (hn : n ≤ maxLen) : ∃ a cap, v = .slice a n cap ∧ IsTT w a n rows := by
  rcases h.row.2 with ⟨rfl, h0⟩ | ⟨g, cap, cur, rfl, hb, hg, h3⟩
  · exact ⟨none, 0, by rw [h0], hl, hn, fun hp => absurd hp (by omega)⟩
  · refine ⟨_, cap, rfl, hl, hn, fun _ => ⟨_, rfl, (Array.getElem?_eq_some_iff.1 hg).1, fun i hi => ?_⟩⟩
    obtain ⟨u, hu, ho⟩ := h.each i hi (by omega)
    obtain ⟨ai, ci, rfl, hI⟩ := ho.isTerms (hs _ (List.getElem_mem hi))
    exact ⟨ai, ci, h.row.cells rfl i _ hu, hI⟩

/-- What a function of the model hands back: lists of lists. -/
def SAll (w : World) (b : Bool) (n : Nat) (rows : List (List Tm)) (e : Ending) (w' : World) : Prop := (∃ a c, e = .returned (.tuple #[.slice a n c, .bool b]) ∧ IsTT w' a n rows) ∧ Below w.heap.size w w'
def IAll (w : World) (b : Bool) (rows : List (List Tm)) (e : Ending) (w' : World) : Prop := (∃ v vals, e = .returned (.tuple #[v, .bool b]) ∧ OwnTT w.heap.size w' v vals rows) ∧ Below w.heap.size w w'

set_option maxRecDepth 100000 in
set_option maxHeartbeats 2000000 in
theorem sFoxAll_no (s : ByteArray) (w : World) (hs : s.size ≤ maxLen) (hb : wordB s.data.toList = false) :
    Calls Try.prog 48 #[.string s] w (SAll w false 0 []) := by
  have HW := Lib.hid hb
  clear hb
  have hba : Below w.heap.size w (w.alloc (.cells #[] TT)) := (Below.refl _ _).alloc (Nat.le_refl _) _
  have HBA := Lib.hid hba
  clear hba
  go_enter Try.func48, Try.ntmps48
  go_wp2_with fail
  refine (sWordIn_is _ false _ hs HW.out).mono ?_
  rintro e w1 ⟨rfl, hb1⟩
  have HB1 := Lib.hid (HBA.out.trans (hb1.mono HBA.out.size))
  clear hb1
  go_wp2
  go_ret2
  exact ⟨⟨_, _, rfl, IsTT.none _ _⟩, HB1.out⟩

set_option maxRecDepth 100000 in
set_option maxHeartbeats 4000000 in
theorem sFoxAll_yes (s : ByteArray) (w : World) (hs : s.size ≤ maxLen) (hb : wordB s.data.toList = true) :
    Calls Try.prog 48 #[.string s] w (SAll w true 4 (foxRows s)) := by
  obtain ⟨i0, hi, hz0, hz1, hz2⟩ := info_parts infoTerms
  obtain ⟨hw1, hw2, _⟩ := (wordB_iff _).1 hb
  have HF : Hid (∀ (g : Nat) (W : World), Calls Try.prog 78 #[.string s, .int .i64 g] W fun e w' => (∃ v, e = .returned v ∧ Acc W.heap.size w' v (foxRow s g) 60 60) ∧ Below W.heap.size W w') :=
    Lib.hid fun g W => l3Fox_any s g W (by simpa using hw1) hw2
  have HW := Lib.hid hb
  have HSm := Lib.hid (fun g => foxRow_small s g hb)
  have hba : Below w.heap.size w (w.alloc (.cells #[] TT)) := (Below.refl _ _).alloc (Nat.le_refl _) _
  have HBA := Lib.hid hba
  have hmade := World.ownsRow_made (base := w.heap.size) (e := TT) (size := 1) w #[] 0 (Nat.le_refl _) (Nat.zero_le _) rfl
  have HMd := Lib.hid hmade
  clear hba hb hw1 hw2 hmade
  go_enter Try.func48, Try.ntmps48
  go_wp2_with fail
  refine (sWordIn_is _ true _ hs HW.out).mono ?_
  rintro e w1 ⟨rfl, hb1⟩
  have HB1 := Lib.hid (HBA.out.trans (hb1.mono HBA.out.size))
  have HG1 : Hid (Grows w.heap.size w1 (.slice (some ⟨w.heap.size, 0, none⟩) 0 0) [] 0 (foxRows s)) := Lib.hid ⟨ownsRow_past HMd.out hb1, fun j _ h => absurd h (Nat.not_lt_zero _), fun i u b h => by simp at h⟩
  clear hb1
  go_wp2_with fail
  go_loopw [4, 5] (fun v i wr => ∃ (k : Nat) (vals : List Value), k ≤ 4 ∧ i = .int .i64 k ∧ Hid (Grows w.heap.size wr v vals k (foxRows s)) ∧ Below w.heap.size w wr) (fun _ i _ => 4 - (intOf i).toNat)
  case atStart => exact ⟨0, _, Nat.zero_le _, rfl, HG1, HB1.out⟩
  case round =>
    obtain ⟨k, vals, hk, rfl, HG, hB⟩ := hrel
    by_cases hlt : k < 4
    · have hkr : k < (foxRows s).length := by rw [foxRows_len]; exact hlt
      go_wp2_with fail
      refine (HF.out k _).mono ?_
      rintro e w3 ⟨⟨u, rfl, ho⟩, hb3⟩
      have HO : Hid (OwnT wr.heap.size w3 u (foxRows s)[k]) := Lib.hid (by rw [foxRows_get]; exact ho.own.own)
      have HB3 := Lib.hid hb3
      have hs3 : w.heap.size ≤ w3.heap.size := Nat.le_trans hB.size hb3.size
      have HR3 := Lib.hid (ownsRow_past HG.out.row hb3)
      obtain ⟨au, lu, cu, rfl⟩ : ∃ a l c, u = .slice a l c := by
        rcases HO.out.2 with ⟨rfl, _⟩ | ⟨g, cap, cur, rfl, _⟩
        · exact ⟨_, _, _, rfl⟩
        · exact ⟨_, _, _, rfl⟩
      clear ho hb3
      go_wp2_with (at_builtin; refine wpList_append_lies _ rfl _ _ _ rfl w.heap.size TT i0 _ 1 24 Try.underlying49 hi hz0 hz1 hz2 rfl (by omega) u4 k vals rfl (HR3.out.alloc _) ⟨w3.heap.size, 0, none⟩ 1 1 [.slice au lu cu] rfl rfl (World.news_of_block (cs := #[.slice au lu cu]) (t := TT) (fr := (0, 0)) (heap_alloc_new w3 _)) (by simp [Value.oneCell']) (by omega) (by unfold maxLen; omega) (by omega) (by simp; omega) (w3.heap.size + 1) (by simp) ?_; intro gg cap1 w7 hown7 hgrow7 hat hlt7)
      have hB7 : Below w.heap.size w w7 := (hB.trans (HB3.out.mono hB.size)).trans (((Below.refl w.heap.size w3).alloc hs3 _).grown hgrow7 (by simp; omega) (ownsRow_low HR3.out))
      have hba : Below wr.heap.size wr (w3.alloc (.cells #[.slice au lu cu] TT)) := HB3.out.alloc HB3.out.size _
      have hat2 : u4.ownBlock = some gg ∨ (w3.alloc (.cells #[.slice au lu cu] TT)).heap.size ≤ gg := by
        rcases hat with h | h
        · exact .inl h
        · exact .inr (by simp; omega)
      have HG7 := Lib.hid (HG.out.more hba hkr hB.size (HO.out.below ((Below.refl _ _).alloc (Nat.le_refl _) _)) hown7 hgrow7 hat2 (Nat.le_of_lt hkr))
      clear hown7 hgrow7 hat hlt7 hba hat2
      go_wp2
      go_roundw
      case rel => exact ⟨k + 1, _, by omega, by go_num, HG7, hB7⟩
      case measure => simp [intOf]; omega
    · obtain rfl : k = 4 := by omega
      obtain ⟨a, cap, rfl, hI⟩ := HG.out.isTT (foxRows_len s) (fun r hr => by obtain ⟨g, _, rfl⟩ := List.mem_map.1 hr; exact HSm.out g) (by unfold maxLen; omega)
      have HI := Lib.hid hI
      clear hI
      go_wp2
      go_ret2
      exact ⟨⟨_, _, rfl, HI.out⟩, hB⟩

set_option maxRecDepth 100000 in
set_option maxHeartbeats 4000000 in
theorem iFoxAll_any (s : ByteArray) (b : Bool) (w : World) (hs : s.size ≤ maxLen) (hb : wordB s.data.toList = b) :
    Calls Try.prog 49 #[.string s] w (IAll w b (cond b (foxRows s) [])) := by
  obtain ⟨i0, hi, hz0, hz1, hz2⟩ := info_parts infoTerms
  have HF : Hid (∀ (g : Nat) (W : World), g < 4 → Calls Try.prog 39 #[.string s, .int .i64 g] W (ITold W b (foxRow s g))) :=
    Lib.hid fun g W hg => iFoxOf_any s g b W hs (by unfold foxOfB inR; rw [hb, decide_eq_true (by omega : (0 : Int) ≤ (g : Int)), decide_eq_true (by omega : (g : Int) ≤ 3)]; cases b <;> rfl)
  clear hb
  go_enter Try.func49, Try.ntmps49
  go_wp2_with (at_make; refine wpList_make_full _ rfl _ _ 49 rfl w.heap.size TT i0 (.slice none 0 0) 1 Try.underlying49 hi hz0 hz1 .i64 .i64 _ _ 4 rfl rfl rfl rfl (by rw [hz2]; decide) (by unfold maxLen; decide) (Nat.le_refl _) ?_; intro w1 hrow hgrow)
  have hB1 : Below w.heap.size w w1 := (Below.refl _ _).grown hgrow (Nat.le_refl _) (fun k e => by cases e)
  have HF1 : Hid (Filling w.heap.size w.heap.size w1 _ 4 0 (foxRows s)) := Lib.hid (Filling.start hrow)
  clear hrow hgrow
  go_loopw [11] (fun i wr => ∃ (k : Nat) (vals : List Value), k ≤ 4 ∧ i = .int .i64 k ∧ Hid (k = 0 ∨ b = true) ∧ Hid (Filling w.heap.size w.heap.size wr vals 4 k (foxRows s)) ∧ Below w.heap.size w wr) (fun i _ => 4 - (intOf i).toNat)
  case atStart => exact ⟨0, _, Nat.zero_le _, rfl, Lib.hid (.inl rfl), HF1, hB1⟩
  case round =>
    obtain ⟨k, vals, hk, rfl, HK, HFi, hB⟩ := hrel
    by_cases hlt : k < 4
    · have hkr : k < (foxRows s).length := by rw [foxRows_len]; exact hlt
      go_wp2_with fail
      refine (HF.out k _ hlt).mono ?_
      rintro e w2 ⟨⟨u, rfl, ho⟩, hb2⟩
      have HO0 := Lib.hid ho
      have HB2 := Lib.hid hb2
      clear ho hb2
      cases b with
      | false =>
        go_wp2
        go_ret2
        exact ⟨⟨_, [], rfl, ⟨⟨rfl, .inl ⟨rfl, rfl⟩⟩, fun i hi => absurd hi (Nat.not_lt_zero _), fun i j u x b h => by simp at h, fun i u b h => by simp at h⟩⟩, hB.trans (HB2.out.mono hB.size)⟩
      | true =>
        have HO : Hid (OwnT wr.heap.size w2 u (foxRows s)[k]) := Lib.hid (by rw [foxRows_get]; exact HO0.out)
        obtain ⟨au, lu, cu, rfl⟩ : ∃ a l c, u = .slice a l c := by
          rcases HO.out.2 with ⟨rfl, _⟩ | ⟨g, cap, cur, rfl, _⟩
          · exact ⟨_, _, _, rfl⟩
          · exact ⟨_, _, _, rfl⟩
        have HF2 := HFi.out.below HB2.out
        have hd : ∃ x, w2.cell? ⟨w.heap.size, k, none⟩ = some x := by
          have hl := HF2.row.1
          rw [Nat.mul_one] at hl
          rw [HF2.row.cellAt k (by omega)]; exact ⟨_, List.getElem?_eq_getElem (by omega)⟩
        obtain ⟨x, hx⟩ := hd
        have hfr := HF2.row.frozenAt k
        clear HF2 HO0
        go_wp2
        go_roundw
        case rel =>
          exact ⟨k + 1, _, by omega, by go_num, Lib.hid (by right; trivial), Lib.hid (HFi.out.more HB2.out hlt (foxRows_len s) hkr HO.out), (hB.trans (HB2.out.mono hB.size)).setCell (p := ⟨w.heap.size, k, none⟩) (Nat.le_refl _) _⟩
        case measure => simp [intOf]; omega
    · obtain rfl : k = 4 := by omega
      obtain rfl : b = true := by rcases HK.out with h | h; · omega
                                  · exact h
      go_wp2
      go_ret2
      exact ⟨⟨_, vals, rfl, HFi.out.done (foxRows_len s) (Nat.le_refl _)⟩, hB⟩

end Go.Proofs.Ytidmlppbmcphbaa

/- The contracts of both 'FoxBack'. -/

namespace Go.Proofs.Ytidmlppbmcphbaa
open Go.RowKit Go.Shelf

def genS (g : Nat) : ByteArray := bstr [UInt8.ofNat (97 + g)]
/-- A generator less 1. -/
def lessT (g : Nat) : List Tm := [⟨-1, { data := #[] }⟩, ⟨1, genS g⟩]
theorem less_sum (g : Nat) (h : g < 4) : sumB (lessT g) = true := by
  have : g = 0 ∨ g = 1 ∨ g = 2 ∨ g = 3 := by omega
  rcases this with rfl | rfl | rfl | rfl <;> decide +kernel
theorem isTerms_less (w : World) (g : Nat) : IsTerms (w.alloc (.cells #[.int .i64 (-1), .string { data := #[] }, .int .i64 1, .string (genS g)] 62)) (some ⟨w.heap.size, 0, none⟩) 2 (lessT g) :=
  ⟨rfl, by unfold maxLen; omega, fun _ => ⟨_, rfl, by simp, fun i hi => by
    have ha : ∀ j, (⟨w.heap.size, 0, none⟩ : Addr).add j = ⟨w.heap.size, j, none⟩ := fun j => by unfold Addr.add; split <;> simp_all
    rw [ha, ha]
    match i, hi with
    | 0, _ => exact ⟨(World.cell?_alloc_at _ _ _ _ (by simp)).trans rfl, (World.cell?_alloc_at _ _ _ _ (by simp)).trans rfl⟩
    | 1, _ => exact ⟨(World.cell?_alloc_at _ _ _ _ (by simp)).trans rfl, (World.cell?_alloc_at _ _ _ _ (by simp)).trans rfl⟩⟩,
    fun t ht => by
      rcases List.mem_cons.1 ht with rfl | ht
      · exact ⟨Nat.zero_le _, by show (-9223372036854775808 : Int) ≤ -1; omega, by show (-1 : Int) ≤ 9223372036854775807; omega⟩
      · obtain rfl := List.mem_singleton.1 ht
        exact ⟨by show (genS g).size ≤ _; unfold genS maxLen; rw [bstr_size]; simp, by show (-9223372036854775808 : Int) ≤ 1; omega, by show (1 : Int) ≤ 9223372036854775807; omega⟩⟩

def backRow (rows : List (List Tm)) (g : Nat) : List Tm := canonT (pairsT (rows.getD g []) (lessT g))
def backN (rows : List (List Tm)) (k : Nat) : List Tm := (List.range k).flatMap (backRow rows)
theorem backN_succ (rows : List (List Tm)) (k : Nat) : backN rows (k + 1) = backN rows k ++ backRow rows k := by
  unfold backN; rw [List.range_succ, List.flatMap_append]; simp
def prodAt (rows : List (List Tm)) (g : Nat) : Bool := prodB (rows.getD g []) (lessT g)
/-- What FoxBack answers. -/
def backB (rows : List (List Tm)) : Bool := decide (rows.length = 4) && ((List.range 4).all (prodAt rows) && twB (canonT (backN rows 4)))
theorem back_false {rows : List (List Tm)} {k : Nat} (hk : k < 4) (h : prodAt rows k = false) : (List.range 4).all (prodAt rows) = false := List.all_eq_false.2 ⟨k, List.mem_range.2 hk, by simp [h]⟩
theorem back_true {rows : List (List Tm)} (h : ∀ g, g < 4 → prodAt rows g = true) : (List.range 4).all (prodAt rows) = true := List.all_eq_true.2 fun g hg => h g (List.mem_range.1 hg)
theorem back_row {rows : List (List Tm)} {g : Nat} (h : prodAt rows g = true) : (backRow rows g).length ≤ 300 ∧ ∀ t ∈ backRow rows g, termB t = true := canon_len_words (prodB_tw h rfl)
theorem back_sizes {rows : List (List Tm)} : ∀ {k : Nat}, (∀ g, g < k → prodAt rows g = true) → (backN rows k).length ≤ 300 * k ∧ ∀ t ∈ backN rows k, termB t = true
  | 0, _ => ⟨by simp [backN], fun t h => by simp [backN] at h⟩
  | k + 1, h => by
    obtain ⟨h1, h2⟩ := back_sizes (k := k) fun g hg => h g (by omega)
    obtain ⟨h3, h4⟩ := back_row (h k (by omega))
    rw [backN_succ]
    refine ⟨by rw [List.length_append]; omega, fun t ht => ?_⟩
    rcases List.mem_append.1 ht with ht | ht
    · exact h2 t ht
    · exact h4 t ht

theorem iSumTimes_any (a1 a2 : Option Addr) (c1 c2 n m : Nat) (x y : List Tm) (b : Bool) (w : World) (hx : IsTerms w a1 n x) (hy : IsTerms w a2 m y) (hb : prodB x y = b) :
    Calls Try.prog 27 #[.slice a1 n c1, .slice a2 m c2] w (ITold w b (canonT (pairsT x y))) := by
  unfold prodB at hb
  cases hbx : sumB x with
  | false => rw [hbx] at hb; subst hb; exact iSumTimes_no _ _ _ _ _ _ x y w hx hy (.inl hbx)
  | true =>
    cases hby : sumB y with
    | false => rw [hbx, hby] at hb; subst hb; exact iSumTimes_no _ _ _ _ _ _ x y w hx hy (.inr hby)
    | true => rw [hbx, hby] at hb; exact iSumTimes_yes _ _ _ _ _ _ x y b w hx hy hbx hby hb
theorem sSumTimes_any (a1 a2 : Option Addr) (c1 c2 n m : Nat) (x y : List Tm) (b : Bool) (w : World) (hx : IsTerms w a1 n x) (hy : IsTerms w a2 m y) (hb : prodB x y = b) :
    Calls Try.prog 26 #[.slice a1 n c1, .slice a2 m c2] w (STold w b (canonT (pairsT x y))) := by
  unfold prodB at hb
  cases hbx : sumB x with
  | false => rw [hbx] at hb; subst hb; exact sSumTimes_no _ _ _ _ _ _ x y w hx hy (.inl hbx)
  | true =>
    cases hby : sumB y with
    | false => rw [hbx, hby] at hb; subst hb; exact sSumTimes_no _ _ _ _ _ _ x y w hx hy (.inr hby)
    | true => rw [hbx, hby] at hb; exact sSumTimes_yes _ _ _ _ _ _ x y b w hx hy hbx hby hb

theorem gen_nat (g : Nat) (h : g < 4) : ((UInt8.ofNat (97 + g)).toNat : Int) = 97 + (g : Int) := by
  rw [UInt8.toNat_ofNat', Nat.mod_eq_of_lt (by omega)]; omega

set_option maxRecDepth 100000 in
set_option maxHeartbeats 2000000 in
theorem lessOne_any (g : Nat) (w : World) (hg : g < 4) :
    Calls Try.prog 80 #[.int .i64 g] w fun e w' => (∃ B, e = .returned (.slice (some ⟨B, 0, none⟩) 2 2) ∧ IsTerms w' (some ⟨B, 0, none⟩) 2 (lessT g)) ∧ Below w.heap.size w w' := by
  have hr0 : 0 ≤ 97 + (g : Int) := by omega
  have hr1 : 97 + (g : Int) ≤ 255 := by omega
  have hlt : Letters w.heap.size 0 [UInt8.ofNat (97 + g)] (w.alloc (.cells #[.int .u8 (97 + (g : Int))] 106)) :=
    ⟨by simp, fun j hj => by
      have hj0 : j = 0 := by simp at hj; exact hj
      subst hj0
      rw [Nat.zero_add, World.cell?_alloc_at _ _ _ _ (by simp), List.getElem_cons_zero, gen_nat g hg]; rfl⟩
  have HT : Hid (Calls Try.prog 96 #[.slice (some ⟨w.heap.size, 0, none⟩) 1 1] (w.alloc (.cells #[.int .u8 (97 + (g : Int))] 106)) fun e w' => e = .returned (.string (genS g)) ∧ Below (w.alloc (.cells #[.int .u8 (97 + (g : Int))] 106)).heap.size (w.alloc (.cells #[.int .u8 (97 + (g : Int))] 106)) w') :=
    Lib.hid (text_letters w.heap.size 0 1 1 _ _ rfl (by omega) hlt)
  clear hlt
  go_enter Try.func80, Try.ntmps80
  go_wp2_with fail
  refine HT.out.mono ?_
  rintro e w1 ⟨rfl, hb1⟩
  have HB1 : Hid (Below w.heap.size w w1) := Lib.hid (((Below.refl w.heap.size w).alloc (Nat.le_refl _) _).trans (hb1.mono (by simp)))
  clear hb1
  go_wp2
  go_ret
  exact ⟨⟨_, rfl, isTerms_less w1 g⟩, HB1.out.alloc HB1.out.size _⟩

set_option maxRecDepth 100000 in
theorem iFoxBack_not4 (a : Option Addr) (cap n : Nat) (rows : List (List Tm)) (w : World) (hs : IsTT w a n rows) (h : n ≠ 4) :
    Calls Try.prog 45 #[.slice a n cap] w (ITold w false []) := by
  have hm := hs.max
  unfold maxLen at hm
  have hd : decide ((n : Int) = 4) = false := decide_eq_false (by omega)
  have hn : ¬ (n : Int) = 4 := by omega
  clear hs
  go_enter Try.func45, Try.ntmps45
  go_wp2
  go_ret2
  exact ⟨⟨_, rfl, ownNil _ _⟩, Below.refl _ _⟩

set_option maxRecDepth 100000 in
set_option maxHeartbeats 4000000 in
theorem iFoxBack_four (a : Option Addr) (cap : Nat) (rows : List (List Tm)) (b : Bool) (w : World) (hs : IsTT w a 4 rows) (hb : ((List.range 4).all (prodAt rows) && twB (canonT (backN rows 4))) = b) :
    Calls Try.prog 45 #[.slice a 4 cap] w (ITold w b (canonT (backN rows 4))) := by
  have HS := Lib.hid hs
  have HBB := Lib.hid hb
  clear hs hb
  go_enter Try.func45, Try.ntmps45
  go_wp2
  go_loopw [4, 14] (fun v i wr => ∃ k : Nat, k ≤ 4 ∧ i = .int .i64 k ∧ Hid ((∀ g, g < k → prodAt rows g = true) ∧ OwnT w.heap.size wr v (backN rows k)) ∧ Below w.heap.size w wr) (fun _ i _ => 4 - (intOf i).toNat)
  case atStart => exact ⟨0, Nat.zero_le _, rfl, Lib.hid ⟨fun g h => absurd h (Nat.not_lt_zero _), rfl, .inl ⟨rfl, rfl⟩⟩, Below.refl _ _⟩
  case round =>
    obtain ⟨k, hk, rfl, HO, hB⟩ := hrel
    by_cases hlt : k < 4
    · have hkr : k < rows.length := by rw [HS.out.len]; exact hlt
      obtain ⟨x, rfl, hxb, hx⟩ := HS.out.at_ (by omega)
      obtain ⟨ai, ci, hc, hI⟩ := hx k hkr
      have hc0 := (hB.cell (p := x.add k) (by rw [addr_add_block]; exact hxb)).trans hc
      have hgd : rows.getD k [] = rows[k] := by rw [List.getD_eq_getElem?_getD, List.getElem?_eq_getElem hkr]; rfl
      obtain ⟨bp, hbp⟩ : ∃ bp, prodAt rows k = bp := ⟨_, rfl⟩
      obtain ⟨r, hr⟩ : ∃ r, rows[k].length = r := ⟨_, rfl⟩
      have HBP := Lib.hid hbp
      unfold prodAt at hbp
      rw [hgd] at hbp
      have hbr : backRow rows k = canonT (pairsT rows[k] (lessT k)) := by unfold backRow; rw [hgd]
      have HBR := Lib.hid hbr
      have HI := Lib.hid (hI.below hB)
      rw [hr] at hc0 HI
      have HP := Lib.hid hbp
      have hbs := hB.size
      clear hx hc hI hgd hbp hbr hr
      go_wp2_with fail
      refine (lessOne_any k _ hlt).mono ?_
      rintro e w2 ⟨⟨B, rfl, hl2⟩, hb2⟩
      have HL2 := Lib.hid hl2
      have HI2 := Lib.hid (HI.out.below hb2)
      have HB2 := Lib.hid hb2
      clear hl2 hb2
      go_wp2_with fail
      refine (iSumTimes_any ai _ ci _ r 2 rows[k] (lessT k) bp _ HI2.out HL2.out HP.out).mono ?_
      rw [← HBR.out]
      rintro e w3 ⟨⟨vp, rfl, hop⟩, hb3⟩
      have HOP := Lib.hid hop
      have HB3 := Lib.hid (HB2.out.trans (hb3.mono HB2.out.size))
      clear hop hb3
      cases bp with
      | false =>
        have hbf : b = false := by rw [← HBB.out, back_false hlt HBP.out]; rfl
        subst hbf
        go_wp2
        go_ret2
        exact ⟨⟨_, rfl, ownNil _ _⟩, hB.trans (HB3.out.mono hB.size)⟩
      | true =>
        have hall : ∀ g, g < k + 1 → prodAt rows g = true := fun g hg => by
          by_cases e : g = k
          · subst e; exact HBP.out
          · exact HO.out.1 g (by omega)
        have HA := Lib.hid hall
        have hlen := (back_sizes hall).1
        rw [backN_succ, List.length_append] at hlen
        have HLE := Lib.hid hlen
        have HO3 := Lib.hid (HO.out.2.below HB3.out)
        have HOP2 : Hid (OwnT w2.heap.size w3 vp (backRow rows k)) := Lib.hid HOP.out
        have hB3 : Below w.heap.size w w3 := hB.trans (HB3.out.mono hB.size)
        have hs3 := hB3.size
        clear hall hlen
        go_wp2_with (at_builtin; refine wpList_append_terms rfl _ _ rfl w.heap.size w2.heap.size _ _ _ _ rfl rfl HO3.out HOP2.out (by have := HLE.out; omega) hs3 ?_; intro v' w5 ho5 hg5)
        have hB5 : Below w.heap.size w w5 := hB3.trans ((Below.refl w.heap.size w3).grown hg5 hs3 (ownsRow_low HO3.out))
        have HO5 := Lib.hid ho5
        clear ho5 hg5
        go_wp2
        go_roundw
        case rel => exact ⟨k + 1, by omega, by go_num, Lib.hid ⟨HA.out, by rw [backN_succ]; exact HO5.out⟩, hB5⟩
        case measure => simp [intOf]; omega
    · obtain rfl : k = 4 := by omega
      obtain ⟨hall, hown⟩ := HO.out
      obtain ⟨hlen, hterm⟩ := back_sizes hall
      have hcf : ∀ t ∈ backN rows 4, t.s.size ≤ 60 ∧ -1000000 ≤ t.c ∧ t.c ≤ 1000000 := fun t ht => termB_iff (hterm t ht)
      have hsm : SmallT (backN rows 4) := ⟨by unfold maxLen; omega, fun t ht => by have := hcf t ht; unfold maxLen; omega⟩
      obtain ⟨av, cv, rfl, hI⟩ := hown.isTerms hsm
      obtain ⟨N, hN⟩ : ∃ N, (backN rows 4).length = N := ⟨_, rfl⟩
      rw [hN] at hI hlen ⊢
      have hbb : twB (canonT (backN rows 4)) = b := by rw [← HBB.out, back_true hall, Bool.true_and]
      have htold := toldSum_any av cv N (backN rows 4) b wr hI (by omega) (fun t ht => by have := hcf t ht; omega) hbb
      have HTo := Lib.hid htold
      have HBr := Lib.hid hB
      clear hown hcf hsm hI hN htold hbb hall hterm
      go_wp2_with fail
      refine HTo.out.mono ?_
      rintro e w5 ⟨⟨v', rfl, ho⟩, hb5⟩
      have HO' := Lib.hid ho
      have HB5 := Lib.hid (HBr.out.trans (hb5.mono HBr.out.size))
      have hs5 := HBr.out.size
      clear ho hb5
      go_wp2
      go_ret2
      exact ⟨⟨_, rfl, HO'.out.mono hs5⟩, HB5.out⟩

set_option maxRecDepth 100000 in
theorem sFoxBack_not4 (a : Option Addr) (cap n : Nat) (rows : List (List Tm)) (w : World) (hs : IsTT w a n rows) (h : n ≠ 4) :
    Calls Try.prog 43 #[.slice a n cap] w (STold w false []) := by
  have hm := hs.max
  unfold maxLen at hm
  have hd : decide ((n : Int) = 4) = false := decide_eq_false (by omega)
  have hn : ¬ (n : Int) = 4 := by omega
  clear hs
  go_enter Try.func43, Try.ntmps43
  go_wp2
  go_ret2
  exact ⟨⟨_, rfl, ownEmpty _⟩, (Below.refl _ _).alloc (Nat.le_refl _) _⟩

set_option maxRecDepth 100000 in
set_option maxHeartbeats 4000000 in
theorem sFoxBack_four (a : Option Addr) (cap : Nat) (rows : List (List Tm)) (b : Bool) (w : World) (hs : IsTT w a 4 rows) (hb : ((List.range 4).all (prodAt rows) && twB (canonT (backN rows 4))) = b) :
    Calls Try.prog 43 #[.slice a 4 cap] w (STold w b (canonT (backN rows 4))) := by
  have HS := Lib.hid hs
  have HBB := Lib.hid hb
  have hmx : Try.prog.follows .mixedOrders = true := by kernel_rfl
  clear hs hb
  go_enter Try.func43, Try.ntmps43
  go_wp2
  go_loopw [4, 5] (fun v i wr => ∃ k : Nat, k ≤ 4 ∧ i = .int .i64 k ∧ Hid ((∀ g, g < k → prodAt rows g = true) ∧ Acc w.heap.size wr v ((backN rows k).foldl addT []) (300 * k) (300000000 * k)) ∧ Below w.heap.size w wr) (fun _ i _ => 4 - (intOf i).toNat)
  case atStart => exact ⟨0, Nat.zero_le _, rfl, Lib.hid ⟨fun g h => absurd h (Nat.not_lt_zero _), acc_zero w⟩, (Below.refl _ _).alloc (Nat.le_refl _) _⟩
  case round =>
    obtain ⟨k, hk, rfl, HA, hB⟩ := hrel
    by_cases hlt : k < 4
    · have hkr : k < rows.length := by rw [HS.out.len]; exact hlt
      obtain ⟨x, rfl, hxb, hx⟩ := HS.out.at_ (by omega)
      obtain ⟨ai, ci, hc, hI⟩ := hx k hkr
      have hgd : rows.getD k [] = rows[k] := by rw [List.getD_eq_getElem?_getD, List.getElem?_eq_getElem hkr]; rfl
      obtain ⟨bp, hbp⟩ : ∃ bp, prodAt rows k = bp := ⟨_, rfl⟩
      obtain ⟨r, hr⟩ : ∃ r, rows[k].length = r := ⟨_, rfl⟩
      have HBP := Lib.hid hbp
      unfold prodAt at hbp
      rw [hgd] at hbp
      have hbr : backRow rows k = canonT (pairsT rows[k] (lessT k)) := by unfold backRow; rw [hgd]
      have HBR := Lib.hid hbr
      have HP := Lib.hid hbp
      have hr0 : 0 ≤ 97 + (k : Int) := by omega
      have hr1 : 97 + (k : Int) ≤ 255 := by omega
      have hconv : (convert 91 9 (.slice (some ⟨wr.heap.size, 0, none⟩) 1 1)).run Try.prog (wr.alloc (.cells #[.int .u8 (97 + (k : Int))] 5)) = .ok (.string (genS k)) (wr.alloc (.cells #[.int .u8 (97 + (k : Int))] 5)) := by
        have := run_convert_bytes_back (P := Try.prog) (wr.alloc (.cells #[.int .u8 (97 + (k : Int))] 5)) 91 9 5 ⟨wr.heap.size, 0, none⟩ 1 [UInt8.ofNat (97 + k)] Try.underlying91 Try.underlying5 Try.underlying9 (fun j hj => by
          have hj0 : j = 0 := by simp at hj; exact hj
          subst hj0
          show (wr.alloc _).cell? ((⟨wr.heap.size, 0, none⟩ : Addr).add 0) = some (.int .u8 ((UInt8.ofNat (97 + k)).toNat : Int))
          rw [gen_nat k hlt]
          exact cell_one_new _ _ _ 0 _ rfl)
        exact this
      obtain ⟨gs, hgs⟩ : ∃ gs, genS k = gs := ⟨_, rfl⟩
      have hless := isTerms_less (wr.alloc (.cells #[.int .u8 (97 + (k : Int))] 5)) k
      rw [hgs] at hconv hless
      rw [World.size_alloc] at hless
      have hbw : Below wr.heap.size wr ((wr.alloc (.cells #[.int .u8 (97 + (k : Int))] 5)).alloc (.cells #[.int .i64 (-1), .string { data := #[] }, .int .i64 1, .string gs] 62)) := ((Below.refl _ wr).alloc (Nat.le_refl _) _).alloc (by simp) _
      have hc0 := (hbw.cell (p := x.add k) (by rw [addr_add_block]; exact Nat.lt_of_lt_of_le hxb hB.size)).trans ((hB.cell (p := x.add k) (by rw [addr_add_block]; exact hxb)).trans hc)
      have HI := Lib.hid ((hI.below hB).below hbw)
      rw [hr] at hc0 HI
      have HL2 := Lib.hid hless
      have HBW := Lib.hid hbw
      clear hx hc hI hgd hbp hbr hr hless hgs hbw
      go_wp2_with fail
      refine (sSumTimes_any ai _ ci _ r 2 rows[k] (lessT k) bp _ HI.out HL2.out HP.out).mono ?_
      rw [← HBR.out]
      rintro e w3 ⟨⟨vp, rfl, hop⟩, hb3⟩
      have HOP := Lib.hid hop
      have HB3 := Lib.hid (HBW.out.trans (hb3.mono HBW.out.size))
      clear hop hb3
      cases bp with
      | false =>
        have hbf : b = false := by rw [← HBB.out, back_false hlt HBP.out]; rfl
        subst hbf
        have hB3 : Below w.heap.size w w3 := hB.trans (HB3.out.mono hB.size)
        go_wp2
        go_ret2
        exact ⟨⟨_, rfl, (ownEmpty w3).mono hB3.size⟩, hB3.alloc hB3.size _⟩
      | true =>
        have hall : ∀ g, g < k + 1 → prodAt rows g = true := fun g hg => by
          by_cases e : g = k
          · subst e; exact HBP.out
          · exact HA.out.1 g (by omega)
        obtain ⟨hrl, hrt⟩ := back_row HBP.out
        have HAll := Lib.hid hall
        have HRT := Lib.hid hrt
        obtain ⟨gd, capd, rfl, hd1, hd2, hd3, hd4⟩ := (show OwnTerms _ w3 vp (backRow rows k) from HOP.out).form
        obtain ⟨zd, hzd⟩ : ∃ zd : Addr, (⟨gd, 0, none⟩ : Addr) = zd := ⟨_, rfl⟩
        rw [hzd] at hd1 ⊢
        have HD1 := Lib.hid hd1
        have HA3 := Lib.hid (HA.out.2.below HB3.out)
        have hB3 : Below w.heap.size w w3 := hB.trans (HB3.out.mono hB.size)
        obtain ⟨m, hm⟩ : ∃ m, (backRow rows k).length = m := ⟨_, rfl⟩
        rw [hm] at hrl hd2 ⊢
        have HMm := Lib.hid hm
        clear hzd hd1 hm hall hrt
        go_wp2_with fail
        go_loopw [4, 9] (fun v i wr2 => ∃ j : Nat, j ≤ m ∧ i = .int .i64 j ∧ Hid (Acc w.heap.size wr2 v (((backRow rows k).take j).foldl addT ((backN rows k).foldl addT [])) (300 * k + j) (300000000 * k + 1000000 * j)) ∧ Below w3.heap.size w3 wr2) (fun _ i _ => m - (intOf i).toNat)
        case atStart => exact ⟨0, Nat.zero_le _, rfl, Lib.hid (by simpa using HA3.out), Below.refl _ _⟩
        case round =>
          obtain ⟨j, hj, rfl, HAj, hBj⟩ := hrel
          by_cases hltj : j < m
          · have hjd : j < (backRow rows k).length := by rw [HMm.out]; exact hltj
            obtain ⟨u, hu⟩ : ∃ u, (backRow rows k)[j] = u := ⟨_, rfl⟩
            have hzdw := HD1.out.below hBj
            have hcd := hzdw.2 j hjd
            have hbzd := hzdw.1
            rw [hu, addr_next] at hcd
            obtain ⟨e0, f1⟩ := hcd
            have hut := termB_iff (HRT.out _ (List.getElem_mem hjd))
            rw [hu] at hut
            have HUT := Lib.hid hut
            have HU := Lib.hid hu
            have hBw : Below w.heap.size w wr := hB3.trans (hBj.mono hB3.size)
            clear hu hzdw hut
            go_wp2
            go_still_tail 11, hmx
            change wpList _ _ _ _ _ wr.drew
            go_wp2_with fail
            refine (step_any w.heap.size u4 _ _ _ 1000000 u.c u.s wr.drew (HAj.out.below (Below.refl _ _).drew) (by omega) (by omega) (by omega) (by omega) HUT.out.2 HUT.out.1 hBw.size).mono ?_
            rintro e w4 ⟨⟨v', rfl, ho⟩, hb4⟩
            have hB4 : Below w3.heap.size w3 w4 := hBj.trans (((Below.refl _ _).drew.trans hb4).mono hBj.size)
            have HO := Lib.hid ho
            clear ho hb4
            go_wp2
            go_roundw
            case rel =>
              refine ⟨j + 1, by omega, by go_num, Lib.hid ?_, hB4⟩
              rw [fold_succ2 _ (backRow rows k) j hjd, HU.out]
              exact HO.out.more (by omega) (by omega)
            case measure => simp [intOf]; omega
          · obtain rfl : j = m := by omega
            go_wp2
            go_roundw
            case rel =>
              refine ⟨k + 1, by omega, by go_num, Lib.hid ⟨HAll.out, ?_⟩, hB3.trans (hBj.mono hB3.size)⟩
              have h := HAj.out
              rw [show (backRow rows k).take j = backRow rows k from List.take_of_length_le (by rw [HMm.out]; exact Nat.le_refl _)] at h
              rw [backN_succ, List.foldl_append]
              exact h.more (by omega) (by omega)
            case measure => simp [intOf]; omega
    · obtain rfl : k = 4 := by omega
      obtain ⟨hall, hacc⟩ := HA.out
      change Acc _ _ _ (canonT (backN rows 4)) _ _ at hacc
      have HAcc := Lib.hid hacc
      have HSb : Hid (sumB (canonT (backN rows 4)) = b) := Lib.hid (by rw [sumB_canon (canon_of _), ← HBB.out, back_true hall, Bool.true_and])
      clear hacc hall
      go_wp2_with fail
      refine (sDone_any w.heap.size u4 (canonT (backN rows 4)) b wr HAcc.out.own (HAcc.out.small (by omega) (by omega)) hB.size HSb.out).mono ?_
      rintro e w2 ⟨⟨v', rfl, ho⟩, hb2⟩
      have HO := Lib.hid ho
      clear ho
      go_wp2
      go_ret2
      exact ⟨⟨_, rfl, HO.out⟩, hB.trans (hb2.mono hB.size)⟩

/-! ### As a law wants them -/
theorem backB_tw {rows : List (List Tm)} {b : Bool} (h : backB rows = b) : b = true → twB (canonT (backN rows 4)) = true := by
  intro hb
  subst hb
  unfold backB at h
  simp only [Bool.and_eq_true] at h
  exact h.2.2
theorem sFoxBack_any (a : Option Addr) (cap n : Nat) (rows : List (List Tm)) (b : Bool) (w : World) (hs : IsTT w a n rows) (hb : backB rows = b) :
    Calls Try.prog 43 #[.slice a n cap] w (STold w b (canonT (backN rows 4))) := by
  unfold backB at hb
  by_cases h4 : n = 4
  · subst h4
    rw [decide_eq_true hs.len, Bool.true_and] at hb
    exact sFoxBack_four a cap rows b w hs hb
  · rw [decide_eq_false (by rw [hs.len]; exact h4), Bool.false_and] at hb
    subst hb
    exact sFoxBack_not4 a cap n rows w hs h4
theorem iFoxBack_any (a : Option Addr) (cap n : Nat) (rows : List (List Tm)) (b : Bool) (w : World) (hs : IsTT w a n rows) (hb : backB rows = b) :
    Calls Try.prog 45 #[.slice a n cap] w (ITold w b (canonT (backN rows 4))) := by
  unfold backB at hb
  by_cases h4 : n = 4
  · subst h4
    rw [decide_eq_true hs.len, Bool.true_and] at hb
    exact iFoxBack_four a cap rows b w hs hb
  · rw [decide_eq_false (by rw [hs.len]; exact h4), Bool.false_and] at hb
    subst hb
    exact iFoxBack_not4 a cap n rows w hs h4

end Go.Proofs.Ytidmlppbmcphbaa

/- Both 'FoxBack' as a law wants them; rows of the law's own. -/

namespace Go.Proofs.Ytidmlppbmcphbaa
open Go.RowKit Go.Shelf

theorem IsTT.small {w : World} {a : Option Addr} {n : Nat} {rows : List (List Tm)} (h : IsTT w a n rows) : ∀ r ∈ rows, SmallT r := fun r hr => by
  obtain ⟨i, hi, rfl⟩ := List.getElem_of_mem hr
  obtain ⟨x, _, _, hc⟩ := h.at_ (by rw [← h.len]; omega)
  obtain ⟨ai, ci, _, hI⟩ := hc i hi
  exact hI.smallT
theorem isTT_owns {w w0 : World} {base g n : Nat} {a : Option Addr} {vals : List Value} {rows : List (List Tm)} (h0 : IsTT w0 a n rows) (h : OwnTT base w (.slice (some ⟨g, 0, none⟩) n n) vals rows) : IsTT w (some ⟨g, 0, none⟩) n rows := by
  obtain ⟨a', c', e, hI⟩ := h.isTT h0.small (by rw [h0.len]; exact h0.max)
  simp only [Value.slice.injEq] at e
  obtain ⟨rfl, _, _⟩ := e
  rw [h0.len] at hI
  exact hI
theorem OwnTT.mono {b1 b2 : Nat} {w : World} {v : Value} {vals : List Value} {rows : List (List Tm)} (h : OwnTT b1 w v vals rows) (hb : b2 ≤ b1) : OwnTT b2 w v vals rows :=
  ⟨ownsRow_base h.row hb, fun i hi u hu => (h.each i hi u hu).mono hb, h.apart, h.head⟩
theorem sFoxBack_law {g c n : Nat} {rows : List (List Tm)} {b : Bool} {w : World} (hs : IsTT w (some ⟨g, 0, none⟩) n rows) (hb : backB rows = b) :
    Calls Try.prog 43 #[.slice (some ⟨g, 0, none⟩) n c] w (STold w b (canonT (backN rows 4))) := sFoxBack_any _ _ _ rows b w hs hb
theorem iFoxBack_law {g c n : Nat} {rows : List (List Tm)} {b : Bool} {w : World} (hs : IsTT w (some ⟨g, 0, none⟩) n rows) (hb : backB rows = b) :
    Calls Try.prog 45 #[.slice (some ⟨g, 0, none⟩) n c] w (ITold w b (canonT (backN rows 4))) := iFoxBack_any _ _ _ rows b w hs hb

end Go.Proofs.Ytidmlppbmcphbaa

/- A slice of slices of terms that came in, opened. -/

namespace Go.Proofs.Ytidmlppbmcphbaa
open Go.RowKit Go.ChangeShapes Go.WideShapes

theorem isTT_of {H : Type} {enc : TypeId × Value → H} {W : World} {base : Nat} {spare : Nat → Bool} {held : Bool} {fuel : Nat} {a : Option Addr} {len cap : Nat} {x : DataW H × List MemPlace}
    (h : DataW.trod enc Try.prog W base spare held fuel 46 [.slice a len cap] = some x) : ∃ rows, IsTT W a len rows := by
  rcases Go.Deep.open_slice1 Try.underlying46 (by kernel_rfl) h with ⟨hcs, _⟩ | ⟨y, l, c, m, n, V, D, P, hcs, hb, hl, hm, hmm, _, hx⟩
  · simp at hcs
    obtain ⟨rfl, rfl, rfl⟩ := hcs
    exact ⟨[], IsTT.none _ _⟩
  · simp at hcs
    obtain ⟨rfl, rfl, rfl⟩ := hcs
    have hlm : len ≤ m := by rw [hmm]; split <;> omega
    have each : ∀ i, i < len → ∃ q : (Option Addr × Nat) × List Tm, W.cell? (y.add i) = some (.slice q.1.1 q.2.length q.1.2) ∧ IsTerms W q.1.1 q.2.length q.2 := fun i hi => by
      obtain ⟨h0, h1⟩ := hx i (by omega)
      obtain ⟨ar, lr, cr, hV⟩ : ∃ ar lr cr, V i = .slice ar lr cr := by
        rcases Go.Deep.open_slice Try.underlying22 h1 with ⟨hcs, _⟩ | ⟨ar, lr, cr, _, _, _, _, hcs, _⟩
        · exact ⟨none, 0, 0, by simpa using hcs⟩
        · exact ⟨some ar, lr, cr, by simpa using hcs⟩
      rw [hV] at h0 h1
      obtain ⟨ts, hts⟩ := isTerms_of h1
      have hl := hts.len
      subst hl
      exact ⟨((ar, cr), ts), h0, hts⟩
    obtain ⟨q, hq⟩ := Go.Deep.choose_lt each
    refine ⟨(List.range len).map fun i => (q i).2, by simp, by omega, fun h0 => ⟨y, rfl, ?_, fun i hi => ?_⟩⟩
    · have := World.block_lt_of_cell? _ _ (hq 0 h0).1
      rw [addr_add_block] at this
      exact this
    · simp only [List.length_map, List.length_range] at hi
      simp only [List.getElem_map, List.getElem_range]
      exact ⟨_, _, (hq i hi).1, (hq i hi).2⟩

end Go.Proofs.Ytidmlppbmcphbaa

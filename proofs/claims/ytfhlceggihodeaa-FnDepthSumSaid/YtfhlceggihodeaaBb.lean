/- What the laws' proofs stand on, part 2 of 3. -/
import Derived.StillTail
import Derived.Laws.AppendOwnNone
import Derived.Lib.AppendZerosOnto
import Derived.Lib.SliceRun
import Derived.Deep.AppendLies
import Derived.IntWalk
import Derived.RangeFuncBox
import Derived.Laws.BitsAllLaws
import Derived.Deep.QuietTactic
import Derived.BigQuiet
import Derived.ChangeSlices
import Derived.Shelf.SlSortCmp.WholeK
import Derived.Shelf.SlSortCmp.NoneTotal
import Derived.Laws.EntriesVeiled
import Derived.Deep.RegionLaw
import Derived.Deep.RegionWith
import Derived.Shelf.SlMaps.Clone
import Derived.Test.YtfhlceggihodeaaBa

/- Derivatives of words as lists of terms in the order of letters; sums of such lists. -/

namespace Go.Proofs.Ytfhlceggihodeaa
open Go.RowKit

/-- The term of one letter behind p. -/
def foxT (g c : Int) (p : List UInt8) (x : UInt8) : List Tm := if (idxB x : Int) = g then [⟨c * sgnB x, bstr (if 97 ≤ x.toNat then p else p ++ [x])⟩] else []
/-- The terms of the first k letters. -/
def foxN (g c : Int) (l : List UInt8) : Nat → List Tm
  | 0 => []
  | k + 1 => foxN g c l k ++ foxT g c (l.take k) (l.getD k 0)
def foxL (g c : Int) (l : List UInt8) : List Tm := foxN g c l l.length
theorem foxN_succ (g c : Int) (l : List UInt8) (k : Nat) (hk : k < l.length) : foxN g c l (k + 1) = foxN g c l k ++ foxT g c (l.take k) l[k] := by
  rw [foxN, List.getD_eq_getElem?_getD, List.getElem?_eq_getElem hk]; rfl
theorem foxT_no {g c : Int} {p : List UInt8} {x : UInt8} (h : (idxB x : Int) ≠ g) : foxT g c p x = [] := if_neg h
theorem foxT_hi {g c : Int} {p : List UInt8} {x : UInt8} (h : (idxB x : Int) = g) (hx : 97 ≤ x.toNat) : foxT g c p x = [⟨c * sgnB x, bstr p⟩] := by
  unfold foxT; rw [if_pos h, if_pos hx]
theorem foxT_lo {g c : Int} {p : List UInt8} {x : UInt8} (h : (idxB x : Int) = g) (hx : ¬ 97 ≤ x.toNat) : foxT g c p x = [⟨c * sgnB x, bstr (p ++ [x])⟩] := by
  unfold foxT; rw [if_pos h, if_neg hx]
theorem sgnB_bnd (x : UInt8) : -1 ≤ sgnB x ∧ sgnB x ≤ 1 := by unfold sgnB; split <;> omega
theorem mul_sgn {c C : Int} (hc : -C ≤ c ∧ c ≤ C) (x : UInt8) : -C ≤ c * sgnB x ∧ c * sgnB x ≤ C := by
  unfold sgnB; split <;> omega
theorem foxN_len (g c : Int) (l : List UInt8) : ∀ k, (foxN g c l k).length ≤ k
  | 0 => Nat.le_refl _
  | k + 1 => by
    have := foxN_len g c l k
    rw [foxN, List.length_append]
    have h2 : (foxT g c (l.take k) (l.getD k 0)).length ≤ 1 := by unfold foxT; split <;> simp
    omega
theorem foxN_mem {g c C : Int} (hc : -C ≤ c ∧ c ≤ C) {l : List UInt8} {t : Tm} : ∀ {k}, k ≤ l.length → t ∈ foxN g c l k → (-C ≤ t.c ∧ t.c ≤ C) ∧ ∃ j, j ≤ k ∧ t.s = bstr (l.take j)
  | 0, _, h => by cases h
  | k + 1, hk, h => by
    rw [foxN_succ g c l k (by omega)] at h
    rcases List.mem_append.1 h with h | h
    · obtain ⟨h1, j, hj, h2⟩ := foxN_mem hc (by omega) h
      exact ⟨h1, j, by omega, h2⟩
    · by_cases hi : (idxB l[k] : Int) = g
      · by_cases hx : 97 ≤ l[k].toNat
        · rw [foxT_hi hi hx] at h
          obtain rfl := List.mem_singleton.1 h
          exact ⟨mul_sgn hc _, k, by omega, rfl⟩
        · rw [foxT_lo hi hx] at h
          obtain rfl := List.mem_singleton.1 h
          refine ⟨mul_sgn hc _, k + 1, by omega, ?_⟩
          show bstr (l.take k ++ [l[k]]) = _
          rw [← take_snoc l k (by omega)]
      · rw [foxT_no hi] at h; cases h
theorem word_take {l : List UInt8} (h : wordB l = true) (j : Nat) : wordB (l.take j) = true := by
  obtain ⟨h1, h2, h3⟩ := (wordB_iff _).1 h
  refine (wordB_iff _).2 ⟨by rw [List.length_take]; omega, letL_of_mem _ _ h2 fun _ hc => List.mem_of_mem_take hc, (red_iff _).2 ?_⟩
  have := (red_iff _).1 h3
  rw [← List.take_append_drop j l] at this
  exact noC_left this

/-! ### Coefficients -/
def scaleT (c : Int) (ts : List Tm) : List Tm := ts.map fun t => ⟨c * t.c, t.s⟩
theorem coefAt_scale (s : ByteArray) (c : Int) : ∀ ts, coefAt s (scaleT c ts) = c * coefAt s ts
  | [] => by simp [scaleT, coefAt]
  | t :: r => by
    have ih := coefAt_scale s c r
    unfold scaleT at *
    rw [List.map_cons, coefAt, coefAt, ih, Int.mul_add]
    show (if t.s = s then c * t.c else 0) + _ = _
    split
    · rfl
    · simp
theorem foxT_scale (g c : Int) (p : List UInt8) (x : UInt8) : foxT g c p x = scaleT c (foxT g 1 p x) := by
  unfold foxT scaleT
  split
  · simp
  · rfl
theorem foxN_scale (g c : Int) (l : List UInt8) : ∀ k, foxN g c l k = scaleT c (foxN g 1 l k)
  | 0 => rfl
  | k + 1 => by
    rw [foxN, foxN, foxN_scale g c l k, foxT_scale]
    unfold scaleT; rw [List.map_append]
theorem foxL_scale (g c : Int) (l : List UInt8) : foxL g c l = scaleT c (foxL g 1 l) := foxN_scale g c l _
theorem coefAt_flat (s : ByteArray) {f h : Tm → List Tm} (hfh : ∀ t, coefAt s (f t) = coefAt s (h t)) : ∀ a : List Tm, coefAt s (a.flatMap f) = coefAt s (a.flatMap h)
  | [] => rfl
  | t :: r => by rw [List.flatMap_cons, List.flatMap_cons, coefAt_append, coefAt_append, hfh, coefAt_flat s hfh r]
theorem canonT_congr {a b : List Tm} (h : ∀ s, coefAt s a = coefAt s b) : canonT a = canonT b :=
  canonT_unique (canonT_spec a).1 fun s => by rw [(canonT_spec a).2, h]

/-- The terms of the derivative of a sum: as the program gathers them, and as the model does. -/
def foxI (g : Int) (a : List Tm) : List Tm := a.flatMap fun t => foxL g t.c t.s.data.toList
def foxM (g : Int) (a : List Tm) : List Tm := a.flatMap fun t => scaleT t.c (canonT (foxL g 1 t.s.data.toList))
theorem foxIM (g : Int) (a : List Tm) : canonT (foxM g a) = canonT (foxI g a) :=
  canonT_congr fun s => coefAt_flat s (fun t => by rw [coefAt_scale, (canonT_spec _).2, foxL_scale g t.c, coefAt_scale]) a

/-! ### Sizes -/
theorem fold_bound {C : Int} (hC : 0 ≤ C) : ∀ (ts acc : List Tm) (B : Int), 0 ≤ B → (∀ t ∈ ts, -C ≤ t.c ∧ t.c ≤ C) → (∀ u ∈ acc, -B ≤ u.c ∧ u.c ≤ B) → ∀ u ∈ ts.foldl addT acc, -(B + C * ts.length) ≤ u.c ∧ u.c ≤ B + C * ts.length
  | [], acc, B, _, _, h, u, hu => by have := h u hu; simpa using this
  | t :: r, acc, B, hB, ht, h, u, hu => by
    have h1 := fold_bound hC r (addT acc t) (B + C) (by omega) (fun v hv => ht v (by simp [hv])) (add_bound hC (ht t (by simp)) h hB) u hu
    rw [List.length_cons, show ((r.length + 1 : Nat) : Int) = (r.length : Int) + 1 by omega, Int.mul_add, Int.mul_one]
    omega
theorem fold_words : ∀ (ts acc : List Tm), ∀ u ∈ ts.foldl addT acc, (∃ v ∈ acc, v.s = u.s) ∨ ∃ v ∈ ts, v.s = u.s
  | [], acc, u, hu => .inl ⟨u, hu, rfl⟩
  | t :: r, acc, u, hu => by
    rcases fold_words r (addT acc t) u hu with ⟨v, hv, e⟩ | ⟨v, hv, e⟩
    · rcases add_words hv with h | ⟨x, hx, h⟩
      · exact .inr ⟨t, by simp, by rw [← h, e]⟩
      · exact .inl ⟨x, hx, by rw [h, e]⟩
    · exact .inr ⟨v, by simp [hv], e⟩
theorem canon_words {ts : List Tm} {u : Tm} (h : u ∈ canonT ts) : ∃ v ∈ ts, v.s = u.s := by
  rcases fold_words ts [] u h with ⟨v, hv, _⟩ | h
  · cases hv
  · exact h
theorem fold_len : ∀ (ts acc : List Tm), (ts.foldl addT acc).length ≤ acc.length + ts.length
  | [], acc => Nat.le_refl _
  | t :: r, acc => by
    have := fold_len r (addT acc t)
    have h2 := add_len t acc
    rw [List.length_cons]
    show (r.foldl addT (addT acc t)).length ≤ _
    omega
/-- A derivative of a word is a sum. -/
theorem fox_tw {g : Int} {l : List UInt8} (h : wordB l = true) : twB (canonT (foxL g 1 l)) = true := by
  have hl := ((wordB_iff _).1 h).1
  have hn := foxN_len g 1 l l.length
  have hlen : (canonT (foxL g 1 l)).length ≤ 60 := by
    have := fold_len (foxL g 1 l) []
    unfold foxL canonT at *
    simp only [List.length_nil] at this
    omega
  refine twB_of (by omega) fun j hj => ?_
  have hm := List.getElem_mem hj
  have hb := fold_bound (C := 1) (by omega) (foxL g 1 l) [] 0 (by omega) (fun t ht => (foxN_mem (C := 1) (by omega) (Nat.le_refl _) ht).1) (fun u hu => by cases hu) _ hm
  have hb2 : (foxL g 1 l).length ≤ 60 := by unfold foxL; omega
  obtain ⟨v, hv, e⟩ := canon_words hm
  obtain ⟨_, k, _, e2⟩ := foxN_mem (C := 1) (by omega) (Nat.le_refl _) hv
  unfold termB
  rw [← e, e2, bstr_toList, word_take h, Bool.true_and]
  unfold inR
  simp only [Bool.and_eq_true, decide_eq_true_eq]
  omega
theorem foxI_succ (g : Int) (a : List Tm) (k : Nat) (h : k < a.length) : foxI g (a.take (k + 1)) = foxI g (a.take k) ++ foxL g a[k].c a[k].s.data.toList := by
  unfold foxI; rw [List.take_succ_eq_append_getElem h, List.flatMap_append]; simp
theorem foxM_succ (g : Int) (a : List Tm) (k : Nat) (h : k < a.length) : foxM g (a.take (k + 1)) = foxM g (a.take k) ++ scaleT a[k].c (canonT (foxL g 1 a[k].s.data.toList)) := by
  unfold foxM; rw [List.take_succ_eq_append_getElem h, List.flatMap_append]; simp
theorem foxI_len (g : Int) : ∀ (a : List Tm), (∀ t ∈ a, t.s.size ≤ 60) → (foxI g a).length ≤ 60 * a.length
  | [], _ => by simp [foxI]
  | t :: r, h => by
    have ih := foxI_len g r fun u hu => h u (by simp [hu])
    have h1 := foxN_len g t.c t.s.data.toList t.s.data.toList.length
    have h2 := h t (by simp)
    unfold foxI foxL at *
    rw [List.flatMap_cons, List.length_append, List.length_cons]
    have h3 : t.s.data.toList.length = t.s.size := by simp
    omega
theorem foxI_mem {g : Int} {a : List Tm} (h : ∀ t ∈ a, t.s.size ≤ 60 ∧ -1000000 ≤ t.c ∧ t.c ≤ 1000000) {u : Tm} (hu : u ∈ foxI g a) : u.s.size ≤ 60 ∧ -1000000 ≤ u.c ∧ u.c ≤ 1000000 := by
  obtain ⟨t, ht, hu⟩ := List.mem_flatMap.1 hu
  obtain ⟨h1, h2⟩ := h t ht
  obtain ⟨h3, j, _, e⟩ := foxN_mem (C := 1000000) h2 (Nat.le_refl _) hu
  refine ⟨?_, h3⟩
  rw [e, bstr_size, List.length_take]
  have : t.s.data.toList.length = t.s.size := by simp
  omega

end Go.Proofs.Ytfhlceggihodeaa

/- Monomials and series: what they are; the contracts of the model's 'l4Mono' and 'SeriesIn'. -/

namespace Go.Proofs.Ytfhlceggihodeaa
open Go.RowKit

def genB (c : UInt8) : Bool := decide (97 ≤ c.toNat) && decide (c.toNat ≤ 100)
/-- Is this a monomial? -/
def monoB (s : ByteArray) : Bool := s.data.toList.all genB && decide (s.size ≤ 4)
theorem genB_false (s : ByteArray) (k : Nat) (hk : k < s.data.toList.length) (h : genB s.data.toList[k] = false) : monoB s = false := by
  unfold monoB; rw [List.all_eq_false.2 ⟨_, List.getElem_mem hk, by rw [h]; exact Bool.false_ne_true⟩]; rfl

/-- Is the term at j as a series wants it, beside the one ahead of it? -/
def serAt (ts : List Tm) (j : Nat) : Bool :=
  (ts.getD j default).c != 0 && inR (-1000000) 1000000 (ts.getD j default).c && monoB (ts.getD j default).s && (decide (j = 0) || lessW (ts.getD (j - 1) default).s (ts.getD j default).s)
def allSer (ts : List Tm) (n : Nat) : Bool := (List.range n).all (serAt ts)
theorem allSer_succ (ts : List Tm) (n : Nat) : allSer ts (n + 1) = (allSer ts n && serAt ts n) := by simp [allSer, List.range_succ]
theorem allSer_false (ts : List Tm) (n k : Nat) (hk : k < n) (h : serAt ts k = false) : allSer ts n = false :=
  List.all_eq_false.2 ⟨k, List.mem_range.2 hk, by simp [h]⟩
/-- Is this a series? -/
def serB (ts : List Tm) : Bool := allSer ts ts.length && decide (ts.length ≤ 400)

theorem serB_false (ts : List Tm) (k : Nat) (hk : k < ts.length) (h : serAt ts k = false) : serB ts = false := by
  unfold serB; rw [allSer_false ts _ k hk h, Bool.false_and]
theorem serAt_c (ts : List Tm) (k : Nat) (t : Tm) (ht : ts.getD k default = t) (h : t.c = 0) : serAt ts k = false := by
  unfold serAt; rw [ht, h]; rfl
theorem serAt_r (ts : List Tm) (k : Nat) (t : Tm) (ht : ts.getD k default = t) (h : inR (-1000000) 1000000 t.c = false) : serAt ts k = false := by
  unfold serAt; rw [ht, h]; simp
theorem serAt_w (ts : List Tm) (k : Nat) (t : Tm) (ht : ts.getD k default = t) (h : monoB t.s = false) : serAt ts k = false := by
  unfold serAt; rw [ht, h]; simp
theorem serAt_zero (ts : List Tm) (k : Nat) (t : Tm) (hk : k = 0) (ht : ts.getD k default = t) (h0 : ¬ t.c = 0) (h1 : inR (-1000000) 1000000 t.c = true) (h2 : monoB t.s = true) : serAt ts k = true := by
  unfold serAt; rw [ht, h1, h2]; simp [h0, hk]
theorem serAt_succ (ts : List Tm) (k : Nat) (t p : Tm) (hk : 0 < k) (ht : ts.getD k default = t) (hp : ts.getD (k - 1) default = p) (h0 : ¬ t.c = 0) (h1 : inR (-1000000) 1000000 t.c = true) (h2 : monoB t.s = true) : serAt ts k = lessW p.s t.s := by
  have h3 : ¬ k = 0 := by omega
  unfold serAt; rw [ht, hp, h1, h2]; simp [h0, h3]

end Go.Proofs.Ytfhlceggihodeaa

/- The contracts of the laws' own helpers on slices of ints: are two equal, put marks in, are the marks still there. -/

namespace Go.Proofs.Ytfhlceggihodeaa
open Go.RowKit

def intsV (zs : List Int) : List Value := zs.map (Value.int .i64)
theorem intsV_len (zs : List Int) : (intsV zs).length = zs.length := by simp [intsV]
theorem infoInt : (Try.prog.info? 3).map (fun i => (i.zero, i.size, i.bytes)) = some (some (.int .i64 0), 1, 8) := by kernel_rfl

/-- The value v is a slice of the call's own that holds the ints zs, in a block from base on. -/
def IntRow (base : Nat) (w : World) (v : Value) (zs : List Int) : Prop := w.ownsRow base 3 1 v zs.length (intsV zs)

theorem IntRow.shape {base : Nat} {w : World} {v : Value} {zs : List Int} (h : IntRow base w v zs) :
    ∃ a g cap, v = .slice a zs.length cap ∧ (0 < zs.length → a = some ⟨g, 0, none⟩ ∧ base ≤ g ∧ g < w.heap.size) ∧ zs.length ≤ maxLen ∧ ∀ j (hj : j < zs.length), w.cell? ⟨g, j, none⟩ = some (.int .i64 zs[j]) ∧ w.frozen? ⟨g, j, none⟩ = false := by
  rcases h.2 with ⟨rfl, h0⟩ | ⟨g, cap, cur, rfl, hb, hg, hn, hc, _⟩
  · exact ⟨none, 0, 0, by rw [h0], fun h => by omega, by rw [h0]; exact Nat.zero_le _, fun j hj => by omega⟩
  · refine ⟨some ⟨g, 0, none⟩, g, cap, rfl, fun _ => ⟨rfl, hb, (Array.getElem?_eq_some_iff.1 hg).1⟩, Nat.le_trans hn hc, fun j hj => ⟨?_, h.frozenAt j⟩⟩
    rw [h.cellAt j (by omega)]
    simp [intsV, hj]
theorem IntRow.below {base : Nat} {w w' : World} {v : Value} {zs : List Int} (h : IntRow base w v zs) (hb : Below w.heap.size w w') : IntRow base w' v zs :=
  h.kept ⟨hb.os, hb.tape, hb.output, hb.size, fun j hj _ => hb.block j hj⟩ (row := none) (by
    rcases h.2 with ⟨rfl, _⟩ | ⟨g, cap, cur, rfl, _⟩
    · exact .inl rfl
    · exact .inr (by simp [Value.ownBlock]))
theorem IntRow.mono {b1 b2 : Nat} {w : World} {v : Value} {zs : List Int} (h : IntRow b1 w v zs) (hb : b2 ≤ b1) : IntRow b2 w v zs := ownsRow_base h hb

/-- The marks k, k + 1, .. -/
def marks (k n : Nat) : List Int := (List.range n).map fun i => ((k + i : Nat) : Int)
theorem marks_succ (k j : Nat) : marks k (j + 1) = marks k j ++ [((k + j : Nat) : Int)] := by simp [marks, List.range_succ]
theorem marks_len (k n : Nat) : (marks k n).length = n := by simp [marks]

end Go.Proofs.Ytfhlceggihodeaa

/- The contracts of the model's sums of letters. -/

namespace Go.Proofs.Ytfhlceggihodeaa
open Go.RowKit

end Go.Proofs.Ytfhlceggihodeaa

/- A drawn region whose head makes memory but has fixed values, and whose tail comes in one order only. -/

namespace Go.Proofs.Ytfhlceggihodeaa
open Go.RowKit

section
variable {P : Program} {ops : Array Oper} {md : Region.Mode} {C : World → Prop}

/-- The head in whatever order, up to the place where L holds. -/
def headQ (P : Program) (md : Region.Mode) (ops : Array Oper) (C : World → Prop) (n : Nat) (L : Array Bool → Act → Prop) : Nat → Array Bool → Act → Prop
  | 0, listed, a => L listed a
  | f + 1, listed, a => Region.ready md ops listed ≠ [] ∧ ∀ i ∈ Region.ready md ops listed, i < n ∧ qOp P ops C i (headQ P md ops C n L f (listed.setIfInBounds i true)) a

theorem wpAny_headQ {n g : Nat} {L : Array Bool → Act → Prop} {Q' : Exit → Act → World → Prop} (hL : ∀ listed a w, C w → L listed a → wpAny P md ops Q' g listed a w) :
    ∀ (f : Nat) (listed : Array Bool) (a : Act) (w : World), C w → headQ P md ops C n L f listed a → wpAny P md ops Q' (f + g) listed a w
  | 0, _, _, _, hw, h => by rw [Nat.zero_add]; exact hL _ _ _ hw h
  | f + 1, listed, a, w, hw, h => by
    rw [Nat.succ_add]
    exact ⟨fun h0 => absurd h0 h.1, fun i hi => wpOp_of_qOp hw (fun a' w' hw' h' => wpAny_headQ hL f _ a' w' hw' h') (h.2 i hi).2⟩

theorem headQ_first {n i : Nat} {oi : Oper} {v : Value} {L : Array Bool → Act → Prop} (hi : ops[i]? = some oi) (hsel : ∀ (j : Nat) (o : Oper) cs b, ops[j]? = some o → o.op ≠ .select cs b)
    (hs : Region.sinkB md ops n = true) (hc : Region.chainB md ops n = true) (hn : n < ops.size) (hin : i < n) (hdone : ∀ listed a, L listed a → ∀ j ∈ Region.ready md ops listed, n ≤ j) :
    ∀ (f : Nat) (listed : Array Bool) (a : Act), HeadInv md ops n listed →
      (∀ j oj, ops[j]? = some oj → j ≠ i → listed.getD j true = false → (∀ e ∈ oj.after, Region.binds md e = true → e.on ≠ i) → oi.apart ops oj = true) →
      i ∈ Region.ready md ops listed → YieldsIn P ops C oi v a →
      headQ P md ops C n L f (listed.setIfInBounds i true) (a.put oi.dst v) → headQ P md ops C n L (f + 1) listed a := by
  intro f
  induction f with
  | zero =>
    intro listed a inv _ hr hy H
    refine ⟨fun h => (by rw [h] at hr; cases hr), fun j hj => ?_⟩
    have hjn : j < n := Nat.lt_of_not_le fun h => tail_waits hs hc hn inv _ i rfl hin (mem_ready.1 hr).1 j h hj
    refine ⟨hjn, ?_⟩
    by_cases hji : j = i
    · subst hji; exact hy.qOp hi H
    · exact absurd (hdone _ _ H j (ready_mono hj hji)) (by omega)
  | succ f ih =>
    intro listed a inv hfree hr hy H
    have hun := (mem_ready.1 hr).1
    refine ⟨fun h => (by rw [h] at hr; cases hr), fun j hj => ?_⟩
    have hjn : j < n := Nat.lt_of_not_le fun h => tail_waits hs hc hn inv _ i rfl hin hun j h hj
    refine ⟨hjn, ?_⟩
    by_cases hji : j = i
    · subst hji; exact hy.qOp hi H
    · obtain ⟨hjun, oj, hoj, hall⟩ := mem_ready.1 hj
      have hnot : ∀ e ∈ oj.after, Region.binds md e = true → e.on ≠ i := fun e he hb heq => by
        have h1 := hall e he hb
        rw [heq, getD_both hun] at h1
        cases h1
      have h2 := qOp_put hoj (hfree j oj hoj hji hjun hnot) (fun cs b => hsel i oi cs b hi) (fun cs b => hsel j oj cs b hoj) hy (H.2 j (ready_mono hj hji)).2
      refine qOp_mono (fun a' h3 => ih _ a' (inv.set hj hjn) (fun k ok hk hki hu hno => hfree k ok hk hki ?_ hno) (ready_mono hr (Ne.symm hji)) h3.1 ?_) h2
      · by_cases hjk : j = k
        · subst hjk; exact hjun
        · rw [getD_set_ne true hjk] at hu; exact hu
      · rw [Array.setIfInBounds_comm _ _ hji]
        exact h3.2

theorem headQ_lex {n g : Nat} {Lq : Act → Prop} (hsel : Region.noSelect ops = true) (hs : Region.sinkB md ops n = true) (hc : Region.chainB md ops n = true) (hn : n < ops.size) :
    ∀ (l : List Oper) (k : Nat) (listed : Array Bool) (a : Act), (∀ j, j < l.length → l[j]? = ops[k + j]?) → k + l.length = n → HeadInv md ops n listed →
    Region.lexHead md ops g l.length k listed = true → wpQuiet P ops C Lq l a → headQ P md ops C n (fun listed' a' => Region.seqB md ops g n listed' = true ∧ Lq a') l.length listed a
  | [], k, listed, a, _, hk, _, hB, h => by
    obtain rfl : k = n := by simpa using hk
    exact ⟨by simpa [Region.lexHead] using hB, h⟩
  | o :: l, k, listed, a, hl, hk, inv, hB, h => by
    have h0 : ops[k]? = some o := by simpa using (hl 0 (by simp)).symm
    simp only [List.length_cons, Region.lexHead, Bool.and_eq_true] at hB
    have hkn : k < n := by simp only [List.length_cons] at hk; omega
    have hr' : k ∈ Region.ready md ops listed := by simpa using hB.1.1
    have hst : qOp P ops C k (wpQuiet P ops C Lq l) a := by unfold qOp; simp only [h0]; exact h
    obtain ⟨v, hy, hK⟩ := yieldsIn_of_qOp h0 hst
    exact headQ_first h0 (Region.noSelect_spec hsel) hs hc hn hkn (fun listed' a' hL => seqB_ready hL.1) l.length listed a inv (Region.free_spec h0 hB.1.2) hr' hy
      (headQ_lex hsel hs hc hn l (k + 1) _ _ (fun j hj => by have := hl (j + 1) (by simp; omega); simpa [Nat.add_assoc, Nat.add_comm 1 j] using this) (by simp only [List.length_cons] at hk; omega) (inv.set hr' hkn) hB.2 hK)

/-- The head walked once, in every world of the class; then the tail. -/
theorem wp_region_quiet_tail {id : Nat} {Q : Exit → Act → World → Prop} {a : Act} {w : World} {l : List Oper} (n : Nat) (hm : P.follows .mixedOrders = true) (hB : Region.lexTailB .any l.toArray n = true) (hC : C { w with drawn := w.drawn + 1 })
    (h : wpQuiet P l.toArray C (fun a' => ∀ w', C w' → wpList P l.toArray Q (l.drop n) a' w') (l.take n) a) : (Code.region id l.toArray true).wp P Q a w := by
  simp only [Region.lexTailB, Bool.and_eq_true, decide_eq_true_eq] at hB
  obtain ⟨⟨⟨⟨hsel, hn⟩, hs⟩, hc⟩, hlex⟩ := hB
  have hn' : n < l.length := by simpa using hn
  have htl : (l.take n).length = n := by simp; omega
  have hdl : (l.drop n).length = l.toArray.size - n := by simp
  have inv0 : HeadInv .any l.toArray n (Array.replicate l.toArray.size false) :=
    ⟨by simp, fun j oj _ hl => (by rw [getD_replicate_false] at hl; cases hl), fun t _ ht => getD_in (by simpa using ht) (getD_replicate_false _ _)⟩
  have H := headQ_lex (md := .any) (g := l.toArray.size - n) hsel hs hc hn (l.take n) 0 _ a (fun j hj => by
    have hj' : j < n := by rw [htl] at hj; exact hj
    simp [hj']) (by simpa using htl) inv0 (by rw [htl]; exact hlex) h
  refine wp_region_any hm ?_
  have := wpAny_headQ (Q' := Q) (g := l.toArray.size - n) (fun listed a' w' hw' hL => by
    have := wpAny_of_seq (md := .any) (Q' := Q) (l.drop n) n listed a' w' (fun j => by simp [List.getElem?_drop]) (by rw [hdl]; exact hL.1) (hL.2 w' hw')
    rwa [hdl] at this) _ _ _ _ hC H
  rw [htl, show n + (l.toArray.size - n) = l.toArray.size by omega] at this
  exact this
/-- At the worlds behind w. -/
theorem wp_region_below_tail {id : Nat} {Q : Exit → Act → World → Prop} {a : Act} {w : World} {l : List Oper} (n : Nat) (hm : P.follows .mixedOrders = true) (hB : Region.lexTailB .any l.toArray n = true)
    (h : wpQuiet P l.toArray (fun w' => ∃ p : BelowBy w, w' = p.world) (fun a' => ∀ w', (∃ p : BelowBy w, w' = p.world) → wpList P l.toArray Q (l.drop n) a' w') (l.take n) a) : (Code.region id l.toArray true).wp P Q a w :=
  wp_region_quiet_tail n hm hB ⟨⟨w.drew, (Below.refl _ _).drew⟩, rfl⟩ h
end

end Go.Proofs.Ytfhlceggihodeaa

/- The contracts of the model's 'l3Fox' and 'FoxOf'. -/

namespace Go.Proofs.Ytfhlceggihodeaa
open Go.RowKit Go.Shelf

theorem Acc.more {base : Nat} {w : World} {v : Value} {acc : List Tm} {N N' : Nat} {B B' : Int} (h : Acc base w v acc N B) (hN : N ≤ N') (hB : B ≤ B') : Acc base w v acc N' B' :=
  ⟨h.own, Nat.le_trans h.len hN, fun u hu => by have := h.bnd u hu; omega, h.sml⟩
theorem extract_take (s : ByteArray) (k : Nat) : s.extract 0 k = bstr (s.data.toList.take k) := by
  apply bytes_ext
  rw [Lib.extract_data, bstr_toList]; simp

end Go.Proofs.Ytfhlceggihodeaa

/- The contracts of the model's 'l1Four', 'l1Put' and 'WordPut'. -/

namespace Go.Proofs.Ytfhlceggihodeaa
open Go.RowKit

def wordsB (zs : List ByteArray) : Bool := zs.all fun s => wordB s.data.toList
/-- Are these four words? -/
def fourB (zs : List ByteArray) : Bool := wordsB zs && decide (zs.length = 4)

theorem wordsB_false (zs : List ByteArray) (k : Nat) (hk : k < zs.length) (h : wordB zs[k].data.toList = false) : wordsB zs = false :=
  List.all_eq_false.2 ⟨_, List.getElem_mem hk, by simp [h]⟩
theorem wordsB_of (zs : List ByteArray) (h : ∀ j (hj : j < zs.length), wordB zs[j].data.toList = true) : wordsB zs = true :=
  List.all_eq_true.2 fun s hs => by
    obtain ⟨j, hj, rfl⟩ := List.mem_iff_getElem.1 hs
    exact h j hj

/-- The image of a letter, and of a row of letters. -/
def imgL (zs : List ByteArray) (c : UInt8) : List UInt8 := if c.toNat < 97 then backL (zs.getD (idxB c) ByteArray.empty).data.toList else (zs.getD (idxB c) ByteArray.empty).data.toList
def putL (zs : List ByteArray) (l : List UInt8) : List UInt8 := (l.map (imgL zs)).flatten
theorem putL_snoc (zs : List ByteArray) (l : List UInt8) (c : UInt8) : putL zs (l ++ [c]) = putL zs l ++ imgL zs c := by simp [putL]
theorem imgL_len (zs : List ByteArray) (c : UInt8) (h : ∀ z ∈ zs, z.size ≤ 60) (hc : idxB c < zs.length) : (imgL zs c).length ≤ 60 := by
  have h1 : (zs.getD (idxB c) ByteArray.empty) ∈ zs := by
    rw [List.getD_eq_getElem?_getD, List.getElem?_eq_getElem hc]; exact List.getElem_mem hc
  have h2 := h _ h1
  unfold imgL
  split
  · rw [backL_length]; simpa using h2
  · simpa using h2

theorem fourB_iff (zs : List ByteArray) : fourB zs = true ↔ zs.length = 4 ∧ ∀ z ∈ zs, wordB z.data.toList = true := by
  unfold fourB wordsB
  rw [Bool.and_eq_true, List.all_eq_true, decide_eq_true_iff, and_comm]

end Go.Proofs.Ytfhlceggihodeaa

/- The contracts of the model's 'SumTurned' and 'SumPut'. -/

namespace Go.Proofs.Ytfhlceggihodeaa
open Go.RowKit Go.Shelf

/-- A term whose word is changed. -/
def mapT (f : List UInt8 → List UInt8) (t : Tm) : Tm := ⟨t.c, bstr (f t.s.data.toList)⟩
def fitB (ts : List Tm) : Bool := ts.all fun t => decide (t.s.size ≤ 60)
theorem fitB_at {ts : List Tm} {k : Nat} (hk : k < ts.length) (h : ¬ ts[k].s.size ≤ 60) : fitB ts = false :=
  List.all_eq_false.2 ⟨_, List.getElem_mem hk, by simpa using h⟩
theorem fitB_of {ts : List Tm} (h : ∀ j (hj : j < ts.length), ts[j].s.size ≤ 60) : fitB ts = true :=
  List.all_eq_true.2 fun t ht => by
    obtain ⟨j, hj, rfl⟩ := List.getElem_of_mem ht
    simpa using h j hj
theorem termB_word {t : Tm} (h : termB t = true) : wordB t.s.data.toList = true := by unfold termB at h; simp only [Bool.and_eq_true] at h; exact h.1

def putF (zs : List ByteArray) (l : List UInt8) : List UInt8 := redL [] (putL zs l)

end Go.Proofs.Ytfhlceggihodeaa

/- The contracts of the model's 'l2Times' and 'SumTimes'. -/

namespace Go.Proofs.Ytfhlceggihodeaa
open Go.RowKit Go.Shelf

/-- The product of two terms, and those of all pairs. -/
def pairT (t u : Tm) : Tm := ⟨t.c * u.c, bstr (redL [] (t.s.data.toList ++ u.s.data.toList))⟩
def pairsT (x y : List Tm) : List Tm := x.flatMap fun t => y.map (pairT t)
theorem pairs_succ (x y : List Tm) (k : Nat) (h : k < x.length) : pairsT (x.take (k + 1)) y = pairsT (x.take k) y ++ y.map (pairT x[k]) := by
  unfold pairsT
  rw [List.take_succ_eq_append_getElem h, List.flatMap_append]
  simp
theorem pairs_zero (y : List Tm) : pairsT [] y = [] := rfl
theorem pairs_len (x y : List Tm) : (pairsT x y).length = x.length * y.length := by
  unfold pairsT
  induction x with
  | nil => simp
  | cons t r ih => rw [List.flatMap_cons, List.length_append, ih, List.length_map, List.length_cons, Nat.succ_mul]; omega
theorem map_succ (f : Tm → Tm) (y : List Tm) (j : Nat) (h : j < y.length) : (y.take (j + 1)).map f = (y.take j).map f ++ [f y[j]] := by
  rw [List.take_succ_eq_append_getElem h, List.map_append]; rfl
theorem mul_bnd {a b : Int} (ha : -1000000 ≤ a ∧ a ≤ 1000000) (hb : -1000000 ≤ b ∧ b ≤ 1000000) : -1000000000000 ≤ a * b ∧ a * b ≤ 1000000000000 := by
  have h : (a * b).natAbs ≤ 1000000 * 1000000 := by
    rw [Int.natAbs_mul]
    exact Nat.mul_le_mul (by omega) (by omega)
  omega

/-- What has been added up so far: the terms of L. -/
structure AccL (base : Nat) (w : World) (v : Value) (L : List Tm) : Prop where
  fit : ∀ t ∈ L, t.s.size ≤ 60
  acc : Acc base w v (L.foldl addT []) L.length (1000000000000 * L.length)
theorem AccL.below {base : Nat} {w w' : World} {v : Value} {L : List Tm} (h : AccL base w v L) (hb : Below w.heap.size w w') : AccL base w' v L := ⟨h.fit, h.acc.below hb⟩
theorem AccL.snoc {base : Nat} {w w' : World} {v v' : Value} {L : List Tm} {t : Tm} (h : AccL base w v L) (ht : t.s.size ≤ 60) (h2 : Acc base w' v' (addT (L.foldl addT []) t) (L.length + 1) (1000000000000 * L.length + 1000000000000)) : AccL base w' v' (L ++ [t]) :=
  ⟨fun u hu => by
    rcases List.mem_append.1 hu with hu | hu
    · exact h.fit u hu
    · rw [List.mem_singleton.1 hu]; exact ht, by
    rw [List.foldl_append, List.length_append]
    rw [show (1000000000000 : Int) * ((L.length + [t].length : Nat) : Int) = 1000000000000 * L.length + 1000000000000 by rw [List.length_singleton]; omega]
    exact h2⟩
theorem AccL.nil (w : World) : AccL w.heap.size (w.alloc (.cells #[] TI)) (.slice (some ⟨w.heap.size, 0, none⟩) 0 0) [] := ⟨fun t h => (by cases h), acc_zero w⟩

/-- What l2Times hands back. -/
def TimesYes (w : World) (ts : List Tm) (e : Ending) (w' : World) : Prop := ∃ v, e = .returned (.tuple #[v, .bool true]) ∧ OwnTerms w.heap.size w' v (canonT ts) ∧ SmallT (canonT ts) ∧ Below w.heap.size w w'
def TimesNo (w : World) (e : Ending) (w' : World) : Prop := ∃ g n cap, e = .returned (.tuple #[.slice (some ⟨g, 0, none⟩) n cap, .bool false]) ∧ Below w.heap.size w w'
def TimesAny (w : World) (b : Bool) (ts : List Tm) (e : Ending) (w' : World) : Prop := (b = true ∧ TimesYes w ts e w') ∨ (b = false ∧ TimesNo w e w')

end Go.Proofs.Ytfhlceggihodeaa

/- The contract of the model's 'FoxSum'. -/

namespace Go.Proofs.Ytfhlceggihodeaa
open Go.RowKit Go.Shelf

theorem mul_bnd60 {a b : Int} (ha : -1000000 ≤ a ∧ a ≤ 1000000) (hb : -60 ≤ b ∧ b ≤ 60) : -60000000 ≤ a * b ∧ a * b ≤ 60000000 := by
  have h : (a * b).natAbs ≤ 1000000 * 60 := by
    rw [Int.natAbs_mul]
    exact Nat.mul_le_mul (by omega) (by omega)
  omega
theorem scale_succ (c : Int) (ds acc : List Tm) (j : Nat) (h : j < ds.length) : (scaleT c (ds.take (j + 1))).foldl addT acc = addT ((scaleT c (ds.take j)).foldl addT acc) ⟨c * ds[j].c, ds[j].s⟩ := by
  unfold scaleT
  rw [List.take_succ_eq_append_getElem h, List.map_append, List.foldl_append]; rfl

/-- What FoxSum answers. -/
def foxSumB (x : List Tm) (g : Int) : Bool := sumB x && (inR 0 3 g && twB (canonT (foxI g x)))

theorem foxSumB_tw {x : List Tm} {g : Int} {b : Bool} (h : foxSumB x g = b) : b = true → twB (canonT (foxI g x)) = true := by
  intro hb
  subst hb
  unfold foxSumB at h
  simp only [Bool.and_eq_true] at h
  exact h.2.2

end Go.Proofs.Ytfhlceggihodeaa

/- The contracts of the model's 'l4Times', 'l4Done' and 'SeriesTimes'. -/

namespace Go.Proofs.Ytfhlceggihodeaa
open Go.RowKit Go.Shelf

/-- The product of two terms whose words are put one behind the other; those of all pairs that are not too long. -/
def pairS (t u : Tm) : Tm := ⟨t.c * u.c, t.s ++ u.s⟩
def short (t : Tm) : Bool := decide (t.s.size ≤ 4)
def pairsS (x y : List Tm) : List Tm := x.flatMap fun t => (y.map (pairS t)).filter short
theorem pairsS_succ (x y : List Tm) (k : Nat) (h : k < x.length) : pairsS (x.take (k + 1)) y = pairsS (x.take k) y ++ (y.map (pairS x[k])).filter short := by
  unfold pairsS
  rw [List.take_succ_eq_append_getElem h, List.flatMap_append]
  simp
def rowS (t : Tm) (y : List Tm) : List Tm := (y.map (pairS t)).filter short
theorem rowS_succ (t : Tm) (y : List Tm) (j : Nat) (h : j < y.length) : rowS t (y.take (j + 1)) = rowS t (y.take j) ++ (if (t.s ++ y[j].s).size ≤ 4 then [pairS t y[j]] else []) := by
  unfold rowS
  rw [map_succ (pairS t) y j h, List.filter_append, List.filter_cons, List.filter_nil]
  congr 1
  by_cases hs : (t.s ++ y[j].s).size ≤ 4
  · rw [if_pos (show short (pairS t y[j]) = true from decide_eq_true hs), if_pos hs]
  · rw [if_neg (show ¬ short (pairS t y[j]) = true by unfold short pairS; simpa using hs), if_neg hs]

/-- What fits into the products of series. -/
def SerL (x : List Tm) : Prop := x.length ≤ 400 ∧ ∀ t ∈ x, t.s.size ≤ 4 ∧ -1000000 ≤ t.c ∧ t.c ≤ 1000000

theorem serB_is (ts : List Tm) : serB ts = ((List.range ts.length).all (serAt ts) && decide (ts.length ≤ 400)) := rfl
theorem serB_parts {ts : List Tm} (h : serB ts = true) : ts.length ≤ 400 ∧ (∀ t ∈ ts, t.c ≠ 0 ∧ (-1000000 ≤ t.c ∧ t.c ≤ 1000000) ∧ monoB t.s = true) ∧ Canon ts := by
  rw [serB_is] at h
  simp only [Bool.and_eq_true, decide_eq_true_eq] at h
  obtain ⟨h1, h2⟩ := h
  have hat : ∀ j (hj : j < ts.length), ts[j].c ≠ 0 ∧ (-1000000 ≤ ts[j].c ∧ ts[j].c ≤ 1000000) ∧ monoB ts[j].s = true ∧ (j = 0 ∨ lessW (ts.getD (j - 1) default).s (ts.getD j default).s = true) := fun j hj => by
    have h3 := List.all_eq_true.1 h1 j (List.mem_range.2 hj)
    have hg : ts.getD j default = ts[j] := by rw [List.getD_eq_getElem?_getD, List.getElem?_eq_getElem hj]; rfl
    unfold serAt inR at h3
    simp only [Bool.and_eq_true, bne_iff_ne, ne_eq, Bool.or_eq_true, decide_eq_true_eq] at h3
    rw [hg] at h3 ⊢
    exact ⟨h3.1.1.1, h3.1.1.2, h3.1.2, h3.2⟩
  refine ⟨h2, fun t ht => ?_, pairwise_lessW fun k hk hk0 => ?_, fun t ht => ?_⟩
  · obtain ⟨j, hj, rfl⟩ := List.getElem_of_mem ht
    exact ⟨(hat j hj).1, (hat j hj).2.1, (hat j hj).2.2.1⟩
  · rcases (hat k hk).2.2.2 with h | h
    · omega
    · exact h
  · obtain ⟨j, hj, rfl⟩ := List.getElem_of_mem ht
    exact (hat j hj).1
theorem mono_size {s : ByteArray} (h : monoB s = true) : s.size ≤ 4 := by
  unfold monoB at h
  simp only [Bool.and_eq_true, decide_eq_true_eq] at h
  exact h.2
theorem serL_of {ts : List Tm} (h : serB ts = true) : SerL ts := by
  obtain ⟨h1, h2, _⟩ := serB_parts h
  exact ⟨h1, fun t ht => ⟨mono_size (h2 t ht).2.2, (h2 t ht).2.1⟩⟩
/-- For canonical lists only the terms have to be looked at. -/
def twS (ts : List Tm) : Bool := decide (ts.length ≤ 400) && ts.all fun t => inR (-1000000) 1000000 t.c && monoB t.s
theorem serB_canon {ts : List Tm} (h : Canon ts) : serB ts = twS ts := by
  rw [serB_is, Bool.and_comm]
  unfold twS
  congr 1
  have hg : ∀ j (h : j < ts.length), ts.getD j default = ts[j] := fun j h => by rw [List.getD_eq_getElem?_getD, List.getElem?_eq_getElem h]; rfl
  rw [Bool.eq_iff_iff]
  simp only [List.all_eq_true, List.mem_range]
  constructor
  · intro h1 t ht
    obtain ⟨j, hj, rfl⟩ := List.getElem_of_mem ht
    have h3 := h1 j hj
    unfold serAt at h3
    rw [hg j hj] at h3
    simp only [Bool.and_eq_true] at h3 ⊢
    exact ⟨h3.1.1.2, h3.1.2⟩
  · intro h1 j hj
    have h3 := h1 _ (List.getElem_mem hj)
    simp only [Bool.and_eq_true] at h3
    unfold serAt
    rw [hg j hj, h3.1, h3.2]
    have h4 : (ts[j].c != 0) = true := by simpa using h.2 _ (List.getElem_mem hj)
    rw [h4]
    by_cases hj0 : j = 0
    · simp [hj0]
    · have h5 := List.pairwise_iff_getElem.1 h.1 (j - 1) j (by omega) hj (by omega)
      rw [hg (j - 1) (by omega), h5]
      simp
theorem twS_parts {ts : List Tm} (h : twS ts = true) : ts.length ≤ 400 ∧ ∀ t ∈ ts, (-1000000 ≤ t.c ∧ t.c ≤ 1000000) ∧ monoB t.s = true := by
  unfold twS inR at h
  simp only [Bool.and_eq_true, decide_eq_true_eq, List.all_eq_true] at h
  exact h
theorem told_smallS {b : Bool} {L us : List Tm} (h : b = true → twS L = true) (hus : cond b L [] = us) : SmallT us ∧ us.length ≤ 400 := by
  cases b with
  | false => subst hus; exact ⟨⟨Nat.zero_le _, fun t h => by cases h⟩, Nat.zero_le _⟩
  | true =>
    have hus : L = us := hus
    subst hus
    obtain ⟨h1, h2⟩ := twS_parts (h rfl)
    exact ⟨⟨by unfold maxLen; omega, fun t ht => by have := h2 t ht; have := mono_size this.2; unfold maxLen; omega⟩, h1⟩
/-- What SeriesTimes answers. -/
def serProdB (x y : List Tm) : Bool := serB x && (serB y && twS (canonT (pairsS x y)))
theorem serProdB_tw {x y : List Tm} {b : Bool} (h : serProdB x y = b) : b = true → twS (canonT (pairsS x y)) = true := by
  intro hb
  subst hb
  unfold serProdB at h
  simp only [Bool.and_eq_true] at h
  exact h.2.2

end Go.Proofs.Ytfhlceggihodeaa

/- How great the coefficients of the series of a word get, and how many terms it has. -/

namespace Go.Proofs.Ytfhlceggihodeaa
open Go.RowKit

/-- The sum of the sizes of the coefficients of degree d; of those up to degree d. -/
def nrm (d : Nat) : List Tm → Nat
  | [] => 0
  | t :: r => (if t.s.size = d then t.c.natAbs else 0) + nrm d r
def cum (d : Nat) : List Tm → Nat
  | [] => 0
  | t :: r => (if t.s.size ≤ d then t.c.natAbs else 0) + cum d r
theorem nrm_append (d : Nat) (a b : List Tm) : nrm d (a ++ b) = nrm d a + nrm d b := by
  induction a with
  | nil => simp [nrm]
  | cons t r ih => rw [List.cons_append, nrm, nrm, ih]; omega
theorem nrm_nz (d : Nat) (t : Tm) : nrm d (nz t) = if t.s.size = d then t.c.natAbs else 0 := by
  unfold nz
  by_cases h : t.c = 0
  · rw [if_pos h, h]; simp [nrm]
  · rw [if_neg h]; simp [nrm]
theorem nrm_add (d : Nat) (t : Tm) : ∀ ts, nrm d (addT ts t) ≤ nrm d ts + if t.s.size = d then t.c.natAbs else 0
  | [] => by rw [addT, nrm_nz, nrm]; omega
  | x :: r => by
    rw [addT]
    by_cases h : lessW x.s t.s = true
    · rw [if_pos h, nrm, nrm]
      have := nrm_add d t r
      omega
    · rw [if_neg h]
      by_cases h2 : x.s = t.s
      · rw [if_pos h2, nrm_append, nrm_nz, nrm, h2]
        by_cases h3 : t.s.size = d
        · simp only [h3, if_true]; omega
        · simp only [h3, if_false]; omega
      · rw [if_neg h2, nrm_append, nrm_nz]; omega
theorem nrm_fold (d : Nat) : ∀ (ts acc : List Tm), nrm d (ts.foldl addT acc) ≤ nrm d acc + nrm d ts
  | [], acc => by simp [nrm]
  | t :: r, acc => by
    have h1 := nrm_fold d r (addT acc t)
    have h2 := nrm_add d t acc
    rw [List.foldl_cons, nrm]
    omega
theorem nrm_canon (d : Nat) (ts : List Tm) : nrm d (canonT ts) ≤ nrm d ts := by
  have h := nrm_fold d ts []
  rw [show nrm d [] = 0 from rfl, Nat.zero_add] at h
  exact h
theorem cum_zero : ∀ ts, cum 0 ts = nrm 0 ts
  | [] => rfl
  | t :: r => by rw [cum, nrm, cum_zero r]; simp only [Nat.le_zero_eq]
theorem cum_succ (d : Nat) : ∀ ts, cum (d + 1) ts = cum d ts + nrm (d + 1) ts
  | [] => rfl
  | t :: r => by
    rw [cum, cum, nrm, cum_succ d r]
    by_cases h : t.s.size ≤ d
    · rw [if_pos (by omega), if_pos h, if_neg (by omega)]; omega
    · by_cases h2 : t.s.size = d + 1
      · rw [if_pos (by omega), if_neg h, if_pos h2]; omega
      · rw [if_neg (by omega), if_neg h, if_neg h2]; omega
theorem cum_le (d : Nat) : ∀ {ts : List Tm} {t : Tm}, t ∈ ts → t.s.size ≤ d → t.c.natAbs ≤ cum d ts
  | u :: r, t, h, hd => by
    rw [cum]
    rcases List.mem_cons.1 h with rfl | h
    · rw [if_pos hd]; omega
    · have := cum_le d h hd; omega
theorem nrm_row (d : Nat) (t : Tm) {y : List Tm} (hy : ∀ e, nrm e y ≤ 1) : nrm d (rowS t y) ≤ if t.s.size ≤ d then t.c.natAbs else 0 := by
  have key : ∀ z : List Tm, nrm d (rowS t z) ≤ if t.s.size ≤ d then t.c.natAbs * nrm (d - t.s.size) z else 0 := by
    intro z
    induction z with
    | nil => simp [rowS, nrm]
    | cons u r ih =>
      have e : rowS t (u :: r) = (if short (pairS t u) = true then [pairS t u] else []) ++ rowS t r := by
        unfold rowS
        rw [List.map_cons, List.filter_cons]
        split <;> simp
      have h1 : nrm d (if short (pairS t u) = true then [pairS t u] else []) ≤ if t.s.size + u.s.size = d then t.c.natAbs * u.c.natAbs else 0 := by
        have hs : (pairS t u).s.size = t.s.size + u.s.size := by unfold pairS; exact ByteArray.size_append
        split
        · rw [nrm, nrm, hs]
          split
          · unfold pairS; rw [Int.natAbs_mul]; omega
          · omega
        · simp [nrm]
      rw [e, nrm_append, nrm]
      by_cases h : t.s.size ≤ d
      · rw [if_pos h] at ih ⊢
        rw [Nat.mul_add]
        have h2 : (if t.s.size + u.s.size = d then t.c.natAbs * u.c.natAbs else 0) ≤ t.c.natAbs * (if u.s.size = d - t.s.size then u.c.natAbs else 0) := by
          by_cases h3 : t.s.size + u.s.size = d
          · rw [if_pos h3, if_pos (by omega)]; exact Nat.le_refl _
          · rw [if_neg h3]; exact Nat.zero_le _
        omega
      · rw [if_neg h] at ih ⊢
        have h3 : ¬ t.s.size + u.s.size = d := by omega
        rw [if_neg h3] at h1
        omega
  have h := key y
  by_cases hd : t.s.size ≤ d
  · rw [if_pos hd] at h ⊢
    have := Nat.mul_le_mul_left t.c.natAbs (hy (d - t.s.size))
    omega
  · rw [if_neg hd] at h ⊢; exact h
theorem nrm_pairs (d : Nat) {y : List Tm} (hy : ∀ e, nrm e y ≤ 1) : ∀ x, nrm d (pairsS x y) ≤ cum d x
  | [] => by simp [pairsS, nrm]
  | t :: r => by
    have h1 := nrm_pairs d hy r
    have h2 := nrm_row d t hy
    have e : pairsS (t :: r) y = rowS t y ++ pairsS r y := by unfold pairsS rowS; rw [List.flatMap_cons]
    rw [e, nrm_append, cum]
    omega

/-- How many ways there are to choose: of degree 0 to 4. -/
def stepW (p : Nat × Nat × Nat × Nat × Nat) : Nat × Nat × Nat × Nat × Nat := (p.1, p.1 + p.2.1, p.1 + p.2.1 + p.2.2.1, p.1 + p.2.1 + p.2.2.1 + p.2.2.2.1, p.1 + p.2.1 + p.2.2.1 + p.2.2.2.1 + p.2.2.2.2)
def waysT : Nat → Nat × Nat × Nat × Nat × Nat
  | 0 => (1, 1, 1, 1, 1)
  | k + 1 => stepW (waysT k)
theorem ways_le {k n : Nat} (h : k ≤ n) : (waysT k).2.2.2.2 ≤ (waysT n).2.2.2.2 := by
  induction h with
  | refl => exact Nat.le_refl _
  | step _ ih => exact Nat.le_trans ih (by rw [waysT, stepW]; simp only []; omega)
theorem ways_max : (waysT 60).2.2.2.2 = 635376 := by decide +kernel
def WaysIn (k : Nat) (x : List Tm) : Prop := cum 0 x ≤ (waysT k).1 ∧ cum 1 x ≤ (waysT k).2.1 ∧ cum 2 x ≤ (waysT k).2.2.1 ∧ cum 3 x ≤ (waysT k).2.2.2.1 ∧ cum 4 x ≤ (waysT k).2.2.2.2
theorem ways_step {k : Nat} {x y : List Tm} (hy : ∀ e, nrm e y ≤ 1) (h : WaysIn k x) : WaysIn (k + 1) (canonT (pairsS x y)) := by
  obtain ⟨h0, h1, h2, h3, h4⟩ := h
  have hn : ∀ d, nrm d (canonT (pairsS x y)) ≤ cum d x := fun d => Nat.le_trans (nrm_canon d _) (nrm_pairs d hy x)
  have n0 := hn 0
  have n1 := hn 1
  have n2 := hn 2
  have n3 := hn 3
  have n4 := hn 4
  have e0 := cum_zero (canonT (pairsS x y))
  have e1 := cum_succ 0 (canonT (pairsS x y))
  have e2 := cum_succ 1 (canonT (pairsS x y))
  have e3 := cum_succ 2 (canonT (pairsS x y))
  have e4 := cum_succ 3 (canonT (pairsS x y))
  simp only [Nat.zero_add, Nat.reduceAdd] at e1 e2 e3 e4
  unfold WaysIn
  rw [waysT, stepW]
  simp only []
  omega
theorem ways_coef {k : Nat} {x : List Tm} (h : WaysIn k x) (hk : k ≤ 60) {t : Tm} (ht : t ∈ x) (hs : t.s.size ≤ 4) : -1000000 ≤ t.c ∧ t.c ≤ 1000000 := by
  have h1 := cum_le 4 ht hs
  have h2 := h.2.2.2.2
  have h3 := ways_le hk
  rw [ways_max] at h3
  omega

/-! ### How many terms -/
theorem nodup_len {α : Type} [BEq α] [LawfulBEq α] : ∀ (l m : List α), l.Nodup → (∀ x ∈ l, x ∈ m) → l.length ≤ m.length
  | [], _, _, _ => Nat.zero_le _
  | x :: r, m, h, hs => by
    obtain ⟨h1, h2⟩ := List.nodup_cons.1 h
    have hx := hs x (by simp)
    have := nodup_len r (m.erase x) h2 fun y hy => (List.mem_erase_of_ne (fun e => h1 (by rw [← e]; exact hy))).2 (hs y (by simp [hy]))
    rw [List.length_erase_of_mem hx] at this
    have : 0 < m.length := List.length_pos_of_mem hx
    rw [List.length_cons]; omega
def monosN : Nat → List (List UInt8)
  | 0 => [[]]
  | n + 1 => (monosN n).flatMap fun l => [97 :: l, 98 :: l, 99 :: l, 100 :: l]
theorem mem_monos : ∀ (l : List UInt8), l.all genB = true → l ∈ monosN l.length
  | [], _ => by simp [monosN]
  | c :: r, h => by
    rw [List.all_cons, Bool.and_eq_true] at h
    obtain ⟨hc, hr⟩ := h
    have ih := mem_monos r hr
    have h4 : c = 97 ∨ c = 98 ∨ c = 99 ∨ c = 100 := by
      unfold genB at hc
      simp only [Bool.and_eq_true, decide_eq_true_eq] at hc
      have : c.toNat = 97 ∨ c.toNat = 98 ∨ c.toNat = 99 ∨ c.toNat = 100 := by omega
      rcases this with h | h | h | h
      · exact .inl (UInt8.toNat_inj.1 h)
      · exact .inr (.inl (UInt8.toNat_inj.1 h))
      · exact .inr (.inr (.inl (UInt8.toNat_inj.1 h)))
      · exact .inr (.inr (.inr (UInt8.toNat_inj.1 h)))
    rw [List.length_cons, monosN]
    refine List.mem_flatMap.2 ⟨r, ih, ?_⟩
    rcases h4 with rfl | rfl | rfl | rfl <;> simp
def monosAll : List (List UInt8) := (List.range 5).flatMap monosN
theorem monosAll_len : monosAll.length = 341 := by decide +kernel
theorem mono_mem {s : ByteArray} (h : monoB s = true) : s.data.toList ∈ monosAll := by
  unfold monoB at h
  simp only [Bool.and_eq_true, decide_eq_true_eq] at h
  have hl : s.data.toList.length ≤ 4 := by simpa using h.2
  exact List.mem_flatMap.2 ⟨_, List.mem_range.2 (by omega), mem_monos _ h.1⟩
theorem canon_len341 {ts : List Tm} (hc : Canon ts) (h : ∀ t ∈ ts, monoB t.s = true) : ts.length ≤ 341 := by
  have := nodup_len (ts.map fun t => t.s.data.toList) monosAll (by
    rw [List.nodup_iff_pairwise_ne, List.pairwise_map]
    exact hc.1.imp fun hl e => lessW_ne hl (bytes_ext e)) (fun l hl => by
    obtain ⟨t, ht, rfl⟩ := List.mem_map.1 hl
    exact mono_mem (h t ht))
  rwa [List.length_map, monosAll_len] at this
theorem mono_append {a b : ByteArray} (ha : monoB a = true) (hb : monoB b = true) (h : (a ++ b).size ≤ 4) : monoB (a ++ b) = true := by
  unfold monoB at *
  simp only [Bool.and_eq_true, decide_eq_true_eq] at *
  refine ⟨?_, h⟩
  rw [append_toList, List.all_append, ha.1, hb.1]; rfl
theorem pairsS_mono {x y : List Tm} (hx : ∀ t ∈ x, monoB t.s = true) (hy : ∀ t ∈ y, monoB t.s = true) : ∀ t ∈ pairsS x y, monoB t.s = true := fun t ht => by
  obtain ⟨u, hu, ht⟩ := List.mem_flatMap.1 ht
  obtain ⟨h1, h2⟩ := List.mem_filter.1 ht
  obtain ⟨v, hv, rfl⟩ := List.mem_map.1 h1
  exact mono_append (hx u hu) (hy v hv) (of_decide_eq_true h2)

end Go.Proofs.Ytfhlceggihodeaa

/- The contracts of the model's powers of words. -/

namespace Go.Proofs.Ytfhlceggihodeaa
open Go.RowKit

end Go.Proofs.Ytfhlceggihodeaa

/- The contracts of slices.Grow and slices.Concat at terms. -/

namespace Go.Proofs.Ytfhlceggihodeaa
open Go.RowKit Go.Shelf

theorem ownsRow_low {W : World} {base : Nat} {e : TypeId} {size : Nat} {v : Value} {n : Nat} {xs : List Value} (h : W.ownsRow base e size v n xs) : ∀ j, v.ownBlock = some j → base ≤ j := fun j ej => (h.lt j ej).1

/-- A slice of terms that may be nil. -/
def PartT (w : World) (v : Value) (ts : List Tm) : Prop := (v = .slice none 0 0 ∧ ts = []) ∨ ∃ x cap, v = .slice (some x) ts.length cap ∧ ∀ j u, (termsV ts)[j]? = some u → w.cell? (x.add j) = some u ∧ x.block < w.heap.size
theorem PartT.below {w w' : World} {v : Value} {ts : List Tm} (h : PartT w v ts) (hb : Below w.heap.size w w') : PartT w' v ts := by
  rcases h with h | ⟨x, cap, e, h⟩
  · exact .inl h
  · exact .inr ⟨x, cap, e, fun j u hu => by
      obtain ⟨h1, h2⟩ := h j u hu
      exact ⟨(hb.cell (p := x.add j) (by rw [addr_add_block]; exact h2)).trans h1, Nat.lt_of_lt_of_le h2 hb.size⟩⟩
theorem partT_of {w : World} {ad : Addr} {n cap : Nat} {ts : List Tm} (h : IsTerms w (some ad) n ts) : PartT w (.slice (some ad) n cap) ts := by
  refine .inr ⟨ad, cap, by rw [h.len], fun j u hu => ?_⟩
  rcases Nat.eq_zero_or_pos n with h0 | h0
  · have : ts = [] := List.length_eq_zero_iff.1 (h.len.trans h0)
    subst this
    simp [termsV] at hu
  · obtain ⟨z, e, h2⟩ := h.at_ h0
    cases e
    exact ⟨h2.cells j u hu, h2.1⟩
theorem partT_own {base : Nat} {w : World} {v : Value} {ts : List Tm} (h : OwnT base w v ts) : PartT w v ts := by
  rcases h.2 with ⟨rfl, h0⟩ | ⟨g, cap, cur, rfl, _, hg, _⟩
  · exact .inl ⟨rfl, List.length_eq_zero_iff.1 h0⟩
  · exact .inr ⟨_, cap, rfl, fun j u hu => ⟨(termsAt_of_owns rfl h).cells j u hu, (ownsRow_cap h).2.2.2⟩⟩
theorem PartT.len {w : World} {v : Value} {ts : List Tm} (h : PartT w v ts) : ∃ a cap, v = .slice a ts.length cap := by
  rcases h with ⟨rfl, rfl⟩ | ⟨x, cap, e, _⟩
  · exact ⟨_, _, rfl⟩
  · exact ⟨_, _, e⟩

def lens (ps : List (Value × List Tm)) : Nat := (ps.map fun p => p.2.length).sum
def flatT (ps : List (Value × List Tm)) : List Tm := (ps.map Prod.snd).flatten
theorem lens_succ (ps : List (Value × List Tm)) (k : Nat) (h : k < ps.length) : lens (ps.take (k + 1)) = lens (ps.take k) + ps[k].2.length := by
  unfold lens
  rw [List.take_succ_eq_append_getElem h, List.map_append, List.sum_append]; simp
theorem flatT_succ (ps : List (Value × List Tm)) (k : Nat) (h : k < ps.length) : flatT (ps.take (k + 1)) = flatT (ps.take k) ++ ps[k].2 := by
  unfold flatT
  rw [List.take_succ_eq_append_getElem h, List.map_append, List.flatten_append]; simp
theorem flatT_len (ps : List (Value × List Tm)) : (flatT ps).length = lens ps := by
  unfold flatT lens
  rw [List.length_flatten, List.map_map]; rfl
theorem lens_take (ps : List (Value × List Tm)) (k : Nat) : lens (ps.take k) ≤ lens ps := by
  have h : lens ps = lens (ps.take k) + lens (ps.drop k) := by
    conv => lhs; rw [← List.take_append_drop k ps]
    unfold lens
    rw [List.map_append, List.sum_append]
  omega

end Go.Proofs.Ytfhlceggihodeaa

/- The contracts of the model's 'l4Letter' and 'SeriesOf'. -/

namespace Go.Proofs.Ytfhlceggihodeaa
open Go.RowKit Go.Shelf

def letX (c : UInt8) : List UInt8 := [UInt8.ofNat (97 + idxB c)]
/-- The sign of a power of an inverse letter. -/
def altZ (i : Nat) : Int := if i % 2 = 0 then 1 else -1
def powT (c : UInt8) (i : Nat) : Tm := ⟨altZ i, bstr (repL i (letX c))⟩
/-- The series of a letter. -/
def letS (c : UInt8) : List Tm := if 97 ≤ c.toNat then [⟨1, { data := #[] }⟩, ⟨1, bstr (letX c)⟩] else (List.range 5).map (powT c)
theorem let_cases {P : UInt8 → Prop} (h : ∀ n : Fin 8, P (UInt8.ofNat (if n.val < 4 then 97 + n.val else 61 + n.val))) {c : UInt8} (hc : letB c = true) : P c := by
  have h2 := (letB_iff c).1 hc
  have : ∃ n : Fin 8, c = UInt8.ofNat (if n.val < 4 then 97 + n.val else 61 + n.val) := by
    rcases h2 with h2 | h2
    · exact ⟨⟨c.toNat - 97, by omega⟩, UInt8.toNat_inj.1 (by rw [if_pos (by show c.toNat - 97 < 4; omega)]; rw [UInt8.toNat_ofNat', Nat.mod_eq_of_lt (by show 97 + (c.toNat - 97) < _; omega)]; show c.toNat = 97 + (c.toNat - 97); omega)⟩
    · exact ⟨⟨c.toNat - 61, by omega⟩, UInt8.toNat_inj.1 (by rw [if_neg (by show ¬ c.toNat - 61 < 4; omega)]; rw [UInt8.toNat_ofNat', Nat.mod_eq_of_lt (by show 61 + (c.toNat - 61) < _; omega)]; show c.toNat = 61 + (c.toNat - 61); omega)⟩
  obtain ⟨n, rfl⟩ := this
  exact h n
theorem letS_facts : ∀ n : Fin 8, (letS (UInt8.ofNat (if n.val < 4 then 97 + n.val else 61 + n.val))).all (fun t => monoB t.s && (inR (-1) 1 t.c)) = true ∧ (letS (UInt8.ofNat (if n.val < 4 then 97 + n.val else 61 + n.val))).length ≤ 5 ∧
    (List.range 5).all (fun e => decide (nrm e (letS (UInt8.ofNat (if n.val < 4 then 97 + n.val else 61 + n.val))) ≤ 1)) = true := by decide +kernel
theorem nrm_far {d : Nat} : ∀ {ts : List Tm}, (∀ t ∈ ts, t.s.size ≠ d) → nrm d ts = 0
  | [], _ => rfl
  | t :: r, h => by rw [nrm, if_neg (h t (by simp)), nrm_far fun u hu => h u (by simp [hu])]
theorem letS_ok {c : UInt8} (hc : letB c = true) : (∀ t ∈ letS c, monoB t.s = true ∧ -1 ≤ t.c ∧ t.c ≤ 1) ∧ (letS c).length ≤ 5 ∧ ∀ e, nrm e (letS c) ≤ 1 := by
  obtain ⟨h1, h2, h3⟩ := let_cases (P := fun c => (letS c).all (fun t => monoB t.s && (inR (-1) 1 t.c)) = true ∧ (letS c).length ≤ 5 ∧ (List.range 5).all (fun e => decide (nrm e (letS c) ≤ 1)) = true) letS_facts hc
  have h4 : ∀ t ∈ letS c, monoB t.s = true ∧ -1 ≤ t.c ∧ t.c ≤ 1 := fun t ht => by
    have := List.all_eq_true.1 h1 t ht
    unfold inR at this
    simp only [Bool.and_eq_true, decide_eq_true_eq] at this
    exact this
  refine ⟨h4, h2, fun e => ?_⟩
  by_cases he : e < 5
  · exact of_decide_eq_true (List.all_eq_true.1 h3 e (List.mem_range.2 he))
  · rw [nrm_far fun t ht => by have := mono_size (h4 t ht).1; omega]; omega
theorem letS_ser {c : UInt8} (hc : letB c = true) : SerL (letS c) := by
  obtain ⟨h1, h2, _⟩ := letS_ok hc
  exact ⟨by omega, fun t ht => by have := h1 t ht; have := mono_size this.1; omega⟩

/-- The series of a word. -/
def oneT : List Tm := [⟨1, { data := #[] }⟩]
def serW (l : List UInt8) : List Tm := l.foldl (fun out c => canonT (pairsS out (letS c))) oneT
theorem serW_snoc (l : List UInt8) (c : UInt8) : serW (l ++ [c]) = canonT (pairsS (serW l) (letS c)) := by unfold serW; rw [List.foldl_append]; rfl
structure SerOK (k : Nat) (x : List Tm) : Prop where
  ways : WaysIn k x
  canon : Canon x
  mono : ∀ t ∈ x, monoB t.s = true
theorem serOK_one : SerOK 0 oneT :=
  ⟨by unfold WaysIn; decide, ⟨by simp [oneT], fun t ht => by rw [List.mem_singleton.1 ht]; exact Int.one_ne_zero⟩, fun t ht => by rw [List.mem_singleton.1 ht]; decide⟩
theorem SerOK.step {k : Nat} {x : List Tm} {c : UInt8} (h : SerOK k x) (hc : letB c = true) : SerOK (k + 1) (canonT (pairsS x (letS c))) :=
  ⟨ways_step (letS_ok hc).2.2 h.ways, canon_of _, fun t ht => by
    obtain ⟨v, hv, e⟩ := canon_words ht
    rw [← e]
    exact pairsS_mono h.mono (fun u hu => ((letS_ok hc).1 u hu).1) v hv⟩
theorem SerOK.ser {k : Nat} {x : List Tm} (h : SerOK k x) (hk : k ≤ 60) : SerL x :=
  ⟨by have := canon_len341 h.canon h.mono; omega, fun t ht => by
    have h1 := mono_size (h.mono t ht)
    exact ⟨h1, ways_coef h.ways hk ht h1⟩⟩
theorem SerOK.told {k : Nat} {x : List Tm} (h : SerOK k x) (hk : k ≤ 60) : twS x = true := by
  obtain ⟨h1, h2⟩ := h.ser hk
  unfold twS inR
  rw [decide_eq_true h1, Bool.true_and]
  refine List.all_eq_true.2 fun t ht => ?_
  have := h2 t ht
  rw [h.mono t ht, decide_eq_true this.2.1, decide_eq_true this.2.2]; rfl
theorem serW_ok : ∀ (l : List UInt8), letL l = true → SerOK l.length (serW l) := by
  intro l
  generalize hn : l.length = n
  induction n generalizing l with
  | zero => intro _; rw [List.length_eq_zero_iff.1 hn]; exact serOK_one
  | succ n ih =>
    intro hl
    obtain ⟨p, c, rfl⟩ := last_split l (by omega)
    rw [letL_append, Bool.and_eq_true] at hl
    rw [serW_snoc]
    have hp : p.length = n := by rw [List.length_append] at hn; simp at hn; exact hn
    exact (ih p hp hl.1).step (by have := hl.2; simp [letL] at this; exact this)

theorem isTerms_ser {w : World} {ad : Option Addr} {n : Nat} {x : List Tm} (h : IsTerms w ad n x) : x.length = n := h.len

theorem acc_ser {base : Nat} {w : World} {v : Value} {x : List Tm} {N : Nat} {B : Int} (h : Acc base w v x N B) (hs : SerL x) : ∃ g cap, v = .slice (some ⟨g, 0, none⟩) x.length cap ∧ IsTerms w (some ⟨g, 0, none⟩) x.length x := by
  obtain ⟨g, cap, rfl, h1, h2, h3, h4⟩ := h.own.form
  exact ⟨g, cap, rfl, rfl, by have := hs.1; unfold maxLen; omega, fun _ => ⟨_, rfl, h1⟩, fun t ht => by have := hs.2 t ht; unfold maxLen; omega⟩
theorem own_ser {base : Nat} {w : World} {v : Value} {x : List Tm} (h : OwnTerms base w v x) (hs : SerL x) : ∃ g cap, v = .slice (some ⟨g, 0, none⟩) x.length cap ∧ IsTerms w (some ⟨g, 0, none⟩) x.length x := by
  obtain ⟨g, cap, rfl, h1, h2, h3, h4⟩ := h.form
  exact ⟨g, cap, rfl, rfl, by have := hs.1; unfold maxLen; omega, fun _ => ⟨_, rfl, h1⟩, fun t ht => by have := hs.2 t ht; unfold maxLen; omega⟩
theorem serL_small {x : List Tm} (h : SerL x) : SmallT x := ⟨by have := h.1; unfold maxLen; omega, fun t ht => by have := h.2 t ht; unfold maxLen; omega⟩

theorem serW_tw {s : ByteArray} {b : Bool} (h : wordB s.data.toList = b) : b = true → twS (serW s.data.toList) = true := by
  intro hb
  subst hb
  obtain ⟨h1, h2, _⟩ := (wordB_iff _).1 h
  exact (serW_ok _ h2).told h1

end Go.Proofs.Ytfhlceggihodeaa

/- The contracts of the model's 'SeriesCoef' and 'SeriesDepth'. -/

namespace Go.Proofs.Ytfhlceggihodeaa
open Go.RowKit Go.Shelf

theorem coefAt_get : ∀ {ts : List Tm} {t : Tm}, Canon ts → t ∈ ts → coefAt t.s ts = t.c
  | x :: r, t, h, ht => by
    obtain ⟨h1, h2⟩ := List.pairwise_cons.1 h.1
    rw [coefAt]
    rcases List.mem_cons.1 ht with rfl | ht
    · rw [if_pos rfl, coefAt_none fun u hu => (lessW_ne (h1 u hu)).symm]; omega
    · rw [if_neg (lessW_ne (h1 t ht)), coefAt_get ⟨h2, fun u hu => h.2 u (by simp [hu])⟩ ht]; omega
/-- The degree of the first monomial that is not 1. -/
def depthT : List Tm → Nat
  | [] => 0
  | t :: r => if t.s.size = 0 then depthT r else t.s.size
theorem depthT_skip : ∀ (ts : List Tm) (k : Nat), (∀ j (h : j < ts.length), j < k → ts[j].s.size = 0) → depthT ts = depthT (ts.drop k)
  | ts, 0, _ => by simp
  | [], k + 1, _ => by simp
  | t :: r, k + 1, h => by
    rw [depthT, if_pos (show t.s.size = 0 from h 0 (by simp) (by omega)), List.drop_succ_cons]
    exact depthT_skip r k fun j hj hk => by have := h (j + 1) (by simp; omega) (by omega); simpa using this

end Go.Proofs.Ytfhlceggihodeaa

/- Sums over products in whatever order; how great they get, how many monomials there are. -/

namespace Go.Proofs.Ytfhlceggihodeaa
open Go.RowKit

/-- The products of all entries of X with one; with all of Y, in Y's order. -/
def rowQ (u : Tm) (X : List Tm) : List Tm := (X.map fun t => pairS t u).filter short
def pairsQ (Y X : List Tm) : List Tm := Y.flatMap fun u => rowQ u X
theorem rowQ_snoc (u : Tm) (X : List Tm) (t : Tm) : rowQ u (X ++ [t]) = rowQ u X ++ (if (t.s ++ u.s).size ≤ 4 then [⟨t.c * u.c, t.s ++ u.s⟩] else []) := by
  unfold rowQ
  rw [List.map_append, List.filter_append, List.map_cons, List.map_nil, List.filter_cons, List.filter_nil]
  congr 1
  by_cases hs : (t.s ++ u.s).size ≤ 4
  · rw [if_pos (show short (pairS t u) = true from decide_eq_true hs), if_pos hs]; rfl
  · rw [if_neg (show ¬ short (pairS t u) = true by unfold short pairS; simpa using hs), if_neg hs]
theorem rowQ_perm (u : Tm) {X X' : List Tm} (h : X.Perm X') : (rowQ u X).Perm (rowQ u X') := (h.map _).filter _
theorem pairsQ_snoc (Y X : List Tm) (u : Tm) : pairsQ (Y ++ [u]) X = pairsQ Y X ++ rowQ u X := by unfold pairsQ; rw [List.flatMap_append]; simp
theorem rowQ_cons (u t : Tm) (X : List Tm) : rowQ u (t :: X) = [pairS t u].filter short ++ rowQ u X := by
  unfold rowQ
  rw [List.map_cons, List.filter_cons, List.filter_cons, List.filter_nil]
  split <;> simp
theorem rowS_cons (t u : Tm) (Y : List Tm) : rowS t (u :: Y) = [pairS t u].filter short ++ rowS t Y := by
  unfold rowS
  rw [List.map_cons, List.filter_cons, List.filter_cons, List.filter_nil]
  split <;> simp
theorem pairsQ_cons (k : ByteArray) (t : Tm) (X : List Tm) : ∀ Y, coefAt k (pairsQ Y (t :: X)) = coefAt k (rowS t Y) + coefAt k (pairsQ Y X)
  | [] => by simp [pairsQ, rowS, coefAt]
  | u :: r => by
    have ih := pairsQ_cons k t X r
    have e1 : ∀ Z, pairsQ (u :: r) Z = rowQ u Z ++ pairsQ r Z := fun Z => by unfold pairsQ; rw [List.flatMap_cons]
    rw [e1, e1, rowQ_cons, rowS_cons, coefAt_append, coefAt_append, coefAt_append, coefAt_append, ih]
    omega
theorem pairsQ_swap (k : ByteArray) (Y : List Tm) : ∀ X, coefAt k (pairsQ Y X) = coefAt k (pairsS X Y)
  | [] => by
    have : pairsQ Y [] = [] := by
      unfold pairsQ
      rw [List.flatMap_eq_nil_iff]
      intro u _; rfl
    rw [this]; rfl
  | t :: X => by
    have e : pairsS (t :: X) Y = rowS t Y ++ pairsS X Y := by unfold pairsS rowS; rw [List.flatMap_cons]
    rw [pairsQ_cons, e, coefAt_append, pairsQ_swap k Y X]
theorem pairsQ_perm {Y Y' : List Tm} (X : List Tm) (h : Y.Perm Y') : (pairsQ Y X).Perm (pairsQ Y' X) := h.flatMap_right _
theorem rowQ_len (u : Tm) (X : List Tm) : (rowQ u X).length ≤ X.length := by
  unfold rowQ
  exact Nat.le_trans (List.length_filter_le _ _) (by rw [List.length_map]; exact Nat.le_refl _)
theorem pairsQ_len (X : List Tm) : ∀ Y, (pairsQ Y X).length ≤ Y.length * X.length
  | [] => by simp [pairsQ]
  | u :: r => by
    have ih := pairsQ_len X r
    have h1 := rowQ_len u X
    have e : pairsQ (u :: r) X = rowQ u X ++ pairsQ r X := by unfold pairsQ; rw [List.flatMap_cons]
    rw [e, List.length_append, List.length_cons, Nat.succ_mul]
    omega
/-- Coefficients of at most M. -/
def BndT (M : Int) (ts : List Tm) : Prop := ∀ t ∈ ts, -M ≤ t.c ∧ t.c ≤ M
def MonoT (ts : List Tm) : Prop := ∀ t ∈ ts, monoB t.s = true
theorem BndT.perm {M : Int} {a b : List Tm} (h : BndT M a) (hp : a.Perm b) : BndT M b := fun t ht => h t (hp.mem_iff.2 ht)
theorem MonoT.perm {a b : List Tm} (h : MonoT a) (hp : a.Perm b) : MonoT b := fun t ht => h t (hp.mem_iff.2 ht)
theorem bndQ {X : List Tm} {u : Tm} (hX : BndT 1000000 X) (hu : -1000000 ≤ u.c ∧ u.c ≤ 1000000) : BndT 1000000000000 (rowQ u X) := fun t ht => by
  obtain ⟨v, hv, rfl⟩ := List.mem_map.1 (List.mem_filter.1 ht).1
  exact mul_bnd (hX v hv) hu
theorem bndQQ {X Y : List Tm} (hX : BndT 1000000 X) (hY : BndT 1000000 Y) : BndT 1000000000000 (pairsQ Y X) := fun t ht => by
  obtain ⟨u, hu, ht⟩ := List.mem_flatMap.1 ht
  exact bndQ hX (hY u hu) t ht
theorem coef_bnd {M : Int} (hM : 0 ≤ M) (k : ByteArray) : ∀ {ts : List Tm}, BndT M ts → -(M * ts.length) ≤ coefAt k ts ∧ coefAt k ts ≤ M * ts.length
  | [], _ => by simp [coefAt]
  | t :: r, h => by
    have ih := coef_bnd hM k (fun u hu => h u (List.mem_cons_of_mem _ hu))
    have ht := h t (by simp)
    have ec : coefAt k (t :: r) = (if t.s = k then t.c else 0) + coefAt k r := rfl
    have em : M * ((t :: r).length : Int) = M * (r.length : Int) + M := by rw [List.length_cons]; push_cast; rw [Int.mul_add, Int.mul_one]
    rw [ec, em]
    split <;> omega
theorem apart_len341 {ts : List Tm} (ha : Apart ts) (h : MonoT ts) : ts.length ≤ 341 := by
  have := nodup_len (ts.map fun t => t.s.data.toList) monosAll (by
    rw [List.nodup_iff_pairwise_ne, List.pairwise_map]
    exact ha.imp fun hl e => hl (bytes_ext e)) (fun l hl => by
    obtain ⟨t, ht, rfl⟩ := List.mem_map.1 hl
    exact mono_mem (h t ht))
  rwa [List.length_map, monosAll_len] at this
theorem mono_put {ts : List Tm} {s : ByteArray} {v : Int} (h : MonoT ts) (hs : monoB s = true) : MonoT (putT ts s v) := fun t ht => by
  rcases mem_put ht with rfl | ht
  · exact hs
  · exact h t ht
/-- One product more: what the map reads as, behind it. -/
theorem put_add {ts L : List Tm} (s : ByteArray) (d : Int) (h : ∀ k, coefAt k ts = coefAt k L) (k : ByteArray) : coefAt k (putT ts s (coefAt s ts + d)) = coefAt k (L ++ [⟨d, s⟩]) := by
  have ec : coefAt k [(⟨d, s⟩ : Tm)] = (if s = k then d else 0) + 0 := rfl
  rw [coefAt_put, coefAt_append, ec, Int.add_zero]
  by_cases hk : k = s
  · subst hk; simp [h]
  · simp [hk, Ne.symm hk, h]
theorem canon_same {ts us : List Tm} (h : ∀ k, coefAt k ts = coefAt k us) : canonT ts = canonT us := canonT_unique (canon_of ts) fun s => by rw [(canonT_spec ts).2, h]
theorem apart_bnd {M : Int} {ts : List Tm} (ha : Apart ts) (h : ∀ t ∈ canonT ts, -M ≤ t.c ∧ t.c ≤ M) (hM : 0 ≤ M) : BndT M ts := fun t ht => by
  by_cases h0 : t.c = 0
  · rw [h0]; omega
  · have hc : coefAt t.s (canonT ts) = t.c := by rw [(canonT_spec ts).2, apart_unique ha ht]
    by_cases hm : ∃ u ∈ canonT ts, u.s = t.s
    · obtain ⟨u, hu, e⟩ := hm
      rw [← e, coefAt_get (canon_of ts) hu] at hc
      rw [← hc]; exact h u hu
    · rw [coefAt_none fun u hu e => hm ⟨u, hu, e⟩] at hc
      exact absurd hc.symm h0

end Go.Proofs.Ytfhlceggihodeaa

/- The coefficient of 1 in products and in the series of a word; the depth out of the second term. -/

namespace Go.Proofs.Ytfhlceggihodeaa
open Go.RowKit

abbrev noS : ByteArray := { data := #[] }
theorem no_iff {s : ByteArray} : s = noS ↔ s.size = 0 := ⟨fun h => by rw [h]; rfl, fun h => bytes_ext (by rw [List.eq_nil_of_length_eq_zero (show s.data.toList.length = 0 by simpa using h)])⟩
theorem no_row (t : Tm) : ∀ y : List Tm, coefAt noS (rowS t y) = if t.s = noS then t.c * coefAt noS y else 0
  | [] => by simp [rowS, coefAt]
  | u :: r => by
    have e1 : coefAt noS ([pairS t u].filter short) = if t.s = noS ∧ u.s = noS then t.c * u.c else 0 := by
      have hz : (pairS t u).s = noS ↔ t.s = noS ∧ u.s = noS := by
        rw [no_iff, no_iff, no_iff]; unfold pairS; rw [append_size]; omega
      rw [List.filter_cons, List.filter_nil]
      by_cases hs : t.s = noS ∧ u.s = noS
      · rw [if_pos hs, if_pos (show short (pairS t u) = true from decide_eq_true (by rw [no_iff.1 (hz.2 hs)]; omega)), coefAt, if_pos (hz.2 hs)]; simp [coefAt, pairS]
      · rw [if_neg hs]
        split
        · rw [coefAt, if_neg (fun h => hs (hz.1 h))]; rfl
        · rfl
    rw [rowS_cons, coefAt_append, e1, no_row t r, coefAt]
    by_cases ht : t.s = noS <;> by_cases hu : u.s = noS <;> simp [ht, hu, Int.mul_add]
theorem no_pairs : ∀ x y : List Tm, coefAt noS (pairsS x y) = coefAt noS x * coefAt noS y
  | [], y => by simp [pairsS, coefAt]
  | t :: r, y => by
    have e : pairsS (t :: r) y = rowS t y ++ pairsS r y := by unfold pairsS rowS; rw [List.flatMap_cons]
    rw [e, coefAt_append, no_row, no_pairs r y, coefAt, Int.add_mul]
    by_cases ht : t.s = noS <;> simp [ht]
theorem letS_no_facts : ∀ n : Fin 8, coefAt noS (letS (UInt8.ofNat (if n.val < 4 then 97 + n.val else 61 + n.val))) = 1 := by decide +kernel
theorem letS_no {c : UInt8} (hc : letB c = true) : coefAt noS (letS c) = 1 := let_cases (P := fun c => coefAt noS (letS c) = 1) letS_no_facts hc
theorem serW_no (l : List UInt8) : letL l = true → coefAt noS (serW l) = 1 := by
  generalize hn : l.length = n
  induction n generalizing l with
  | zero => intro _; rw [List.length_eq_zero_iff.1 hn]; decide
  | succ n ih =>
    intro hl
    obtain ⟨p, c, rfl⟩ := last_split l (by omega)
    rw [letL_append, Bool.and_eq_true] at hl
    have hp : p.length = n := by rw [List.length_append] at hn; simp at hn; exact hn
    rw [serW_snoc, (canonT_spec _).2, no_pairs, ih p hp hl.1, letS_no (by have := hl.2; simp [letL] at this; exact this)]; rfl
theorem less_no {a : ByteArray} : lessW a noS = false := by
  by_cases h : a = noS
  · rw [h]; exact lessW_irrefl _
  · have h0 : ¬ a.size = 0 := fun e => h (no_iff.2 e)
    unfold lessW
    rw [if_neg (show ¬ a.size = noS.size from h0)]
    exact decide_eq_false (by show ¬ a.size < 0; omega)
theorem canon_first {ts : List Tm} (hc : Canon ts) (h1 : coefAt noS ts = 1) : ∃ u r, ts = u :: r ∧ u.s = noS ∧ u.c = 1 ∧ ∀ t ∈ r, t.s.size ≠ 0 := by
  cases ts with
  | nil => simp [coefAt] at h1
  | cons u r =>
    obtain ⟨h2, h3⟩ := List.pairwise_cons.1 hc.1
    have hr : ∀ t ∈ r, t.s.size ≠ 0 := fun t ht h0 => by
      have := h2 t ht
      rw [no_iff.2 h0, less_no] at this
      cases this
    have hu : u.s = noS := by
      by_cases h : u.s = noS
      · exact h
      · rw [coefAt_none (fun t ht e => by
          rcases List.mem_cons.1 ht with rfl | ht
          · exact h e
          · exact hr t ht (no_iff.1 e))] at h1
        cases h1
    refine ⟨u, r, rfl, hu, ?_, hr⟩
    rw [coefAt, if_pos hu, coefAt_none (fun t ht e => hr t ht (no_iff.1 e))] at h1
    omega
theorem depth_one {ts : List Tm} (hc : Canon ts) (h1 : coefAt noS ts = 1) (hl : ts.length = 1) : depthT ts = 0 := by
  obtain ⟨u, r, rfl, hu, _, _⟩ := canon_first hc h1
  have : r = [] := List.eq_nil_of_length_eq_zero (by simpa using hl)
  subst this
  rw [depthT, if_pos (no_iff.1 hu)]; rfl
theorem depth_two {ts : List Tm} (hc : Canon ts) (h1 : coefAt noS ts = 1) (hl : 1 < ts.length) : depthT ts = ts[1].s.size := by
  obtain ⟨u, r, rfl, hu, _, hr⟩ := canon_first hc h1
  cases r with
  | nil => simp at hl
  | cons t r =>
    rw [depthT, if_pos (no_iff.1 hu), depthT, if_neg (hr t (by simp))]
    rfl
theorem first_pos {ts : List Tm} (hc : Canon ts) (h1 : coefAt noS ts = 1) : 0 < ts.length := by
  obtain ⟨u, r, rfl, _⟩ := canon_first hc h1
  simp

end Go.Proofs.Ytfhlceggihodeaa

/- Products of series depend on the coefficients alone. -/

namespace Go.Proofs.Ytfhlceggihodeaa
open Go.RowKit

/-- The sum of coefficients times what a function says of their texts. -/
def linT (f : ByteArray → Int) : List Tm → Int
  | [] => 0
  | t :: r => t.c * f t.s + linT f r
theorem linT_append (f : ByteArray → Int) (a b : List Tm) : linT f (a ++ b) = linT f a + linT f b := by
  induction a with
  | nil => simp [linT]
  | cons t r ih => rw [List.cons_append, linT, linT, ih]; omega
theorem linT_nz (f : ByteArray → Int) (t : Tm) : linT f (nz t) = t.c * f t.s := by
  unfold nz
  by_cases h : t.c = 0
  · rw [if_pos h, h]; simp [linT]
  · rw [if_neg h]; simp [linT]
theorem linT_add (f : ByteArray → Int) (t : Tm) : ∀ ts, linT f (addT ts t) = linT f ts + t.c * f t.s
  | [] => by rw [addT, linT_nz, linT]; omega
  | x :: r => by
    rw [addT]
    by_cases h : lessW x.s t.s = true
    · rw [if_pos h, linT, linT, linT_add f t r]; omega
    · rw [if_neg h]
      by_cases h2 : x.s = t.s
      · rw [if_pos h2, linT_append, linT_nz, linT, h2]
        show (t.c + x.c) * f t.s + linT f r = x.c * f t.s + linT f r + t.c * f t.s
        rw [Int.add_mul]; omega
      · rw [if_neg h2, linT_append, linT_nz, linT]; omega
theorem linT_fold (f : ByteArray → Int) : ∀ ts acc, linT f (ts.foldl addT acc) = linT f acc + linT f ts
  | [], acc => by simp [linT]
  | t :: r, acc => by rw [List.foldl_cons, linT_fold f r, linT_add, linT]; omega
theorem linT_canon (f : ByteArray → Int) (ts : List Tm) : linT f (canonT ts) = linT f ts := by unfold canonT; rw [linT_fold]; simp [linT]
theorem linT_same {x y : List Tm} (h : ∀ q, coefAt q x = coefAt q y) (f : ByteArray → Int) : linT f x = linT f y := by rw [← linT_canon f x, ← linT_canon f y, canon_same h]
theorem row_one (q : ByteArray) (t : Tm) : ∀ y, coefAt q (rowS t y) = t.c * coefAt q (rowS ⟨1, t.s⟩ y)
  | [] => by simp [rowS, coefAt]
  | u :: r => by
    rw [rowS_cons, rowS_cons, coefAt_append, coefAt_append, row_one q t r, Int.mul_add]
    congr 1
    rw [List.filter_cons, List.filter_nil, List.filter_cons, List.filter_nil]
    by_cases hs : (t.s ++ u.s).size ≤ 4
    · rw [if_pos (show short (pairS t u) = true from decide_eq_true hs), if_pos (show short (pairS ⟨1, t.s⟩ u) = true from decide_eq_true hs), coefAt, coefAt, coefAt]
      show (if t.s ++ u.s = q then t.c * u.c else 0) + 0 = t.c * ((if t.s ++ u.s = q then 1 * u.c else 0) + 0)
      split <;> simp
    · rw [if_neg (show ¬ short (pairS t u) = true by unfold short pairS; simpa using hs), if_neg (show ¬ short (pairS ⟨1, t.s⟩ u) = true by unfold short pairS; simpa using hs)]
      simp [coefAt]
theorem row_lin (q : ByteArray) (t : Tm) : ∀ y, coefAt q (rowS t y) = linT (fun s => if (t.s ++ s).size ≤ 4 ∧ t.s ++ s = q then t.c else 0) y
  | [] => by simp [rowS, coefAt, linT]
  | u :: r => by
    rw [rowS_cons, coefAt_append, row_lin q t r, linT]
    congr 1
    rw [List.filter_cons, List.filter_nil]
    by_cases hs : (t.s ++ u.s).size ≤ 4
    · rw [if_pos (show short (pairS t u) = true from decide_eq_true hs), coefAt, coefAt]
      show (if t.s ++ u.s = q then t.c * u.c else 0) + 0 = u.c * (if (t.s ++ u.s).size ≤ 4 ∧ t.s ++ u.s = q then t.c else 0)
      by_cases hq : t.s ++ u.s = q
      · rw [if_pos hq, if_pos ⟨hs, hq⟩, Int.mul_comm]; omega
      · rw [if_neg hq, if_neg fun h => hq h.2]; simp
    · rw [if_neg (show ¬ short (pairS t u) = true by unfold short pairS; simpa using hs), if_neg fun h => hs h.1]
      simp [coefAt]
theorem pairs_lin (q : ByteArray) (y : List Tm) : ∀ x, coefAt q (pairsS x y) = linT (fun s => coefAt q (rowS ⟨1, s⟩ y)) x
  | [] => rfl
  | t :: r => by
    have e : pairsS (t :: r) y = rowS t y ++ pairsS r y := by unfold pairsS rowS; rw [List.flatMap_cons]
    rw [e, coefAt_append, row_one, pairs_lin q y r, linT]
theorem pairs_same1 {x x' : List Tm} (h : ∀ q, coefAt q x = coefAt q x') (y : List Tm) (q : ByteArray) : coefAt q (pairsS x y) = coefAt q (pairsS x' y) := by
  rw [pairs_lin, pairs_lin]; exact linT_same h _
theorem pairs_same2 {y y' : List Tm} (h : ∀ q, coefAt q y = coefAt q y') (q : ByteArray) : ∀ x, coefAt q (pairsS x y) = coefAt q (pairsS x y')
  | [] => rfl
  | t :: r => by
    have e : ∀ z, pairsS (t :: r) z = rowS t z ++ pairsS r z := fun z => by unfold pairsS rowS; rw [List.flatMap_cons]
    rw [e, e, coefAt_append, coefAt_append, pairs_same2 h q r, row_lin, row_lin, linT_same h]
theorem canon_id {ts : List Tm} (h : Canon ts) : canonT ts = ts := (canonT_unique h fun _ => rfl).symm

end Go.Proofs.Ytfhlceggihodeaa

/- Series as functions of texts: products, inverses, reduced words; the depth of a commutator. -/

namespace Go.Proofs.Ytfhlceggihodeaa
open Go.RowKit

abbrev Fs := List UInt8 → Int
/-- The product of two series, at a text. -/
def conv : Fs → Fs → Fs
  | f, g, [] => f [] * g []
  | f, g, c :: r => f [] * g (c :: r) + conv (fun u => f (c :: u)) g r
def oneF : Fs := fun l => if l = [] then 1 else 0
theorem conv_congr : ∀ (w : List UInt8) {f f' g g' : Fs}, (∀ l, l.length ≤ w.length → f l = f' l) → (∀ l, l.length ≤ w.length → g l = g' l) → conv f g w = conv f' g' w
  | [], f, f', g, g', h1, h2 => by rw [conv, conv, h1 [] (by simp), h2 [] (by simp)]
  | c :: r, f, f', g, g', h1, h2 => by
    rw [conv, conv, h1 [] (by simp), h2 (c :: r) (Nat.le_refl _), conv_congr r (fun l hl => h1 (c :: l) (by simp; omega)) (fun l hl => h2 l (by simp; omega))]
theorem conv_add1 : ∀ (w : List UInt8) (f f' g : Fs), conv (fun l => f l + f' l) g w = conv f g w + conv f' g w
  | [], f, f', g => by rw [conv, conv, conv, Int.add_mul]
  | c :: r, f, f', g => by rw [conv, conv, conv, conv_add1 r, Int.add_mul]; omega
theorem conv_add2 : ∀ (w : List UInt8) (f g g' : Fs), conv f (fun l => g l + g' l) w = conv f g w + conv f g' w
  | [], f, g, g' => by rw [conv, conv, conv, Int.mul_add]
  | c :: r, f, g, g' => by rw [conv, conv, conv, conv_add2 r, Int.mul_add]; omega
theorem conv_sub1 : ∀ (w : List UInt8) (f f' g : Fs), conv (fun l => f l - f' l) g w = conv f g w - conv f' g w
  | [], f, f', g => by rw [conv, conv, conv, Int.sub_mul]
  | c :: r, f, f', g => by rw [conv, conv, conv, conv_sub1 r, Int.sub_mul]; omega
theorem conv_mul1 (k : Int) : ∀ (w : List UInt8) (f g : Fs), conv (fun l => k * f l) g w = k * conv f g w
  | [], f, g => by rw [conv, conv, Int.mul_assoc]
  | c :: r, f, g => by rw [conv, conv, conv_mul1 k r, Int.mul_add, Int.mul_assoc]
theorem conv_zero1 : ∀ (w : List UInt8) (g : Fs), conv (fun _ => 0) g w = 0
  | [], g => by rw [conv, Int.zero_mul]
  | c :: r, g => by rw [conv, conv_zero1 r, Int.zero_mul]; rfl
theorem conv_zero2 : ∀ (w : List UInt8) (f : Fs), conv f (fun _ => 0) w = 0
  | [], g => by rw [conv, Int.mul_zero]
  | c :: r, g => by rw [conv, conv_zero2 r, Int.mul_zero]; rfl
theorem conv_assoc : ∀ (w : List UInt8) (f g h : Fs), conv (conv f g) h w = conv f (conv g h) w
  | [], f, g, h => by rw [conv, conv, conv, conv, Int.mul_assoc]
  | c :: r, f, g, h => by
    have e : (fun u => conv f g (c :: u)) = fun u => f [] * g (c :: u) + conv (fun v => f (c :: v)) g u := by funext u; rw [conv]
    have h1 := conv_assoc r (fun v => f (c :: v)) g h
    rw [conv, e, conv_add1 r (fun u => f [] * g (c :: u)) (conv (fun v => f (c :: v)) g) h, conv_mul1, h1, conv, conv, conv, Int.mul_add, Int.mul_assoc]
    omega
theorem conv_one1 (w : List UInt8) (g : Fs) : conv oneF g w = g w := by
  cases w with
  | nil => rw [conv]; simp [oneF]
  | cons c r =>
    have e : (fun u => oneF (c :: u)) = fun _ => 0 := by funext u; simp [oneF]
    rw [conv, e, conv_zero1]; simp [oneF]
theorem conv_one2 : ∀ (w : List UInt8) (f : Fs), conv f oneF w = f w
  | [], f => by rw [conv]; simp [oneF]
  | c :: r, f => by rw [conv, conv_one2 r]; simp [oneF]
/-- Products of what is 0 below two degrees are 0 below their sum. -/
theorem conv_low : ∀ (w : List UInt8) (f g : Fs) (p q : Nat), (∀ l, l.length < p → f l = 0) → (∀ l, l.length < q → g l = 0) → w.length < p + q → conv f g w = 0
  | [], f, g, p, q, hf, hg, hw => by
    rw [conv]
    simp only [List.length_nil] at hw
    by_cases hp : 0 < p
    · rw [hf [] hp, Int.zero_mul]
    · rw [hg [] (by simp; omega), Int.mul_zero]
  | c :: r, f, g, p, q, hf, hg, hw => by
    rw [conv]
    simp only [List.length_cons] at hw
    have h1 : conv (fun u => f (c :: u)) g r = 0 := conv_low r _ g (p - 1) q (fun l hl => hf (c :: l) (by simp; omega)) hg (by omega)
    rw [h1]
    by_cases hp : 0 < p
    · rw [hf [] hp, Int.zero_mul]; rfl
    · rw [hg (c :: r) (by simp; omega), Int.mul_zero]; rfl

/-! ### Lists of terms as functions -/
def cf (x : List Tm) : Fs := fun l => coefAt (bstr l) x
def dl (a : List UInt8) (c : Int) : Fs := fun l => if a = l then c else 0
theorem conv_dl : ∀ (a : List UInt8) (c : Int) (b : List UInt8) (d : Int) (w : List UInt8), conv (dl a c) (dl b d) w = if a ++ b = w then c * d else 0
  | [], c, b, d, w => by
    cases w with
    | nil => rw [conv]; simp only [dl, List.nil_append]; by_cases h : b = [] <;> simp [h]
    | cons x r =>
      have e : (fun u => dl [] c (x :: u)) = fun _ => 0 := by funext u; simp [dl]
      rw [conv, e, conv_zero1]
      simp only [dl, List.nil_append]
      by_cases h : b = x :: r <;> simp [h]
  | y :: a, c, b, d, w => by
    cases w with
    | nil => rw [conv]; simp [dl]
    | cons x r =>
      have e0 : dl (y :: a) c [] = 0 := by simp [dl]
      rw [conv, e0, Int.zero_mul, Int.zero_add]
      by_cases h : y = x
      · subst h
        have e : (fun u => dl (y :: a) c (y :: u)) = dl a c := by funext u; simp [dl]
        rw [e, conv_dl a c b d r]
        simp
      · have e : (fun u => dl (y :: a) c (x :: u)) = fun _ => 0 := by funext u; simp [dl, h]
        rw [e, conv_zero1]
        simp [h]
theorem cf_nil : cf [] = fun _ => 0 := rfl
theorem bstr_eq {s : ByteArray} {l : List UInt8} : s = bstr l ↔ s.data.toList = l := ⟨fun h => by rw [h, bstr_toList], fun h => by rw [← h]; exact bytes_ext (by rw [bstr_toList])⟩
theorem cf_cons (t : Tm) (x : List Tm) : cf (t :: x) = fun l => dl t.s.data.toList t.c l + cf x l := by
  funext l
  unfold cf dl
  rw [coefAt]
  by_cases h : t.s.data.toList = l
  · rw [if_pos (bstr_eq.2 h), if_pos h]
  · rw [if_neg (fun e => h (bstr_eq.1 e)), if_neg h]
theorem conv_row (t : Tm) : ∀ (y : List Tm) (w : List UInt8), w.length ≤ 4 → cf (rowS t y) w = conv (dl t.s.data.toList t.c) (cf y) w
  | [], w, _ => by
    have e : cf (rowS t []) w = 0 := rfl
    rw [e, cf_nil, conv_zero2]
  | u :: r, w, hw => by
    have ih := conv_row t r w hw
    have e1 : cf ([pairS t u].filter short) w = if t.s.data.toList ++ u.s.data.toList = w then t.c * u.c else 0 := by
      rw [List.filter_cons, List.filter_nil]
      have hlen : (t.s ++ u.s).size = (t.s.data.toList ++ u.s.data.toList).length := by rw [append_size, List.length_append]; simp
      have hdat : (t.s ++ u.s).data.toList = t.s.data.toList ++ u.s.data.toList := by simp
      by_cases hs : (t.s ++ u.s).size ≤ 4
      · rw [if_pos (show short (pairS t u) = true from decide_eq_true hs), cf_cons, cf_nil]
        show dl (t.s ++ u.s).data.toList (t.c * u.c) w + 0 = _
        rw [hdat]; unfold dl; omega
      · rw [if_neg (show ¬ short (pairS t u) = true by unfold short pairS; simpa using hs), if_neg (fun e => hs (by rw [hlen, e]; exact hw))]; rfl
    have e2 : cf (rowS t (u :: r)) w = cf ([pairS t u].filter short) w + cf (rowS t r) w := by
      unfold cf; rw [rowS_cons, coefAt_append]
    rw [e2, e1, ih, cf_cons, conv_add2, conv_dl]
theorem conv_pairs : ∀ (x y : List Tm) (w : List UInt8), w.length ≤ 4 → cf (pairsS x y) w = conv (cf x) (cf y) w
  | [], y, w, _ => by rw [cf_nil, conv_zero1]; rfl
  | t :: r, y, w, hw => by
    have e : pairsS (t :: r) y = rowS t y ++ pairsS r y := by unfold pairsS rowS; rw [List.flatMap_cons]
    have e2 : cf (pairsS (t :: r) y) w = cf (rowS t y) w + cf (pairsS r y) w := by unfold cf; rw [e, coefAt_append]
    rw [e2, conv_row t y w hw, conv_pairs r y w hw, cf_cons, conv_add1]

/-! ### Words -/
def Eq4 (f g : Fs) : Prop := ∀ w, w.length ≤ 4 → f w = g w
theorem Eq4.refl (f : Fs) : Eq4 f f := fun _ _ => rfl
theorem Eq4.symm {f g : Fs} (h : Eq4 f g) : Eq4 g f := fun w hw => (h w hw).symm
theorem Eq4.trans {f g h : Fs} (h1 : Eq4 f g) (h2 : Eq4 g h) : Eq4 f h := fun w hw => (h1 w hw).trans (h2 w hw)
theorem Eq4.mul {f f' g g' : Fs} (h1 : Eq4 f f') (h2 : Eq4 g g') : Eq4 (conv f g) (conv f' g') := fun w hw => conv_congr w (fun l hl => h1 l (by omega)) (fun l hl => h2 l (by omega))
theorem eq4_assoc (f g h : Fs) : Eq4 (conv (conv f g) h) (conv f (conv g h)) := fun w _ => conv_assoc w f g h
theorem eq4_one1 (g : Fs) : Eq4 (conv oneF g) g := fun w _ => conv_one1 w g
theorem eq4_one2 (f : Fs) : Eq4 (conv f oneF) f := fun w _ => conv_one2 w f
def cs (l : List UInt8) : Fs := cf (serW l)
theorem cf_one : Eq4 (cf oneT) oneF := fun w _ => by
  unfold oneT
  rw [cf_cons, cf_nil]
  show dl [] 1 w + 0 = _
  unfold dl oneF
  by_cases h : w = []
  · simp [h]
  · rw [if_neg (Ne.symm h), if_neg h]; rfl
theorem cs_nil : Eq4 (cs []) oneF := cf_one
theorem cs_snoc (l : List UInt8) (c : UInt8) : Eq4 (cs (l ++ [c])) (conv (cs l) (cf (letS c))) := fun w hw => by
  unfold cs
  rw [← conv_pairs _ _ w hw, serW_snoc]
  exact (canonT_spec _).2 _
theorem cs_append (a b : List UInt8) : Eq4 (cs (a ++ b)) (conv (cs a) (cs b)) := by
  generalize hn : b.length = n
  induction n generalizing b with
  | zero =>
    rw [List.length_eq_zero_iff.1 hn, List.append_nil]
    exact ((Eq4.refl _).mul cs_nil |>.trans (eq4_one2 _)).symm
  | succ n ih =>
    obtain ⟨p, c, rfl⟩ := last_split b (by omega)
    have hp : p.length = n := by rw [List.length_append] at hn; simp at hn; exact hn
    rw [← List.append_assoc]
    refine (cs_snoc (a ++ p) c).trans ?_
    refine ((ih p hp).mul (Eq4.refl _)).trans ?_
    refine (eq4_assoc _ _ _).trans ?_
    exact (Eq4.refl _).mul (cs_snoc p c).symm
theorem cs_one (c : UInt8) : Eq4 (cs [c]) (cf (letS c)) := (cs_snoc [] c).trans ((cs_nil.mul (Eq4.refl _)).trans (eq4_one1 _))
instance : DecidableEq Tm := fun a b => if h : a.c = b.c ∧ a.s = b.s then isTrue (by cases a; cases b; simp at h; rw [h.1, h.2]) else isFalse (fun e => h (by rw [e]; exact ⟨rfl, rfl⟩))
theorem turn_facts : ∀ n : Fin 8, canonT (pairsS (letS (UInt8.ofNat (if n.val < 4 then 97 + n.val else 61 + n.val))) (letS (turnB (UInt8.ofNat (if n.val < 4 then 97 + n.val else 61 + n.val))))) = oneT := by decide +kernel
theorem turn_one {c : UInt8} (hc : letB c = true) : Eq4 (conv (cf (letS c)) (cf (letS (turnB c)))) oneF := fun w hw => by
  have h := let_cases (P := fun c => canonT (pairsS (letS c) (letS (turnB c))) = oneT) turn_facts hc
  rw [← conv_pairs _ _ w hw, ← cf_one w hw, ← h]
  exact ((canonT_spec _).2 _).symm
theorem turn_one2 {c : UInt8} (hc : letB c = true) : Eq4 (conv (cf (letS (turnB c))) (cf (letS c))) oneF := by
  obtain ⟨h1, h2⟩ := turn_turn c hc
  have := turn_one h2
  rwa [h1] at this
/-- A word and its inverse. -/
theorem cs_back (a : List UInt8) (ha : letL a = true) : Eq4 (conv (cs a) (cs (backL a))) oneF := by
  generalize hn : a.length = n
  induction n generalizing a with
  | zero =>
    rw [List.length_eq_zero_iff.1 hn]
    exact (cs_nil.mul cs_nil).trans (eq4_one1 _)
  | succ n ih =>
    obtain ⟨p, c, rfl⟩ := last_split a (by omega)
    have hp : p.length = n := by rw [List.length_append] at hn; simp at hn; exact hn
    rw [letL_append, Bool.and_eq_true] at ha
    have hc : letB c = true := by have := ha.2; simp [letL] at this; exact this
    have e : backL (p ++ [c]) = [turnB c] ++ backL p := by rw [backL_append]; rfl
    rw [e]
    refine ((cs_snoc p c).mul ((cs_append _ _).trans ((cs_one _).mul (Eq4.refl _)))).trans ?_
    refine (eq4_assoc _ _ _).trans ?_
    refine ((Eq4.refl _).mul ?_).trans (ih p ha.1 hp)
    refine (eq4_assoc _ _ _).symm.trans ?_
    exact ((turn_one hc).mul (Eq4.refl _)).trans (eq4_one1 _)
/-- Reducing changes nothing. -/
theorem cs_red : ∀ (s acc : List UInt8), letL s = true → Eq4 (cs (redL acc s)) (cs (acc ++ s))
  | [], acc, _ => by rw [redL_nil, List.append_nil]; exact Eq4.refl _
  | c :: s, acc, h => by
    rw [letL_cons, Bool.and_eq_true] at h
    have e : redL acc (c :: s) = redL (redStep acc c) s := rfl
    rw [e]
    refine (cs_red s (redStep acc c) h.2).trans ?_
    by_cases hl : acc.getLast? = some (turnB c)
    · obtain ⟨p, x, rfl⟩ := last_split acc (by cases acc with | nil => simp at hl | cons a l => simp)
      have hx : x = turnB c := by simpa using hl
      subst hx
      rw [redStep_pop p (turnB c) c rfl]
      have e2 : p ++ [turnB c] ++ c :: s = p ++ ([turnB c] ++ ([c] ++ s)) := by simp
      rw [e2]
      refine (cs_append p s).trans ?_
      refine Eq4.trans ?_ (cs_append p _).symm
      refine (Eq4.refl _).mul ?_
      refine Eq4.trans ?_ ((cs_append _ _).trans ((cs_one _).mul ((cs_append _ _).trans ((cs_one _).mul (Eq4.refl _))))).symm
      refine Eq4.trans ?_ (eq4_assoc _ _ _)
      exact (((turn_one2 h.1).mul (Eq4.refl _)).trans (eq4_one1 _)).symm
    · have e2 : redStep acc c = acc ++ [c] := by unfold redStep; rw [if_neg hl]
      rw [e2, List.append_assoc]
      exact Eq4.refl _
/-- What the series of a commutator lacks to 1 begins as late as those of its two words together. -/
theorem comm_low {a b : List UInt8} (ha : letL a = true) (hb : letL b = true) {p q : Nat} (hA0 : cs a [] = 1) (hB0 : cs b [] = 1) (hA : ∀ l, 0 < l.length → l.length < p → cs a l = 0) (hB : ∀ l, 0 < l.length → l.length < q → cs b l = 0)
    (w : List UInt8) (hw4 : w.length ≤ 4) (hw : w.length < p + q) : cs (a ++ b ++ backL a ++ backL b) w = oneF w := by
  obtain ⟨u, hu⟩ : ∃ u : Fs, u = fun l => cs a l - oneF l := ⟨_, rfl⟩
  obtain ⟨v, hv⟩ : ∃ v : Fs, v = fun l => cs b l - oneF l := ⟨_, rfl⟩
  have hu0 : ∀ l, l.length < p → u l = 0 := fun l hl => by
    rw [hu]
    cases l with
    | nil => simp [oneF, hA0]
    | cons c r => simp only [hA (c :: r) (by simp) hl]; simp [oneF]
  have hv0 : ∀ l, l.length < q → v l = 0 := fun l hl => by
    rw [hv]
    cases l with
    | nil => simp [oneF, hB0]
    | cons c r => simp only [hB (c :: r) (by simp) hl]; simp [oneF]
  have ea : cs a = fun l => oneF l + u l := by funext l; rw [hu]; show _ = oneF l + (cs a l - oneF l); omega
  have eb : cs b = fun l => oneF l + v l := by funext l; rw [hv]; show _ = oneF l + (cs b l - oneF l); omega
  have hR : ∀ l, l.length < p + q → conv (cs a) (cs b) l - conv (cs b) (cs a) l = 0 := fun l hl => by
    have h1 : conv (cs a) (cs b) l = oneF l + v l + (u l + conv u v l) := by
      rw [ea, conv_add1 l oneF u, conv_one1]
      rw [eb, conv_add2 l u oneF v, conv_one2]
    have h2 : conv (cs b) (cs a) l = oneF l + u l + (v l + conv v u l) := by
      rw [eb, conv_add1 l oneF v, conv_one1]
      rw [ea, conv_add2 l v oneF u, conv_one2]
    rw [h1, h2, conv_low l u v p q hu0 hv0 hl, conv_low l v u q p hv0 hu0 (by omega)]
    omega
  have hZ : Eq4 (cs (backL a ++ backL b)) (conv (cs (backL a)) (cs (backL b))) := cs_append _ _
  have h1 : cs (a ++ b ++ backL a ++ backL b) w = conv (conv (cs a) (cs b)) (conv (cs (backL a)) (cs (backL b))) w := by
    rw [List.append_assoc (a ++ b)]
    exact (((cs_append _ _).trans ((cs_append a b).mul hZ)) w hw4)
  have h2 : conv (conv (cs b) (cs a)) (conv (cs (backL a)) (cs (backL b))) w = oneF w := by
    have : Eq4 (conv (conv (cs b) (cs a)) (conv (cs (backL a)) (cs (backL b)))) oneF := by
      refine (eq4_assoc _ _ _).trans ?_
      refine ((Eq4.refl _).mul ((eq4_assoc _ _ _).symm.trans (((cs_back a ha).mul (Eq4.refl _)).trans (eq4_one1 _)))).trans ?_
      exact cs_back b hb
    exact this w hw4
  have h3 : conv (fun l => conv (cs a) (cs b) l - conv (cs b) (cs a) l) (conv (cs (backL a)) (cs (backL b))) w = 0 := conv_low w _ _ (p + q) 0 hR (fun l hl => absurd hl (Nat.not_lt_zero _)) (by omega)
  rw [conv_sub1 w (conv (cs a) (cs b)) (conv (cs b) (cs a))] at h3
  rw [h1]
  omega

theorem letL_redL : ∀ (s acc : List UInt8), letL s = true → letL acc = true → letL (redL acc s) = true
  | [], _, _, h => h
  | c :: s, acc, h, ha => by
    rw [letL_cons, Bool.and_eq_true] at h
    refine letL_redL s (redStep acc c) h.2 ?_
    unfold redStep
    split
    · exact List.all_eq_true.2 fun x hx => List.all_eq_true.1 ha x (List.dropLast_subset _ hx)
    · rw [letL_append, ha, letL_cons, h.1]; rfl

/-! ### Depths -/
theorem depth_below {ts : List Tm} (hc : Canon ts) (h1 : coefAt noS ts = 1) {q : ByteArray} (h0 : 0 < q.size) (hq : q.size < depthT ts) : coefAt q ts = 0 := by
  obtain ⟨u, r, rfl, hu, _, hr⟩ := canon_first hc h1
  obtain ⟨h2, h3⟩ := List.pairwise_cons.1 hc.1
  cases r with
  | nil =>
    rw [depthT, if_pos (no_iff.1 hu)] at hq
    exact absurd hq (Nat.not_lt_zero _)
  | cons t r =>
    rw [depthT, if_pos (no_iff.1 hu), depthT, if_neg (hr t (by simp))] at hq
    obtain ⟨h4, h5⟩ := List.pairwise_cons.1 h3
    refine coefAt_none fun v hv e => ?_
    rcases List.mem_cons.1 hv with rfl | hv
    · rw [hu] at e; rw [← e] at h0; exact absurd h0 (Nat.not_lt_zero _)
    · rcases List.mem_cons.1 hv with rfl | hv
      · rw [e] at hq; omega
      · have := h4 v hv
        rw [e] at this
        unfold lessW at this
        split at this
        · omega
        · have := of_decide_eq_true this; omega
theorem depth_at {ts : List Tm} (hc : Canon ts) (h1 : coefAt noS ts = 1) (hd : depthT ts ≠ 0) : ∃ t ∈ ts, t.s.size = depthT ts ∧ coefAt t.s ts ≠ 0 := by
  obtain ⟨u, r, rfl, hu, _, hr⟩ := canon_first hc h1
  cases r with
  | nil =>
    rw [depthT, if_pos (no_iff.1 hu)] at hd
    exact absurd rfl hd
  | cons t r =>
    refine ⟨t, by simp, ?_, ?_⟩
    · rw [depthT, if_pos (no_iff.1 hu), depthT, if_neg (hr t (by simp))]
    · rw [coefAt_get hc (by simp)]; exact hc.2 t (by simp)
theorem cs_at (l : List UInt8) (q : ByteArray) : cs l q.data.toList = coefAt q (serW l) := by
  unfold cs cf
  rw [show bstr q.data.toList = q from (bstr_eq.2 rfl).symm]
/-- The depth of a commutator is not less than those of its two words together. -/
theorem depth_comm {a b : List UInt8} (ha : letL a = true) (hb : letL b = true) (hn : depthT (serW (redL [] (commL a b))) ≠ 0) (hp : depthT (serW a) ≠ 0) (hq : depthT (serW b) ≠ 0) (hl : letL (redL [] (commL a b)) = true) :
    depthT (serW a) + depthT (serW b) ≤ depthT (serW (redL [] (commL a b))) := by
  have hlc : letL (commL a b) = true := by unfold commL; rw [letL_append, letL_append, letL_append, ha, hb, letL_back a ha, letL_back b hb]; rfl
  have hok := serW_ok _ hl
  obtain ⟨t, ht, hts, htc⟩ := depth_at hok.canon (serW_no _ hl) hn
  by_cases hlt : depthT (serW a) + depthT (serW b) ≤ depthT (serW (redL [] (commL a b)))
  · exact hlt
  · exfalso
    apply htc
    have h4 : t.s.size ≤ 4 := mono_size (hok.mono t ht)
    have hlen : t.s.data.toList.length = t.s.size := by simp
    have h1 := cs_red (commL a b) [] hlc t.s.data.toList (by omega)
    rw [List.nil_append] at h1
    have h2 := comm_low ha hb (p := depthT (serW a)) (q := depthT (serW b)) (by have := serW_no a ha; exact this) (by have := serW_no b hb; exact this)
      (fun l h0 h5 => by
        have := depth_below (serW_ok a ha).canon (serW_no a ha) (q := bstr l) (by have : (bstr l).data.toList.length = l.length := by rw [bstr_toList]
                                                                                  have e : (bstr l).size = (bstr l).data.toList.length := by simp
                                                                                  omega) (by
          have : (bstr l).data.toList.length = l.length := by rw [bstr_toList]
          have e : (bstr l).size = (bstr l).data.toList.length := by simp
          omega)
        exact this)
      (fun l h0 h5 => by
        have := depth_below (serW_ok b hb).canon (serW_no b hb) (q := bstr l) (by have : (bstr l).data.toList.length = l.length := by rw [bstr_toList]
                                                                                  have e : (bstr l).size = (bstr l).data.toList.length := by simp
                                                                                  omega) (by
          have : (bstr l).data.toList.length = l.length := by rw [bstr_toList]
          have e : (bstr l).size = (bstr l).data.toList.length := by simp
          omega)
        exact this) t.s.data.toList (by omega) (by omega)
    rw [← cs_at, h1]
    have h3 : cs (commL a b) t.s.data.toList = oneF t.s.data.toList := h2
    rw [h3]
    unfold oneF
    rw [if_neg (fun e => by rw [e] at hlen; simp at hlen; omega)]

end Go.Proofs.Ytfhlceggihodeaa

/- The contracts of the model's reader of drawn inputs: 'l6Open', 'pick', 'of'. -/

namespace Go.Proofs.Ytfhlceggihodeaa
open Go.RowKit Go.Shelf

theorem i64_xor (a b : Nat) (ha : a < 2 ^ 63) (hb : b < 2 ^ 63) : bits .xor .i64 (a : Int) (b : Int) = ((a ^^^ b : Nat) : Int) := by
  show IntKind.i64.wrap ((BitVec.ofInt 64 (a : Int) ^^^ BitVec.ofInt 64 (b : Int)).toNat : Int) = _
  rw [BitVec.toNat_xor, ofInt_u64 a (by omega), ofInt_u64 b (by omega)]
  have : a ^^^ b < 2 ^ 63 := Nat.xor_lt_two_pow ha hb
  exact IntWalk.i64_in _ (by omega)

abbrev RdT : TypeId := 71
/-- A slice of bytes, as numbers, in a block below base. -/
structure BsAt (base : Nat) (w : World) (a : Option Addr) (n cap : Nat) (zs : List Int) : Prop where
  len : zs.length = n
  fit : n ≤ cap ∧ cap ≤ maxLen
  at_ : 0 < n → ∃ x, a = some x ∧ x.block < base ∧ ∀ j (h : j < zs.length), w.cell? (x.add j) = some (.int .u8 zs[j])
  byte : ∀ z ∈ zs, 0 ≤ z ∧ z ≤ 255
theorem BsAt.below {base : Nat} {w w' : World} {a : Option Addr} {n cap : Nat} {zs : List Int} (h : BsAt base w a n cap zs) (hb : Below base w w') : BsAt base w' a n cap zs :=
  ⟨h.len, h.fit, fun h0 => by obtain ⟨x, e, hx, hc⟩ := h.at_ h0; exact ⟨x, e, hx, fun j hj => (hb.cell (p := x.add j) (by show (x.add j).block < _; rw [addr_add_block]; exact hx)).trans (hc j hj)⟩, h.byte⟩
theorem bs_of {H : Type} {enc : TypeId × Value → H} {W : World} {base : Nat} {spare : Nat → Bool} {held : Bool} {fuel : Nat} {a : Option Addr} {len cap : Nat} {x : DataW H × List MemPlace}
    (h : DataW.trod enc Try.prog W base spare held fuel 22 [.slice a len cap] = some x) : ∃ zs, BsAt W.heap.size W a len cap zs := by
  rcases Go.ChangeShapes.open_ints Try.underlying22 Try.underlying5 (by kernel_rfl) h with ⟨hcs, _⟩ | ⟨y, l, c, zs, hcs, hb, hl, hm, hz, _, hx, hwf⟩
  · simp at hcs
    obtain ⟨rfl, rfl, rfl⟩ := hcs
    exact ⟨[], rfl, ⟨Nat.le_refl _, Nat.zero_le _⟩, fun h => absurd h (Nat.lt_irrefl _), fun z h => by cases h⟩
  · simp at hcs
    obtain ⟨rfl, rfl, rfl⟩ := hcs
    have hlz : len ≤ zs.length := by rw [hz]; split <;> omega
    refine ⟨zs.take len, by rw [List.length_take]; omega, ⟨hl, hm⟩, fun h0 => ⟨y, rfl, ?_, fun j hj => ?_⟩, fun z hzm => ?_⟩
    · have := World.block_lt_of_cell? _ _ (hx 0 (by omega))
      rwa [addr_add_block] at this
    · rw [List.length_take] at hj
      rw [hx j (by omega), List.getD_eq_getElem?_getD, List.getElem?_eq_getElem (by omega), List.getElem_take]; rfl
    · have h2 := hwf z (List.mem_of_mem_take hzm)
      simp only [Lit.wf, Bool.and_eq_true, decide_eq_true_eq] at h2
      have e1 : IntKind.u8.min = 0 := by decide
      have e2 : IntKind.u8.max = 255 := by decide
      omega
/-- A reader and how far it is. -/
structure Rd (base : Nat) (w : World) (rb : Nat) (a : Option Addr) (n cap : Nat) (zs : List Int) (p : Nat) : Prop where
  lo : base ≤ rb
  box : w.heap[rb]? = some (.cells #[.slice a n cap, .int .i64 p] RdT (0, 0))
  data : BsAt base w a n cap zs
  short : n ≤ 2000
theorem Rd.lt {base : Nat} {w : World} {rb : Nat} {a : Option Addr} {n cap : Nat} {zs : List Int} {p : Nat} (h : Rd base w rb a n cap zs p) : rb < w.heap.size := (Array.getElem?_eq_some_iff.1 h.box).1
theorem Rd.c0 {base : Nat} {w : World} {rb : Nat} {a : Option Addr} {n cap : Nat} {zs : List Int} {p : Nat} (h : Rd base w rb a n cap zs p) : w.cell? ⟨rb, 0, none⟩ = some (.slice a n cap) := by simp [World.cell?, h.box]
theorem Rd.c1 {base : Nat} {w : World} {rb : Nat} {a : Option Addr} {n cap : Nat} {zs : List Int} {p : Nat} (h : Rd base w rb a n cap zs p) : w.cell? ⟨rb, 1, none⟩ = some (.int .i64 p) := by simp [World.cell?, h.box]
theorem Rd.fr {base : Nat} {w : World} {rb : Nat} {a : Option Addr} {n cap : Nat} {zs : List Int} {p : Nat} (h : Rd base w rb a n cap zs p) : w.frozen? ⟨rb, 1, none⟩ = false := by simp [World.frozen?, h.box]
theorem Rd.below {base : Nat} {w w' : World} {rb : Nat} {a : Option Addr} {n cap : Nat} {zs : List Int} {p : Nat} (h : Rd base w rb a n cap zs p) (hb : Below w.heap.size w w') : Rd base w' rb a n cap zs p :=
  ⟨h.lo, (hb.block rb h.lt).trans h.box, h.data.below (hb.mono (Nat.le_of_lt (Nat.lt_of_le_of_lt h.lo h.lt))), h.short⟩
theorem Rd.set {base : Nat} {w : World} {rb : Nat} {a : Option Addr} {n cap : Nat} {zs : List Int} {p : Nat} (h : Rd base w rb a n cap zs p) (q : Nat) : Rd base (w.setCell ⟨rb, 1, none⟩ (.int .i64 q)) rb a n cap zs q := by
  refine ⟨h.lo, ?_, h.data.below ((Below.refl _ w).setCell (p := ⟨rb, 1, none⟩) h.lo _), h.short⟩
  obtain ⟨hlt, hk⟩ := Array.getElem?_eq_some_iff.1 h.box
  show (w.heap.modify rb _)[rb]? = _
  rw [Array.getElem?_eq_getElem (by rw [Array.size_modify]; exact hlt), Array.getElem_modify_self, hk]
  rfl

theorem grown_set (w : World) (a : Addr) (v : Value) : w.grownBy (w.setCell a v) (some a.block) :=
  ⟨rfl, rfl, rfl, by show _ ≤ (w.heap.modify a.block _).size; rw [Array.size_modify]; exact Nat.le_refl _, fun k hk hne => by
    show (w.heap.modify a.block _)[k]? = _
    rw [Array.getElem?_modify, if_neg (fun e => hne (by rw [e]))]⟩

set_option maxRecDepth 100000 in
set_option maxHeartbeats 4000000 in
theorem pick_any (base rb : Nat) (a : Option Addr) (n cap : Nat) (zs : List Int) (p m : Nat) (w : World) (h : Rd base w rb a n cap zs p) (hp : p ≤ 100000) (hm : 1 ≤ m) (hm2 : m ≤ 1000) :
    Calls Try.prog 32 #[.pointer (some ⟨rb, 0, none⟩), .int .i64 m] w fun e w' => (∃ z : Nat, e = .returned (.int .i64 z) ∧ z < m) ∧ Rd base w' rb a n cap zs (p + 1) ∧ Below base w w' ∧ w.grownBy w' (some rb) := by
  have hlt := h.lt
  have hc0 := h.c0
  have hc1 := h.c1
  have hfr := h.fr
  have hsh := h.short
  have hw1 : IntKind.i64.wrap ((p : Int) + 1) = (p : Int) + 1 := IntWalk.i64_in _ (by omega)
  have ep : ((p + 1 : Nat) : Int) = (p : Int) + 1 := by push_cast; rfl
  have hR := h.set (p + 1)
  rw [ep] at hR
  have hB : Below base w (w.setCell ⟨rb, 1, none⟩ (.int .i64 ((p : Int) + 1))) := (Below.refl _ w).setCell (p := ⟨rb, 1, none⟩) h.lo _
  have hG := grown_set w ⟨rb, 1, none⟩ (.int .i64 ((p : Int) + 1))
  obtain ⟨V, hV⟩ : ∃ V, w.setCell ⟨rb, 1, none⟩ (.int .i64 ((p : Int) + 1)) = V := ⟨_, rfl⟩
  have HV := Lib.hid hV
  rw [hV] at hR hB hG
  have HG := Lib.hid hG
  have hd0 := hR.c0
  have hd1 := hR.c1
  rw [ep] at hd1
  have hml : decide ((m : Int) < 1) = false := decide_eq_false (by omega)
  have hml2 : ¬ (m : Int) < 1 := by omega
  have HR := Lib.hid hR
  have HB := Lib.hid hB
  have hmz : ¬ (m : Int) = 0 := by omega
  have HD := Lib.hid hR.data
  have hw2 : IntKind.i64.wrap ((p : Int) + 1 - 1) = (p : Int) := by rw [IntWalk.i64_in _ (by omega)]; omega
  have hrem : ∀ z : Int, 0 ≤ z → ∃ r : Nat, z.tmod (m : Int) = (r : Int) ∧ r < m := fun z hz => ⟨z.toNat % m, by
    rw [Int.tmod_eq_emod_of_nonneg hz, Int.natCast_emod, Int.toNat_of_nonneg hz], Nat.mod_lt _ (by omega)⟩
  have HREM := Lib.hid hrem
  clear h hR hB hV hrem hG
  by_cases hn : n = 0
  · subst hn
    go_enter Try.func32, Try.ntmps32
    go_wp2
    go_ret
    rw [HV.out]
    exact ⟨⟨0, rfl, by omega⟩, HR.out, HB.out, HG.out⟩
  · have hn0 : ¬ (n : Int) = 0 := by omega
    have hne : ((n : Int) == 0) = false := by simpa using hn0
    obtain ⟨x, rfl, hxb, hcx⟩ := HD.out.at_ (by omega)
    have hzl := HD.out.len
    by_cases hpn : p < n
    · have hpz : p < zs.length := by omega
      obtain ⟨z, hz⟩ : ∃ z, zs[p] = z := ⟨_, rfl⟩
      have hcp := hcx p hpz
      rw [hz, ← HV.out] at hcp
      have hzb := HD.out.byte z (by rw [← hz]; exact List.getElem_mem hpz)
      obtain ⟨r, hr, hrm⟩ := HREM.out z hzb.1
      have hwz : IntKind.i64.wrap z = z := IntWalk.i64_in _ (by omega)
      have hwr : IntKind.i64.wrap (r : Int) = (r : Int) := IntWalk.i64_in _ (by omega)
      have hpi : (p : Int) < (n : Int) := by omega
      go_enter Try.func32, Try.ntmps32
      go_wp2_with fail
      go_ret
      rw [HV.out]
      exact ⟨⟨r, rfl, hrm⟩, HR.out, HB.out, HG.out⟩
    · have hpi : ¬ (p : Int) < (n : Int) := by omega
      have hn1 : 0 < n := by omega
      obtain ⟨k1, hk1⟩ : ∃ k, p % n = k := ⟨_, rfl⟩
      obtain ⟨k2, hk2⟩ : ∃ k, (p * 7 + 3) % n = k := ⟨_, rfl⟩
      obtain ⟨d, hd⟩ : ∃ d, p / n = d := ⟨_, rfl⟩
      have hk1n : k1 < n := by rw [← hk1]; exact Nat.mod_lt _ hn1
      have hk2n : k2 < n := by rw [← hk2]; exact Nat.mod_lt _ hn1
      have hdp : d ≤ p := by rw [← hd]; exact Nat.div_le_self _ _
      have ht1 : (p : Int).tmod (n : Int) = (k1 : Int) := by rw [Int.tmod_eq_emod_of_nonneg (by omega), ← hk1]; rfl
      have ht2 : ((p : Int) * 7 + 3).tmod (n : Int) = (k2 : Int) := by rw [Int.tmod_eq_emod_of_nonneg (by omega), ← hk2]; push_cast; rfl
      have ht3 : (p : Int).tdiv (n : Int) = (d : Int) := by rw [Int.tdiv_eq_ediv_of_nonneg (by omega), ← hd]; rfl
      have hz1 : k1 < zs.length := by omega
      have hz2 : k2 < zs.length := by omega
      obtain ⟨q1, hq1⟩ : ∃ z, zs[k1] = z := ⟨_, rfl⟩
      obtain ⟨q2, hq2⟩ : ∃ z, zs[k2] = z := ⟨_, rfl⟩
      have hcp1 := hcx k1 hz1
      have hcp2 := hcx k2 hz2
      rw [hq1, ← HV.out] at hcp1
      rw [hq2, ← HV.out] at hcp2
      have hb1 := HD.out.byte q1 (by rw [← hq1]; exact List.getElem_mem hz1)
      have hb2 := HD.out.byte q2 (by rw [← hq2]; exact List.getElem_mem hz2)
      have hk1i : (k1 : Int) < (n : Int) := by omega
      have hk2i : (k2 : Int) < (n : Int) := by omega
      have a1 : IntKind.i64.wrap (k1 : Int) = (k1 : Int) := IntWalk.i64_in _ (by omega)
      have a2 : IntKind.i64.wrap (k2 : Int) = (k2 : Int) := IntWalk.i64_in _ (by omega)
      have a3 : IntKind.i64.wrap (d : Int) = (d : Int) := IntWalk.i64_in _ (by omega)
      have a4 : IntKind.i64.wrap q1 = q1 := IntWalk.i64_in _ (by omega)
      have a5 : IntKind.i64.wrap q2 = q2 := IntWalk.i64_in _ (by omega)
      have a6 : IntKind.i64.wrap (q1 * 131) = q1 * 131 := IntWalk.i64_in _ (by omega)
      have a7 : IntKind.i64.wrap (q2 * 1117) = q2 * 1117 := IntWalk.i64_in _ (by omega)
      have a8 : IntKind.i64.wrap ((p : Int) * 7) = (p : Int) * 7 := IntWalk.i64_in _ (by omega)
      have a9 : IntKind.i64.wrap ((p : Int) * 7 + 3) = (p : Int) * 7 + 3 := IntWalk.i64_in _ (by omega)
      have b1 : IntKind.i64.wrap (q1 * 131 + q2 * 1117) = q1 * 131 + q2 * 1117 := IntWalk.i64_in _ (by omega)
      have b2 : IntKind.i64.wrap ((p : Int) * 29) = (p : Int) * 29 := IntWalk.i64_in _ (by omega)
      have b3 : IntKind.i64.wrap (q1 * 131 + q2 * 1117 + (p : Int) * 29) = q1 * 131 + q2 * 1117 + (p : Int) * 29 := IntWalk.i64_in _ (by omega)
      have b4 : IntKind.i64.wrap ((d : Int) * 53) = (d : Int) * 53 := IntWalk.i64_in _ (by omega)
      obtain ⟨X, hX⟩ : ∃ X : Nat, q1 * 131 + q2 * 1117 + (p : Int) * 29 + (d : Int) * 53 = (X : Int) := ⟨(q1 * 131 + q2 * 1117 + (p : Int) * 29 + (d : Int) * 53).toNat, by omega⟩
      have hXb : X ≤ 10000000 := by omega
      have b5 : IntKind.i64.wrap (X : Int) = (X : Int) := IntWalk.i64_in _ (by omega)
      have ht4 : (X : Int).tdiv 64 = ((X / 64 : Nat) : Int) := by rw [Int.tdiv_eq_ediv_of_nonneg (by omega)]; rfl
      have hY : X / 64 ≤ X := Nat.div_le_self _ _
      obtain ⟨Y, hYe⟩ : ∃ Y, X / 64 = Y := ⟨_, rfl⟩
      rw [hYe] at ht4 hY
      have b6 : IntKind.i64.wrap (Y : Int) = (Y : Int) := IntWalk.i64_in _ (by omega)
      have hxor := i64_xor X Y (by omega) (by omega)
      obtain ⟨Z, hZ⟩ : ∃ Z, X ^^^ Y = Z := ⟨_, rfl⟩
      rw [hZ] at hxor
      obtain ⟨r, hr, hrm⟩ := HREM.out (Z : Int) (by omega)
      have b7 : IntKind.i64.wrap (r : Int) = (r : Int) := IntWalk.i64_in _ (by omega)
      have HRM := Lib.hid hrm
      clear hk1 hk2 hd hq1 hq2 hb1 hb2 hdp hXb hY hYe hZ hcx hrm hzl hz1 hz2
      go_enter Try.func32, Try.ntmps32
      go_wp2
      go_quiet (fail)
      go_wp2
      go_ret
      rw [HV.out]
      exact ⟨⟨r, rfl, HRM.out⟩, ⟨HR.out.lo, HR.out.box, ⟨HR.out.data.len, HR.out.data.fit, HR.out.data.at_, HR.out.data.byte⟩, HR.out.short⟩, ⟨HB.out.os, HB.out.tape, HB.out.output, HB.out.size, HB.out.block⟩, ⟨HG.out.os, HG.out.tape, HG.out.output, HG.out.size, HG.out.block⟩⟩

set_option maxHeartbeats 1000000 in
theorem open_any (a : Option Addr) (n cap : Nat) (zs : List Int) (w : World) (h : BsAt w.heap.size w a n cap zs) :
    Calls Try.prog 19 #[.slice a n cap] w fun e w' => ∃ n' zs', e = .returned (.pointer (some ⟨w.heap.size, 0, none⟩)) ∧ Rd w.heap.size w' w.heap.size a n' cap zs' 0 ∧ Below w.heap.size w w' := by
  have hf := h.fit
  have hl := h.len
  unfold maxLen at hf
  have hB : ∀ m : Nat, Below w.heap.size w (w.alloc (.cells #[.slice a m cap, .int .i64 0] RdT)) := fun m => (Below.refl _ w).alloc (Nat.le_refl _) _
  have hRd : ∀ (m : Nat) (ys : List Int), m ≤ 2000 → BsAt w.heap.size w a m cap ys → Rd w.heap.size (w.alloc (.cells #[.slice a m cap, .int .i64 0] RdT)) w.heap.size a m cap ys 0 := fun m ys hm hd => ⟨Nat.le_refl _, World.alloc_heap_new w _, hd.below (hB m), hm⟩
  have HRD := Lib.hid hRd
  have HBD := Lib.hid hB
  have H := Lib.hid h
  clear h hRd hB
  by_cases hn : n ≤ 2000
  · have hd : decide ((2000 : Int) < (n : Int)) = false := decide_eq_false (by omega)
    go_enter Try.func19, Try.ntmps19
    go_wp2
    go_ret
    exact ⟨n, zs, rfl, HRD.out n zs hn H.out, HBD.out n⟩
  · have hd : decide ((2000 : Int) < (n : Int)) = true := decide_eq_true (by omega)
    obtain ⟨x, rfl, hxb, hc⟩ := H.out.at_ (by omega)
    have hcap : (2000 : Int) ≤ (cap : Int) := by omega
    have hcap2 : 2000 ≤ cap := by omega
    have H2 : Hid (BsAt w.heap.size w (some x) 2000 cap (zs.take 2000)) := Lib.hid ⟨by rw [List.length_take]; omega, ⟨hcap2, H.out.fit.2⟩, fun _ => ⟨x, rfl, hxb, fun j hj => by rw [List.getElem_take]; exact hc j (by rw [List.length_take] at hj; omega)⟩, fun z hz => H.out.byte z (List.mem_of_mem_take hz)⟩
    clear hc
    go_enter Try.func19, Try.ntmps19
    go_wp2
    go_ret
    exact ⟨2000, zs.take 2000, rfl, HRD.out 2000 _ (Nat.le_refl _) H2.out, HBD.out 2000⟩

end Go.Proofs.Ytfhlceggihodeaa

/- The contracts of the model's 'of', 'l91Mono' and 'DrawSeriesShuffle'. -/

namespace Go.Proofs.Ytfhlceggihodeaa
open Go.RowKit Go.Shelf

def abL : List ByteArray := [{ data := #[97] }, { data := #[98] }]
theorem abL_size : ∀ s ∈ abL, s.size = 1 := by decide

end Go.Proofs.Ytfhlceggihodeaa

/- The contracts of the model's 'l91Word', 'l91Two' and 'DrawWordComm'. -/

namespace Go.Proofs.Ytfhlceggihodeaa
open Go.RowKit Go.Shelf

theorem conv_byte (c : UInt8) (v : Int) (hv : (c.toNat : Int) = v) (V : World) : (convert 22 9 (.slice (some ⟨V.heap.size, 0, none⟩) 1 1)).run Try.prog (V.alloc (.cells #[.int .u8 v] 5)) = .ok (.string (bstr [c])) (V.alloc (.cells #[.int .u8 v] 5)) := by
  have := run_convert_bytes_back (P := Try.prog) (V.alloc (.cells #[.int .u8 v] 5)) 22 9 5 ⟨V.heap.size, 0, none⟩ 1 [c] Try.underlying22 Try.underlying5 Try.underlying9 (fun j hj => by
    have hj0 : j = 0 := by simp at hj; exact hj
    subst hj0
    show (V.alloc _).cell? ((⟨V.heap.size, 0, none⟩ : Addr).add 0) = some (.int .u8 (c.toNat : Int))
    rw [hv]
    exact cell_one_new _ _ _ 0 _ rfl)
  exact this

set_option maxRecDepth 100000 in
set_option maxHeartbeats 2000000 in
theorem l91Word_any (base rb : Nat) (a : Option Addr) (n cap : Nat) (zs : List Int) (p most gens : Nat) (w : World) (h : Rd base w rb a n cap zs p) (hp : p ≤ 90000) (hm : most ≤ 20) (hg1 : 1 ≤ gens) (hg2 : gens ≤ 4) :
    Calls Try.prog 20 #[.pointer (some ⟨rb, 0, none⟩), .int .i64 most, .int .i64 gens] w fun e w' => (∃ s : ByteArray, e = .returned (.string s) ∧ s.size ≤ most + 1) ∧ (∃ p', p' ≤ p + 60 ∧ Rd base w' rb a n cap zs p') ∧ Below base w w' := by
  have hw1 : IntKind.i64.wrap ((most : Int) + 1) = ((most + 1 : Nat) : Int) := by rw [IntWalk.i64_in _ (by omega)]; push_cast; rfl
  have hlo := h.lo
  have hrl := h.lt
  have HP := Lib.hid (pick_any base rb a n cap zs p (most + 1) w h (by omega) (by omega) (by omega))
  clear h
  go_enter Try.func20, Try.ntmps20
  go_wp2_with fail
  refine HP.out.mono ?_
  rintro e w1 ⟨⟨N, rfl, hN⟩, hR1, hB1, _⟩
  have HR1 := Lib.hid hR1
  have HB1 := Lib.hid hB1
  clear hR1 hB1
  go_wp2_with fail
  go_loopw [7, 9] (fun v i wr => ∃ (k : Nat) (s : ByteArray), k ≤ N ∧ v = .string s ∧ i = .int .i64 k ∧ s.size ≤ k ∧ Rd base wr rb a n cap zs (p + 1 + 2 * k) ∧ Below base w wr) (fun _ i _ => N - (intOf i).toNat)
  case atStart => exact ⟨0, _, Nat.zero_le _, rfl, rfl, Nat.le_refl _, HR1.out, HB1.out⟩
  case round =>
    obtain ⟨k, s, hk, rfl, rfl, hsz, hR, hB⟩ := hrel
    have HR := Lib.hid hR
    have HB := Lib.hid hB
    have hbl := hR.lt
    clear hR hB
    by_cases hlt : k < N
    · have hli : (k : Int) < (N : Int) := by omega
      have HP2 := Lib.hid (pick_any base rb a n cap zs (p + 1 + 2 * k) gens wr HR.out (by omega) hg1 (by omega))
      go_wp2_with fail
      refine HP2.out.mono ?_
      rintro e w5 ⟨⟨z, rfl, hz⟩, hR5, hB5, _⟩
      have HP3 := Lib.hid (pick_any base rb a n cap zs (p + 1 + 2 * k + 1) 2 w5 hR5 (by omega) (by omega) (by omega))
      have HB5 := Lib.hid (HB.out.trans hB5)
      have hwz : IntKind.i64.wrap (97 + (z : Int)) = 97 + (z : Int) := IntWalk.i64_in _ (by omega)
      have hwu : IntKind.u8.wrap (97 + (z : Int)) = 97 + (z : Int) := IntWalk.u8_in _ (by omega)
      clear hR5 hB5
      go_wp2_with fail
      refine HP3.out.mono ?_
      rintro e w6 ⟨⟨y, rfl, hy⟩, hR6, hB6, _⟩
      have HB6 := Lib.hid (HB5.out.trans hB6)
      have hb6l := hR6.lt
      have hnot : ¬ 9223372036854775807 < s.size + 1 := by omega
      have HR6 := Lib.hid hR6
      clear hR6 hB6
      by_cases hy0 : y = 0
      · subst hy0
        have hws : IntKind.u8.wrap (97 + (z : Int) - 32) = 65 + (z : Int) := by rw [show (97 : Int) + (z : Int) - 32 = 65 + (z : Int) by omega]; exact IntWalk.u8_in _ (by omega)
        obtain ⟨t, ht⟩ : ∃ t, bstr [UInt8.ofNat (65 + z)] = t := ⟨_, rfl⟩
        have hts : t.size = 1 := by rw [← ht]; rfl
        have hcv := conv_byte (UInt8.ofNat (65 + z)) (65 + (z : Int)) (by rw [UInt8.toNat_ofNat', Nat.mod_eq_of_lt (by omega)]; push_cast; rfl) w6
        rw [ht] at hcv
        have hnot2 : ¬ 9223372036854775807 < s.size + t.size := by omega
        have HR7 := Lib.hid (HR6.out.below ((Below.refl _ w6).alloc (Nat.le_refl _) (.cells #[.int .u8 (65 + (z : Int))] 5)))
        have HB7 := Lib.hid (HB6.out.alloc (by omega) (.cells #[.int .u8 (65 + (z : Int))] 5))
        clear ht
        go_wp2
        go_roundw
        case rel => exact ⟨k + 1, _, by omega, rfl, by go_num, by rw [ByteArray.size_append]; omega, (show p + 1 + 2 * (k + 1) = p + 1 + 2 * k + 1 + 1 by omega) ▸ HR7.out, HB7.out⟩
        case measure => simp [intOf]; omega
      · have hyi : ((y : Int) == 0) = false := by simpa using hy0
        have hyn : ¬ (y : Int) = 0 := by omega
        obtain ⟨t, ht⟩ : ∃ t, bstr [UInt8.ofNat (97 + z)] = t := ⟨_, rfl⟩
        have hts : t.size = 1 := by rw [← ht]; rfl
        have hcv := conv_byte (UInt8.ofNat (97 + z)) (97 + (z : Int)) (by rw [UInt8.toNat_ofNat', Nat.mod_eq_of_lt (by omega)]; push_cast; rfl) w6
        rw [ht] at hcv
        have hnot2 : ¬ 9223372036854775807 < s.size + t.size := by omega
        have HR7 := Lib.hid (HR6.out.below ((Below.refl _ w6).alloc (Nat.le_refl _) (.cells #[.int .u8 (97 + (z : Int))] 5)))
        have HB7 := Lib.hid (HB6.out.alloc (by omega) (.cells #[.int .u8 (97 + (z : Int))] 5))
        clear ht
        go_wp2
        go_roundw
        case rel => exact ⟨k + 1, _, by omega, rfl, by go_num, by rw [ByteArray.size_append]; omega, (show p + 1 + 2 * (k + 1) = p + 1 + 2 * k + 1 + 1 by omega) ▸ HR7.out, HB7.out⟩
        case measure => simp [intOf]; omega
    · obtain rfl : N = k := by omega
      have HP2 := Lib.hid (pick_any base rb a n cap zs (p + 1 + 2 * N) 30 wr HR.out (by omega) (by omega) (by omega))
      go_wp2_with fail
      refine HP2.out.mono ?_
      rintro e w6 ⟨⟨z, rfl, hz⟩, hR6, hB6, _⟩
      have hb6l := hR6.lt
      have HR6 := Lib.hid hR6
      have HB6 := Lib.hid (HB.out.trans hB6)
      have hnot : ¬ 9223372036854775807 < s.size + 1 := by omega
      clear hR6 hB6
      by_cases hz0 : z = 0
      · subst hz0
        go_wp2
        go_ret
        exact ⟨⟨_, rfl, by rw [ByteArray.size_append]; show s.size + 1 ≤ _; omega⟩, ⟨_, by omega, HR6.out⟩, HB6.out⟩
      · have hzi : ((z : Int) == 0) = false := by simpa using hz0
        have hzn : ¬ (z : Int) = 0 := by omega
        have hrl2 := redL_len s.data.toList []
        obtain ⟨q, hq⟩ : ∃ q, bstr (redL [] s.data.toList) = q := ⟨_, rfl⟩
        have hqs : q.size ≤ s.size := by
          have e1 : q.size = (redL [] s.data.toList).length := by rw [← hq]; have : (bstr (redL [] s.data.toList)).size = (bstr (redL [] s.data.toList)).data.toList.length := by simp
                                                                  rw [this, bstr_toList]
          have e2 : s.data.toList.length = s.size := by simp
          simp only [List.length_nil] at hrl2
          omega
        have HRe := Lib.hid (reduce_is s q w6 (by omega) hq)
        clear hq hrl2
        go_wp2_with fail
        refine HRe.out.mono ?_
        rintro e w7 ⟨rfl, hb7⟩
        have HR7 := Lib.hid (HR6.out.below hb7)
        have HB7 := Lib.hid (HB6.out.trans (hb7.mono (by omega)))
        clear hb7
        go_wp2
        go_ret
        exact ⟨⟨_, rfl, by omega⟩, ⟨_, by omega, HR7.out⟩, HB7.out⟩

set_option maxHeartbeats 1000000 in
theorem l91Two_any (a : Option Addr) (n cap : Nat) (zs : List Int) (w : World) (h : BsAt w.heap.size w a n cap zs) :
    Calls Try.prog 8 #[.slice a n cap] w fun e w' => (∃ s t : ByteArray, e = .returned (.tuple #[.string s, .string t]) ∧ s.size ≤ 20 ∧ t.size ≤ 20) ∧ Below w.heap.size w w' := by
  have HO := Lib.hid (open_any a n cap zs w h)
  clear h
  go_enter Try.func8, Try.ntmps8
  go_wp2_with fail
  refine HO.out.mono ?_
  rintro e w1 ⟨n', zs', rfl, hR1, hB1⟩
  have HR1 := Lib.hid hR1
  have HB1 := Lib.hid hB1
  clear hR1 hB1
  go_wp2_with fail
  refine (l91Word_any w.heap.size w.heap.size a n' cap zs' 0 7 3 w1 HR1.out (by omega) (by omega) (by omega) (by omega)).mono ?_
  rintro e w2 ⟨⟨s, rfl, hs⟩, ⟨p2, hp2, hR2⟩, hB2⟩
  have HR2 := Lib.hid hR2
  have HB2 := Lib.hid (HB1.out.trans hB2)
  clear hR2 hB2
  go_wp2_with fail
  refine (l91Word_any w.heap.size w.heap.size a n' cap zs' p2 7 3 w2 HR2.out (by omega) (by omega) (by omega) (by omega)).mono ?_
  rintro e w3 ⟨⟨t, rfl, ht⟩, _, hB3⟩
  have HB3 := Lib.hid (HB2.out.trans hB3)
  clear hB3
  go_wp2
  go_ret2
  exact ⟨⟨s, t, rfl, by omega, by omega⟩, HB3.out⟩

theorem drawComm_any (a : Option Addr) (n cap : Nat) (zs : List Int) (w : World) (h : BsAt w.heap.size w a n cap zs) :
    Calls Try.prog 4 #[.slice a n cap] w fun e w' => (∃ s t : ByteArray, e = .returned (.tuple #[.string s, .string t]) ∧ s.size ≤ 20 ∧ t.size ≤ 20) ∧ Below w.heap.size w w' := by
  have HO := Lib.hid (l91Two_any a n cap zs w h)
  clear h
  go_enter Try.func4, Try.ntmps4
  go_wp2_with fail
  refine HO.out.mono ?_
  rintro e w1 ⟨⟨s, t, rfl, hs, ht⟩, hB1⟩
  go_wp2
  go_ret2
  exact ⟨⟨s, t, rfl, hs, ht⟩, hB1⟩

end Go.Proofs.Ytfhlceggihodeaa

/- The contract of the program's 'WordSums'. -/

namespace Go.Proofs.Ytfhlceggihodeaa
open Go.RowKit Go.Shelf

attribute [local go_sem] Oper.semAt_some

theorem idx_tab : ((List.range 256).all fun n => !(decide ((97 ≤ n ∧ n ≤ 100) ∨ (65 ≤ n ∧ n ≤ 68))) || (decide (bits BinOp.or IntKind.u8 (n : Int) 32 = ((if 97 ≤ n then n - 97 else n - 65 : Nat) : Int) + 97) && decide (bits BinOp.and IntKind.u8 (n : Int) 32 = if 97 ≤ n then 32 else 0))) = true := by kernel_rfl
theorem idx_let (c : UInt8) (h : letB c = true) : bits BinOp.or IntKind.u8 (c.toNat : Int) 32 = (idxB c : Int) + 97 ∧ bits BinOp.and IntKind.u8 (c.toNat : Int) 32 = if 97 ≤ c.toNat then 32 else 0 := by
  have := List.all_eq_true.1 idx_tab c.toNat (List.mem_range.2 c.toNat_lt)
  simp only [Bool.or_eq_true, Bool.and_eq_true, Bool.not_eq_true', decide_eq_false_iff_not, decide_eq_true_eq] at this
  exact this.resolve_left (fun h2 => h2 ((letB_iff c).1 h))

theorem iSign_any (c : UInt8) (w : World) (h : letB c = true) :
    Calls Try.prog 46 #[.int .u8 (c.toNat : Int)] w fun e w' => e = .returned (.int .i64 (sgnB c)) ∧ w' = w := by
  have hb := (idx_let c h).2
  by_cases h97 : 97 ≤ c.toNat
  · rw [if_pos h97] at hb
    have hs : Hid (sgnB c = 1) := by unfold sgnB; rw [if_pos h97]; exact Lib.hid rfl
    clear h h97
    go_enter Try.func46, Try.ntmps46
    go_wp2
    go_ret
    exact ⟨ret_int hs.out.symm, rfl⟩
  · rw [if_neg h97] at hb
    have hs : Hid (sgnB c = -1) := by unfold sgnB; rw [if_neg h97]; exact Lib.hid rfl
    clear h h97
    go_enter Try.func46, Try.ntmps46
    go_wp2
    go_ret
    exact ⟨ret_int hs.out.symm, rfl⟩

end Go.Proofs.Ytfhlceggihodeaa

/- The contracts of the program's 'known' (of a monomial), 'ofSeries' and 'SeriesIn'. -/

namespace Go.Proofs.Ytfhlceggihodeaa
open Go.RowKit Go.Shelf

attribute [local go_sem] Oper.semAt_some

def genL (l : List UInt8) : Bool := l.all genB
theorem genL_append (a b : List UInt8) : genL (a ++ b) = (genL a && genL b) := by simp [genL]
theorem genL_prefix {p l : List UInt8} (hp : p <+: l) (h : genL p = false) : genL l = false := by
  obtain ⟨r, rfl⟩ := hp
  rw [genL_append, h]; rfl
theorem genB_let (c : UInt8) : genB c = (letB c && decide (0 ≤ sgnB c)) := by
  have h : ∀ n : Fin 256, genB (UInt8.ofNat n.val) = (letB (UInt8.ofNat n.val) && decide (0 ≤ sgnB (UInt8.ofNat n.val))) := by decide +kernel
  have := h ⟨c.toNat, c.toNat_lt⟩
  simpa using this

set_option maxRecDepth 100000 in
set_option maxHeartbeats 1000000 in
theorem known4_in (n : Nat) (hn : 30 ≤ n) (s : ByteArray) (w : World) (hs : s.size ≤ 4) :
    CallsIn Fence.wide n Try.prog 68 #[.string s] w fun e w' => e = .returned (.bool (genL s.data.toList)) ∧ Below w.heap.size w w' := by
  refine callsIn_of_wp_marks Try.func68 rfl trivial ?_ rfl
  simp only [Try.ntmps68, List.size_toArray, List.length_cons, List.length_nil, Nat.reduceAdd, Nat.reduceSub, Array.replicate_succ, Array.replicate_zero, List.push_toArray, List.append_toArray, List.nil_append, List.cons_append]
  gi_wp2_with fail
  refine ⟨trivial, fun _ => by omega, ?_⟩
  refine (callsIn_wide.2 (signsOf_any s _)).mono ?_
  rintro e w1 ⟨rfl, rfl⟩
  have b1 := (Boxed.new w 4 (.bool false)).alloc (.cells #[.string s] 9)
  have b2 := Boxed.new (w.alloc (.cells #[.bool false] 4)) 9 (.string s)
  rw [World.size_alloc] at b2
  have hB0 : Below w.heap.size w ((w.alloc (.cells #[.bool false] 4)).alloc (.cells #[.string s] 9)) := ((Below.refl _ w).alloc (Nat.le_refl _) _).alloc (by simp) _
  have hsz : ((w.alloc (.cells #[.bool false] 4)).alloc (.cells #[.string s] 9)).heap.size = w.heap.size + 2 := by simp
  obtain ⟨W0, hW0⟩ : ∃ W0, ((w.alloc (.cells #[.bool false] 4)).alloc (.cells #[.string s] 9)) = W0 := ⟨_, rfl⟩
  simp only [World.size_alloc]
  rw [hW0] at b1 b2 hB0 hsz ⊢
  clear hW0
  gi_wp2
  refine wpIn_rangeFunc_ownG rfl (by omega) (gf := 54) (lb := #[.pointer (some ⟨w.heap.size + 1, 0, none⟩)]) rfl trivial (enters_of Try.func54 (by kernel_rfl) rfl)
    (signs_seq s (by omega) W0 (w.heap.size + 1) W0.heap.size (by omega) (Nat.le_refl _) b2.cell (n - 1) (by omega)) belowK_t (belowK_b (Nat.le_refl _)) (Below.refl _ _) (fun _ => rfl)
    (fun pre W => Boxed W w.heap.size 4 (.bool false) ∧ genL pre = true ∧ Below W0.heap.size W0 W)
    (fun c pre W => ((c = .ret ∧ genL pre = false) ∧ Boxed W w.heap.size 4 (.bool false)) ∧ Below w.heap.size w W)
    (OwnFrom.and (Own.from (fun s A B row hs hg hr => boxed_own w.heap.size _ (fun _ : Unit => .bool false) () A B row hs hg hr) _) (OwnFrom.and (ownFrom_pure _ _) (ownFrom_below (Nat.le_refl _) (Nat.le_refl _))))
    (fun c => OwnFrom.and (Own.from (fun s A B row hs hg hr => ⟨hs.1, boxed_own w.heap.size _ (fun _ : Unit => .bool false) () A B row hs.2 hg hr⟩) _) (ownFrom_below (Nat.le_refl _) (by omega)))
    ⟨b1, rfl, Below.refl _ _⟩
    (fun x => { tmps := #[.string s, undef, .pointer (some ⟨w.heap.size, 0, none⟩), .int .u8 (x.toNat : Int), .string s, .int .i64 (s.size : Int), .bool (decide ((4 : Int) < (s.size : Int))), .string s, .func (.func 54) #[] #[.pointer (some ⟨w.heap.size + 1, 0, none⟩)], .int .u8 (x.toNat : Int), undef, undef, undef, undef, undef, undef, undef, undef], defers := [] }) ?assign ?body ?done ?stop
  case assign =>
    intro l x W K hK
    gi_wp2
    exact hK
  case body =>
    rintro l pre x W ⟨c1, hl, hB⟩ hlen
    have d1 := c1.cell
    have f1 := c1.frozen
    have C1 := Lib.hid c1
    have HL := Lib.hid hl
    have hBw : Below w.heap.size w W := hB0.trans (hB.mono (by omega))
    have HBw := Lib.hid hBw
    clear c1 hl hBw
    cases hx : letB x with
    | true =>
      have HX := Lib.hid hx
      by_cases hsg : 0 ≤ sgnB x
      · have hg : genB x = true := by rw [genB_let, hx]; simp [hsg]
        have HG := Lib.hid hg
        obtain ⟨u, hu⟩ : ∃ u, sgnB x = u := ⟨_, rfl⟩
        have HSX := Lib.hid (show ∀ W, Calls Try.prog 46 #[.int .u8 (x.toNat : Int)] W fun e w' => e = .returned (.int .i64 u) ∧ w' = W from fun W => by rw [← hu]; exact iSign_any x W hx)
        rw [hu] at hsg
        have hneg : ¬ u < 0 := by omega
        have hdu : decide (u < 0) = false := decide_eq_false hneg
        clear hx hg hu
        gi_wp2_with fail
        refine ⟨trivial, fun _ => by omega, ?_⟩
        refine (CallsIn.inRound l (callsIn_wide.2 (known_is x true W HX.out))).mono ?_
        rintro e w1 ⟨rfl, rfl⟩
        gi_wp2_with fail
        refine ⟨trivial, fun _ => by omega, ?_⟩
        refine (CallsIn.inRound l (callsIn_wide.2 (HSX.out _))).mono ?_
        rintro e w2 ⟨rfl, rfl⟩
        gi_wp2
        exact ⟨KeepsFrom.refl _ _, Below.refl _ _, C1.out, by rw [genL_append, HL.out]; simp [genL, HG.out], hB⟩
      · have hg : genB x = false := by rw [genB_let, hx]; simp [hsg]
        have HG := Lib.hid hg
        obtain ⟨u, hu⟩ : ∃ u, sgnB x = u := ⟨_, rfl⟩
        have HSX := Lib.hid (show ∀ W, Calls Try.prog 46 #[.int .u8 (x.toNat : Int)] W fun e w' => e = .returned (.int .i64 u) ∧ w' = W from fun W => by rw [← hu]; exact iSign_any x W hx)
        rw [hu] at hsg
        have hneg : u < 0 := by omega
        have hdu : decide (u < 0) = true := decide_eq_true hneg
        clear hx hg hu
        gi_wp2_with fail
        refine ⟨trivial, fun _ => by omega, ?_⟩
        refine (CallsIn.inRound l (callsIn_wide.2 (known_is x true W HX.out))).mono ?_
        rintro e w1 ⟨rfl, rfl⟩
        gi_wp2_with fail
        refine ⟨trivial, fun _ => by omega, ?_⟩
        refine (CallsIn.inRound l (callsIn_wide.2 (HSX.out _))).mono ?_
        rintro e w2 ⟨rfl, rfl⟩
        gi_wp2
        exact ⟨(KeepsOthers.setCell _ _ _).from _, ⟨⟨rfl, by rw [genL_append]; simp [genL, HG.out]⟩, C1.out.set _⟩, HBw.out.setCell (p := ⟨w.heap.size, 0, none⟩) (Nat.le_refl _) _⟩
    | false =>
      have HX := Lib.hid hx
      have HG := Lib.hid (show genB x = false by rw [genB_let, hx]; rfl)
      clear hx
      gi_wp2_with fail
      refine ⟨trivial, fun _ => by omega, ?_⟩
      refine (CallsIn.inRound l (callsIn_wide.2 (known_is x false W HX.out))).mono ?_
      rintro e w1 ⟨rfl, rfl⟩
      gi_wp2_with fail
      refine ⟨trivial, ?_⟩
      gi_wp2
      exact ⟨(KeepsOthers.setCell _ _ _).from _, ⟨⟨rfl, by rw [genL_append]; simp [genL, HG.out]⟩, C1.out.set _⟩, HBw.out.setCell (p := ⟨w.heap.size, 0, none⟩) (Nat.le_refl _) _⟩
  case done =>
    rintro D ys W hD rfl ⟨c1, hl, hB⟩ hK
    have hBW : Below w.heap.size w W := hB0.trans (hB.mono (by omega))
    have hDlt : D < W.heap.size := (Array.getElem?_eq_some_iff.1 hK).1
    have d1 := c1.cell
    have f1 := c1.frozen
    have C1 := Lib.hid c1
    have HK := Lib.hid hK
    have HL := Lib.hid hl
    clear c1 hK hl
    gi_wp2
    obtain ⟨W5, hW5⟩ : ∃ W5, W.setCell ⟨w.heap.size, 0, none⟩ (.bool true) = W5 := ⟨_, rfl⟩
    have e1 : Boxed W5 w.heap.size 4 (.bool true) := by rw [← hW5]; exact C1.out.set _
    have hK5 : W5.heap[D]? = some (.deferred (some [])) := by rw [← hW5]; exact (KeepsOthers.setCell _ _ _).same D _ HK.out rfl
    have hB5 : Below w.heap.size w W5 := by rw [← hW5]; exact hBW.setCell (p := ⟨w.heap.size, 0, none⟩) (Nat.le_refl _) _
    rw [hW5]
    clear hW5
    refine ⟨by simp, .inl ⟨_, _, rfl, run_takeDeferred hK5, ?_⟩⟩
    have g1 := (e1.kept (grownBy_putObj' W5 D (.deferred none)) (fun e => by cases e; omega)).cell
    refine ⟨.bool true, by simp [results, Try.f68, go_sem, g1], by rw [HL.out], hB5.trans (belowK_b (w := w) (Nat.le_refl _) W5 D _ _ (by omega) hK5 rfl rfl)⟩
  case stop =>
    rintro D c pre W hD hpre ⟨⟨⟨rfl, hl⟩, c1⟩, hB⟩ hK
    gi_wp2
    refine ⟨by simp, .inl ⟨_, _, rfl, run_takeDeferred hK, ?_⟩⟩
    have e1 := (c1.kept (grownBy_putObj' W D (.deferred none)) (fun e => by cases e; omega)).cell
    refine ⟨.bool false, by simp [results, Try.f68, go_sem, e1], by rw [genL_prefix hpre hl], hB.trans (belowK_b (w := w) (Nat.le_refl _) W D _ _ (by omega) hK rfl rfl)⟩

set_option maxRecDepth 100000 in
set_option maxHeartbeats 1000000 in
theorem known4_any (s : ByteArray) (w : World) (hs : s.size ≤ maxLen) :
    Calls Try.prog 68 #[.string s] w fun e w' => e = .returned (.bool (monoB s)) ∧ Below w.heap.size w w' := by
  by_cases h : s.size ≤ 4
  · refine ((callsIn_wide (n := 30)).1 (known4_in 30 (by omega) s w h)).mono ?_
    rintro e w' ⟨rfl, hb⟩
    refine ⟨?_, hb⟩
    unfold monoB genL
    rw [decide_eq_true h, Bool.and_true]
  · have hm : monoB s = false := by unfold monoB; rw [decide_eq_false h, Bool.and_false]
    rw [hm]
    unfold maxLen at hs
    clear hm
    go_enter Try.func68, Try.ntmps68
    go_wp2
    refine bodyPost_ret (by simp [results, Try.f68, go_sem]; rfl) rfl ?_
    exact ⟨rfl, (Below.refl _ w).alloc (Nat.le_refl _) _⟩
theorem known4_is (s : ByteArray) (b : Bool) (w : World) (hs : s.size ≤ maxLen) (hb : monoB s = b) :
    Calls Try.prog 68 #[.string s] w fun e w' => e = .returned (.bool b) ∧ Below w.heap.size w w' := by rw [← hb]; exact known4_any s w hs

end Go.Proofs.Ytfhlceggihodeaa

/- The contracts of the program's 'ofSeries' and 'SeriesIn'. -/

namespace Go.Proofs.Ytfhlceggihodeaa
open Go.RowKit Go.Shelf

attribute [local go_sem] Oper.semAt_some

/-- Is a term as a series wants it? -/
def okT (t : Tm) : Bool := monoB t.s && (inR (-1000000) 1000000 t.c && !(t.c == 0))
theorem all_mem {f g : Tm → Bool} : ∀ {l : List Tm}, (∀ t ∈ l, f t = g t) → l.all f = l.all g
  | [], _ => rfl
  | t :: r, h => by rw [List.all_cons, List.all_cons, h t (by simp), all_mem fun u hu => h u (List.mem_cons_of_mem _ hu)]
theorem serB_eq (ts : List Tm) : serB ts = (decide (ts.length ≤ 400) && (ascB ts && ts.all okT)) := by
  by_cases hc : Canon ts
  · rw [serB_canon hc, ascB_canon hc, Bool.true_and]
    unfold twS
    congr 1
    refine all_mem fun t ht => ?_
    unfold okT
    have : (t.c == 0) = false := by simpa using hc.2 t ht
    rw [this, Bool.not_false, Bool.and_true, Bool.and_comm]
  · have h1 : serB ts = false := by
      cases h : serB ts
      · rfl
      · exact absurd (serB_parts h).2.2 hc
    have h2 : (ascB ts && ts.all okT) = false := by
      cases h : (ascB ts && ts.all okT)
      · rfl
      · refine absurd ?_ hc
        simp only [Bool.and_eq_true] at h
        refine ⟨pairwise_lessW fun k hk hk0 => ?_, fun t ht => ?_⟩
        · have h3 := h.1
          unfold ascB at h3
          have := List.all_eq_true.1 h3 k (List.mem_range.2 hk)
          simp only [Bool.or_eq_true, decide_eq_true_eq] at this
          rcases this with h | h
          · omega
          · exact h
        · have := List.all_eq_true.1 h.2 t ht
          unfold okT at this
          simp only [Bool.and_eq_true, Bool.not_eq_true', beq_eq_false_iff_ne] at this
          exact this.2.2
    rw [h1, h2, Bool.and_false]

set_option maxHeartbeats 1000000 in
theorem ofSeries_is (t : Tm) (b : Bool) (w : World) (hs : t.s.size ≤ maxLen) (hb : okT t = b) :
    Calls Try.prog 53 #[.agg #[.int .i64 t.c, .string t.s]] w fun e w' => e = .returned (.bool b) ∧ Below w.heap.size w w' := by
  have HS := Lib.hid hs
  clear hs
  unfold okT at hb
  cases hm : monoB t.s with
  | false =>
    rw [hm] at hb
    obtain rfl : b = false := hb.symm
    have HM := Lib.hid hm
    clear hm hb
    obtain ⟨c, s⟩ := t
    go_enter Try.func53, Try.ntmps53
    go_wp2_with fail
    refine (known4_is s false _ HS.out HM.out).mono ?_
    rintro e w1 ⟨rfl, hb1⟩
    have HB1 := Lib.hid hb1
    clear hb1
    go_wp2
    go_ret
    exact ⟨rfl, ((Below.refl _ w).alloc (Nat.le_refl _) _).trans (HB1.out.mono (by simp))⟩
  | true =>
    rw [hm, Bool.true_and] at hb
    have HM := Lib.hid hm
    clear hm
    have hbx : ∀ w1, Below (w.alloc (.cells #[.int .i64 t.c, .string t.s] TI)).heap.size (w.alloc (.cells #[.int .i64 t.c, .string t.s] TI)) w1 → w1.cell? ⟨w.heap.size, 0, none⟩ = some (.int .i64 t.c) ∧ w1.cell? ⟨w.heap.size, 1, none⟩ = some (.string t.s) := fun w1 hb => by
      constructor
      · rw [hb.cell (p := ⟨w.heap.size, 0, none⟩) (by simp)]; exact (World.cell?_alloc_at _ _ _ _ (by simp)).trans rfl
      · rw [hb.cell (p := ⟨w.heap.size, 1, none⟩) (by simp)]; exact (World.cell?_alloc_at _ _ _ _ (by simp)).trans rfl
    have HBX := Lib.hid hbx
    clear hbx
    cases hr : inR (-1000000) 1000000 t.c with
    | false =>
      rw [hr] at hb
      obtain rfl : b = false := hb.symm
      have HR := Lib.hid hr
      clear hr hb
      obtain ⟨c, s⟩ := t
      go_enter Try.func53, Try.ntmps53
      go_wp2_with fail
      refine (known4_is s true _ HS.out HM.out).mono ?_
      rintro e w1 ⟨rfl, hb1⟩
      obtain ⟨x0, x1⟩ := HBX.out w1 hb1
      have HB1 := Lib.hid hb1
      clear hb1
      go_wp2_with fail
      refine (inRange_is ⟨c, s⟩ false _ HR.out).mono ?_
      rintro e w2 ⟨rfl, hb2⟩
      have HB2 := Lib.hid (HB1.out.trans (hb2.mono HB1.out.size))
      clear hb2
      go_wp2
      go_ret
      exact ⟨rfl, ((Below.refl _ w).alloc (Nat.le_refl _) _).trans (HB2.out.mono (by simp))⟩
    | true =>
      rw [hr, Bool.true_and] at hb
      have HR := Lib.hid hr
      clear hr
      obtain ⟨c, s⟩ := t
      obtain ⟨z, hz⟩ : ∃ z, (c == 0) = z := ⟨_, rfl⟩
      have hb' : (!z) = b := by rw [← hz]; exact hb
      have HZ := Lib.hid (show ∀ W, Calls Try.prog 70 #[.agg #[.int .i64 c, .string s]] W fun e w' => e = .returned (.bool z) ∧ Grew W w' from fun W => by rw [← hz]; exact isZero_any ⟨c, s⟩ W)
      clear hz hb
      go_enter Try.func53, Try.ntmps53
      go_wp2_with fail
      refine (known4_is s true _ HS.out HM.out).mono ?_
      rintro e w1 ⟨rfl, hb1⟩
      obtain ⟨x0, x1⟩ := HBX.out w1 hb1
      have HB1 := Lib.hid hb1
      clear hb1
      go_wp2_with fail
      refine (inRange_is ⟨c, s⟩ true _ HR.out).mono ?_
      rintro e w2 ⟨rfl, hb2⟩
      have HB2 := Lib.hid (HB1.out.trans (hb2.mono HB1.out.size))
      clear hb2 x0 x1
      obtain ⟨x0, x1⟩ := HBX.out w2 HB2.out
      go_wp2_with fail
      refine (HZ.out _).mono ?_
      rintro e w3 ⟨rfl, hb3⟩
      have HB3 := Lib.hid (HB2.out.trans (hb3.below.mono HB2.out.size))
      clear hb3 x0 x1
      go_wp2
      go_ret
      exact ⟨by first | rfl | exact ret_bool hb'.symm, ((Below.refl _ w).alloc (Nat.le_refl _) _).trans (HB3.out.mono (by simp))⟩

theorem all_take {ts : List Tm} {f : Tm → Bool} {k : Nat} (hk : k < ts.length) (h : (ts.take k).all f = true) (hf : f ts[k] = true) : (ts.take (k + 1)).all f = true := by
  rw [List.take_succ_eq_append_getElem hk, List.all_append, h]
  simp [hf]

set_option maxRecDepth 100000 in
set_option maxHeartbeats 2000000 in
theorem iSeriesIn_any (a : Option Addr) (cap n : Nat) (ts : List Tm) (w : World) (hs : IsTerms w a n ts) :
    Calls Try.prog 42 #[.slice a n cap] w fun e w' => e = .returned (.bool (serB ts)) ∧ Below w.heap.size w w' := by
  have hm := hs.max
  have hE := serB_eq ts
  rw [hs.len] at hE
  have HN := Lib.hid hs.len
  have HS := Lib.hid hs
  clear hs
  unfold maxLen at hm
  by_cases h4 : n ≤ 400
  · have hgt : decide ((400 : Int) < (n : Int)) = false := decide_eq_false (by omega)
    rw [decide_eq_true h4, Bool.true_and] at hE
    have HE := Lib.hid hE
    clear hE
    have hb2 : Below w.heap.size w (w.alloc (.cells #[.slice a n cap, .func (.func 41) #[] #[]] 91)) := (Below.refl _ w).alloc (Nat.le_refl _) _
    have HS2 := Lib.hid (HS.out.below hb2)
    have hn0 : w.heap.size < (w.alloc (.cells #[.slice a n cap, .func (.func 41) #[] #[]] 91)).heap.size := by simp
    have HA := Lib.hid (ascends_any w.heap.size a cap n ts (w.alloc (.cells #[.slice a n cap, .func (.func 41) #[] #[]] 91)) HS2.out hn0 ((World.cell?_alloc_at _ _ _ _ (by simp)).trans rfl) ((World.cell?_alloc_at _ _ _ _ (by simp)).trans rfl))
    have HB2 := Lib.hid hb2
    clear hb2 hn0
    cases h3 : ascB ts with
    | false =>
      have H3 := Lib.hid h3
      clear h3
      go_enter Try.func42, Try.ntmps42
      go_wp2_with fail
      refine HA.out.mono ?_
      rintro e w3 ⟨rfl, hb3⟩
      have H3' := H3.out
      rw [H3']
      clear H3'
      have HB3 := Lib.hid (HB2.out.trans (hb3.mono HB2.out.size))
      clear hb3
      go_wp2
      go_ret
      exact ⟨ret_bool (by rw [HE.out, H3.out]; rfl), HB3.out⟩
    | true =>
      have H3 := Lib.hid h3
      clear h3
      go_enter Try.func42, Try.ntmps42
      go_wp2_with fail
      refine HA.out.mono ?_
      rintro e w3 ⟨rfl, hb3⟩
      have H3' := H3.out
      rw [H3']
      clear H3'
      have HB3 := Lib.hid (HB2.out.trans (hb3.mono HB2.out.size))
      have HS3 := Lib.hid (HS2.out.below hb3)
      clear hb3
      go_wp2_with fail
      go_loopw [17] (fun i wr => ∃ k : Nat, k ≤ n ∧ i = .int .i64 k ∧ Hid ((ts.take k).all okT = true) ∧ Below w.heap.size w wr) (fun i _ => n - (intOf i).toNat)
      case atStart => exact ⟨0, Nat.zero_le _, rfl, Lib.hid rfl, HB3.out⟩
      case round =>
        obtain ⟨k, hk, rfl, HK, hB⟩ := hrel
        by_cases hlt : k < n
        · have hkz : k < ts.length := by rw [HN.out]; exact hlt
          obtain ⟨x, rfl, hx⟩ := HS.out.at_ (by omega)
          obtain ⟨t, ht⟩ : ∃ t, ts[k] = t := ⟨_, rfl⟩
          have hc := (hx.below hB).2 k hkz
          rw [ht, addr_next] at hc
          obtain ⟨hc0, hc1⟩ := hc
          have hsm : t.s.size ≤ maxLen := by rw [← ht]; exact (HS.out.small _ (List.getElem_mem hkz)).1
          have HT := Lib.hid ht
          have HSM := Lib.hid hsm
          have hwr := Lib.hid hB
          clear hx ht hsm hB
          cases hok : okT t with
          | false =>
            have HO := Lib.hid hok
            clear hok
            go_wp2_with fail
            refine (ofSeries_is t false _ HSM.out HO.out).mono ?_
            rintro e w4 ⟨rfl, hb4⟩
            have HB4 := Lib.hid hb4
            clear hb4
            go_wp2
            go_ret
            refine ⟨ret_bool ?_, (hwr.out.alloc hwr.out.size _).trans (HB4.out.mono (by have := hwr.out.size; simp; omega))⟩
            rw [HE.out, H3.out, Bool.true_and]
            exact (List.all_eq_false.2 ⟨t, by rw [← HT.out]; exact List.getElem_mem hkz, by rw [HO.out]; exact Bool.false_ne_true⟩).symm
          | true =>
            have HO := Lib.hid hok
            clear hok
            go_wp2_with fail
            refine (ofSeries_is t true _ HSM.out HO.out).mono ?_
            rintro e w4 ⟨rfl, hb4⟩
            have HB4 := Lib.hid hb4
            clear hb4
            go_wp2
            go_roundw
            case rel => exact ⟨k + 1, by omega, by go_num, Lib.hid (all_take hkz HK.out (by rw [HT.out]; exact HO.out)), (hwr.out.alloc hwr.out.size _).trans (HB4.out.mono (by have := hwr.out.size; simp; omega))⟩
            case measure => simp [intOf]; omega
        · obtain rfl : k = n := by omega
          have hall : ts.all okT = true := by have := HK.out; rwa [List.take_of_length_le (by rw [HN.out]; exact Nat.le_refl _)] at this
          have HL := Lib.hid hall
          clear hall
          go_wp2
          go_ret
          exact ⟨ret_bool (by rw [HE.out, H3.out, HL.out]; rfl), hB⟩
  · have hgt : decide ((400 : Int) < (n : Int)) = true := decide_eq_true (by omega)
    rw [decide_eq_false h4, Bool.false_and] at hE
    have HE := Lib.hid hE
    clear hE
    go_enter Try.func42, Try.ntmps42
    go_wp2
    go_ret
    exact ⟨ret_bool HE.out.symm, (Below.refl _ w).alloc (Nat.le_refl _) _⟩
theorem iSeriesIn_is (a : Option Addr) (cap n : Nat) (ts : List Tm) (b : Bool) (w : World) (hs : IsTerms w a n ts) (hb : serB ts = b) :
    Calls Try.prog 42 #[.slice a n cap] w fun e w' => e = .returned (.bool b) ∧ Below w.heap.size w w' := by rw [← hb]; exact iSeriesIn_any a cap n ts w hs

end Go.Proofs.Ytfhlceggihodeaa

/- A law for a region that draws its order, inside a fence, by what stands when some of its operations have come up: each operation is met once, in whatever order they come. -/

namespace Go.Proofs.Ytfhlceggihodeaa
open Go.RowKit Go.Shelf

theorem count_set (l : List Bool) : ∀ i, l[i]? = some false → (l.set i true).count false + 1 = l.count false := by
  induction l with
  | nil => intro i h; simp at h
  | cons b r ih =>
    intro i h
    cases i with
    | zero => simp at h; subst h; simp
    | succ i =>
      simp only [List.getElem?_cons_succ] at h
      have := ih i h
      simp only [List.set_cons_succ, List.count_cons]
      omega
theorem listed_false {l : Array Bool} {i : Nat} (h : l.getD i true = false) : l.toList[i]? = some false := by
  rw [Array.getD_eq_getD_getElem?] at h
  rw [Array.getElem?_toList]
  cases e : l[i]? with
  | none => rw [e] at h; cases h
  | some b => rw [e] at h; simp at h; rw [h]

theorem wpAnyIn_inv {F : Fence} {n : Nat} {P : Program} {md : Region.Mode} {ops : Array Oper} {Q : Exit → Act → World → Prop} (Inv : Array Bool → Act → World → Prop)
    (hstep : ∀ listed a w i, Inv listed a w → listed.getD i true = false → (∀ o, ops[i]? = some o → ∀ e ∈ o.after, Region.binds md e = true → listed.getD e.on false = true) → i < ops.size →
      wpOpIn F n P ops Q i (fun a' w' => Inv (listed.setIfInBounds i true) a' w') a w)
    (hdone : ∀ listed a w, Inv listed a w → (∀ i o, ops[i]? = some o → (∀ e ∈ o.after, Region.binds md e = true → listed.getD e.on false = true) → listed.getD i true = true) → Q .normal a w) :
    ∀ (fuel : Nat) (listed : Array Bool) (a : Act) (w : World), listed.toList.count false ≤ fuel → Inv listed a w → wpAnyIn F n P md ops Q fuel listed a w := by
  have hd : ∀ listed a w, Inv listed a w → Region.ready md ops listed = [] → Q .normal a w := fun listed a w hI hr => hdone listed a w hI fun i o ho hall => by
    cases h : listed.getD i true with
    | true => rfl
    | false =>
      have : i ∈ Region.ready md ops listed := mem_ready.2 ⟨h, o, ho, hall⟩
      rw [hr] at this; cases this
  intro fuel
  induction fuel with
  | zero =>
    intro listed a w hc hI
    have hr : Region.ready md ops listed = [] := by
      rw [List.eq_nil_iff_forall_not_mem]
      intro j hj
      have h1 := listed_false (mem_ready.1 hj).1
      have := count_set _ _ h1
      omega
    exact ⟨hr, hd _ _ _ hI hr⟩
  | succ fuel ih =>
    intro listed a w hc hI
    refine ⟨fun h => hd _ _ _ hI h, fun i hi => ?_⟩
    obtain ⟨h1, o, ho, hall⟩ := mem_ready.1 hi
    refine wpOpIn_mono (fun a' w' h => ih _ a' w' ?_ h) (hstep listed a w i hI h1 (fun o' ho' => by rw [ho] at ho'; cases ho'; exact hall) (Array.getElem?_eq_some_iff.1 ho).1)
    have := count_set _ _ (listed_false h1)
    rw [Array.toList_setIfInBounds]
    omega

end Go.Proofs.Ytfhlceggihodeaa

/- The contract of the program's 'WordPut'. -/

namespace Go.Proofs.Ytfhlceggihodeaa
open Go.RowKit Go.Shelf

attribute [local go_sem] Oper.semAt_some

abbrev FV : Nat := 34

/-- What a round keeps, where the iterator is that of a word. -/
def KeepP (n₀ N : Nat) (W W' : World) : Prop := Below n₀ W W' ∧ KeepsFrom N W W'

/-- The loop's law at the letters of a word, for bodies that write where they will behind what was there. -/
theorem range_values {n : Nat} {g : Operand} {p : Tmp} {assign body : Code} {Q : Exit → Act → World → Prop} {a : Act} {w : World} {Bs : Nat} (hn : 14 ≤ n)
    (hg : a.eval g = .func (.func FV) #[] #[.pointer (some ⟨Bs, 0, none⟩)])
    {n₀ : Nat} {L : List UInt8} {sv : Value} (hBs : Bs < w.heap.size) (hc : w.cell? ⟨Bs, 0, none⟩ = some sv) (hw : IsWord n₀ w sv L) (hn₀ : n₀ ≤ w.heap.size)
    (I : List UInt8 → World → Prop) (hI : OwnFrom w.heap.size I) (h0 : I [] w) (a₁ : UInt8 → Act)
    (hassign : ∀ (l : Nat) (x : UInt8) (W : World) (K : Act → World → Prop), K (a₁ x) W →
      assign.wpIn (Fence.wide.inRound l) (n - 1 - 1) Try.prog (Exit.then K (fun _ _ _ => False)) { tmps := (#[p].zip (encB x)).foldl (fun t (q, v) => t.setIfInBounds q v) a.tmps, defers := [] } W)
    (hbody : ∀ (l : Nat) (pre : List UInt8) (x : UInt8) (W : World), I pre W → pre ++ [x] <+: L →
      body.wpIn (Fence.wide.inRound l) (n - 1 - 1) Try.prog (goesOn w.heap.size (KeepP n₀) I (pre ++ [x]) W) (a₁ x) W)
    (hdone : ∀ (D : Nat) (W : World), w.heap.size ≤ D → I L W → W.heap[D]? = some (.deferred (some [])) → Q .normal { a with defers := { target := .collected D, args := #[] } :: a.defers } W) :
    (Code.rangeFunc g #[p] assign body).wpIn Fence.wide n Try.prog Q a w :=
  range_law (by omega) hg (enters_of Try.func34 (by kernel_rfl) rfl) (fun _ => rfl) (KeepP n₀) (fun h k => ⟨h.1.trans k.1, h.2.trans k.2⟩)
    (fun N W l o o' hl hwl hW ho hwk => ⟨belowK_b hn₀ W l o o' hwl hW ho hwk, KeepsFrom.of_grownBy (grownBy_putObj' W l o') (fun j e => by cases e; exact hl)⟩)
    (fun h => ⟨h.1, keepsFrom_mono h.2 (by omega)⟩)
    (fun l J V hV hlt hJ hY h0 => (values1_in (n - 1) (by omega) l Bs n₀ L sv J (fun _ _ => False) (fun pre x W1 hj hl => (hY pre x W1 hj hl).mono (fun _ _ ⟨a, b, c⟩ => .inl ⟨a, b, c.1⟩)) V
      ((hV.cell (p := ⟨Bs, 0, none⟩) hBs).trans hc) (hw.below (hV.mono hn₀)) h0).mono (by
        rintro e W' ⟨hv, ⟨ys, rfl, hJ'⟩ | ⟨_, _, hf⟩⟩
        · exact ⟨hv, hJ'⟩
        · exact hf.elim)) I hI h0 a₁ hassign hbody hdone

/-- A part's box, and what it gives. -/
def PartAt (N : Nat) (w W : World) (p : Part) : Prop :=
  ∃ B sv L, p.lb = #[.pointer (some ⟨B, 0, none⟩)] ∧ N ≤ B ∧ Boxed W B WT sv ∧ Gives ⟨p.gf, sv, L, p.xs⟩ ∧ IsWord N w sv L
theorem PartAt.own (N : Nat) (w : World) (p : Part) : Own (fun (_ : Unit) W => PartAt N w W p) := by
  rintro s X Y row ⟨B, sv, L, h1, h2, h3, h4⟩ hg hrow
  exact ⟨B, sv, L, h1, h2, boxed_own B WT (fun _ : Unit => sv) () X Y row h3 hg hrow, h4⟩

def funcV (p : Part) : Value := .func (.func p.gf) #[] p.lb
/-- The parts that the loop has gathered. -/
def Gathered (N BP : Nat) (w : World) (img : UInt8 → List UInt8) (pre : List UInt8) (W : World) : Prop :=
  ∃ ps : List Part, ps.length = pre.length ∧ cat ps = (pre.map img).flatten ∧ (∃ v, Boxed W BP 55 v ∧ W.ownsRow N IT 1 v ps.length (ps.map funcV) ∧ True) ∧ ∀ p ∈ ps, PartAt N w W p
theorem Gathered.own (N BP : Nat) (w : World) (img : UInt8 → List UInt8) : Own (Gathered N BP w img) := by
  rintro s X Y row ⟨ps, h1, h2, h3, h4⟩ hg hrow
  exact ⟨ps, h1, h2, holdsRow_own N BP _ IT 1 (fun _ : Unit => ps.length) (fun _ => ps.map funcV) (fun _ _ => True) () X Y row h3 hg hrow, fun p hp => PartAt.own N w p () X Y row (h4 p hp) hg hrow⟩

/-- The letters of a letter's image, as its iterator gives them. -/
def imgX (zs : List ByteArray) (x : UInt8) : List UInt8 := if 97 ≤ x.toNat then (zs.getD (idxB x) ByteArray.empty).data.toList else (zs.getD (idxB x) ByteArray.empty).data.toList.reverse.map invB
/-- All images, one behind the other. -/
def putX (zs : List ByteArray) (L : List UInt8) : List UInt8 := (L.map (imgX zs)).flatten
theorem imgX_len (zs : List ByteArray) (hz : ∀ z ∈ zs, wordB z.data.toList = true) (x : UInt8) : (imgX zs x).length ≤ 60 := by
  have hz' : (zs.getD (idxB x) ByteArray.empty).data.toList.length ≤ 60 := by
    rw [List.getD_eq_getElem?_getD]
    cases h : zs[idxB x]? with
    | none => simp
    | some z => exact ((wordB_iff _).1 (hz z (List.mem_of_getElem? h))).1
  unfold imgX
  split
  · exact hz'
  · rw [List.length_map, List.length_reverse]; exact hz'
theorem putX_len (zs : List ByteArray) (L : List UInt8) (hz : ∀ z ∈ zs, wordB z.data.toList = true) : (putX zs L).length ≤ L.length * 60 := by
  unfold putX
  induction L with
  | nil => simp
  | cons x r ih =>
    rw [List.map_cons, List.flatten_cons, List.length_append, List.length_cons]
    have := imgX_len zs hz x
    omega
theorem imgX_eq (zs : List ByteArray) (hz : ∀ z ∈ zs, wordB z.data.toList = true) (x : UInt8) : imgX zs x = imgL zs x ∧ letL (imgL zs x) = true := by
  have hl : letL (zs.getD (idxB x) ByteArray.empty).data.toList = true := by
    rw [List.getD_eq_getElem?_getD]
    cases h : zs[idxB x]? with
    | none => rfl
    | some z => exact ((wordB_iff _).1 (hz z (List.mem_of_getElem? h))).2.1
  unfold imgX imgL
  by_cases h : 97 ≤ x.toNat
  · rw [if_pos h, if_neg (by omega)]; exact ⟨rfl, hl⟩
  · rw [if_neg h, if_pos (by omega)]; exact ⟨inv_back _ hl, letL_back _ hl⟩
theorem putX_eq (zs : List ByteArray) (L : List UInt8) (hz : ∀ z ∈ zs, wordB z.data.toList = true) : putX zs L = putL zs L ∧ letL (putL zs L) = true := by
  unfold putX putL
  induction L with
  | nil => exact ⟨rfl, rfl⟩
  | cons x r ih =>
    obtain ⟨h1, h2⟩ := imgX_eq zs hz x
    rw [List.map_cons, List.map_cons, List.flatten_cons, List.flatten_cons, h1, ih.1, letL_append, h2, ih.2]
    exact ⟨rfl, rfl⟩
theorem letL_putX (zs : List ByteArray) (L : List UInt8) (hz : ∀ z ∈ zs, wordB z.data.toList = true) : letL (putX zs L) = true := by
  rw [(putX_eq zs L hz).1]; exact (putX_eq zs L hz).2
abbrev LT : TypeId := 55

theorem infoSeq : (Try.prog.info? IT).map (fun i => (i.zero, i.size, i.bytes)) = some (some .nilFunc, 1, 8) := by kernel_rfl

/-- An append in whatever place of a region. -/
theorem wpIn_append_op {F : Fence} {n : Nat} {P : Program} (w : World) {o : Oper} {a : Act} {K : Act → World → Prop} {Q : Exit → Act → World → Prop}
    (s x : Operand) (t : TypeId) (hop : o.op = Op.call { callee := Callee.builtin Builtin.append, args := #[s, x], argTypes := #[t, t] })
    (base : Nat) (e : TypeId) (i : TypeInfo) (z : Value) (size bytes : Nat) (h1 : P.underlying t = some (.slice e)) (h2 : P.info? e = some i) (h3 : i.zero = some z) (h4 : i.size = size) (h5 : i.bytes = bytes) (h6 : z.cells.size = size) (h7 : 0 < size)
    (v : Value) (k : Nat) (xs : List Value) (hs : a.eval s = v) (hown : w.ownsRow base e size v k xs) (ad : Addr) (m c : Nat) (news : List Value) (hx : a.eval x = .slice (some ad) m c) (hn : news.length = m * size)
    (hc : ∀ j u, news[j]? = some u → w.cell? (ad.add j) = some u) (h1c : ∀ u ∈ news, u.oneCell' = true) (b1 : k + m ≤ maxLen) (b2 : (k + m) * bytes ≤ 140737488355328) (b3 : base ≤ w.heap.size)
    (hK : ∀ v' w', w'.ownsRow base e size v' (k + m) (xs ++ news) → w.grownBy w' v.ownBlock → True → K (a.put o.dst v') w') : o.wpIn F n P a w K Q := by
  obtain ⟨v', w', hrun, r1, r2, _⟩ := run_append_own (P := P) w base t o.type e i z size bytes h1 h2 h3 h4 h5 h6 h7 v k xs hown ad m c news hn hc h1c b1 b2 b3
  unfold Oper.wpIn
  refine ⟨by simp [Oper.about, hop, resolve, Target.leads, Sem.run_pure], ?_⟩
  rw [Oper.semAt_plain F _ _ (by rw [hop]; intro c hc'; cases hc')]
  simp [execOp, hop, resolve, invoke, builtin, hs, hx, hrun, Result.andThen]
  exact hK v' w' r1 r2 trivial

theorem wordsOf_four (g : Nat) (zs : List ByteArray) (w : World) (hl : zs.length = 4) (hg : g < w.heap.size) (hc : ∀ i (h : i < zs.length), w.cell? ⟨g, i, none⟩ = some (.string zs[i])) (hf : ∀ z ∈ zs, wordB z.data.toList = true) (cap : Nat) :
    Calls Try.prog 9 #[.slice (some ⟨g, 0, none⟩) 4 cap] w fun e w' =>
      ∃ (gi : Nat) (vals : List Value), e = .returned (.tuple #[.slice (some ⟨gi, 0, none⟩) 4 4, .bool true]) ∧ gi < w'.heap.size ∧ (∀ j (h : j < zs.length), ∃ v, w'.cell? ⟨gi, j, none⟩ = some v ∧ vals[j]? = some v ∧ WordAt w.heap.size w' v zs[j].data.toList) ∧ Below w.heap.size w w' := by
  refine (wordsOf_any (some ⟨g, 0, none⟩) g 0 cap 4 zs w hl (by decide) (fun _ => rfl) hg (fun i h => by rw [Nat.zero_add]; exact hc i h) (fun s hs => by have := ((wordB_iff _).1 (hf s hs)).1; simp at this; unfold maxLen; omega)).mono ?_
  rintro e w' ⟨⟨_, s, hs, hb⟩ | ⟨gi, vals, rfl, _, hown, hv⟩, hB⟩
  · rw [hf s hs] at hb; cases hb
  · have hlen := hown.1
    refine ⟨gi, vals, rfl, (ownsRow_cap hown).2.2.2, fun j h => ?_, hB⟩
    have hj : j < vals.length := by omega
    exact ⟨vals[j], by rw [hown.cellAt j (by omega)]; exact List.getElem?_eq_getElem hj, List.getElem?_eq_getElem hj, hv j h _ (List.getElem?_eq_getElem hj)⟩

theorem owns_slice {W : World} {base : Nat} {e : TypeId} {v : Value} {n : Nat} {xs : List Value} (h : W.ownsRow base e 1 v n xs) (h0 : 0 < W.heap.size) :
    ∃ a cap b, v = .slice a n cap ∧ (0 < n → a = some ⟨b, 0, none⟩) ∧ b < W.heap.size ∧ ∀ i (h : i < xs.length), W.cell? ⟨b, i, none⟩ = some xs[i] := by
  have hl := h.1
  rw [Nat.mul_one] at hl
  have hc := fun g cap (e : v = .slice (some ⟨g, 0, none⟩) n cap) => e
  rcases h.2 with ⟨rfl, e⟩ | ⟨g, cap, cur, rfl, e2⟩
  · have e0 : n = 0 := e
    subst e0
    exact ⟨none, 0, 0, rfl, fun h => absurd h (Nat.lt_irrefl _), h0, fun i hi => absurd hi (by omega)⟩
  · refine ⟨_, cap, g, rfl, fun _ => rfl, (ownsRow_cap h).2.2.2, fun i hi => ?_⟩
    rw [h.cellAt i (by omega)]
    exact List.getElem?_eq_getElem hi

/-- Four words in memory. -/
def FourAt (gi : Nat) (lo : Nat) (w : World) (zs : List ByteArray) : Prop :=
  gi < w.heap.size ∧ ∀ j (h : j < zs.length), ∃ v, w.cell? ⟨gi, j, none⟩ = some v ∧ WordAt lo w v zs[j].data.toList
theorem FourAt.below {gi lo : Nat} {w w' : World} {zs : List ByteArray} (h : FourAt gi lo w zs) (hb : Below w.heap.size w w') : FourAt gi lo w' zs :=
  ⟨Nat.lt_of_lt_of_le h.1 hb.size, fun j hj => by
    obtain ⟨v, h1, h2⟩ := h.2 j hj
    exact ⟨v, (hb.cell (p := ⟨gi, j, none⟩) h.1).trans h1, h2.below hb⟩⟩

end Go.Proofs.Ytfhlceggihodeaa

/- The law of a loop over an iterator whose variable is boxed in each round. -/

namespace Go.Proofs.Ytfhlceggihodeaa
open Go.RowKit Go.Shelf

/-- **The loop's law**, where each round's variable is boxed. -/
theorem range_law2 {α : Type} {n : Nat} {g : Operand} {ps : Array Tmp} {assign body : Code} {Q : Exit → Act → World → Prop} {a : Act} {w : World} {gf : Nat} {lb : Array Value} (hn : 10 ≤ n)
    (hg : a.eval g = .func (.func gf) #[] lb) (eg : ∀ args w, (callFunc gf args).run Try.prog w = .ok (.enter gf args) w)
    {encs : α → Array Value} (hps : ∀ x, (encs x).size = ps.size) (Kp : Nat → World → World → Prop) (hKt : ∀ {N X Y Z}, Kp N X Y → Kp N Y Z → Kp N X Z)
    (hKp : ∀ N W l o o', l < N → w.heap.size ≤ l → W.heap[l]? = some o → o.isCells = false → o.isWalk = false → Kp N W (W.putObj l o')) (hKm : ∀ {X Y}, Kp w.heap.size X Y → Kp (w.heap.size + 2) X Y)
    (ob : α → Obj) (hKa : ∀ N W o, w.heap.size ≤ W.heap.size → Kp N W (W.alloc o))
    {xs : List α}
    (hseq : ∀ (l : Nat) (J : List α → World → Prop) (V : World), Below w.heap.size w V → w.heap.size < V.heap.size → OwnFrom V.heap.size J →
      (∀ pre x W1, J pre W1 → pre ++ [x] <+: xs → YieldAt Fence.wide (n - 1 - 1) Try.prog l (encs x) W1 fun e W' => e = .returned (.bool true) ∧ J (pre ++ [x]) W' ∧ Kp V.heap.size W1 W') → J [] V →
      CallsIn Fence.wide (n - 1) Try.prog gf (#[.func (.yield l) #[] #[]] ++ lb) V fun e W' => (∃ v, e = .returned v) ∧ J xs W')
    (I : List α → World → Prop) (hI : OwnFrom w.heap.size I) (h0 : I [] w) (a₁ : α → Nat → Act)
    (hassign : ∀ (l : Nat) (x : α) (W : World) (K : Act → World → Prop), K (a₁ x W.heap.size) (W.alloc (ob x)) →
      assign.wpIn (Fence.wide.inRound l) (n - 1 - 1) Try.prog (Exit.then K (fun _ _ _ => False)) { tmps := (ps.zip (encs x)).foldl (fun t (q, v) => t.setIfInBounds q v) a.tmps, defers := [] } W)
    (hbody : ∀ (l : Nat) (pre : List α) (x : α) (b : Nat) (W : World), I pre W → pre ++ [x] <+: xs → W.heap.size = b + 1 → W.heap[b]? = some (ob x) → w.heap.size + 2 ≤ b →
      body.wpIn (Fence.wide.inRound l) (n - 1 - 1) Try.prog (goesOn w.heap.size Kp I (pre ++ [x]) W) (a₁ x b) W)
    (hdone : ∀ (D : Nat) (W : World), w.heap.size ≤ D → I xs W → W.heap[D]? = some (.deferred (some [])) → Q .normal { a with defers := { target := .collected D, args := #[] } :: a.defers } W) :
    (Code.rangeFunc g ps assign body).wpIn Fence.wide n Try.prog Q a w := by
  refine wpIn_rangeFunc fun fn hfn => ?_
  have lp : ∃ lp : LoopState → Loop, lp = fun st => { state := st, pending := none, fn, tmps := a.tmps, params := ps, assign, body, defers := w.heap.size } := ⟨_, rfl⟩
  obtain ⟨lp, hlp⟩ := lp
  have e1 := run_enterLoop_outer (P := Try.prog) (w := w) fn a.tmps ps assign body
  rw [show ({ state := .ready, pending := none, fn, tmps := a.tmps, params := ps, assign, body, defers := w.heap.size } : Loop) = lp .ready by rw [hlp]] at e1
  have kD : ((w.alloc (.deferred (some []))).alloc (.loop (lp .ready))).heap[w.heap.size]? = some (.deferred (some [])) := (Below.heap_alloc _ _ _ (by simp)).trans (World.alloc_heap_new w _)
  have kL : ((w.alloc (.deferred (some []))).alloc (.loop (lp .ready))).heap[w.heap.size + 1]? = some (.loop (lp .ready)) := by
    have := World.alloc_heap_new (w.alloc (.deferred (some []))) (.loop (lp .ready)); rwa [World.size_alloc] at this
  have i0 := hI.alloc (Obj.loop (lp .ready)) (hI.alloc (Obj.deferred (some [])) h0)
  have hs : ((w.alloc (.deferred (some []))).alloc (.loop (lp .ready))).heap.size = w.heap.size + 2 := by simp
  have hb : Below w.heap.size w ((w.alloc (.deferred (some []))).alloc (.loop (lp .ready))) := ((Below.refl _ w).alloc (Nat.le_refl _) _).alloc (by simp) _
  generalize ((w.alloc (.deferred (some []))).alloc (.loop (lp .ready))) = V at e1 kD kL i0 hs hb
  refine ⟨w.heap.size + 1, _, V, { target := .fn (.func gf) lb, args := #[.func (.yield (w.heap.size + 1)) #[] #[]] }, V, gf, #[.func (.yield (w.heap.size + 1)) #[] #[]] ++ lb, V, e1, ?_, fun f' hf' => ?_, ?_, fun _ => by omega, ?_⟩
  · simp only [resolve, hg]
    simp [go_sem]
  · trivial
  · simp [invoke, go_sem, eg]
  · refine (hseq (w.heap.size + 1) (fun pre W => I pre W ∧ W.heap[w.heap.size]? = some (.deferred (some [])) ∧ W.heap[w.heap.size + 1]? = some (.loop (lp .ready))) V hb (by omega) ?_ ?_ ⟨i0, kD, kL⟩).mono ?_
    · rintro s X Y row ⟨h1, h2, h3⟩ hgr hr
      have far : ∀ k, k < V.heap.size → k < X.heap.size → Y.heap[k]? = X.heap[k]? := fun k hk hX => hgr.block k hX (fun e => by have := (hr k e.symm).1; omega)
      exact ⟨hI s X Y row h1 hgr (fun r e => by obtain ⟨q1, q2⟩ := hr r e; exact ⟨by omega, q2⟩), (far _ (by omega) (Array.getElem?_eq_some_iff.1 h2).1).trans h2, (far _ (by omega) (Array.getElem?_eq_some_iff.1 h3).1).trans h3⟩
    · rintro pre x W ⟨h1, h2, h3⟩ hpre
      have hlt : w.heap.size + 1 < W.heap.size := (Array.getElem?_eq_some_iff.1 h3).1
      have hy := run_yield (P := Try.prog) (args := encs x) h3 (by rw [hlp]; exact hps x)
      rw [hlp] at hy
      obtain ⟨U, hU⟩ : ∃ U, W.alloc (ob x) = U := ⟨_, rfl⟩
      have u3 : U.heap[w.heap.size + 1]? = some (.loop (lp .ready)) := by rw [← hU]; exact (Below.heap_alloc _ _ _ hlt).trans h3
      have u2 : U.heap[w.heap.size]? = some (.deferred (some [])) := by rw [← hU]; exact (Below.heap_alloc _ _ _ (by omega)).trans h2
      have u1 : I pre U := by rw [← hU]; exact hI.alloc (ob x) h1
      have uk : Kp (w.heap.size + 2) W U := by rw [← hU]; exact hKa _ _ _ (by omega)
      have un : U.heap[W.heap.size]? = some (ob x) := by rw [← hU]; exact World.alloc_heap_new W _
      have us : U.heap.size = W.heap.size + 1 := by rw [← hU]; simp
      refine ⟨fn, _, assign, body, hy, roundIn_of_wpIn hfn (hassign _ x W _ ?_)⟩
      rw [hU]
      refine ⟨_, run_beginRound u3 (by rw [hlp]), ?_⟩
      have hltU : w.heap.size + 1 < U.heap.size := by omega
      have b3 : (U.putObj (w.heap.size + 1) (.loop { lp .ready with state := .busy })).heap[w.heap.size + 1]? = some (.loop { lp .ready with state := .busy }) := World.putObj_heap_same hltU
      have b2 : (U.putObj (w.heap.size + 1) (.loop { lp .ready with state := .busy })).heap[w.heap.size]? = some (.deferred (some [])) := (World.putObj_heap_other (by omega)).trans u2
      have b1 := hI.putObj (.loop { lp .ready with state := .busy }) u1 (by omega) u3 rfl
      have bn : (U.putObj (w.heap.size + 1) (.loop { lp .ready with state := .busy })).heap[W.heap.size]? = some (ob x) := (World.putObj_heap_other (by omega)).trans un
      have bs : (U.putObj (w.heap.size + 1) (.loop { lp .ready with state := .busy })).heap.size = W.heap.size + 1 := by rw [World.putObj_size]; exact us
      have bk : Kp (w.heap.size + 2) W (U.putObj (w.heap.size + 1) (.loop { lp .ready with state := .busy })) := hKt uk (hKp _ U _ _ _ (by omega) (by omega) u3 rfl rfl)
      have hWs : w.heap.size + 2 ≤ W.heap.size := by omega
      generalize (U.putObj (w.heap.size + 1) (.loop { lp .ready with state := .busy })) = X at b1 b2 b3 bk bn bs
      refine wpIn_mono (hbody _ pre x W.heap.size X b1 hpre bs bn hWs) ?_
      intro e a3 Y hgo
      cases e with
      | normal => ?_
      | _ => exact hgo.elim
      obtain ⟨k3, kp, hi⟩ := hgo
      have c3 := k3.same _ _ (by omega) b3 rfl
      have c2 := k3.same _ _ (Nat.le_refl _) b2 rfl
      have he := run_endRound (P := Try.prog) none c3
      refine ⟨_, _, he, rfl, ⟨hI.putObj _ hi (by omega) c3 rfl, (World.putObj_heap_other (by omega)).trans c2, ?_⟩, ?_⟩
      · rw [hlp]
        rw [hlp] at c3
        exact World.putObj_heap_same (Array.getElem?_eq_some_iff.1 c3).1
      · rw [hs]
        exact hKt (hKt bk (hKm kp)) (hKp _ Y _ _ _ (by omega) (by omega) c3 rfl rfl)
    · rintro e W ⟨⟨v, rfl⟩, h1, h2, h3⟩
      have he := run_endLoop (P := Try.prog) h3 (by rw [hlp]; simp)
      rw [show (lp .ready).pending = none by rw [hlp]] at he
      exact ⟨none, _, he, hdone _ _ (Nat.le_refl _) (hI.putObj _ h1 (by omega) h3 rfl) ((World.putObj_heap_other (by omega)).trans h2)⟩

end Go.Proofs.Ytfhlceggihodeaa

/- The contracts of slices.Values, slices.AppendSeq and slices.Collect at terms. -/

namespace Go.Proofs.Ytfhlceggihodeaa
open Go.RowKit Go.Shelf

attribute [local go_sem] Oper.semAt_some

abbrev encM (x : Tm) : Array Value := #[.agg #[.int .i64 x.c, .string x.s]]
abbrev ST : TypeId := 44

/-- The box B holds a slice that owns the terms. -/
def HoldT (base B : Nat) (pre : List Tm) (W : World) : Prop :=
  ∃ v, Boxed W B ST v ∧ W.ownsRow base TI 2 v pre.length (termsV pre) ∧ True
theorem HoldT.own (base B : Nat) : Own (HoldT base B) := holdsRow_own base B ST TI 2 (fun pre : List Tm => pre.length) (fun pre => termsV pre) (fun _ _ => True)

end Go.Proofs.Ytfhlceggihodeaa

/- The library's sort, at terms and 'compareTerms'. -/

namespace Go.Proofs.Ytfhlceggihodeaa
open Go.Shelf Go.RowKit Go.Lib Go.Sort

def sortT_ren : Go.Shelf.Ren := ⟨fun | 6 => 40 | 15 => 48 | 14 => 47 | 28 => 64 | 29 => 65 | 20 => 56 | 21 => 57 | 22 => 58 | 23 => 59 | 24 => 60 | 25 => 61 | 26 => 62 | 27 => 63 | 46 => 71 | 47 => 72 | 48 => 73 | 49 => 74 | 50 => 75 | 57 => 77 | n => n, fun | 22 => 44 | 24 => 48 | 25 => 78 | 3 => 3 | 39 => 86 | 0 => 0 | 53 => 101 | 55 => 103 | 4 => 4 | 46 => 95 | 45 => 94 | 50 => 27 | 5 => 5 | 9 => 9 | 66 => 107 | 70 => 111 | 76 => 113 | 77 => 114 | n => n, fun n => n⟩
theorem sortT : SlLaysF0.n6 Try.prog sortT_ren := {
  mixed := by kernel_rfl
  f6 := Exists.intro "slices.SortFunc[[]loop.example/foxcalculus/impl.Term,loop.example/foxcalculus/impl.Term]" ⟨of_decide_eq_true (by kernel_rfl), Try.func40.trans (congrArg some (by kernel_rfl))⟩
  f14 := Exists.intro "slices.pdqsortCmpFunc[loop.example/foxcalculus/impl.Term]" ⟨of_decide_eq_true (by kernel_rfl), Try.func47.trans (congrArg some (by kernel_rfl))⟩
  f15 := Try.func48.trans (congrArg some (by kernel_rfl))
  f20 := Exists.intro "slices.insertionSortCmpFunc[loop.example/foxcalculus/impl.Term]" ⟨of_decide_eq_true (by kernel_rfl), Try.func56.trans (congrArg some (by kernel_rfl))⟩
  f21 := Exists.intro "slices.heapSortCmpFunc[loop.example/foxcalculus/impl.Term]" ⟨of_decide_eq_true (by kernel_rfl), Try.func57.trans (congrArg some (by kernel_rfl))⟩
  f22 := Exists.intro "slices.breakPatternsCmpFunc[loop.example/foxcalculus/impl.Term]" ⟨of_decide_eq_true (by kernel_rfl), Try.func58.trans (congrArg some (by kernel_rfl))⟩
  f23 := Exists.intro "slices.choosePivotCmpFunc[loop.example/foxcalculus/impl.Term]" ⟨of_decide_eq_true (by kernel_rfl), Try.func59.trans (congrArg some (by kernel_rfl))⟩
  f24 := Exists.intro "slices.reverseRangeCmpFunc[loop.example/foxcalculus/impl.Term]" ⟨of_decide_eq_true (by kernel_rfl), Try.func60.trans (congrArg some (by kernel_rfl))⟩
  f25 := Exists.intro "slices.partialInsertionSortCmpFunc[loop.example/foxcalculus/impl.Term]" ⟨of_decide_eq_true (by kernel_rfl), Try.func61.trans (congrArg some (by kernel_rfl))⟩
  f26 := Exists.intro "slices.partitionEqualCmpFunc[loop.example/foxcalculus/impl.Term]" ⟨of_decide_eq_true (by kernel_rfl), Try.func62.trans (congrArg some (by kernel_rfl))⟩
  f27 := Exists.intro "slices.partitionCmpFunc[loop.example/foxcalculus/impl.Term]" ⟨of_decide_eq_true (by kernel_rfl), Try.func63.trans (congrArg some (by kernel_rfl))⟩
  f28 := Try.func64.trans (congrArg some (by kernel_rfl))
  f29 := Try.func65.trans (congrArg some (by kernel_rfl))
  f46 := Exists.intro "slices.siftDownCmpFunc[loop.example/foxcalculus/impl.Term]" ⟨of_decide_eq_true (by kernel_rfl), Try.func71.trans (congrArg some (by kernel_rfl))⟩
  f47 := Try.func72.trans (congrArg some (by kernel_rfl))
  f48 := Try.func73.trans (congrArg some (by kernel_rfl))
  f49 := Exists.intro "slices.medianAdjacentCmpFunc[loop.example/foxcalculus/impl.Term]" ⟨of_decide_eq_true (by kernel_rfl), Try.func74.trans (congrArg some (by kernel_rfl))⟩
  f50 := Exists.intro "slices.medianCmpFunc[loop.example/foxcalculus/impl.Term]" ⟨of_decide_eq_true (by kernel_rfl), Try.func75.trans (congrArg some (by kernel_rfl))⟩
  f57 := Exists.intro "slices.order2CmpFunc[loop.example/foxcalculus/impl.Term]" ⟨of_decide_eq_true (by kernel_rfl), Try.func77.trans (congrArg some (by kernel_rfl))⟩
  t0 := Try.underlying0
  a0 := Try.isAgg0
  z0 := Try.sizeOf0
  v0 := Try.zeroValue0
  t3 := Try.underlying3
  a3 := Try.isAgg3
  z3 := Try.sizeOf3
  v3 := Try.zeroValue3
  t4 := Try.underlying4
  a4 := Try.isAgg4
  z4 := Try.sizeOf4
  v4 := Try.zeroValue4
  t5 := Try.underlying5
  a5 := Try.isAgg5
  z5 := Try.sizeOf5
  v5 := Try.zeroValue5
  t9 := Try.underlying9
  a9 := Try.isAgg9
  z9 := Try.sizeOf9
  v9 := Try.zeroValue9
  t22 := Try.underlying44
  a22 := Try.isAgg44
  z22 := Try.sizeOf44
  v22 := Try.zeroValue44
  t25 := Try.underlying78
  a25 := Try.isAgg78
  z25 := Try.sizeOf78
  v25 := Try.zeroValue78
  t39 := Try.underlying86
  a39 := Try.isAgg86
  z39 := Try.sizeOf86
  v39 := Try.zeroValue86
  t45 := Try.underlying94
  a45 := Try.isAgg94
  z45 := Try.sizeOf94
  v45 := Try.zeroValue94
  t46 := Try.underlying95
  a46 := Try.isAgg95
  z46 := Try.sizeOf95
  v46 := Try.zeroValue95
  t50 := Try.underlying27
  a50 := Try.isAgg27
  z50 := Try.sizeOf27
  v50 := Try.zeroValue27
  t53 := Try.underlying101
  a53 := Try.isAgg101
  z53 := Try.sizeOf101
  v53 := Try.zeroValue101
  t55 := Try.underlying103
  a55 := Try.isAgg103
  z55 := Try.sizeOf103
  v55 := Try.zeroValue103
  t66 := Try.underlying107
  a66 := Try.isAgg107
  z66 := Try.sizeOf107
  v66 := Try.zeroValue107
  t70 := Try.underlying111
  a70 := Try.isAgg111
  z70 := Try.sizeOf111
  v70 := Try.zeroValue111
  t76 := Try.underlying113
  a76 := Try.isAgg113
  z76 := Try.sizeOf113
  v76 := Try.zeroValue113
  t77 := Try.underlying114
  a77 := Try.isAgg114
  z77 := Try.sizeOf114
  v77 := Try.zeroValue114 }

def encT (t : Tm) : List Value := [.int .i64 t.c, .string t.s]
def cmpT (a b : Tm) : Int := cmpW a.s b.s
theorem ltOf_cmpT (a b : Tm) : ltOf cmpT a b = lessW a.s b.s := by rw [lessW_cmp]; rfl
theorem swoT : SWO (ltOf cmpT) where
  irrefl x := by rw [ltOf_cmpT]; exact lessW_irrefl _
  trans x y z h1 h2 := by rw [ltOf_cmpT] at *; exact lessW_trans h1 h2
  ntrans x y z h1 h2 := by
    rw [ltOf_cmpT] at *
    cases h3 : lessW x.s z.s with
    | false => rfl
    | true =>
      cases h4 : lessW y.s x.s with
      | true => have := lessW_trans h4 h3; rw [h2] at this; cases this
      | false => have := lessW_tri h1 h4; rw [this, h2] at h3; cases h3

theorem cmpLaysT (blk off size : Nat) (w : World) : CmpLays Try.prog 41 #[] encT 2 cmpT blk off size w :=
  fun _ _ _ _ x y => compareTerms_any x y _

theorem sortTerms (blk off cap : Nat) (d : Array Tm) (w : World) (hH : HoldsK encT 2 w blk off d) (hblk : blk < w.heap.size) (hsz : d.size < 4611686018427387904) :
    Calls Try.prog 40 #[.slice (some ⟨blk, off, none⟩) d.size cap, .func (.func 41) #[] #[]] w fun e w' => e = .returned (.tuple #[]) ∧ ∃ d' n os, PermIn 0 d.size d d' ∧ SortedIn (ltOf cmpT) 0 d.size d' ∧ w' = sortWorldK encT 2 w blk off n d' os :=
  AnyQ.slices_SortFunc sortT 2 Try.isAgg48 Try.sizeOf48 encT (fun _ => rfl) (fun x v hv => by simp [encT] at hv; rcases hv with rfl | rfl <;> rfl) cmpT swoT 41 #[] blk off cap d w
    (enters_of Try.func41 (by kernel_rfl) rfl) (cmpLaysT blk off d.size w) hH hblk hsz

end Go.Proofs.Ytfhlceggihodeaa

/- The contract of slices.SortedFunc at terms. -/

namespace Go.Proofs.Ytfhlceggihodeaa
open Go.RowKit Go.Shelf Go.Sort

theorem flat_terms (d : Array Tm) : flatK encT 2 d = (termsV d.toList).toArray := by
  apply Array.toList_inj.1
  apply List.ext_getElem
  · simp [flatK, termsV_len]
  · intro j h1 h2
    have hj : j < d.size * 2 := by simpa [flatK] using h1
    have hq : j / 2 < d.toList.length := by simp; omega
    have hg := termsV_get d.toList (j / 2) hq
    have e1 : (flatK encT 2 d).toList[j] = (encT d[j / 2]!)[j % 2]! := by simp [flatK]
    have e0 : d[j / 2]! = d.toList[j / 2] := by rw [getElem!_pos d (j / 2) (by simpa using hq)]; simp
    rw [e1, e0]
    rcases Nat.mod_two_eq_zero_or_one j with h | h
    · rw [h]
      have e2 : j / 2 * 2 = j := by omega
      rw [e2] at hg
      exact ((List.getElem?_eq_some_iff.1 hg.1).2).symm
    · rw [h]
      have e2 : j / 2 * 2 + 1 = j := by omega
      rw [e2] at hg
      exact ((List.getElem?_eq_some_iff.1 hg.2).2).symm

theorem holdsK_of_owns {w : World} {base g cap n : Nat} {ts : List Tm} (hn : ts.length = n) (h : w.ownsRow base TI 2 (.slice (some ⟨g, 0, none⟩) n cap) n (termsV ts)) : HoldsK encT 2 w g 0 ts.toArray := by
  unfold HoldsK
  rw [flat_terms]
  intro j hj
  have hj2 : j < (termsV ts).length := by simpa using hj
  have hj3 : j < n * 2 := by rw [termsV_len] at hj2; omega
  refine ⟨?_, by rw [Nat.zero_add]; exact h.frozenAt j⟩
  rw [Nat.zero_add, h.cellAt j hj3, List.getElem?_eq_getElem hj2]
  simp only [id]
  rw [getElem!_pos _ j (by simpa using hj2)]
  simp

theorem owns_put {w : World} {base g cap n m : Nat} {os : Array Obj} {F : List Value} {xs : List Value} (hF : F.length = n * 2) (h : w.ownsRow base TI 2 (.slice (some ⟨g, 0, none⟩) n cap) n xs) :
    (grow (putRow id (Sort.ahead w m) g 0 F.toArray) os).ownsRow base TI 2 (.slice (some ⟨g, 0, none⟩) n cap) n F ∧ w.grownBy (grow (putRow id (Sort.ahead w m) g 0 F.toArray) os) (some g) := by
  rcases h.2 with ⟨h, _⟩ | ⟨g1, cap1, cur, h1, hb, hg, hn, hc, hs, ht⟩
  · cases h
  · cases h1
    have hlt : g < w.heap.size := (Array.getElem?_eq_some_iff.1 hg).1
    have hh : (grow (putRow id (Sort.ahead w m) g 0 F.toArray) os).heap[g]? = some (.cells (putCells id 0 F.toArray cur) TI (0, 0)) := by
      rw [heap_grow_old _ _ (by simpa using hlt)]
      simp [putRow, mapBlock, Sort.ahead, Array.getElem?_modify, hg, onCells]
    refine ⟨⟨hF, .inr ⟨g, cap, _, rfl, hb, hh, hn, hc, by simp [putCells, hs], ?_⟩⟩, ⟨rfl, rfl, rfl, by simp, fun k hk hne => ?_⟩⟩
    · have hle : F.length ≤ cur.size := by rw [hs, hF]; omega
      rw [← hF]
      apply List.ext_getElem?
      intro j
      by_cases hj : j < F.length
      · rw [List.getElem?_take_of_lt hj, Array.getElem?_toList]
        simp [putCells, hj, show j < cur.size by omega]
      · rw [List.getElem?_take_eq_none (by omega), List.getElem?_eq_none (by omega)]
    · rw [heap_grow_old _ _ (by simpa using hk)]
      have : g ≠ k := fun e => hne (by rw [e])
      simp [putRow, mapBlock, Sort.ahead, Array.getElem?_modify, this]

theorem perm_of {ts : List Tm} {d : Array Tm} (h : PermIn 0 ts.toArray.size ts.toArray d) : d.toList.Perm ts := by
  obtain ⟨h1, _, h3⟩ := h
  have e1 : d.extract 0 ts.toArray.size = d := by rw [← h1]; simp
  have e2 : ts.toArray.extract 0 ts.toArray.size = ts.toArray := by simp
  rw [e1, e2] at h3
  simpa using h3
theorem sorted_of {d : Array Tm} {n : Nat} (hn : d.size = n) (h : SortedIn (ltOf cmpT) 0 n d) : d.toList.Pairwise (fun a b => lessW b.s a.s = false) := by
  rw [List.pairwise_iff_getElem]
  intro i j hi hj hij
  have := h i j (Nat.zero_le _) hij (by rw [← hn]; simpa using hj)
  rw [ltOf_cmpT, getElem!_pos d j (by simpa using hj), getElem!_pos d i (by simpa using hi)] at this
  simpa using this

/-- The library's sort on a row of the call's own. -/
theorem sortOwn_any (base : Nat) (v : Value) (n : Nat) (ts : List Tm) (w : World) (hn : ts.length = n) (hm : n ≤ 1000000) (hbase : base ≤ w.heap.size) (h : w.ownsRow base TI 2 v n (termsV ts)) :
    Calls Try.prog 40 #[v, .func (.func 41) #[] #[]] w fun e w' =>
      e = .returned (.tuple #[]) ∧ (∃ ss : List Tm, ss.Perm ts ∧ ss.Pairwise (fun a b => lessW b.s a.s = false) ∧ w'.ownsRow base TI 2 v n (termsV ss)) ∧ Below base w w' := by
  by_cases h0 : n = 0
  · subst h0
    obtain rfl := List.length_eq_zero_iff.1 hn
    obtain ⟨p, cap, rfl⟩ : ∃ p cap, v = .slice p 0 cap := by
      rcases h.2 with ⟨rfl, _⟩ | ⟨g, cap, cur, rfl, _⟩
      · exact ⟨_, _, rfl⟩
      · exact ⟨_, _, rfl⟩
    refine (AnyF.slices_SortFunc_none (ρ := sortT_ren) { sortT with } p cap (.func (.func 41) #[] #[]) w).mono ?_
    rintro e w' ⟨rfl, rfl⟩
    exact ⟨rfl, ⟨[], List.Perm.refl _, List.Pairwise.nil, h⟩, Below.refl _ _⟩
  · rcases h.2 with ⟨rfl, h0'⟩ | ⟨g, cap, cur, rfl, hb, hg, hnc, hcm, _⟩
    · exact absurd h0' h0
    have hs := sortTerms g 0 cap ts.toArray w (holdsK_of_owns hn h) (Array.getElem?_eq_some_iff.1 hg).1 (by simp; omega)
    rw [show ts.toArray.size = n by simpa using hn] at hs
    refine hs.mono ?_
    rintro e w' ⟨rfl, d', m, os, hp, hso, rfl⟩
    have hsz : d'.size = n := by rw [hp.1]; simpa using hn
    have hp' : PermIn 0 ts.toArray.size ts.toArray d' := by rw [show ts.toArray.size = n by simpa using hn]; exact hp
    have ho := owns_put (m := m) (os := os) (F := termsV d'.toList) (by rw [termsV_len]; simp [hsz]) h
    have e1 : sortWorldK encT 2 w g 0 m d' os = grow (putRow id (Sort.ahead w m) g 0 (termsV d'.toList).toArray) os := by
      unfold sortWorldK putRowK; rw [flat_terms]
    rw [e1]
    exact ⟨rfl, ⟨d'.toList, perm_of hp', sorted_of hsz hso, ho.1⟩, (Below.refl _ _).grown ho.2 hbase (fun j ej => by cases ej; exact hb)⟩

end Go.Proofs.Ytfhlceggihodeaa

/- The contracts of the program's 'joinTerms' and 'push'. -/

namespace Go.Proofs.Ytfhlceggihodeaa
open Go.RowKit Go.Shelf

/-- All below B as it was, but for the block bs. -/
structure BelowBut (bs B : Nat) (w w' : World) : Prop where
  os : w'.os = w.os
  tape : w'.tape = w.tape
  output : w'.output = w.output
  size : w.heap.size ≤ w'.heap.size
  block : ∀ k, k < B → k ≠ bs → w'.heap[k]? = w.heap[k]?
theorem BelowBut.refl (bs B : Nat) (w : World) : BelowBut bs B w w := ⟨rfl, rfl, rfl, Nat.le_refl _, fun _ _ _ => rfl⟩
theorem BelowBut.trans {bs B : Nat} {a b c : World} (h : BelowBut bs B a b) (k : BelowBut bs B b c) : BelowBut bs B a c :=
  ⟨k.os.trans h.os, k.tape.trans h.tape, k.output.trans h.output, Nat.le_trans h.size k.size, fun i hi hb => (k.block i hi hb).trans (h.block i hi hb)⟩
theorem BelowBut.of {B : Nat} {w w' : World} (bs : Nat) (h : Below B w w') : BelowBut bs B w w' := ⟨h.os, h.tape, h.output, h.size, fun k hk _ => h.block k hk⟩

abbrev SrT : TypeId := 91
abbrev CF : Value := .func (.func 41) #[] #[]
/-- The struct at bs holds the terms. -/
def HoldS (base bs : Nat) (acc : List Tm) (W : World) : Prop :=
  ∃ v, W.heap[bs]? = some (.cells #[v, CF] SrT (0, 0)) ∧ W.ownsRow base TI 2 v acc.length (termsV acc)

/-- What the calls of push share. -/
theorem push_cells {base bs : Nat} {acc : List Tm} {w : World} (h : HoldS base bs acc w) (hbs : bs < base) (hbase : base ≤ w.heap.size) (x : Tm) :
    ∃ v, (w.alloc (.cells #[.int .i64 x.c, .string x.s] TI)).cell? ⟨bs, 0, none⟩ = some v ∧ (w.alloc (.cells #[.int .i64 x.c, .string x.s] TI)).cell? ⟨bs, 1, none⟩ = some CF ∧
      (w.alloc (.cells #[.int .i64 x.c, .string x.s] TI)).cell? ⟨w.heap.size, 0, none⟩ = some (.int .i64 x.c) ∧ (w.alloc (.cells #[.int .i64 x.c, .string x.s] TI)).cell? ⟨w.heap.size, 1, none⟩ = some (.string x.s) ∧
      (w.alloc (.cells #[.int .i64 x.c, .string x.s] TI)).ownsRow base TI 2 v acc.length (termsV acc) ∧ (w.alloc (.cells #[.int .i64 x.c, .string x.s] TI)).heap[bs]? = some (.cells #[v, CF] SrT (0, 0)) ∧ ∀ j, v.ownBlock = some j → base ≤ j ∧ j < w.heap.size := by
  obtain ⟨v, hbx, hrow⟩ := h
  have hbV : Below w.heap.size w (w.alloc (.cells #[.int .i64 x.c, .string x.s] TI)) := (Below.refl _ _).alloc (Nat.le_refl _) _
  have hbxV := (hbV.block bs (by omega)).trans hbx
  have hxV : (w.alloc (.cells #[.int .i64 x.c, .string x.s] TI)).heap[w.heap.size]? = some (.cells #[.int .i64 x.c, .string x.s] TI (0, 0)) := World.alloc_heap_new _ _
  exact ⟨v, by simp [World.cell?, hbxV], by simp [World.cell?, hbxV], (by unfold World.cell?; rw [hxV]; rfl), (by unfold World.cell?; rw [hxV]; rfl), hrow.alloc _, hbxV, fun j ej => by
    rcases hrow.2 with ⟨rfl, _⟩ | ⟨g1, cap1, cur1, rfl, hg1, hg2, _⟩
    · cases ej
    · simp [Value.ownBlock] at ej
      subst ej
      exact ⟨hg1, (Array.getElem?_eq_some_iff.1 hg2).1⟩⟩

theorem HoldS.set {bs : Nat} {w : World} {v : Value} (h : w.heap[bs]? = some (.cells #[v, CF] SrT (0, 0))) (u : Value) : (w.setCell ⟨bs, 0, none⟩ u).heap[bs]? = some (.cells #[u, CF] SrT (0, 0)) := by
  simp [World.setCell, Array.getElem?_modify, h]
theorem bs_frozen {bs : Nat} {w : World} {v : Value} (h : w.heap[bs]? = some (.cells #[v, CF] SrT (0, 0))) : w.frozen? ⟨bs, 0, none⟩ = false := by
  simp [World.frozen?, h]
theorem frozen_past {w : World} {a : Addr} (h : w.frozen? a = false) (hb : a.block < w.heap.size) (o : Obj) : (w.alloc o).frozen? a = false :=
  (World.frozen?_of_block (w := w) (Below.heap_alloc w o a.block hb)).trans h
theorem ownLow {W : World} {base : Nat} {e : TypeId} {size : Nat} {v : Value} {n : Nat} {xs : List Value} (h : W.ownsRow base e size v n xs) : ∀ j, v.ownBlock = some j → base ≤ j := by
  intro j ej
  rcases h.2 with ⟨rfl, _⟩ | ⟨g1, cap1, cur1, rfl, hg1, _⟩
  · cases ej
  · simp [Value.ownBlock] at ej
    subst ej
    exact hg1
/-- What an append stored into the struct leaves. -/
theorem push_done {base bs m : Nat} {W w1 : World} {v v' : Value} {o : Obj} {us : List Tm} {xs zs : List Value} {n : Nat} (hbx : W.heap[bs]? = some (.cells #[v, CF] SrT (0, 0))) (hbs : bs < base) (hbase : base ≤ W.heap.size)
    (hrow : W.ownsRow base TI 2 v n zs) (hown1 : w1.ownsRow base TI 2 v' m xs) (hm : m = us.length) (hx : xs = termsV us) (hgrow : (W.drew.alloc o).grownBy w1 v.ownBlock) :
    HoldS base bs us (w1.setCell ⟨bs, 0, none⟩ v') ∧ BelowBut bs base W (w1.setCell ⟨bs, 0, none⟩ v') := by
  have hl := ownLow hrow
  have hB : Below base W w1 := ((Below.refl base W).drew.alloc (by show base ≤ W.heap.size; exact hbase) _).grown hgrow (by simp; show base ≤ W.heap.size + 1; omega) hl
  have h1 : w1.heap[bs]? = some (.cells #[v, CF] SrT (0, 0)) := (hB.block bs hbs).trans hbx
  refine ⟨⟨v', HoldS.set h1 v', ?_⟩, (BelowBut.of bs hB).trans ⟨rfl, rfl, rfl, (KeepsWalks.setCell w1 _ _).size, fun k _ hk => Below.heap_setCell _ _ _ k hk⟩⟩
  rw [← hm, ← hx]
  exact ownsRow_setCell_below hown1 hbs _

theorem add_off (g n : Nat) : (⟨g, 0, none⟩ : Addr).add n = ⟨g, n, none⟩ := by
  unfold Addr.add
  by_cases h : n = 0
  · subst h; simp
  · simp [h]
theorem compareBytes_zero : ∀ a b : List UInt8, Lib.compareBytes a b = 0 → a = b
  | [], [], _ => rfl
  | [], _ :: _, h => by simp [Lib.compareBytes] at h
  | _ :: _, [], h => by simp [Lib.compareBytes] at h
  | a :: ar, b :: bs, h => by
    unfold Lib.compareBytes at h
    by_cases h1 : a < b
    · rw [if_pos h1] at h; cases h
    · by_cases h2 : b < a
      · rw [if_neg h1, if_pos h2] at h; cases h
      · rw [if_neg h1, if_neg h2] at h
        rw [compareBytes_zero ar bs h]
        have : a = b := by
          apply UInt8.toNat_inj.1
          rw [UInt8.lt_iff_toNat_lt] at h1 h2
          omega
        rw [this]
theorem cmpW_zero {a b : ByteArray} (h : cmpW a b = 0) : a = b := by
  unfold cmpW orInt at h
  split at h
  · exact ByteArray.ext (Array.ext' (compareBytes_zero _ _ h))
  · rename_i h0
    exact absurd h (by first | exact h0 | simpa using h0)
theorem compareBytes_self : ∀ a : List UInt8, Lib.compareBytes a a = 0
  | [] => rfl
  | a :: ar => by
    unfold Lib.compareBytes
    rw [if_neg (by rw [UInt8.lt_iff_toNat_lt]; omega), if_neg (by rw [UInt8.lt_iff_toNat_lt]; omega)]
    exact compareBytes_self ar
theorem cmpW_self (a : ByteArray) : cmpW a a = 0 := by
  unfold cmpW orInt Lib.compareInt
  simp [compareBytes_self]

end Go.Proofs.Ytfhlceggihodeaa

/- The contract of the program's 'push'. -/

namespace Go.Proofs.Ytfhlceggihodeaa
open Go.RowKit Go.Shelf

theorem set_last (pre : List Tm) (l : Tm) (c : Int) (k : Nat) (hk : pre.length = k) :
    ((termsV (pre ++ [l])).set (k * 2) (.int .i64 c)).set (k * 2 + 1) (.string l.s) = termsV (pre ++ [⟨c, l.s⟩]) := by
  have hl := termsV_len pre
  rw [hk] at hl
  rw [termsV_append, termsV_append, List.set_append_right _ _ (by omega), List.set_append_right _ _ (by omega), hl, Nat.sub_self, show k * 2 + 1 - k * 2 = 1 by omega]
  rfl
/-- What the join that is stored leaves. -/
theorem join_done {base bs g k cap : Nat} {w W w2 : World} {pre us : List Tm} {l : Tm} {c : Int} (HBB : BelowBut bs base w W) (hb2 : Below W.drew.heap.size W.drew w2)
    (hbx : W.heap[bs]? = some (.cells #[.slice (some ⟨g, 0, none⟩) (k + 1) cap, CF] SrT (0, 0))) (hrow : W.ownsRow base TI 2 (.slice (some ⟨g, 0, none⟩) (k + 1) cap) (k + 1) (termsV us))
    (hus : pre ++ [l] = us) (hk : pre.length = k) (hbs : bs < base) (hgb : base ≤ g) (hbase : base ≤ W.heap.size) :
    HoldS base bs (pre ++ [⟨c, l.s⟩]) ((w2.setCell ⟨g, k * 2, none⟩ (.int .i64 c)).setCell ⟨g, k * 2 + 1, none⟩ (.string l.s)) ∧
      BelowBut bs base w ((w2.setCell ⟨g, k * 2, none⟩ (.int .i64 c)).setCell ⟨g, k * 2 + 1, none⟩ (.string l.s)) := by
  subst hus
  have hB : Below W.heap.size W w2 := (Below.refl _ W).drew.trans hb2
  have hll : (pre ++ [l]).length = k + 1 := by rw [List.length_append, hk]; rfl
  have hr2 : w2.ownsRow base TI 2 (.slice (some ⟨g, 0, none⟩) (k + 1) cap) (k + 1) (termsV (pre ++ [l])) := by
    rw [← hll] at hrow ⊢
    exact OwnT.below hrow hB
  have hst := ((hr2.stored (k * 2) (.int .i64 c)).1.stored (k * 2 + 1) (.string l.s)).1
  rw [set_last pre l c k hk] at hst
  have hb3 : Below base W ((w2.setCell ⟨g, k * 2, none⟩ (.int .i64 c)).setCell ⟨g, k * 2 + 1, none⟩ (.string l.s)) :=
    ((hB.mono hbase).setCell (p := ⟨g, k * 2, none⟩) hgb _).setCell (p := ⟨g, k * 2 + 1, none⟩) hgb _
  have hl2 : (pre ++ [(⟨c, l.s⟩ : Tm)]).length = k + 1 := by rw [List.length_append, hk]; rfl
  exact ⟨⟨_, (hb3.block bs hbs).trans hbx, by rw [hl2]; exact hst⟩, HBB.trans (BelowBut.of bs hb3)⟩

end Go.Proofs.Ytfhlceggihodeaa

/- The contracts of the program's 'push' (all ways in one) and 'gathered'. -/

namespace Go.Proofs.Ytfhlceggihodeaa
open Go.RowKit Go.Shelf

theorem push_len (acc : List Tm) (t : Tm) : (pushT acc t).length ≤ acc.length + 1 := by
  rcases List.eq_nil_or_concat acc with rfl | ⟨b, l, rfl⟩
  · rw [push_nil]; simp
  · rw [List.concat_eq_append, push_last]; split <;> simp
theorem push_bnd {acc : List Tm} {t : Tm} {B C : Int} (h : ∀ u ∈ acc, -B ≤ u.c ∧ u.c ≤ B) (ht : -C ≤ t.c ∧ t.c ≤ C) (hB : 0 ≤ B) (hC : 0 ≤ C) : ∀ u ∈ pushT acc t, -(B + C) ≤ u.c ∧ u.c ≤ B + C := by
  intro u hu
  rcases List.eq_nil_or_concat acc with rfl | ⟨b, l, rfl⟩
  · rw [push_nil] at hu; rw [List.mem_singleton.1 hu]; omega
  · rw [List.concat_eq_append] at *
    rw [push_last] at hu
    have hl := h l (by simp)
    split at hu
    · rcases List.mem_append.1 hu with hu | hu
      · have := h u (by simp [hu]); omega
      · rw [List.mem_singleton.1 hu]; show -(B + C) ≤ l.c + t.c ∧ l.c + t.c ≤ B + C; omega
    · rcases List.mem_append.1 hu with hu | hu
      · have := h u hu; omega
      · rw [List.mem_singleton.1 hu]; omega
theorem merge_take {ts : List Tm} {k : Nat} (hk : k < ts.length) : mergeT (ts.take (k + 1)) = pushT (mergeT (ts.take k)) ts[k] := by
  unfold mergeT
  rw [List.take_add_one, List.getElem?_eq_getElem hk, List.foldl_append]
  rfl
theorem merge_len (ts : List Tm) : ∀ k, (mergeT (ts.take k)).length ≤ k
  | 0 => by simp [mergeT]
  | k + 1 => by
    by_cases hk : k < ts.length
    · rw [merge_take hk]
      have := push_len (mergeT (ts.take k)) ts[k]
      have := merge_len ts k
      omega
    · have := merge_len ts k
      rw [List.take_of_length_le (by omega)] at this ⊢
      omega
theorem merge_bnd {ts : List Tm} {C : Int} (hC : 0 ≤ C) (h : ∀ u ∈ ts, -C ≤ u.c ∧ u.c ≤ C) : ∀ k : Nat, ∀ u ∈ mergeT (ts.take k), -(C * k) ≤ u.c ∧ u.c ≤ C * k
  | 0, u, hu => by simp [mergeT] at hu
  | k + 1, u, hu => by
    have e : C * ((k + 1 : Nat) : Int) = C * k + C := by rw [Int.natCast_add, Int.mul_add]; simp
    have hk0 : 0 ≤ C * (k : Int) := Int.mul_nonneg hC (Int.natCast_nonneg _)
    rw [e]
    by_cases hk : k < ts.length
    · rw [merge_take hk] at hu
      exact push_bnd (merge_bnd hC h k) (h _ (List.getElem_mem hk)) hk0 hC u hu
    · rw [List.take_of_length_le (by omega)] at hu
      have := merge_bnd hC h k u (by rw [List.take_of_length_le (by omega)]; exact hu)
      omega
theorem merge_all (ts : List Tm) : mergeT (ts.take ts.length) = mergeT ts := by rw [List.take_of_length_le (Nat.le_refl _)]

theorem HoldS.alloc {base bs : Nat} {acc : List Tm} {w : World} (h : HoldS base bs acc w) (hb : bs < w.heap.size) (o : Obj) : HoldS base bs acc (w.alloc o) := by
  obtain ⟨v, h1, h2⟩ := h
  exact ⟨v, (Below.heap_alloc _ _ _ hb).trans h1, h2.alloc _⟩
theorem smallT_perm {ss ts : List Tm} (hp : ss.Perm ts) (hl : ts.length ≤ maxLen) (h : ∀ t ∈ ts, t.s.size ≤ maxLen ∧ -9223372036854775808 ≤ t.c ∧ t.c ≤ 9223372036854775807) : SmallT ss :=
  ⟨by rw [hp.length_eq]; exact hl, fun t ht => h t (hp.mem_iff.1 ht)⟩

end Go.Proofs.Ytfhlceggihodeaa

/- The contracts of the laws' own helpers that mark memory and look the marks up. -/

namespace Go.Proofs.Ytfhlceggihodeaa
open Go.RowKit Go.Shelf

/-- A term is stored: its two cells. -/
theorem set_terms (us : List Tm) (i : Nat) (t : Tm) (hi : i < us.length) : ((termsV us).set (i * 2) (.int .i64 t.c)).set (i * 2 + 1) (.string t.s) = termsV (us.set i t) := by
  have e : us = us.take i ++ us[i] :: us.drop (i + 1) := by rw [List.getElem_cons_drop]; exact (List.take_append_drop i us).symm
  have hl : (termsV (us.take i)).length = i * 2 := by rw [termsV_len, List.length_take, Nat.min_eq_left (by omega)]
  have hset : us.set i t = us.take i ++ t :: us.drop (i + 1) := by rw [List.set_eq_take_append_cons_drop, if_pos hi]
  rw [hset]
  have e2 : termsV us = termsV (us.take i) ++ .int .i64 us[i].c :: .string us[i].s :: termsV (us.drop (i + 1)) := by
    rw [← termsV_cons, ← termsV_append, ← e]
  rw [e2, termsV_append, termsV_cons, List.set_append_right _ _ (by omega), List.set_append_right _ _ (by omega), hl, Nat.sub_self, show i * 2 + 1 - i * 2 = 1 by omega]
  rfl

/-- The text of a mark. -/
def mkB (m : Nat) (t : ByteArray) : ByteArray :=
  if _h : m = 0 then t else mkB (m / 10) (⟨#[UInt8.ofNat (48 + m % 10)]⟩ ++ t)
termination_by m
decreasing_by omega
theorem mkB_zero (t : ByteArray) : mkB 0 t = t := by rw [mkB]; simp
theorem mkB_step {m : Nat} (h : m ≠ 0) (t : ByteArray) : mkB (m / 10) (⟨#[UInt8.ofNat (48 + m % 10)]⟩ ++ t) = mkB m t := by conv => rhs; rw [mkB, dif_neg h]
def mkS (k : Nat) : ByteArray := ⟨#[109]⟩ ++ mkB k ⟨#[]⟩

end Go.Proofs.Ytfhlceggihodeaa

/- The contract of slices.DeleteFunc at 'isZero'. -/

namespace Go.Proofs.Ytfhlceggihodeaa
open Go.RowKit Go.Shelf

/-- A shorter slice of the same row. -/
theorem ownsRow_shorter {w : World} {base : Nat} {e : TypeId} {size g n k cap : Nat} {xs : List Value} (h : w.ownsRow base e size (.slice (some ⟨g, 0, none⟩) n cap) n xs) (hk : k ≤ n) :
    w.ownsRow base e size (.slice (some ⟨g, 0, none⟩) k cap) k (xs.take (k * size)) := by
  have hks : k * size ≤ n * size := Nat.mul_le_mul_right _ hk
  rcases h.2 with ⟨h', _⟩ | ⟨g', cap', cur, h', hb, hg, hnc, hcm, hcs, htake⟩
  · simp at h'
  · simp only [Value.slice.injEq, Option.some.injEq, Addr.mk.injEq, and_true, true_and] at h'
    obtain ⟨rfl, rfl⟩ := h'
    refine ⟨by rw [List.length_take, h.1]; omega, .inr ⟨g, cap, cur, rfl, hb, hg, by omega, hcm, hcs, ?_⟩⟩
    rw [← htake, List.take_take, Nat.min_eq_left hks]
/-- Stores behind the first m cells. -/
theorem ownsRow_behind {base : Nat} {e : TypeId} {size g n cap m : Nat} : ∀ (vs : List Value) (o : Nat) {w : World} {xs : List Value}, w.ownsRow base e size (.slice (some ⟨g, 0, none⟩) n cap) n xs → m ≤ o →
    ∃ ys, (w.setCells g o vs).ownsRow base e size (.slice (some ⟨g, 0, none⟩) n cap) n ys ∧ ys.take m = xs.take m
  | [], _, _, xs, h, _ => ⟨xs, h, rfl⟩
  | v :: r, o, w, xs, h, hm => by
    obtain ⟨ys, h1, h2⟩ := ownsRow_behind (m := m) r (o + 1) (h.stored o v).1 (by omega)
    refine ⟨ys, h1, h2.trans ?_⟩
    rw [List.take_set, List.set_eq_of_length_le (by rw [List.length_take]; omega)]
theorem below_cells {B g : Nat} (hg : B ≤ g) : ∀ (vs : List Value) (o : Nat) {w0 w : World}, Below B w0 w → Below B w0 (w.setCells g o vs)
  | [], _, _, _, h => h
  | v :: r, o, _, _, h => below_cells hg r (o + 1) (h.setCell (p := ⟨g, o, none⟩) hg v)

/-- 'clear' at a slice of terms. -/
theorem clear_terms {P : Program} (w : World) (t : TypeId) (ht : P.underlying t = some (.slice TI)) (hv : ∀ w, (zeroValue TI).run P w = .ok (.agg #[.int .i64 0, .string ByteArray.empty]) w) (b o n c : Nat) (hn : 0 < n)
    (hc : ∀ j, j < n * 2 → (w.cell? ⟨b, o + j, none⟩).isSome = true) (hf : ∀ j, w.frozen? ⟨b, j, none⟩ = false) :
    ∃ vs, ∀ ty, (Builtin.clear_ #[t] ty #[.slice (some ⟨b, o, none⟩) n c]).run P w = .ok (.tuple #[]) (w.setCells b o vs) := by
  refine ⟨(Builtin.zeroCells #[.int .i64 0, .string ByteArray.empty] n).toList, fun ty => ?_⟩
  have hlen : (Builtin.zeroCells #[.int .i64 0, .string ByteArray.empty] n).toList.length = n * 2 := by simp [Builtin.zeroCells]
  have hst := run_storeCells_cells (P := P) b o (Builtin.zeroCells #[.int .i64 0, .string ByteArray.empty] n).toList 0 w (by rw [hlen]; simpa using hc) (fun j _ => hf _) (by
    intro u hu
    simp only [Builtin.zeroCells, Array.toList_map, List.mem_map] at hu
    obtain ⟨i, _, rfl⟩ := hu
    have h2 : i % 2 < 2 := Nat.mod_lt _ (by omega)
    rcases (by omega : i % 2 = 0 ∨ i % 2 = 1) with h | h
    · simp [h, Value.oneCell']
    · simp [h, Value.oneCell'])
  simp only [Nat.add_zero] at hst
  obtain ⟨m, rfl⟩ : ∃ m, n = m + 1 := ⟨n - 1, by omega⟩
  simp [Builtin.clear_, run_underlying ht, hv, Value.cells, hst]

abbrev nzT (ts : List Tm) : List Tm := ts.filter fun t => !(t.c == 0)
theorem nzT_all {ts : List Tm} (h : ∀ j (h : j < ts.length), ts[j].c ≠ 0) : nzT ts = ts := by
  refine List.filter_eq_self.2 fun t ht => ?_
  obtain ⟨j, hj, rfl⟩ := List.getElem_of_mem ht
  simpa using h j hj
theorem nzT_first {ts : List Tm} {i : Nat} (hi : i < ts.length) (h0 : ts[i].c = 0) (h : ∀ j (h : j < i), ts[j].c ≠ 0) : nzT (ts.take (i + 1)) = ts.take i := by
  rw [List.take_add_one, List.getElem?_eq_getElem hi]
  unfold nzT
  rw [List.filter_append]
  have h1 : (ts.take i).filter (fun t => !(t.c == 0)) = ts.take i := nzT_all fun j hj => by
    rw [List.length_take] at hj
    rw [List.getElem_take]
    exact h j (by omega)
  rw [h1]
  simp [h0]
theorem nzT_step {ts : List Tm} {j : Nat} {t : Tm} (hj : j < ts.length) (ht : ts[j] = t) : nzT (ts.take (j + 1)) = nzT (ts.take j) ++ (if t.c = 0 then [] else [t]) := by
  rw [List.take_add_one, List.getElem?_eq_getElem hj]
  unfold nzT
  rw [List.filter_append, ht]
  by_cases h : t.c = 0 <;> simp [h]
theorem nzT_len (ts : List Tm) (j : Nat) : (nzT (ts.take j)).length ≤ j := Nat.le_trans (List.length_filter_le _ _) (by rw [List.length_take]; omega)

/-- The terms kept so far, and the rest as it was. -/
structure Kept (base : Nat) (w : World) (g cap n i j : Nat) (ts us : List Tm) : Prop where
  own : w.ownsRow base TI 2 (.slice (some ⟨g, 0, none⟩) n cap) n (termsV us)
  len : us.length = n
  head : us.take i = nzT (ts.take j)
  tail : us.drop j = ts.drop j
  hi : i < j
  hj : j ≤ n
theorem Kept.below {base : Nat} {w w' : World} {g cap n i j : Nat} {ts us : List Tm} (h : Kept base w g cap n i j ts us) (hb : Below w.heap.size w w') : Kept base w' g cap n i j ts us :=
  ⟨by have := h.own; rw [← h.len] at this ⊢; exact OwnT.below this hb, h.len, h.head, h.tail, h.hi, h.hj⟩
theorem Kept.at_ {base : Nat} {w : World} {g cap n i j : Nat} {ts us : List Tm} (h : Kept base w g cap n i j ts us) (hjn : j < n) (hz : j < ts.length) :
    w.cell? ⟨g, j * 2, none⟩ = some (.int .i64 ts[j].c) ∧ w.cell? ⟨g, j * 2 + 1, none⟩ = some (.string ts[j].s) := by
  have hta := termsAt_of_owns (ts := us) (g := g) (cap := cap) rfl (by rw [h.len]; exact h.own)
  have hju : j < us.length := by rw [h.len]; exact hjn
  obtain ⟨h1, h2⟩ := hta.2 j hju
  have e : us[j] = ts[j] := by
    have := congrArg (·[0]?) h.tail
    simp only [List.getElem?_drop, Nat.add_zero, List.getElem?_eq_getElem hju, List.getElem?_eq_getElem hz] at this
    exact Option.some.inj this
  rw [e] at h1 h2
  rw [add_off] at h1 h2
  exact ⟨h1, h2⟩
theorem Kept.keep {base : Nat} {w : World} {g cap n i j : Nat} {ts us : List Tm} {t : Tm} (h : Kept base w g cap n i j ts us) (hz : j < ts.length) (hjn : j < n) (ht : ts[j] = t) (hc : t.c ≠ 0) :
    Kept base ((w.setCell ⟨g, i * 2, none⟩ (.int .i64 t.c)).setCell ⟨g, i * 2 + 1, none⟩ (.string t.s)) g cap n (i + 1) (j + 1) ts (us.set i t) := by
  have hiu : i < us.length := by rw [h.len]; have := h.hi; omega
  refine ⟨?_, by rw [List.length_set]; exact h.len, ?_, ?_, by have := h.hi; omega, by omega⟩
  · rw [← set_terms us i t hiu]
    exact ((h.own.stored (i * 2) (.int .i64 t.c)).1.stored (i * 2 + 1) (.string t.s)).1
  · rw [nzT_step hz ht, if_neg hc, ← h.head, List.take_add_one, List.getElem?_set_self hiu, List.take_set, List.set_eq_of_length_le (by rw [List.length_take]; omega)]
    rfl
  · have := congrArg (List.drop 1) h.tail
    rw [List.drop_drop, List.drop_drop] at this
    rw [List.drop_set, if_pos (by have := h.hi; omega)]
    exact this
theorem Kept.skip {base : Nat} {w : World} {g cap n i j : Nat} {ts us : List Tm} {t : Tm} (h : Kept base w g cap n i j ts us) (hz : j < ts.length) (hjn : j < n) (ht : ts[j] = t) (hc : t.c = 0) : Kept base w g cap n i (j + 1) ts us := by
  refine ⟨h.own, h.len, ?_, ?_, by have := h.hi; omega, by omega⟩
  · rw [nzT_step hz ht, if_pos hc, List.append_nil]; exact h.head
  · have := congrArg (List.drop 1) h.tail
    rw [List.drop_drop, List.drop_drop] at this
    exact this

end Go.Proofs.Ytfhlceggihodeaa

/- The contracts of the program's 'toldSum' and 'SumOf'. -/

namespace Go.Proofs.Ytfhlceggihodeaa
open Go.RowKit Go.Shelf

/-- What a call of the program answers that tells a sum. -/
def ITold (w : World) (b : Bool) (us : List Tm) (e : Ending) (w' : World) : Prop := (∃ v', e = .returned (.tuple #[v', .bool b]) ∧ OwnT w.heap.size w' v' (cond b us [])) ∧ Below w.heap.size w w'
theorem ownNil (base : Nat) (w : World) : OwnT base w (.slice none 0 0) [] := ⟨rfl, .inl ⟨rfl, rfl⟩⟩
/-- Terms that may be gathered: not too many, not too great, their words of whatever length. -/
theorem filter_small {ts : List Tm} {p : Tm → Bool} (h : SmallT ts) : SmallT (ts.filter p) :=
  ⟨Nat.le_trans (List.length_filter_le _ _) h.1, fun t ht => h.2 t (List.mem_filter.1 ht).1⟩
theorem push_words {acc : List Tm} {t : Tm} {M : Nat} (h : ∀ u ∈ acc, u.s.size ≤ M) (ht : t.s.size ≤ M) : ∀ u ∈ pushT acc t, u.s.size ≤ M := by
  intro u hu
  rcases List.eq_nil_or_concat acc with rfl | ⟨b, l, rfl⟩
  · rw [push_nil] at hu; rw [List.mem_singleton.1 hu]; exact ht
  · rw [List.concat_eq_append] at *
    rw [push_last] at hu
    have hl := h l (by simp)
    split at hu
    · rcases List.mem_append.1 hu with hu | hu
      · exact h u (by simp [hu])
      · rw [List.mem_singleton.1 hu]; exact hl
    · rcases List.mem_append.1 hu with hu | hu
      · exact h u hu
      · rw [List.mem_singleton.1 hu]; exact ht
theorem merge_words {M : Nat} : ∀ (ts acc : List Tm), (∀ u ∈ acc, u.s.size ≤ M) → (∀ u ∈ ts, u.s.size ≤ M) → ∀ u ∈ ts.foldl pushT acc, u.s.size ≤ M
  | [], _, h, _ => h
  | t :: r, acc, h, ht => merge_words r (pushT acc t) (push_words h (ht t (by simp))) (fun u hu => ht u (by simp [hu]))
theorem merge_small {ts : List Tm} (hn : ts.length ≤ 100000) (hc : ∀ t ∈ ts, -1000000000000 ≤ t.c ∧ t.c ≤ 1000000000000) (hs : ∀ t ∈ ts, t.s.size ≤ maxLen) : SmallT (mergeT ts) := by
  have h1 := merge_len ts ts.length
  have h2 := merge_bnd (C := 1000000000000) (by omega) hc ts.length
  rw [merge_all] at h1 h2
  refine ⟨by unfold maxLen; omega, fun t ht => ⟨merge_words ts [] (fun u h => by cases h) hs t ht, ?_⟩⟩
  have := h2 t ht
  omega

end Go.Proofs.Ytfhlceggihodeaa

/- A map copied, cleared, made with one entry; the contracts of the program's 'oneSeries' and 'told' (of a series). -/

namespace Go.Proofs.Ytfhlceggihodeaa
open Go.RowKit Go.Shelf Go.Maps Go.MapKept

def cloneS_ren : Go.Shelf.Ren := ⟨fun | 5 => 45 | 7 => 55 | n => n, fun | 23 => 67 | 25 => 76 | 3 => 3 | 4 => 4 | 20 => 20 | n => n, fun n => n⟩
theorem cloneS : SlLaysW.n5 Try.prog cloneS_ren := {
  mixed := by kernel_rfl
  f5 := Exists.intro "maps.Clone[loop.example/foxcalculus/impl.series,loop.example/foxcalculus/impl.monomial,int]" ⟨of_decide_eq_true (by kernel_rfl), Try.func45.trans (congrArg some (by kernel_rfl))⟩
  f7 := Try.func55.trans (congrArg some (by kernel_rfl))
  t4 := Try.underlying4
  a4 := Try.isAgg4
  z4 := Try.sizeOf4
  v4 := Try.zeroValue4
  t20 := Try.underlying20
  a20 := Try.isAgg20
  z20 := Try.sizeOf20
  v20 := Try.zeroValue20
  t23 := Try.underlying67
  a23 := Try.isAgg67
  z23 := Try.sizeOf67
  v23 := Try.zeroValue67 }
theorem clone_any (b : Nat) (ts : List Tm) (w : World) (h : MapT w b ts) :
    Calls Try.prog 45 #[.map (some b)] w fun e w' => e = .returned (.map (some w.heap.size)) ∧ MapT w' w.heap.size ts ∧ Below w.heap.size w w' := by
  obtain ⟨es, h, hq⟩ := h
  refine (AnyW.maps_Clone_owns cloneS MonT _ b _ _ w h).mono ?_
  rintro e w' ⟨rfl, h1, _, h2⟩
  exact ⟨rfl, ⟨es, h1, hq⟩, h2⟩

section
variable {ops : Array Oper} {rest : List Oper} {o : Oper} {a : Act} {Q : Exit → Act → World → Prop}
theorem wpList_clear_map (w : World) (hg : o.guard = none) (m : Operand) (hop : o.op = Op.call { callee := Callee.builtin Builtin.clear, args := #[m], argTypes := #[SerT] }) (b : Nat) (ts : List Tm) (hm : a.eval m = .map (some b)) (h : MapT w b ts)
    (hK : ∀ w', MapT w' b [] → w.grownBy w' (some b) → wpList Try.prog ops Q rest (a.put o.dst (.tuple #[])) w') : wpList Try.prog ops Q (o :: rest) a w := by
  obtain ⟨es, ⟨es', clock, hb, F, _, _⟩, _⟩ := h
  have hrun : (Builtin.clear_ #[SerT] o.type #[.map (some b)]).run Try.prog w = .ok (.tuple #[]) { w with heap := w.heap.setIfInBounds b (.map #[] clock) } := by
    simp [Builtin.clear_, run_underlying undSer, Go.MapKept.run_getObj_map hb, Go.MapKept.run_setObj_map _ hb, Result.andThen]
  refine wpList_plain hg fun K' hK' => ?_
  unfold Oper.wp
  simp [execOp, hop, resolve, invoke, builtin, hm, hrun, Result.andThen]
  exact hK' _ _ (hK _ ⟨[], ⟨#[], clock, (heap_set hb).1, ⟨by simp, stamped_empty _, by simp⟩, Nat.le_refl _, rfl⟩, .refl _⟩ ⟨rfl, rfl, rfl, by simp, fun k _ hk => (heap_set hb).2 k fun e => hk (by rw [e])⟩)
theorem wpList_insert_map (w : World) (hg : o.guard = none) (m x v : Operand) (hop : o.op = Op.insert SerT m x v) (b : Nat) (ts : List Tm) (hm : a.eval m = .map (some b)) (h : MapT w b ts) (hn : ts.length < maxLen) (s : ByteArray) (c : Int)
    (hx : a.eval x = .string s) (hv : a.eval v = .int .i64 c) (hs : s.size ≤ maxLen) (hc : (Lit.int .i64 c).wf = true)
    (hK : ∀ w', MapT w' b (putT ts s c) → w.grownBy w' (some b) → wpList Try.prog ops Q rest (a.put o.dst undef) w') : wpList Try.prog ops Q (o :: rest) a w := by
  obtain ⟨D, hown, hput⟩ := h.store
  refine wpList_plain hg fun K' hK' => ?_
  obtain ⟨w', hrun, r1, r2⟩ := hown.update lawMon undSer hn (key_mk hs) (plainElem_int (H := Unit) Try.underlying3 hc)
  unfold Oper.wp
  simp [execOp, hop, hm, hx, hv, hrun, Result.andThen]
  exact hK' _ _ (hK w' (hput s c w' r1) r2)
end

theorem oneSeries_any (w : World) : Calls Try.prog 37 #[] w fun e w' => (∃ b, e = .returned (.map (some b)) ∧ w.heap.size ≤ b ∧ MapT w' b [⟨1, { data := #[] }⟩]) ∧ Below w.heap.size w w' := by
  have hmm := @run_makeMap Try.prog
  have h0 := mapT_made w
  go_enter Try.func37, Try.ntmps37
  go_wp2_with (first | (refine wpList_insert_map _ rfl _ _ _ rfl w.heap.size [] rfl h0 (by simp [maxLen]) _ _ rfl rfl (Nat.zero_le _) (by decide) ?_; intro w1 h1 hg1) | go_in)
  go_ret
  exact ⟨⟨_, rfl, Nat.le_refl _, h1⟩, ((Below.refl _ w).alloc (Nat.le_refl _) _).grown hg1 (by simp) (fun k e => by cases e; exact Nat.le_refl _)⟩

/-! ### told -/
def nzT2 (ts : List Tm) : List Tm := ts.filter fun t => !(t.c == 0)
theorem nzT2_snoc (ts : List Tm) (c : Int) (s : ByteArray) : nzT2 (ts ++ [⟨c, s⟩]) = if c = 0 then nzT2 ts else nzT2 ts ++ [⟨c, s⟩] := by
  unfold nzT2
  rw [List.filter_append, List.filter_cons, List.filter_nil]
  by_cases h : c = 0
  · simp [h]
  · simp [h]
theorem sorted_canon {ss ts : List Tm} (ha : Apart ts) (hp : ss.Perm (nzT2 ts)) (hs : ss.Pairwise (fun a b => lessW b.s a.s = false)) : ss = canonT ts := by
  have hsub : Apart (nzT2 ts) := List.Pairwise.filter _ ha
  have hss : Apart ss := hsub.perm hp.symm
  refine canonT_unique ⟨?_, fun t ht => ?_⟩ fun s => ?_
  · have h2 := List.pairwise_iff_getElem.1 hss
    have h1 := List.pairwise_iff_getElem.1 hs
    refine List.pairwise_iff_getElem.2 fun i j hi hj hij => ?_
    cases h : lessW ss[i].s ss[j].s
    · exact absurd (lessW_tri h (h1 i j hi hj hij)) (h2 i j hi hj hij)
    · rfl
  · have := (List.mem_filter.1 (hp.mem_iff.1 ht)).2
    simpa using this
  · rw [coefAt_perm s hp]; exact coefAt_filter s ts

end Go.Proofs.Ytfhlceggihodeaa

/- The contract of the program's 'times' (of series). -/

namespace Go.Proofs.Ytfhlceggihodeaa
open Go.RowKit Go.Shelf

theorem put_fresh {ts : List Tm} {s : ByteArray} {v : Int} (h : ∀ t ∈ ts, t.s ≠ s) : putT ts s v = ⟨v, s⟩ :: ts := by
  unfold putT
  rw [filter_every fun t ht => by simp [h t ht]]
theorem canon_apart {ts : List Tm} (h : Canon ts) : Apart ts := h.1.imp fun hl => lessW_ne hl
theorem apart_fresh {ts : List Tm} (h : Apart ts) {k : Nat} (hk : k < ts.length) : ∀ t ∈ ts.take k, t.s ≠ ts[k].s := fun t ht => by
  obtain ⟨i, hi, rfl⟩ := List.getElem_of_mem ht
  rw [List.length_take] at hi
  rw [List.getElem_take]
  exact List.pairwise_iff_getElem.1 h i k (by omega) hk (by omega)
theorem take_perm {ts : List Tm} {k : Nat} (hk : k < ts.length) : (ts[k] :: ts.take k).Perm (ts.take (k + 1)) := by
  rw [List.take_succ_eq_append_getElem hk]
  exact List.perm_append_comm (l₁ := [ts[k]])

/-! ### times -/
set_option maxRecDepth 100000 in
set_option maxHeartbeats 4000000 in
theorem times_any (b b2 : Nat) (X Y : List Tm) (w : World) (hne : b ≠ b2) (hX : MapT w b X) (hY : MapT w b2 Y) (mX : MonoT X) (mY : MonoT Y) (cX : BndT 1000000 X) (cY : BndT 1000000 Y) :
    Calls Try.prog 38 #[.map (some b), .map (some b2)] w fun e w' => e = .returned (.tuple #[]) ∧ (∃ ts, MapT w' b ts ∧ MonoT ts ∧ ∀ k, coefAt k ts = coefAt k (pairsS X Y)) ∧ w.grownBy w' (some b) := by
  have hb := hX.lt
  have hb2 := hY.lt
  have hlX := apart_len341 hX.apart mX
  have hlY := apart_len341 hY.apart mY
  have HX := Lib.hid hX
  have HY := Lib.hid hY
  have MX := Lib.hid mX
  have MY := Lib.hid mY
  have CX := Lib.hid cX
  have CY := Lib.hid cY
  clear hX hY mX mY cX cY
  go_enter Try.func38, Try.ntmps38
  go_wp2_with fail
  refine (clone_any b X w HX.out).mono ?_
  rintro e w1 ⟨rfl, hc, hb1⟩
  have hcl := hc.lt
  obtain ⟨cb, hcb⟩ : ∃ cb, w.heap.size = cb := ⟨_, rfl⟩
  rw [hcb] at hc hcl ⊢
  have HC1 := Lib.hid hc
  have HX1 := Lib.hid (HX.out.below hb1)
  have HY1 := Lib.hid (HY.out.below hb1)
  have G1 : w.grownBy w1 (some b) := (grown_of_below hb1).but _
  have HG1 := Lib.hid G1
  have HCB := Lib.hid hcb
  have hbc : b < cb := by omega
  have hb2c : b2 < cb := by omega
  clear hc hb1 G1 hcb hb hb2
  go_wp2_with (first | (refine wpList_clear_map _ rfl _ rfl b X rfl HX1.out ?_; intro w2 h2 hg2) | (at_range; refine wpList_range_map _ rfl _ rfl b2 Y rfl (HY1.out.kept hg2 (by simp; omega)) ?_; intro w3 hrg3 hg3 hs3) | go_in)
  go_frame
  have hs2 := hg2.size
  obtain ⟨r, hr⟩ : ∃ r, w2.heap.size = r := ⟨_, rfl⟩
  rw [hr] at hrg3 hs3 ⊢
  have HC3 : MapT w3 cb X := (HC1.out.kept hg2 (by simp; omega)).kept hg3 (by simp)
  have H3 : MapT w3 b [] := h2.kept hg3 (by simp)
  have G3 : w.grownBy w3 (some b) := (HG1.out.andThen hg2 (fun j hj => by cases hj; exact Or.inr rfl)).andThen hg3 (fun j hj => by cases hj)
  have hrc : cb < r := by omega
  go_loopw [5] (fun _ wr => ∃ (done : List Tm) (cnt : Nat) (ts : List Tm), RangeT wr b2 r Y done cnt ∧ MapT wr cb X ∧ MapT wr b ts ∧ Hid (MonoT ts ∧ ∀ k, coefAt k ts = coefAt k (pairsQ done X)) ∧ w.grownBy wr (some b))
    (fun _ wr => wr.rangeLeft b2 r)
  case atStart => exact ⟨[], _, [], hrg3, HC3, H3, Lib.hid ⟨fun t ht => by (cases ht), fun _ => rfl⟩, G3⟩
  case round =>
    obtain ⟨done, cnt, ts, hrg, hC, hT, HF, hG⟩ := hrel
    have hcl := hrg.cnt
    have hdl := hrg.donelen
    have hrl := hrg.lt
    have HRG := Lib.hid hrg
    have HCC := Lib.hid hC
    have HTT := Lib.hid hT
    have HGG := Lib.hid hG
    clear hrg hC hT hG H3 G3 HC3 hrg3 hg3 h2 hg2
    go_wp2_with (first | (at_next; refine wpList_next_map _ rfl _ rfl b2 r Y done cnt rfl HRG.out ?_ ?_) | go_in)
    · intro hperm
      go_wp2
      go_end0
      refine ⟨rfl, ⟨ts, HTT.out, HF.out.1, fun k => ?_⟩, HGG.out⟩
      rw [HF.out.2, coefAt_perm k (pairsQ_perm X hperm), pairsQ_swap]
    · intro m y v1 cnt1 hmem hrg1 hlt hg1 hs1 hen
      have HCv := Lib.hid (HCC.out.kept hg1 (by simp; omega))
      have HTv := Lib.hid (HTT.out.kept hg1 (by simp; omega))
      have HGv := Lib.hid (HGG.out.andThen hg1 (fun j hj => by cases hj; exact Or.inl (by have := HCB.out; omega)))
      have HRv := Lib.hid hrg1
      have hym := MY.out _ hmem
      have hys : y.size ≤ 4 := mono_size hym
      have hyc := CY.out _ hmem
      have HYM := Lib.hid hym
      have HYC := Lib.hid hyc
      clear hmem hym hyc hrg1 hg1 HRG HCC HTT HGG
      go_wp2_with (first | (at_range; refine wpList_range_map _ rfl _ rfl cb X rfl HCv.out ?_; intro v2 hrg2 hg2 hs2) | go_in)
      try go_frame
      rw [hs1] at hrg2 hs2
      obtain ⟨r2, hr2⟩ : ∃ r2, wr.heap.size = r2 := ⟨_, rfl⟩
      rw [hr2] at hrg2 hs2 ⊢
      have hrr : r < r2 := by omega
      have HR2 : RangeT v2 b2 r Y (done ++ [⟨m, y⟩]) cnt1 := HRv.out.kept hg2 (by simp) (by simp)
      have HT2 : MapT v2 b ts := HTv.out.kept hg2 (by simp)
      have HG2 : w.grownBy v2 (some b) := HGv.out.andThen hg2 (fun j hj => by cases hj)
      go_loopw [7] (fun _ wr => ∃ (dX : List Tm) (cnt2 : Nat) (us : List Tm), RangeT wr cb r2 X dX cnt2 ∧ RangeT wr b2 r Y (done ++ [⟨m, y⟩]) cnt1 ∧ MapT wr b us ∧ Hid (MonoT us ∧ ∀ k, coefAt k us = coefAt k (pairsQ done X ++ rowQ ⟨m, y⟩ dX)) ∧ w.grownBy wr (some b))
        (fun _ wr => wr.rangeLeft cb r2)
      case atStart => exact ⟨[], _, ts, hrg2, HR2, HT2, Lib.hid ⟨HF.out.1, fun k => by rw [HF.out.2, coefAt_append]; simp [rowQ, coefAt]⟩, HG2⟩
      case round =>
        obtain ⟨dX, cnt2, us, hrgX, hrgY, hU, HU, hGr⟩ := hrel
        have hcl2 := hrgX.cnt
        have hdl2 := hrgX.donelen
        have HRX := Lib.hid hrgX
        have HRY := Lib.hid hrgY
        have HUU := Lib.hid hU
        have HGr := Lib.hid hGr
        clear hrgX hrgY hU hGr HR2 HT2 HG2 hrg2 hg2
        go_wp2_with (first | (at_next; refine wpList_next_map _ rfl _ rfl cb r2 X dX cnt2 rfl HRX.out ?_ ?_) | go_in)
        · intro hperm
          have hl1 := HRY.out.cnt
          go_wp2
          go_roundw
          case rel => exact ⟨_, cnt1, us, HRY.out, HRX.out.map, HUU.out, Lib.hid ⟨HU.out.1, fun k => by rw [HU.out.2, pairsQ_snoc, coefAt_append, coefAt_append, coefAt_perm k (rowQ_perm _ hperm)]⟩, HGr.out⟩
          case measure => rw [hl1, hcl]; exact hlt
        · intro n x v3 cnt3 hmem hrgX hlt2 hg3 hs3 hen2
          have HRX3 := Lib.hid hrgX
          have HRY3 := Lib.hid (HRY.out.kept hg3 (by simp; omega) (by simp; omega))
          have HU3 := Lib.hid (HUU.out.kept hg3 (by simp; omega))
          have HG3 := Lib.hid (HGr.out.andThen hg3 (fun j hj => by cases hj; exact Or.inl (by have := HCB.out; omega)))
          have hxm := MX.out _ hmem
          have hxs : x.size ≤ 4 := mono_size hxm
          have hxc := CX.out _ hmem
          have hsn := rowQ_snoc ⟨m, y⟩ dX ⟨n, x⟩
          have hl3 := hrgX.cnt
          clear hmem hrgX hg3 HRX HRY HUU HGr
          by_cases h4 : x.size + y.size ≤ 4
          · have hd4 : decide ((x.size : Int) + (y.size : Int) ≤ 4) = true := decide_eq_true (by omega)
            obtain ⟨q, hq⟩ : ∃ q, x ++ y = q := ⟨_, rfl⟩
            have hqs : q.size = x.size + y.size := by rw [← hq]; exact ByteArray.size_append
            have hnot : ¬ 9223372036854775807 < x.size + y.size := by omega
            have hqm : q.size ≤ maxLen := by unfold maxLen; omega
            have hqmono : monoB q = true := by rw [← hq]; exact mono_append hxm HYM.out (by rw [hq]; omega)
            have hsn' : rowQ ⟨m, y⟩ (dX ++ [⟨n, x⟩]) = rowQ ⟨m, y⟩ dX ++ [⟨n * m, q⟩] := by rw [hsn, hq, if_pos (by omega)]
            have hmb := mul_bnd hxc HYC.out
            simp only at hmb
            obtain ⟨d, hd⟩ : ∃ d, n * m = d := ⟨_, rfl⟩
            rw [hd] at hmb hsn'
            have hmul : IntKind.i64.wrap (n * m) = d := by rw [hd]; exact IntWalk.i64_in _ (by omega)
            obtain ⟨z, hz⟩ : ∃ z, coefAt q us = z := ⟨_, rfl⟩
            have hzb : -120000000000000000 ≤ z ∧ z ≤ 120000000000000000 := by
              rw [← hz, HU.out.2]
              have hbq : BndT 1000000000000 (pairsQ done X ++ rowQ ⟨m, y⟩ dX) := fun t ht => by
                rcases List.mem_append.1 ht with ht | ht
                · exact bndQQ CX.out (fun u hu => CY.out u (HRY3.out.sub u (List.mem_append.2 (.inl hu)))) t ht
                · exact bndQ (fun u hu => CX.out u (HRX3.out.sub u (List.mem_append.2 (.inl hu)))) HYC.out t ht
              have h1 := coef_bnd (by omega) q hbq
              have h2 := pairsQ_len X done
              have h3 := rowQ_len ⟨m, y⟩ dX
              have h5 : done.length * X.length ≤ 341 * 341 := Nat.mul_le_mul (by omega) hlX
              have h6 : (pairsQ done X ++ rowQ ⟨m, y⟩ dX).length ≤ 341 * 341 + 341 := by rw [List.length_append]; omega
              omega
            have hadd : IntKind.i64.wrap (z + d) = z + d := IntWalk.i64_in _ (by omega)
            have hwf : (Lit.int .i64 (z + d)).wf = true := by
              simp only [Lit.wf, Bool.and_eq_true, decide_eq_true_eq]
              have e1 : IntKind.i64.min = -9223372036854775808 := by decide
              have e2 : IntKind.i64.max = 9223372036854775807 := by decide
              omega
            have hul : us.length < maxLen := by have := apart_len341 HU3.out.apart HU.out.1; unfold maxLen; omega
            have HSN := Lib.hid hsn'
            have HQM := Lib.hid hqmono
            have HZ := Lib.hid hz
            have HUL := Lib.hid hul
            have HWF := Lib.hid hwf
            have HQS := Lib.hid hqs
            clear hsn hsn' hqmono hmb hzb hxc hxm hul hwf hd hqs
            go_wp2_with (first | (refine wpList_lookup_map _ rfl _ _ rfl b us rfl HU3.out q rfl hqm ?_; rw [HZ.out]) | (refine wpList_update_map _ rfl _ _ _ rfl b us rfl HU3.out HUL.out q (z + d) rfl rfl hqm HWF.out ?_; intro v5 h5 hg5; simp only [Act.put]) | go_in)
            have hR5 := HRX3.out.kept hg5 (by simp; omega) (by simp; omega)
            have hl5 := hR5.cnt
            go_roundw
            case rel =>
              refine ⟨_, cnt3, _, hR5, HRY3.out.kept hg5 (by simp; omega) (by simp; omega), h5, Lib.hid ⟨mono_put HU.out.1 HQM.out, fun k => ?_⟩, HG3.out.andThen hg5 (fun j hj => by cases hj; exact Or.inr rfl)⟩
              rw [HSN.out, ← List.append_assoc, ← put_add q d HU.out.2 k, HZ.out]
            case measure => rw [hl5, hcl2]; exact hlt2
          · have hd4 : decide ((x.size : Int) + (y.size : Int) ≤ 4) = false := decide_eq_false (by omega)
            rw [if_neg (by simp only [ByteArray.size_append]; omega), List.append_nil] at hsn
            have HSN := Lib.hid hsn
            clear hsn hxc hxm
            go_wp2
            go_roundw
            case rel => exact ⟨_, cnt3, us, HRX3.out, HRY3.out, HU3.out, Lib.hid ⟨HU.out.1, fun k => by rw [HSN.out]; exact HU.out.2 k⟩, HG3.out⟩
            case measure => rw [hl3, hcl2]; exact hlt2

end Go.Proofs.Ytfhlceggihodeaa

/- The contracts of the program's 'series' of a letter and of a word, and of 'SeriesOf'. -/

namespace Go.Proofs.Ytfhlceggihodeaa
open Go.RowKit Go.Shelf

theorem altZ_succ (k : Nat) : altZ (k + 1) = -altZ k := by unfold altZ; split <;> split <;> omega
theorem altZ_one (k : Nat) : altZ k = 1 ∨ altZ k = -1 := by unfold altZ; split <;> simp
theorem bstr_app (a b : List UInt8) : bstr a ++ bstr b = bstr (a ++ b) := bytes_ext (by simp [bstr_toList])
theorem powS_next (c : UInt8) (k : Nat) : bstr (repL k (letX c)) ++ bstr (letX c) = bstr (repL (k + 1) (letX c)) := by rw [bstr_app, ← repL_add, repL_one]
theorem powS_size (c : UInt8) (k : Nat) : (bstr (repL k (letX c))).size = k := by
  have : (bstr (repL k (letX c))).data.toList.length = k := by rw [bstr_toList, repL_len]; simp [letX]
  simpa using this
theorem powT_fresh (c : UInt8) (k : Nat) : ∀ t ∈ (List.range (k + 1)).map (powT c), t.s ≠ bstr (repL (k + 1) (letX c)) := fun t ht => by
  obtain ⟨i, hi, rfl⟩ := List.mem_map.1 ht
  have := List.mem_range.1 hi
  intro e
  have e2 := congrArg ByteArray.size e
  unfold powT at e2
  rw [powS_size, powS_size] at e2
  omega
theorem powT_put (c : UInt8) (k : Nat) : (putT ((List.range (k + 1)).map (powT c)) (bstr (repL (k + 1) (letX c))) (altZ (k + 1))).Perm ((List.range (k + 2)).map (powT c)) := by
  rw [put_fresh (powT_fresh c k), List.range_succ (n := k + 1), List.map_append]
  exact List.perm_append_comm (l₁ := [powT c (k + 1)])

section
attribute [local go_sem] Oper.semAt_some
set_option maxRecDepth 100000 in
set_option maxHeartbeats 4000000 in
theorem letterSeries_any (c : UInt8) (w : World) (hc : letB c = true) :
    Calls Try.prog 39 #[.int .u8 (c.toNat : Int)] w fun e w' => ∃ b, e = .returned (.map (some b)) ∧ w.heap.size ≤ b ∧ MapT w' b (letS c) ∧ Below w.heap.size w w' := by
  have hor := (idx_let c hc).1
  have hj4 := idxB_lt c hc
  obtain ⟨u, hu⟩ : ∃ u, sgnB c = u := ⟨_, rfl⟩
  have HSX : Hid (∀ W, Calls Try.prog 46 #[.int .u8 (c.toNat : Int)] W fun e w' => e = .returned (.int .i64 u) ∧ w' = W) := Lib.hid fun W => by rw [← hu]; exact iSign_any c W hc
  obtain ⟨j, hj⟩ : ∃ j, idxB c = j := ⟨_, rfl⟩
  rw [hj] at hor hj4
  have HU : Hid (sgnB c = u) := Lib.hid hu
  have hlx : letX c = [UInt8.ofNat (97 + j)] := by unfold letX; rw [hj]
  have HLX := Lib.hid hlx
  clear hc hu hj hlx
  go_enter Try.func39, Try.ntmps39
  go_wp2_with fail
  refine (text_letters w.heap.size 0 1 1 (letX c) _ (by rw [HLX.out]; rfl) (by omega) ⟨by simp, fun i hi => ?_⟩).mono ?_
  · have h0 : i = 0 := by simp [letX] at hi; exact hi
    subst h0
    refine (World.cell?_alloc_at _ _ _ _ (by simp)).trans ?_
    have : ((letX c)[0]'hi) = UInt8.ofNat (97 + j) := by simp only [HLX.out, List.getElem_cons_zero]
    rw [this, UInt8.toNat_ofNat', Nat.mod_eq_of_lt (by omega)]
    show some (Value.int IntKind.u8 ((j : Int) + 97)) = some (Value.int IntKind.u8 ((97 + j : Nat) : Int))
    rw [show ((97 + j : Nat) : Int) = (j : Int) + 97 by omega]
  rintro e w1 ⟨rfl, hb1⟩
  obtain ⟨gx, hgx⟩ : ∃ gx, bstr (letX c) = gx := ⟨_, rfl⟩
  rw [hgx]
  have hB1 : Below w.heap.size w w1 := ((Below.refl _ w).alloc (Nat.le_refl _) _).trans (hb1.mono (by simp))
  have HB1 := Lib.hid hB1
  have HGX := Lib.hid hgx
  clear hb1 hB1 hgx
  go_wp2_with fail
  refine (oneSeries_any _).mono ?_
  rintro e w2 ⟨⟨mb, rfl, hlo, hM⟩, hb2⟩
  have hB2 : Below w.heap.size w w2 := HB1.out.trans (hb2.mono HB1.out.size)
  have hmb : w.heap.size ≤ mb := Nat.le_trans HB1.out.size hlo
  have HM := Lib.hid hM
  have HB2 := Lib.hid hB2
  clear hb2 hB2 hM hlo
  by_cases h97 : 97 ≤ c.toNat
  · obtain rfl : u = 1 := by rw [← HU.out]; unfold sgnB; rw [if_pos h97]
    have hls : letS c = [⟨1, { data := #[] }⟩, ⟨1, gx⟩] := by unfold letS; rw [if_pos h97, HGX.out]
    have hgs : gx.size ≤ maxLen := by rw [← HGX.out, ← repL_one (letX c), powS_size]; unfold maxLen; omega
    have hfr : putT [(⟨1, { data := #[] }⟩ : Tm)] gx 1 = [⟨1, gx⟩, ⟨1, { data := #[] }⟩] := put_fresh fun t ht => by
      rw [List.mem_singleton.1 ht]
      intro e
      have e2 := congrArg ByteArray.size e
      rw [← HGX.out, ← repL_one (letX c), powS_size] at e2
      cases e2
    have HGS := Lib.hid hgs
    have HFR := Lib.hid hfr
    have HLS := Lib.hid hls
    clear hgs hfr hls h97
    go_wp2_with fail
    refine (HSX.out _).mono ?_
    rintro e w3 ⟨rfl, rfl⟩
    go_wp2_with (first | (refine wpList_update_map _ rfl _ _ _ rfl mb [⟨1, { data := #[] }⟩] rfl HM.out (by simp [maxLen]) gx 1 rfl rfl HGS.out (by decide) ?_; intro v5 h5 hg5; simp only [Act.put]) | go_in)
    go_ret
    refine ⟨mb, rfl, hmb, ?_, HB2.out.grown hg5 HB2.out.size (fun i ei => by cases ei; exact hmb)⟩
    rw [HFR.out] at h5
    rw [HLS.out]
    exact h5.perm (List.Perm.swap _ _ _)
  · obtain rfl : u = -1 := by rw [← HU.out]; unfold sgnB; rw [if_neg h97]
    have HLS : Hid (letS c = (List.range 5).map (powT c)) := Lib.hid (by unfold letS; rw [if_neg h97])
    have HM0 : Hid (MapT w2 mb ((List.range (0 + 1)).map (powT c))) := HM
    clear h97
    go_wp2_with fail
    refine (HSX.out _).mono ?_
    rintro e w3 ⟨rfl, rfl⟩
    go_wp2_with fail
    go_loopw [5, 6, 18] (fun p z i wr => ∃ k : Nat, k ≤ 4 ∧ p = .string (bstr (repL k (letX c))) ∧ z = .int .i64 (altZ k) ∧ i = .int .i64 k ∧ MapT wr mb ((List.range (k + 1)).map (powT c)) ∧ Below w.heap.size w wr) (fun _ _ i _ => 4 - (intOf i).toNat)
    case atStart => exact ⟨0, by omega, rfl, rfl, rfl, HM0.out, HB2.out⟩
    case round =>
      obtain ⟨k, hk, rfl, rfl, rfl, hT, hB⟩ := hrel
      have HT := Lib.hid hT
      have HB := Lib.hid hB
      clear hT hB
      by_cases hlt : k < 4
      · have hpn := powS_next c k
        obtain ⟨p, hp⟩ : ∃ p, bstr (repL k (letX c)) = p := ⟨_, rfl⟩
        obtain ⟨q, hq⟩ : ∃ q, bstr (repL (k + 1) (letX c)) = q := ⟨_, rfl⟩
        have hps : p.size = k := by rw [← hp]; exact powS_size c k
        have hgs : gx.size = 1 := by rw [← HGX.out, ← repL_one (letX c)]; exact powS_size c 1
        have hqs : q.size ≤ maxLen := by rw [← hq, powS_size]; unfold maxLen; omega
        have hput := powT_put c k
        rw [hp, HGX.out, hq] at hpn
        rw [hq] at hput
        obtain ⟨z, hz⟩ : ∃ z, altZ k = z := ⟨_, rfl⟩
        have hz1 : altZ (k + 1) = -z := by rw [← hz]; exact altZ_succ k
        have hzz : z = 1 ∨ z = -1 := by rw [← hz]; exact altZ_one k
        have hneg : IntKind.i64.wrap (-z) = -z := IntWalk.i64_in _ (by omega)
        have hwf : (Lit.int .i64 (-z)).wf = true := by rcases hzz with rfl | rfl <;> decide
        have hnot : ¬ 9223372036854775807 < p.size + gx.size := by omega
        have hli : ((k : Int) < 4) := by omega
        rw [hz1] at hput
        rw [hp, hz]
        have HP := Lib.hid hput
        have HQ := Lib.hid hq
        have HQS := Lib.hid hqs
        have HWF := Lib.hid hwf
        have HZ1 := Lib.hid hz1
        have HUL := Lib.hid (show ((List.range (k + 1)).map (powT c)).length < maxLen by rw [List.length_map, List.length_range]; unfold maxLen; omega)
        clear hp hq hqs hput hz hz1 hzz hwf hps hgs
        go_wp2_with (first | (refine wpList_update_map _ rfl _ _ _ rfl mb ((List.range (k + 1)).map (powT c)) rfl HT.out HUL.out q (-z) rfl rfl HQS.out HWF.out ?_; intro v5 h5 hg5; simp only [Act.put]) | go_in)
        go_roundw
        case rel => exact ⟨k + 1, by omega, by rw [HQ.out], by rw [HZ1.out], by go_num, h5.perm HP.out, HB.out.grown hg5 HB.out.size (fun i ei => by cases ei; exact hmb)⟩
        case measure => simp [intOf]; omega
      · obtain rfl : k = 4 := by omega
        go_wp2
        go_ret
        refine ⟨mb, rfl, hmb, ?_, HB.out⟩
        rw [HLS.out]
        exact HT.out
end

end Go.Proofs.Ytfhlceggihodeaa

/- The contract of the program's 'told' (of a series). -/

namespace Go.Proofs.Ytfhlceggihodeaa
open Go.RowKit Go.Shelf Go.Maps Go.MapKept

set_option maxRecDepth 100000 in
set_option maxHeartbeats 2000000 in
theorem seriesTold_any (b : Nat) (ts : List Tm) (r : Bool) (w : World) (h : MapT w b ts) (hl : ts.length ≤ 1000) (hb : twS (canonT ts) = r) :
    Calls Try.prog 31 #[.map (some b)] w (ITold w r (canonT ts)) := by
  obtain ⟨i0, hi, hz0, hz1, hz2⟩ := info_parts infoTerm
  have hsm := h.small
  have hap := h.apart
  have hbl := h.lt
  have HSM := Lib.hid hsm
  have HAP := Lib.hid hap
  have HBB := Lib.hid hb
  have HL := Lib.hid hl
  clear hsm hap hb
  go_enter Try.func31, Try.ntmps31
  go_wp2_with (first | (at_range; refine wpList_range_map _ rfl _ rfl b ts rfl h ?_; intro w0 hrg0 hg0 hs0) | go_in)
  go_frame
  go_loopw [4] (fun v wr => ∃ (done : List Tm) (cnt : Nat), RangeT wr b w.heap.size ts done cnt ∧ Hid (OwnT w0.heap.size wr v (nzT2 done)) ∧ w0.heap.size ≤ wr.heap.size ∧ Below w.heap.size w wr)
    (fun _ wr => wr.rangeLeft b w.heap.size)
  case atStart => exact ⟨[], _, hrg0, Lib.hid ⟨rfl, .inl ⟨rfl, rfl⟩⟩, Nat.le_refl _, (Below.refl _ _).grown hg0 (Nat.le_refl _) (fun k e => by cases e)⟩
  case round =>
    obtain ⟨done, cnt, hrg, HO, hsz, hB⟩ := hrel
    have hlow0 := Lib.hid (ownsRow_low HO.out)
    have hcl := hrg.cnt
    have hdl := hrg.donelen
    have HRG := Lib.hid hrg
    go_wp2_with (first | (at_next; refine wpList_next_map _ rfl _ rfl b w.heap.size ts done cnt rfl HRG.out ?_ ?_) | go_in)
    · intro hperm
      have hsd : SmallT (nzT2 done) := ⟨by have := List.length_filter_le (fun t : Tm => !(t.c == 0)) done; unfold nzT2 maxLen; omega, fun t ht => HSM.out.2 t (hperm.mem_iff.1 (List.mem_filter.1 ht).1)⟩
      have hld : (nzT2 done).length ≤ 1000000 := by have := List.length_filter_le (fun t : Tm => !(t.c == 0)) done; unfold nzT2; omega
      obtain ⟨a1, c1, rfl, _⟩ := HO.out.isTerms hsd
      have HSO := Lib.hid (sortOwn_any w0.heap.size _ _ (nzT2 done) wr rfl hld hsz HO.out)
      have HPM := Lib.hid hperm
      have HSD := Lib.hid hsd
      clear hrg hperm hsd hld hlow0
      go_wp2_with fail
      refine HSO.out.mono ?_
      rintro e w2 ⟨rfl, ⟨ss, hp, hso, ho⟩, hb2⟩
      have hsc : ss = canonT ts := by
        rw [sorted_canon (HAP.out.perm HPM.out.symm) hp hso]
        exact canon_same fun k => coefAt_perm k HPM.out
      have hlen : ss.length = (nzT2 done).length := hp.length_eq
      have ho' : OwnT w0.heap.size w2 (.slice a1 (nzT2 done).length c1) ss := by unfold OwnT; rw [hlen]; exact ho
      have hss : SmallT ss := ⟨by rw [hlen]; exact HSD.out.1, fun t ht => HSD.out.2 t (hp.mem_iff.1 ht)⟩
      obtain ⟨a2, c2, e2, hI⟩ := ho'.isTerms hss
      injection e2 with ea en ec
      subst ea ec
      rw [en] at ho'
      have HI := Lib.hid hI
      have HO2 := Lib.hid ho'
      have hb2w : Below w.heap.size w w2 := hB.trans (hb2.mono (by have := hs0; omega))
      have HB2 := Lib.hid hb2w
      have hser : serB ss = r := by rw [hsc, serB_canon (canon_of ts)]; exact HBB.out
      have HSB := Lib.hid hser
      have HSC := Lib.hid hsc
      clear hp hso ho ho' hss hI hb2 hb2w hser hsc hlen
      go_wp2_with fail
      refine (iSeriesIn_is a1 c1 _ ss r w2 HI.out HSB.out).mono ?_
      rintro e w3 ⟨rfl, hb3⟩
      have HB3 := Lib.hid hb3
      clear hb3
      cases r
      · go_wp2
        go_ret2
        exact ⟨⟨_, rfl, ownNil _ _⟩, HB2.out.trans (HB3.out.mono HB2.out.size)⟩
      · go_wp2
        go_ret2
        refine ⟨⟨_, rfl, ?_⟩, HB2.out.trans (HB3.out.mono HB2.out.size)⟩
        rw [show cond true (canonT ts) [] = canonT ts from rfl, ← HSC.out]
        exact (HO2.out.below HB3.out).mono (by omega)
    · intro c s w1 cnt1 hmem hrg1 hlt hg1 hs1 hen
      have hB1 : Below w.heap.size w w1 := hB.grown hg1 hB.size (fun k e => by cases e; exact Nat.le_refl _)
      have ho1 : OwnT w0.heap.size w1 u4 (nzT2 done) := HO.out.kept hg1 (.inr fun e => by have := hlow0.out _ e; omega)
      have hsn := nzT2_snoc done c s
      have HO1 := Lib.hid ho1
      have HM := Lib.hid hmem
      have HR1 := Lib.hid hrg1
      have hl1 := hrg1.cnt
      clear hrg ho1 hmem hrg1 hg1
      by_cases hc0 : c = 0
      · rw [if_pos hc0] at hsn
        have hdc : (c == 0) = true := by simpa using hc0
        clear hc0
        have HSN := Lib.hid hsn
        clear hsn
        go_wp2
        go_roundw
        case rel => exact ⟨_, cnt1, HR1.out, Lib.hid (by rw [HSN.out]; exact HO1.out), by omega, hB1⟩
        case measure => rw [hl1, hcl]; exact hlt
      · rw [if_neg hc0] at hsn
        have hdc : (c == 0) = false := by simpa using hc0
        clear hc0
        have HSN := Lib.hid hsn
        clear hsn
        obtain ⟨N, hN⟩ : ∃ N, (nzT2 done).length = N := ⟨_, rfl⟩
        have hown : w1.ownsRow w0.heap.size TI 2 u4 N (termsV (nzT2 done)) := by rw [← hN]; exact HO1.out
        have HOW := Lib.hid hown
        have hNl : N ≤ 1000 := by have := List.length_filter_le (fun t : Tm => !(t.c == 0)) done; rw [← hN]; unfold nzT2; omega
        have HN := Lib.hid hN
        have hblt := hbl
        have hle01 : w0.heap.size ≤ w1.heap.size := by omega
        have HS1 := Lib.hid hs1
        clear hown hN HO1 hs1
        go_wp2_with (at_builtin; refine wpList_append_lies _ rfl _ _ _ rfl w0.heap.size TI i0 _ 2 24 Try.underlying44 hi hz0 hz1 hz2 rfl (by omega) u4 N (termsV (nzT2 done)) rfl (HOW.out.alloc _) ⟨w1.heap.size, 0, none⟩ 1 1 [.int .i64 c, .string s] rfl rfl (World.news_of_block (cs := #[.int .i64 c, .string s]) (t := TI) (fr := (0, 0)) (heap_alloc_new w1 _)) (by simp [Value.oneCell']) (by omega) (by unfold maxLen; omega) (by omega) (by simp; omega) (w1.heap.size + 1) (by simp) ?_; intro gg cap1 w7 hown7 hgrow7 hat hlt7)
        have hs1 := HS1.out
        have hlow := ownsRow_low HOW.out
        have hbA : Below w1.heap.size w1 (w1.alloc (.cells #[.int .i64 c, .string s] TI)) := (Below.refl _ w1).alloc (Nat.le_refl _) _
        have hR7 : RangeT w7 b w.heap.size ts (done ++ [⟨c, s⟩]) cnt1 := (HR1.out.kept (grown_of_below hbA) (by simp) (by simp)).kept hgrow7 (fun e => by have := hlow _ e.symm; omega) (fun e => by have := hlow _ e.symm; omega)
        have hB7 : Below w.heap.size w w7 := (hB1.trans (hbA.mono hB1.size)).grown hgrow7 (by simp; omega) (fun k e => by have := hlow _ e; omega)
        have hs7 : w0.heap.size ≤ w7.heap.size := by have := hgrow7.size; simp at this; omega
        have HO7 := Lib.hid hown7
        have HR7 := Lib.hid hR7
        have hl7 := hR7.cnt
        clear hown7 hgrow7 hat hlt7 hlow hbA hR7
        go_wp2
        go_roundw
        case rel =>
          refine ⟨_, cnt1, HR7.out, Lib.hid ?_, hs7, hB7⟩
          rw [HSN.out]
          unfold OwnT
          rw [List.length_append, HN.out, termsV_append]
          exact HO7.out
        case measure => rw [hl7, hcl]; exact hlt

end Go.Proofs.Ytfhlceggihodeaa

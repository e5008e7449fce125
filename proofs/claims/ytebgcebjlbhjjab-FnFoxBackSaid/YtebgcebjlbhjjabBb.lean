/- What the laws' proofs stand on, part 2 of 5. -/
import Derived.Maps.RangeWalk
import Derived.Maps.OwnOps
import Derived.Sort.KeysCollected
import Derived.StillTailTactics
import Derived.Laws.EntriesVeiled
import Derived.Laws.AppendOwnNone
import Derived.StillTail
import Derived.Lib.AppendZerosOnto
import Derived.Lib.SliceRun
import Derived.Test.YtebgcebjlbhjjabBa

/- Maps from texts to numbers, read as lists of terms whose texts are all different, in whatever order; looked up, written, ranged over, copied, cleared. -/

namespace Go.Proofs.Ytebgcebjlbhjjab
open Go.RowKit Go.Maps Go.ChangeMaps
open Go.WideMaps Go.WideShapes
open Go.WideElems (Fit rd rg rd_val rd_key rg_of)

abbrev SerT : TypeId := 106
abbrev MonT : TypeId := 118
abbrev NumT : TypeId := 3
theorem lawMon : Keyed Try.prog MonT := string_keyed Try.underlying118
theorem undSer : Try.prog.underlying SerT = some (.map MonT NumT) := Try.underlying106
theorem zeroNum (w : World) : (zeroValue NumT).run Try.prog w = .ok (.int .i64 0) w := by kernel_rfl
def lk (s : ByteArray) : Lit := .string s.data.toList
def tmOf (p : Lit × DataW Unit) : Tm := ⟨match p.2 with | .lit (.int _ a) => a | _ => 0, match p.1 with | .string l => bstr l | _ => { data := #[] }⟩
def Shape (p : Lit × DataW Unit) : Prop := ∃ (s : ByteArray) (c : Int), p = (lk s, .lit (.int .i64 c)) ∧ s.size ≤ maxLen ∧ (Lit.int .i64 c).wf = true
theorem tmOf_mk (s : ByteArray) (c : Int) : tmOf (lk s, .lit (.int .i64 c)) = ⟨c, s⟩ := by
  unfold tmOf lk
  simp only [bstr_of]
theorem wf64 {c : Int} (h : (Lit.int .i64 c).wf = true) : -9223372036854775808 ≤ c ∧ c ≤ 9223372036854775807 := by
  simp only [Lit.wf, Bool.and_eq_true, decide_eq_true_eq] at h
  have e1 : IntKind.i64.min = -9223372036854775808 := by decide
  have e2 : IntKind.i64.max = 9223372036854775807 := by decide
  omega
theorem lk_same (a b : ByteArray) : (lk a).sameKey (lk b) = decide (a = b) := by
  unfold lk
  simp only [Lit.sameKey]
  by_cases h : a = b
  · rw [h]; simp
  · have : a.data ≠ b.data := fun e => h (by cases a; cases b; exact congrArg _ e)
    simp [h, this]
theorem lk_inj {a b : ByteArray} (h : lk a = lk b) : a = b := by
  have := lk_same a b
  rw [h, WideAt.sameKey_self (by unfold lk; trivial)] at this
  exact of_decide_eq_true this.symm
theorem key_str {key : Value} {kl : Lit} (h : keyOf Try.prog MonT key = some kl) : ∃ s : ByteArray, key = .string s ∧ kl = lk s ∧ s.size ≤ maxLen := by
  obtain ⟨x, rfl, rfl, hx⟩ := Maps.keyOf_str Try.underlying118 h
  exact ⟨⟨x.toArray⟩, rfl, rfl, by simpa [ByteArray.size] using hx⟩
theorem key_mk {s : ByteArray} (h : s.size ≤ maxLen) : keyOf Try.prog MonT (.string s) = some (lk s) := keyOf_string_mk Try.underlying118 h

abbrev OwnsS (w : World) (b n : Nat) (D : DataW Unit) : Prop := w.ownsMap Try.prog MonT (plainElem Try.prog NumT) b n D
set_option maxRecDepth 100000 in
theorem owns_shape {w : World} {b n : Nat} {es : List (Lit × DataW Unit)} (h : OwnsS w b n (.map es)) : (∀ p ∈ es, Shape p) ∧ es.Pairwise (fun p q => p.1 ≠ q.1) ∧ es.length ≤ n ∧ es.length ≤ maxLen := by
  have hE := h.entries lawMon
  obtain ⟨es', clock, _, F, hs, hD⟩ := h
  injection hD with hD
  obtain ⟨es2, e2, hp, _⟩ := hE
  injection e2 with e2
  subst e2
  refine ⟨fun p hp => ?_, hp, ?_, ?_⟩
  · rw [hD] at hp
    obtain ⟨x, hx, rfl⟩ := List.mem_map.1 (mem_sorted.1 hp)
    obtain ⟨y, hy⟩ := F.reads x hx
    have er := rg_of hy
    rw [er]
    obtain ⟨s, _, hk, hs⟩ := key_str (rd_key hy)
    obtain ⟨z, hz, hzd⟩ := rd_val hy
    obtain ⟨c, _, rfl, hw⟩ := plainElem_int_inv Try.underlying3 hz
    exact ⟨s, c, Prod.ext hk hzd, hs, hw⟩
  · rw [hD, length_sorted]; simpa using hs
  · rw [hD, length_sorted]; simpa using F.size
theorem owns_tight {w : World} {b n : Nat} {es : List (Lit × DataW Unit)} (h : OwnsS w b n (.map es)) : OwnsS w b es.length (.map es) := by
  obtain ⟨es', clock, hb, F, hs, hD⟩ := h
  refine ⟨es', clock, hb, F, ?_, hD⟩
  injection hD with hD
  rw [hD, length_sorted]; simp

/-- Block b is a map with these entries, in whatever order. -/
def MapT (w : World) (b : Nat) (ts : List Tm) : Prop := ∃ es, OwnsS w b ts.length (.map es) ∧ (es.map tmOf).Perm ts
theorem MapT.lt {w : World} {b : Nat} {ts : List Tm} (h : MapT w b ts) : b < w.heap.size := by obtain ⟨es, h, _⟩ := h; exact World.ownsMap.lt h
theorem MapT.perm {w : World} {b : Nat} {ts us : List Tm} (h : MapT w b ts) (hp : ts.Perm us) : MapT w b us := by
  obtain ⟨es, h, hq⟩ := h
  exact ⟨es, hp.length_eq ▸ h, hq.trans hp⟩
theorem MapT.kept {w w' : World} {row : Option Nat} {b : Nat} {ts : List Tm} (h : MapT w b ts) (hg : w.grownBy w' row) (hne : some b ≠ row) : MapT w' b ts := by
  obtain ⟨es, h, hq⟩ := h
  exact ⟨es, World.ownsMap.kept h hg hne, hq⟩
theorem grown_of_below {w w' : World} (h : Below w.heap.size w w') : w.grownBy w' none := ⟨h.os, h.tape, h.output, h.size, fun k hk _ => h.block k hk⟩
theorem MapT.below {w w' : World} {b : Nat} {ts : List Tm} (h : MapT w b ts) (hb : Below w.heap.size w w') : MapT w' b ts := h.kept (grown_of_below hb) (by simp)
def Apart (ts : List Tm) : Prop := ts.Pairwise fun t u => t.s ≠ u.s
theorem apart_es {es : List (Lit × DataW Unit)} (hs : ∀ p ∈ es, Shape p) (hp : es.Pairwise (fun p q => p.1 ≠ q.1)) : Apart (es.map tmOf) := by
  unfold Apart
  rw [List.pairwise_map]
  refine hp.imp_of_mem fun {p q} hpm hqm hne => ?_
  obtain ⟨s, c, rfl, _⟩ := hs p hpm
  obtain ⟨s', c', rfl, _⟩ := hs q hqm
  rw [tmOf_mk, tmOf_mk]
  exact fun e => hne (by show lk s = lk s'; rw [show s = s' from e])
theorem Apart.perm {ts us : List Tm} (h : Apart ts) (hp : ts.Perm us) : Apart us := (hp.pairwise_iff (fun {_ _} hne => Ne.symm hne)).1 h
theorem MapT.apart {w : World} {b : Nat} {ts : List Tm} (h : MapT w b ts) : Apart ts := by
  obtain ⟨es, h, hq⟩ := h
  obtain ⟨hs, hp, _⟩ := owns_shape h
  exact (apart_es hs hp).perm hq
theorem MapT.small {w : World} {b : Nat} {ts : List Tm} (h : MapT w b ts) : ts.length ≤ maxLen ∧ ∀ t ∈ ts, t.s.size ≤ maxLen ∧ -9223372036854775808 ≤ t.c ∧ t.c ≤ 9223372036854775807 := by
  obtain ⟨es, h, hq⟩ := h
  obtain ⟨hs, hp, _, hl⟩ := owns_shape h
  refine ⟨by rw [← hq.length_eq]; simpa using hl, fun t ht => ?_⟩
  obtain ⟨p, hp, rfl⟩ := List.mem_map.1 (hq.mem_iff.2 ht)
  obtain ⟨s, c, rfl, h1, h2⟩ := hs p hp
  rw [tmOf_mk]
  exact ⟨h1, wf64 h2⟩
theorem apart_unique {ts : List Tm} (h : Apart ts) {t : Tm} (ht : t ∈ ts) : coefAt t.s ts = t.c := by
  induction ts with
  | nil => cases ht
  | cons u r ih =>
    obtain ⟨h1, h2⟩ := List.pairwise_cons.1 h
    unfold coefAt
    rcases List.mem_cons.1 ht with rfl | ht
    · rw [if_pos rfl, coefAt_none (fun v hv => Ne.symm (h1 v hv))]; omega
    · rw [if_neg (h1 t ht), ih h2 ht]; omega
theorem atKey_coef (s : ByteArray) : ∀ {es : List (Lit × DataW Unit)}, (∀ p ∈ es, Shape p) → es.Pairwise (fun p q => p.1 ≠ q.1) → (DataW.map es).atKey (lk s) (.lit (.int .i64 0)) = .lit (.int .i64 (coefAt s (es.map tmOf)))
  | [], _, _ => rfl
  | p :: r, hs, hp => by
    obtain ⟨s', c, rfl, _⟩ := hs p (by simp)
    obtain ⟨h1, h2⟩ := List.pairwise_cons.1 hp
    have ih := atKey_coef s (fun q hq => hs q (List.mem_cons_of_mem _ hq)) h2
    unfold DataW.atKey at ih ⊢
    rw [List.map_cons, tmOf_mk]
    unfold coefAt
    simp only [List.find?_cons, lk_same]
    by_cases he : s' = s
    · subst he
      simp only [decide_true, if_true]
      rw [coefAt_none (fun t ht => ?_), Int.add_zero]
      obtain ⟨q, hq, rfl⟩ := List.mem_map.1 ht
      have hne := h1 q hq
      obtain ⟨s2, c2, rfl, _⟩ := hs q (List.mem_cons_of_mem _ hq)
      rw [tmOf_mk]
      exact fun e => hne (by show lk s' = lk s2; rw [show s2 = s' from e])
    · simp only [he, decide_false, if_false, Int.zero_add]
      exact ih
theorem MapT.look {w : World} {b : Nat} {ts : List Tm} (h : MapT w b ts) : ∃ n D, OwnsS w b n D ∧ ∀ s, D.atKey (lk s) (.lit (.int .i64 0)) = .lit (.int .i64 (coefAt s ts)) := by
  obtain ⟨es, h, hq⟩ := h
  obtain ⟨hs, hp, _⟩ := owns_shape h
  exact ⟨_, _, h, fun s => by rw [atKey_coef s hs hp, coefAt_perm s hq]⟩
def putT (ts : List Tm) (s : ByteArray) (v : Int) : List Tm := ⟨v, s⟩ :: ts.filter fun t => !decide (t.s = s)
theorem filter_tm (s : ByteArray) : ∀ {es : List (Lit × DataW Unit)}, (∀ p ∈ es, Shape p) → (es.filter (notKey (lk s))).map tmOf = (es.map tmOf).filter fun t => !decide (t.s = s)
  | [], _ => rfl
  | p :: r, hs => by
    obtain ⟨s', c, rfl, _⟩ := hs p (by simp)
    have ih := filter_tm s (fun q hq => hs q (List.mem_cons_of_mem _ hq))
    rw [List.map_cons, tmOf_mk, List.filter_cons, List.filter_cons]
    have e : notKey (lk s) (lk s', (DataW.lit (.int .i64 c) : DataW Unit)) = !decide (s' = s) := by unfold notKey; rw [lk_same]
    rw [e]
    by_cases h : s' = s
    · simp only [h, decide_true, Bool.not_true, Bool.false_eq_true, if_false]; exact ih
    · simp only [h, decide_false, Bool.not_false, if_true, List.map_cons, tmOf_mk]; rw [ih]
theorem put_perm {es : List (Lit × DataW Unit)} {ts : List Tm} (hs : ∀ p ∈ es, Shape p) (hq : (es.map tmOf).Perm ts) (s : ByteArray) (v : Int) : ∃ es', (DataW.map es).put (lk s) (.lit (.int .i64 v)) = .map es' ∧ (es'.map tmOf).Perm (putT ts s v) := by
  refine ⟨_, DataW.put_eq _ _ _, ?_⟩
  unfold putKey
  refine ((insert_perm _ _).map tmOf).trans ?_
  rw [List.map_cons, tmOf_mk, filter_tm s hs]
  exact (hq.filter _).cons _
/-- A store is possible, and what it makes. -/
theorem MapT.store {w : World} {b : Nat} {ts : List Tm} (h : MapT w b ts) : ∃ D, OwnsS w b ts.length D ∧ ∀ s v w', OwnsS w' b (ts.length + 1) (D.put (lk s) (.lit (.int .i64 v))) → MapT w' b (putT ts s v) := by
  obtain ⟨es, h, hq⟩ := h
  obtain ⟨hs, hp, _⟩ := owns_shape h
  refine ⟨_, h, fun s v w' h' => ?_⟩
  obtain ⟨es', e, hp'⟩ := put_perm hs hq s v
  rw [e] at h'
  refine ⟨es', ?_, hp'⟩
  have := owns_tight h'
  rwa [show es'.length = (putT ts s v).length by rw [← hp'.length_eq, List.length_map]] at this
theorem coefAt_put (ts : List Tm) (s : ByteArray) (v : Int) (k : ByteArray) : coefAt k (putT ts s v) = if k = s then v else coefAt k ts := by
  unfold putT
  have hf : ∀ us : List Tm, coefAt k (us.filter fun t => !decide (t.s = s)) = if k = s then 0 else coefAt k us := by
    intro us
    induction us with
    | nil => simp [coefAt]
    | cons u r ih =>
      rw [List.filter_cons]
      by_cases hu : u.s = s
      · simp only [hu, decide_true, Bool.not_true, Bool.false_eq_true, if_false]
        rw [ih]
        by_cases hk : k = s
        · simp [hk]
        · simp only [hk, if_false]
          unfold coefAt
          rw [hu, if_neg (Ne.symm hk), Int.zero_add]
          cases r <;> rfl
      · simp only [hu, decide_false, Bool.not_false, if_true]
        have ec : ∀ x : List Tm, coefAt k (u :: x) = (if u.s = k then u.c else 0) + coefAt k x := fun x => rfl
        rw [ec, ec, ih]
        by_cases hk : k = s
        · rw [hk]; simp [hu]
        · simp [hk]
  have ec : ∀ (u : Tm) (x : List Tm), coefAt k (u :: x) = (if u.s = k then u.c else 0) + coefAt k x := fun _ _ => rfl
  rw [ec, hf]
  by_cases hk : k = s
  · simp [hk]
  · simp [hk, Ne.symm hk]
theorem mem_put {ts : List Tm} {s : ByteArray} {v : Int} {t : Tm} (h : t ∈ putT ts s v) : t = ⟨v, s⟩ ∨ t ∈ ts := by
  unfold putT at h
  rcases List.mem_cons.1 h with h | h
  · exact .inl h
  · exact .inr (List.mem_filter.1 h).1
theorem put_len (ts : List Tm) (s : ByteArray) (v : Int) : (putT ts s v).length ≤ ts.length + 1 := by
  unfold putT
  have := List.length_filter_le (fun t : Tm => !decide (t.s = s)) ts
  simp only [List.length_cons]; omega
theorem mapT_made (w : World) : MapT (w.alloc (.map #[] 0)) w.heap.size [] := ⟨[], World.ownsMap_made w _ _ _, .refl _⟩

/-! ### A range over a map under way -/
def RangeT (w : World) (b r : Nat) (ts done : List Tm) (cnt : Nat) : Prop :=
  ∃ es left, w.ranges Try.prog MonT (plainElem (H := Unit) Try.prog NumT) b r ts.length (.map es) left cnt ∧ (es.map tmOf).Perm ts ∧ done.Perm ((es.filter fun p => !left p.1).map tmOf)
theorem RangeT.map {w : World} {b r : Nat} {ts done : List Tm} {cnt : Nat} (h : RangeT w b r ts done cnt) : MapT w b ts := by
  obtain ⟨es, left, h, hq, _⟩ := h
  exact ⟨es, World.ranges.owns h, hq⟩
theorem RangeT.kept {w w' : World} {row : Option Nat} {b r : Nat} {ts done : List Tm} {cnt : Nat} (h : RangeT w b r ts done cnt) (hg : w.grownBy w' row) (hb : some b ≠ row) (hr : some r ≠ row) : RangeT w' b r ts done cnt := by
  obtain ⟨es, left, h, hq⟩ := h
  exact ⟨es, left, World.ranges.kept h hg hb hr, hq⟩
theorem RangeT.ne {w : World} {b r : Nat} {ts done : List Tm} {cnt : Nat} (h : RangeT w b r ts done cnt) : r ≠ b := by obtain ⟨es, left, h, _⟩ := h; exact World.ranges.ne h
theorem RangeT.lt {w : World} {b r : Nat} {ts done : List Tm} {cnt : Nat} (h : RangeT w b r ts done cnt) : r < w.heap.size := by obtain ⟨es, left, h, _⟩ := h; exact World.ranges.lt h
theorem RangeT.cnt {w : World} {b r : Nat} {ts done : List Tm} {cnt : Nat} (h : RangeT w b r ts done cnt) : w.rangeLeft b r = cnt := by obtain ⟨es, left, h, _⟩ := h; exact World.ranges.left_eq h
theorem RangeT.donelen {w : World} {b r : Nat} {ts done : List Tm} {cnt : Nat} (h : RangeT w b r ts done cnt) : done.length ≤ ts.length := by
  obtain ⟨es, left, _, hq, hd⟩ := h
  rw [hd.length_eq, List.length_map, ← hq.length_eq, List.length_map]
  exact List.length_filter_le _ _
theorem RangeT.sub {w : World} {b r : Nat} {ts done : List Tm} {cnt : Nat} (h : RangeT w b r ts done cnt) : ∀ t ∈ done, t ∈ ts := by
  obtain ⟨es, left, _, hq, hd⟩ := h
  intro t ht
  obtain ⟨p, hp, rfl⟩ := List.mem_map.1 (hd.mem_iff.1 ht)
  exact hq.mem_iff.1 (List.mem_map.2 ⟨p, (List.mem_filter.1 hp).1, rfl⟩)
theorem shape_key {p : Lit × DataW Unit} (h : Shape p) : WideAt.IsKeyLit p.1 := by obtain ⟨s, c, rfl, _⟩ := h; unfold lk; trivial
theorem filter_none {α : Type} {f : α → Bool} : ∀ {l : List α}, (∀ x ∈ l, f x = false) → l.filter f = []
  | [], _ => rfl
  | x :: r, h => by rw [List.filter_cons, h x (by simp)]; simp only [Bool.false_eq_true, if_false]; exact filter_none fun y hy => h y (List.mem_cons_of_mem _ hy)
theorem filter_every {α : Type} {f : α → Bool} : ∀ {l : List α}, (∀ x ∈ l, f x = true) → l.filter f = l
  | [], _ => rfl
  | x :: r, h => by rw [List.filter_cons, h x (by simp)]; simp only [if_true]; rw [filter_every fun y hy => h y (List.mem_cons_of_mem _ hy)]
theorem strike_perm {left : Lit → Bool} {p : Lit × DataW Unit} (hl : left p.1 = true) (hk : WideAt.IsKeyLit p.1) : ∀ {es : List (Lit × DataW Unit)}, es.Pairwise (fun p q => p.1 ≠ q.1) → p ∈ es →
    (es.filter fun q => !(left q.1 && !q.1.sameKey p.1)).Perm (es.filter (fun q => !left q.1) ++ [p])
  | [], _, h => by cases h
  | q :: r, hp, h => by
    obtain ⟨h1, h2⟩ := List.pairwise_cons.1 hp
    rw [List.filter_cons, List.filter_cons]
    rcases List.mem_cons.1 h with rfl | h
    · rw [WideAt.sameKey_self hk, hl]
      simp only [Bool.not_true, Bool.and_false, Bool.not_false, if_true, Bool.false_eq_true, if_false]
      have e : (r.filter fun q => !(left q.1 && !q.1.sameKey p.1)) = r.filter fun q => !left q.1 := by
        refine List.filter_congr fun q hq => ?_
        have : q.1.sameKey p.1 = false := by
          cases hs : q.1.sameKey p.1
          · rfl
          · exact absurd (WideAt.sameKey_eq hs).symm (h1 q hq)
        rw [this]; simp
      rw [e]
      exact (List.perm_append_comm (l₁ := [p])).trans (.refl _)
    · have : q.1.sameKey p.1 = false := by
        cases hs : q.1.sameKey p.1
        · rfl
        · exact absurd (WideAt.sameKey_eq hs) (h1 p h)
      rw [this]
      have ih := strike_perm hl hk h2 h
      simp only [Bool.not_false, Bool.and_true]
      cases left q.1
      · simp only [Bool.not_false, if_true]; exact ih.cons q
      · simp only [Bool.not_true, Bool.false_eq_true, if_false]; exact ih

section
variable {ops : Array Oper} {rest : List Oper} {o : Oper} {a : Act} {Q : Exit → Act → World → Prop}
theorem wpList_range_map (w : World) (hg : o.guard = none) (m : Operand) (hop : o.op = Op.range SerT m) (b : Nat) (ts : List Tm) (hm : a.eval m = .map (some b)) (h : MapT w b ts)
    (hK : ∀ w', RangeT w' b w.heap.size ts [] ts.length → w.grownBy w' none → w'.heap.size = w.heap.size + 1 → wpList Try.prog ops Q rest (a.put o.dst (.pointer (some ⟨w.heap.size, 0, none⟩))) w') :
    wpList Try.prog ops Q (o :: rest) a w := by
  obtain ⟨es, h, hq⟩ := h
  obtain ⟨hs, hp, _⟩ := owns_shape h
  refine wpList_range_own w hg m SerT hop MonT NumT lawMon undSer (plainElem Try.prog NumT) b ts.length (.map es) hm h fun w' hr hgr hsz => hK w' ⟨es, Maps.has (DataW.map es), ?_, hq, ?_⟩ hgr hsz
  · have e : Maps.size (DataW.map es) = ts.length := by rw [Maps.size_eq, ← hq.length_eq, List.length_map]
    rw [e] at hr; exact hr
  · rw [filter_none (fun p hp => ?_)]
    · exact .refl _
    · rw [Maps.has_eq, List.any_eq_true.2 ⟨p, hp, WideAt.sameKey_self (shape_key (hs p hp))⟩]; rfl
set_option maxRecDepth 100000 in
theorem wpList_next_map (w : World) (hg : o.guard = none) (it : Operand) (hop : o.op = Op.next it false) (b r : Nat) (ts done : List Tm) (cnt : Nat) (hit : a.eval it = .pointer (some ⟨r, 0, none⟩)) (h : RangeT w b r ts done cnt)
    (hDone : done.Perm ts → wpList Try.prog ops Q rest (a.put o.dst (.tuple #[.bool false])) w)
    (hMore : ∀ (c : Int) (s : ByteArray) (w' : World) (cnt' : Nat), (⟨c, s⟩ : Tm) ∈ ts → RangeT w' b r ts (done ++ [⟨c, s⟩]) cnt' → cnt' < cnt → w.grownBy w' (some r) → w'.heap.size = w.heap.size →
      (Instr.entry (.pointer (some ⟨r, 0, none⟩))).run Try.prog w' = .ok (.tuple #[.string s, .int .i64 c]) w' → wpList Try.prog ops Q rest (a.put o.dst (.tuple #[.bool true, .string s, .int .i64 c])) w') :
    wpList Try.prog ops Q (o :: rest) a w := by
  obtain ⟨es, left, h, hq, hd⟩ := h
  have hown := World.ranges.owns h
  obtain ⟨hs, hp, _⟩ := owns_shape hown
  have hex : ∀ kl, left kl = true → ∃ p ∈ es, p.1 = kl := by
    obtain ⟨es', clock, since, seen, c0, _, _, _, hD, _, _, _, _, hl2, _⟩ := id h
    injection hD with hD
    intro kl hkl
    obtain ⟨x, hx, e⟩ := hl2 kl hkl
    exact ⟨_, by rw [hD]; exact mem_sorted.2 (List.mem_map.2 ⟨x, hx, rfl⟩), e⟩
  refine wpList_next_ranges w hg it hop MonT lawMon (plainElem Try.prog NumT) Value.string (Value.int .i64) (fun key kl hk => by obtain ⟨s, rfl, _⟩ := key_str hk; exact ⟨s, rfl⟩)
    (fun v y hv => by obtain ⟨c, rfl, _⟩ := plainElem_int_inv Try.underlying3 hv; exact ⟨c, rfl⟩) b r ts.length (.map es) left cnt hit h (fun _ hl => hDone ?_) ?_
  · refine hd.trans ?_
    rw [filter_every (fun p _ => by rw [hl]; rfl)]
    exact hq
  · intro s c kl y w' cnt' hkey hlk hv hat hrg hlt hgr hsz hen
    obtain ⟨s', e', rfl, hsz'⟩ := key_str hkey
    injection e' with e'
    subst e'
    obtain ⟨c', e', rfl, hw⟩ := plainElem_int_inv Try.underlying3 hv
    injection e' with _ e'
    subst e'
    obtain ⟨p, hpm, hpk⟩ := hex _ hlk
    obtain ⟨s2, c2, rfl, _, _⟩ := hs p hpm
    obtain rfl := lk_inj hpk
    have hmem : (⟨c2, s2⟩ : Tm) ∈ es.map tmOf := List.mem_map.2 ⟨_, hpm, tmOf_mk s2 c2⟩
    have hc2 : c2 = c := by
      have h1 := atKey_coef s2 hs hp
      rw [hat] at h1
      injection h1 with h1
      injection h1 with _ h1
      have h2 := apart_unique (apart_es hs hp) hmem
      rw [h1]; exact h2.symm
    subst hc2
    refine hMore c2 s2 w' cnt' (hq.mem_iff.1 hmem) ⟨es, _, hrg, hq, ?_⟩ hlt hgr hsz hen
    have hst := (strike_perm (left := left) hlk (shape_key (hs _ hpm)) hp hpm).map tmOf
    rw [List.map_append, List.map_cons, List.map_nil, tmOf_mk] at hst
    exact ((hd.append_right _).trans hst.symm)
theorem wpList_lookup_map (w : World) (hg : o.guard = none) (m x : Operand) (hop : o.op = Op.lookup SerT m x false) (b : Nat) (ts : List Tm) (hm : a.eval m = .map (some b)) (h : MapT w b ts) (s : ByteArray) (hx : a.eval x = .string s) (hs : s.size ≤ maxLen)
    (hK : wpList Try.prog ops Q rest (a.put o.dst (.int .i64 (coefAt s ts))) w) : wpList Try.prog ops Q (o :: rest) a w := by
  obtain ⟨n, D, hown, hat⟩ := h.look
  refine wpList_lookup_own_int w hg m x SerT hop MonT NumT .i64 lawMon undSer Try.underlying3 (zeroNum w) b n D hm hown (.string s) (lk s) hx (key_mk hs) fun c hc _ => ?_
  rw [hat] at hc
  injection hc with hc
  injection hc with _ hc
  rw [← hc]; exact hK
theorem wpList_update_map (w : World) (hg : o.guard = none) (m x v : Operand) (hop : o.op = Op.mapUpdate SerT m x v) (b : Nat) (ts : List Tm) (hm : a.eval m = .map (some b)) (h : MapT w b ts) (hn : ts.length < maxLen) (s : ByteArray) (c : Int)
    (hx : a.eval x = .string s) (hv : a.eval v = .int .i64 c) (hs : s.size ≤ maxLen) (hc : (Lit.int .i64 c).wf = true)
    (hK : ∀ w', MapT w' b (putT ts s c) → w.grownBy w' (some b) → wpList Try.prog ops Q rest (a.put o.dst undef) w') : wpList Try.prog ops Q (o :: rest) a w := by
  obtain ⟨D, hown, hput⟩ := h.store
  exact wpList_mapUpdate_own w hg m x v SerT hop MonT NumT lawMon undSer (plainElem Try.prog NumT) b ts.length D hm hown hn (.string s) (.int .i64 c) (lk s) hx hv (key_mk hs) _ [] (plainElem_int Try.underlying3 hc) fun w' h' hgr => hK w' (hput s c w' h') hgr
end

end Go.Proofs.Ytebgcebjlbhjjab

/- The contract of the model's 'l2Add'. -/

namespace Go.Proofs.Ytebgcebjlbhjjab
open Go.RowKit Go.Shelf

theorem termsV_cells {w : World} {x : Addr} {ts : List Tm} (h : TermsAt w x ts) : ∀ j u, (termsV ts)[j]? = some u → w.cell? (x.add j) = some u := fun j u hu => by
  have hj : j < ts.length * 2 := by rw [← termsV_len]; exact (List.getElem?_eq_some_iff.1 hu).1
  have hg := termsV_get ts (j / 2) (by omega)
  have hc := h.2 (j / 2) (by omega)
  rcases Nat.mod_two_eq_zero_or_one j with e | e
  · have e2 : j / 2 * 2 = j := by omega
    rw [e2] at hg hc
    rw [hg.1] at hu; cases hu; exact hc.1
  · have e2 : j / 2 * 2 + 1 = j := by omega
    rw [e2] at hg hc
    rw [hg.2] at hu; cases hu; exact hc.2
theorem TermsAt.cells {w : World} {x : Addr} {ts : List Tm} (h : TermsAt w x ts) : ∀ j u, (termsV ts)[j]? = some u → w.cell? (x.add j) = some u := termsV_cells h
theorem TermsAt.takeAt {w : World} {x : Addr} {ts : List Tm} (h : TermsAt w x ts) (k : Nat) : TermsAt w x (ts.take k) :=
  ⟨h.1, fun i hi => by
    simp only [List.length_take] at hi
    rw [List.getElem_take]
    exact h.2 i (by omega)⟩
theorem TermsAt.dropAt {w : World} {g : Nat} {ts : List Tm} (h : TermsAt w ⟨g, 0, none⟩ ts) (k : Nat) : TermsAt w ⟨g, k * 2, none⟩ (ts.drop k) := by
  refine ⟨h.1, fun i hi => ?_⟩
  simp only [List.length_drop] at hi
  have ha : ∀ o j, (⟨g, o, none⟩ : Addr).add j = ⟨g, o + j, none⟩ := fun o j => by unfold Addr.add; split <;> simp_all
  have := h.2 (k + i) (by omega)
  rw [ha, ha] at this
  rw [ha, ha, List.getElem_drop, show k * 2 + i * 2 = 0 + (k + i) * 2 by omega, show k * 2 + (i * 2 + 1) = 0 + ((k + i) * 2 + 1) by omega]
  exact this
theorem oneCell_terms (ts : List Tm) : ∀ u ∈ termsV ts, u.oneCell' = true := by
  induction ts with
  | nil => intro u h; cases h
  | cons t r ih =>
    intro u h
    rw [termsV_cons] at h
    rcases List.mem_cons.1 h with rfl | h
    · rfl
    · rcases List.mem_cons.1 h with rfl | h
      · rfl
      · exact ih u h
theorem notNil {w : World} {base n : Nat} {e : TypeId} {size : Nat} {v : Value} {xs : List Value} (h : w.ownsRow base e size v n xs) (hn : v ≠ .slice none 0 0) : ∃ g cap, base ≤ g ∧ v = .slice (some ⟨g, 0, none⟩) n cap := by
  rcases h.2 with ⟨e, _⟩ | ⟨g, cap, cur, e, hb, _⟩
  · exact absurd e hn
  · exact ⟨g, cap, hb, e⟩
theorem cell_pair_new (w : World) (a b : Value) (t : TypeId) : ∀ j u, [a, b][j]? = some u → (w.alloc (.cells #[a, b] t)).cell? ((⟨w.heap.size, 0, none⟩ : Addr).add j) = some u := fun j u hu => by
  have ha : (⟨w.heap.size, 0, none⟩ : Addr).add j = ⟨w.heap.size, j, none⟩ := by unfold Addr.add; split <;> simp_all
  rw [ha, World.cell?_alloc_at _ _ _ _ rfl]
  match j, hu with
  | 0, hu => cases hu; rfl
  | 1, hu => cases hu; rfl
  | j + 2, hu => simp at hu

/-- A slice of the call's own that holds terms, not nil. -/
def OwnTerms (base : Nat) (w : World) (v : Value) (ts : List Tm) : Prop := ∃ g cap, v = .slice (some ⟨g, 0, none⟩) ts.length cap ∧ w.ownsRow base TI 2 v ts.length (termsV ts)
theorem addEnd {w w3 : World} {base g3 cap3 n m : Nat} {xs : List Value} {us : List Tm} (hB : Below base w w3) (h : w3.ownsRow base TI 2 (.slice (some ⟨g3, 0, none⟩) m cap3) m xs) (hm : m = us.length) (he : xs = termsV us) (hn : n = us.length) :
    (∃ v, Ending.returned (.slice (some ⟨g3, 0, none⟩) n cap3) = .returned v ∧ OwnTerms base w3 v us) ∧ Below base w w3 := by
  subst hm he hn
  exact ⟨⟨_, rfl, g3, cap3, rfl, h⟩, hB⟩

theorem addT_less : ∀ {ts : List Tm} {t : Tm} {k : Nat}, (∀ j (h : j < ts.length), j < k → lessW ts[j].s t.s = true) → k ≤ ts.length → addT ts t = ts.take k ++ addT (ts.drop k) t
  | _, _, 0, _, _ => by simp
  | [], _, k + 1, _, hk => by simp at hk
  | x :: r, t, k + 1, h, hk => by
    have h0 := h 0 (by simp) (by omega)
    have ih := addT_less (ts := r) (t := t) (k := k) (fun j hj hjk => by have := h (j + 1) (by simpa using hj) (by omega); simpa using this) (by simpa using hk)
    rw [List.take_succ_cons, List.drop_succ_cons, addT, if_pos (by simpa using h0), ih]
    rfl
theorem addT_end {ts : List Tm} {t : Tm} (h : ∀ j (h : j < ts.length), lessW ts[j].s t.s = true) : addT ts t = ts ++ nz t := by
  rw [addT_less (k := ts.length) (fun j hj _ => h j hj) (Nat.le_refl _), List.drop_length, List.take_length]
  rfl
theorem addT_at {ts : List Tm} {t u : Tm} {k : Nat} (hk : k < ts.length) (h : ∀ j (h : j < ts.length), j < k → lessW ts[j].s t.s = true) (hu : ts[k] = u) (hl : lessW u.s t.s = false) :
    addT ts t = ts.take k ++ (if u.s = t.s then nz ⟨t.c + u.c, t.s⟩ ++ ts.drop (k + 1) else nz t ++ ts.drop k) := by
  rw [addT_less h (Nat.le_of_lt hk), List.drop_eq_getElem_cons hk, hu, addT, if_neg (by rw [hl]; simp)]
theorem cat0 (a b : List Tm) : [] ++ termsV a ++ termsV b = termsV (a ++ ([] ++ b)) := by rw [List.nil_append, List.nil_append, termsV_append]
theorem cat1 (a b : List Tm) (c : Int) (s : ByteArray) : [] ++ termsV a ++ [.int .i64 c, .string s] ++ termsV b = termsV (a ++ ([⟨c, s⟩] ++ b)) := by rw [List.nil_append, termsV_append, termsV_append, List.append_assoc]; rfl
theorem cat2 (a b : List Tm) : termsV a ++ termsV b = termsV (a ++ ([] ++ b)) := cat0 a b
theorem cat3 (a b : List Tm) (c : Int) (s : ByteArray) : termsV a ++ .int .i64 c :: .string s :: termsV b = termsV (a ++ ([⟨c, s⟩] ++ b)) := by rw [termsV_append, termsV_append]; rfl
theorem lenCat0 (ts : List Tm) (k j : Nat) (hk : k ≤ ts.length) : (ts.take k ++ ([] ++ ts.drop j)).length = k + (ts.length - j) := by
  rw [List.length_append, List.nil_append, List.length_take, List.length_drop, Nat.min_eq_left hk]
theorem lenCat1 (ts : List Tm) (k j : Nat) (x : Tm) (hk : k ≤ ts.length) : (ts.take k ++ ([x] ++ ts.drop j)).length = k + (1 + (ts.length - j)) := by
  rw [List.length_append, List.length_append, List.length_take, List.length_drop, Nat.min_eq_left hk]; rfl
theorem len_nz0 {t : Tm} (h : t.c = 0) : nz t = [] := if_pos h
theorem len_nz1 {t : Tm} (h : t.c ≠ 0) : nz t = [t] := if_neg h

set_option maxRecDepth 100000 in
set_option maxHeartbeats 8000000 in
theorem l2Add_any (g cap n : Nat) (ts : List Tm) (c : Int) (s : ByteArray) (w : World) (hlen : ts.length = n) (hn : n ≤ 200000) (hx : TermsAt w ⟨g, 0, none⟩ ts) (hcap : n ≤ cap) (hcm : cap ≤ maxLen)
    (hc1 : -4000000000000000000 ≤ c) (hc2 : c ≤ 4000000000000000000) (hts : ∀ t ∈ ts, -4000000000000000000 ≤ t.c ∧ t.c ≤ 4000000000000000000) :
    Calls Try.prog 62 #[.slice (some ⟨g, 0, none⟩) n cap, .int .i64 c, .string s] w fun e w' => (∃ v, e = .returned v ∧ OwnTerms w.heap.size w' v (addT ts ⟨c, s⟩)) ∧ Below w.heap.size w w' := by
  obtain ⟨i0, hi, hz0, hz1, hz2⟩ := info_parts infoTerm
  have HN := Lib.hid hlen
  have HX := Lib.hid hx
  have HTs := Lib.hid hts
  have hmade := World.ownsRow_made (base := w.heap.size) (e := TI) (size := 2) w #[] 0 (Nat.le_refl _) (Nat.zero_le _) rfl
  have HLt : Hid (∀ k, k ≤ n → (termsV (ts.take k)).length = k * 2) := Lib.hid (fun k hk => by rw [termsV_len, List.length_take, Nat.min_eq_left (by omega)])
  have HCt : Hid (∀ k j u, (termsV (ts.take k))[j]? = some u → (w.alloc (.cells #[] TI)).cell? ((⟨g, 0, none⟩ : Addr).add j) = some u) := Lib.hid (fun k j u hu => by
    have h := ((hx.takeAt k).cells j u hu)
    exact (World.cell?_alloc_lt _ _ _ (World.block_lt_of_cell? _ _ h)).trans h)
  clear hlen hx hts
  unfold maxLen at hcm
  go_enter Try.func62, Try.ntmps62
  go_wp2
  go_loop [7] (fun i => ∃ k : Nat, k ≤ n ∧ i = .int .i64 k ∧ Hid (∀ j (h : j < ts.length), j < k → lessW ts[j].s s = true)) (fun i => n - (intOf i).toNat)
  case atStart => exact ⟨0, Nat.zero_le _, rfl, Lib.hid (fun j _ h => absurd h (Nat.not_lt_zero _))⟩
  case round =>
    obtain ⟨k, hk, rfl, HJ⟩ := hrel
    by_cases hlt : k < n
    · have hkz : k < ts.length := by rw [HN.out]; exact hlt
      obtain ⟨t, ht⟩ : ∃ t, ts[k] = t := ⟨_, rfl⟩
      have hcc := HTs.out t (by rw [← ht]; exact List.getElem_mem hkz)
      obtain ⟨hc3, hc4⟩ := hcc
      have ha : ∀ j, (⟨g, 0, none⟩ : Addr).add j = ⟨g, j, none⟩ := fun j => by unfold Addr.add; split <;> simp_all
      have hcl := HX.out.2 k hkz
      rw [ht, ha, ha] at hcl
      obtain ⟨q0, q1⟩ := hcl
      have HT := Lib.hid ht
      clear ht ha
      cases hl : lessW t.s s with
      | true =>
        have HL := Lib.hid hl
        clear hl
        go_wp2_with fail
        refine (l2Less_any _ _ _).mono ?_
        rintro e w' ⟨rfl, rfl⟩
        have hll := HL.out
        rw [hll]
        clear hll
        go_wp2
        go_round
        case rel =>
          refine ⟨k + 1, by omega, by go_num, Lib.hid ?_⟩
          intro j hj hjk
          by_cases e : j = k
          · subst e; rw [HT.out]; exact HL.out
          · exact HJ.out j hj (by omega)
        case measure => simp [intOf]; omega
      | false =>
        have HL := Lib.hid hl
        have hck : ¬ cap = k := by omega
        clear hl
        have HA := Lib.hid (fun c' => addT_at (t := ⟨c', s⟩) hkz HJ.out HT.out HL.out)
        by_cases hts : t.s = s
        · have HS := Lib.hid hts
          have hst : (t.s.toList == s.toList) = true := by rw [hts]; simp
          clear hts
          obtain ⟨z, hz⟩ : ∃ z, c + t.c = z := ⟨_, rfl⟩
          have hwz : IntKind.i64.wrap (c + t.c) = z := by rw [IntWalk.i64_in _ (by omega)]; exact hz
          have HZ := Lib.hid hz
          clear hz
          by_cases hz0 : z = 0
          · have HZ0 := Lib.hid hz0
            have hzb : (z != 0) = false := by rw [hz0]; rfl
            clear hz0
            by_cases hck1 : cap = k + 1
            · obtain rfl : n = k + 1 := by omega
              subst hck1
              go_wp2_with fail
              refine (l2Less_any _ _ _).mono ?_
              rintro e w' ⟨rfl, rfl⟩
              have hll := HL.out
              rw [hll]
              clear hll

              go_wp2_with (at_builtin; refine wpList_append_own _ rfl _ _ 25 rfl w.heap.size TI i0 (.agg #[.int .i64 0, .string ByteArray.empty]) 2 24 Try.underlying25 hi hz0 hz1 hz2 rfl (by decide) _ _ _ rfl hmade ⟨g, 0, none⟩ k (k + 1) (termsV (ts.take k)) rfl (HLt.out k (by omega)) (HCt.out k) (oneCell_terms _) (by unfold maxLen; omega) (by omega) (by simp) ?_)
              intro v1 w1 hown1 hgrow1 hnil1
              obtain ⟨g1, cap1, hg1b, rfl⟩ := notNil hown1 hnil1
              have hB1 : Below w.heap.size w w1 := ((Below.refl _ w).alloc (Nat.le_refl _) _).grown hgrow1 (by simp) (fun j ej => by cases ej; exact Nat.le_refl _)
              have HX1 := Lib.hid (HX.out.below hB1)
              have HO1 := Lib.hid hown1
              clear hown1 hgrow1 hnil1

              have r0 := (hB1.cell (p := ⟨g, k * 2, none⟩) HX.out.1).trans q0
              have r1 := (hB1.cell (p := ⟨g, k * 2 + 1, none⟩) HX.out.1).trans q1

              go_wp2_with (at_builtin; refine wpList_append_own _ rfl _ _ 25 rfl w.heap.size TI i0 (.agg #[.int .i64 0, .string ByteArray.empty]) 2 24 Try.underlying25 hi hz0 hz1 hz2 rfl (by decide) _ _ _ rfl HO1.out ⟨g, 0, none⟩ (0) _ (termsV (ts.drop (k + 1))) rfl (by rw [List.drop_of_length_le (by rw [HN.out]; omega)]; show 0 = _; omega) (fun j u h => by rw [List.drop_of_length_le (by rw [HN.out]; omega)] at h; simp [termsV] at h) (oneCell_terms _) (by unfold maxLen; omega) (by omega) hB1.size ?_)
              intro v3 w3 hown3 hgrow3 hnil3
              obtain ⟨g3, cap3, hg3b, rfl⟩ := notNil hown3 hnil3
              have hB3 : Below w.heap.size w w3 := hB1.grown hgrow3 hB1.size (fun j ej => by cases ej; exact hg1b)
              have HO3 := Lib.hid hown3
              clear hown3 hgrow3 hnil3
              go_wp2
              go_ret

              have e1 : addT ts ⟨c, s⟩ = ts.take k ++ ([] ++ ts.drop (k + 1)) := by rw [HA.out c, if_pos HS.out]; show _ ++ (nz ⟨c + t.c, s⟩ ++ _) = _; rw [HZ.out, len_nz0 HZ0.out]
              exact addEnd (us := addT ts ⟨c, s⟩) hB3 HO3.out (by rw [e1]; have h := lenCat0 ts k (k + 1) (by rw [HN.out]; omega); rw [HN.out] at h; omega) (by rw [e1]; first | exact cat0 _ _ | exact cat2 _ _) (by rw [e1]; have h := lenCat0 ts k (k + 1) (by rw [HN.out]; omega); rw [HN.out] at h; omega)
            · have hkn : k + 1 ≤ n := by omega
              go_wp2_with fail
              refine (l2Less_any _ _ _).mono ?_
              rintro e w' ⟨rfl, rfl⟩
              have hll := HL.out
              rw [hll]
              clear hll

              go_wp2_with (at_builtin; refine wpList_append_own _ rfl _ _ 25 rfl w.heap.size TI i0 (.agg #[.int .i64 0, .string ByteArray.empty]) 2 24 Try.underlying25 hi hz0 hz1 hz2 rfl (by decide) _ _ _ rfl hmade ⟨g, 0, none⟩ k cap (termsV (ts.take k)) rfl (HLt.out k (by omega)) (HCt.out k) (oneCell_terms _) (by unfold maxLen; omega) (by omega) (by simp) ?_)
              intro v1 w1 hown1 hgrow1 hnil1
              obtain ⟨g1, cap1, hg1b, rfl⟩ := notNil hown1 hnil1
              have hB1 : Below w.heap.size w w1 := ((Below.refl _ w).alloc (Nat.le_refl _) _).grown hgrow1 (by simp) (fun j ej => by cases ej; exact Nat.le_refl _)
              have HX1 := Lib.hid (HX.out.below hB1)
              have HO1 := Lib.hid hown1
              clear hown1 hgrow1 hnil1

              have r0 := (hB1.cell (p := ⟨g, k * 2, none⟩) HX.out.1).trans q0
              have r1 := (hB1.cell (p := ⟨g, k * 2 + 1, none⟩) HX.out.1).trans q1

              go_wp2_with (at_builtin; refine wpList_append_own _ rfl _ _ 25 rfl w.heap.size TI i0 (.agg #[.int .i64 0, .string ByteArray.empty]) 2 24 Try.underlying25 hi hz0 hz1 hz2 rfl (by decide) _ _ _ rfl HO1.out ⟨g, (k + 1) * 2, none⟩ (n - (k + 1)) _ (termsV (ts.drop (k + 1))) rfl (by rw [termsV_len, List.length_drop, HN.out]; first | done | omega) ((HX1.out.dropAt (k + 1)).cells) (oneCell_terms _) (by unfold maxLen; omega) (by omega) hB1.size ?_)
              intro v3 w3 hown3 hgrow3 hnil3
              obtain ⟨g3, cap3, hg3b, rfl⟩ := notNil hown3 hnil3
              have hB3 : Below w.heap.size w w3 := hB1.grown hgrow3 hB1.size (fun j ej => by cases ej; exact hg1b)
              have HO3 := Lib.hid hown3
              clear hown3 hgrow3 hnil3
              go_wp2
              go_ret

              have e1 : addT ts ⟨c, s⟩ = ts.take k ++ ([] ++ ts.drop (k + 1)) := by rw [HA.out c, if_pos HS.out]; show _ ++ (nz ⟨c + t.c, s⟩ ++ _) = _; rw [HZ.out, len_nz0 HZ0.out]
              exact addEnd (us := addT ts ⟨c, s⟩) hB3 HO3.out (by rw [e1]; have h := lenCat0 ts k (k + 1) (by rw [HN.out]; omega); rw [HN.out] at h; omega) (by rw [e1]; first | exact cat0 _ _ | exact cat2 _ _) (by rw [e1]; have h := lenCat0 ts k (k + 1) (by rw [HN.out]; omega); rw [HN.out] at h; omega)
          · have HZ0 := Lib.hid hz0
            have hzb : (z != 0) = true := by simpa using hz0
            clear hz0
            by_cases hck1 : cap = k + 1
            · obtain rfl : n = k + 1 := by omega
              subst hck1
              go_wp2_with fail
              refine (l2Less_any _ _ _).mono ?_
              rintro e w' ⟨rfl, rfl⟩
              have hll := HL.out
              rw [hll]
              clear hll

              go_wp2_with (at_builtin; refine wpList_append_own _ rfl _ _ 25 rfl w.heap.size TI i0 (.agg #[.int .i64 0, .string ByteArray.empty]) 2 24 Try.underlying25 hi hz0 hz1 hz2 rfl (by decide) _ _ _ rfl hmade ⟨g, 0, none⟩ k (k + 1) (termsV (ts.take k)) rfl (HLt.out k (by omega)) (HCt.out k) (oneCell_terms _) (by unfold maxLen; omega) (by omega) (by simp) ?_)
              intro v1 w1 hown1 hgrow1 hnil1
              obtain ⟨g1, cap1, hg1b, rfl⟩ := notNil hown1 hnil1
              have hB1 : Below w.heap.size w w1 := ((Below.refl _ w).alloc (Nat.le_refl _) _).grown hgrow1 (by simp) (fun j ej => by cases ej; exact Nat.le_refl _)
              have HX1 := Lib.hid (HX.out.below hB1)
              have HO1 := Lib.hid hown1
              clear hown1 hgrow1 hnil1

              have r0 := (hB1.cell (p := ⟨g, k * 2, none⟩) HX.out.1).trans q0
              have r1 := (hB1.cell (p := ⟨g, k * 2 + 1, none⟩) HX.out.1).trans q1

              go_wp2_with (at_builtin; refine wpList_append_own _ rfl _ _ 25 rfl w.heap.size TI i0 (.agg #[.int .i64 0, .string ByteArray.empty]) 2 24 Try.underlying25 hi hz0 hz1 hz2 rfl (by decide) _ _ _ rfl (HO1.out.alloc _) ⟨w1.heap.size, 0, none⟩ 1 1 [.int .i64 z, .string s] rfl rfl (cell_pair_new _ _ _ _) (fun u hu => by simp at hu; rcases hu with rfl | rfl <;> rfl) (by unfold maxLen; omega) (by omega) (by have := hB1.size; simp; omega) ?_)
              intro v2 w2 hown2 hgrow2 hnil2
              obtain ⟨g2, cap2, hg2b, rfl⟩ := notNil hown2 hnil2
              have hB2 : Below w.heap.size w w2 := (hB1.alloc hB1.size _).grown hgrow2 (by have := hB1.size; simp; omega) (fun j ej => by cases ej; exact hg1b)
              have HX2 := Lib.hid (HX.out.below hB2)
              have HO2 := Lib.hid hown2
              clear hown2 hgrow2 hnil2

              go_wp2_with (at_builtin; refine wpList_append_own _ rfl _ _ 25 rfl w.heap.size TI i0 (.agg #[.int .i64 0, .string ByteArray.empty]) 2 24 Try.underlying25 hi hz0 hz1 hz2 rfl (by decide) _ _ _ rfl HO2.out ⟨g, 0, none⟩ (0) _ (termsV (ts.drop (k + 1))) rfl (by rw [List.drop_of_length_le (by rw [HN.out]; omega)]; show 0 = _; omega) (fun j u h => by rw [List.drop_of_length_le (by rw [HN.out]; omega)] at h; simp [termsV] at h) (oneCell_terms _) (by unfold maxLen; omega) (by omega) hB2.size ?_)
              intro v3 w3 hown3 hgrow3 hnil3
              obtain ⟨g3, cap3, hg3b, rfl⟩ := notNil hown3 hnil3
              have hB3 : Below w.heap.size w w3 := hB2.grown hgrow3 hB2.size (fun j ej => by cases ej; exact hg2b)
              have HO3 := Lib.hid hown3
              clear hown3 hgrow3 hnil3
              go_wp2
              go_ret

              have e1 : addT ts ⟨c, s⟩ = ts.take k ++ ([⟨z, s⟩] ++ ts.drop (k + 1)) := by rw [HA.out c, if_pos HS.out]; show _ ++ (nz ⟨c + t.c, s⟩ ++ _) = _; rw [HZ.out, len_nz1 HZ0.out]
              exact addEnd (us := addT ts ⟨c, s⟩) hB3 HO3.out (by rw [e1]; have h := lenCat1 ts k (k + 1) ⟨z, s⟩ (by rw [HN.out]; omega); rw [HN.out] at h; omega) (by rw [e1]; first | exact cat1 _ _ _ _ | exact cat3 _ _ _ _) (by rw [e1]; have h := lenCat1 ts k (k + 1) ⟨z, s⟩ (by rw [HN.out]; omega); rw [HN.out] at h; omega)
            · have hkn : k + 1 ≤ n := by omega
              go_wp2_with fail
              refine (l2Less_any _ _ _).mono ?_
              rintro e w' ⟨rfl, rfl⟩
              have hll := HL.out
              rw [hll]
              clear hll

              go_wp2_with (at_builtin; refine wpList_append_own _ rfl _ _ 25 rfl w.heap.size TI i0 (.agg #[.int .i64 0, .string ByteArray.empty]) 2 24 Try.underlying25 hi hz0 hz1 hz2 rfl (by decide) _ _ _ rfl hmade ⟨g, 0, none⟩ k cap (termsV (ts.take k)) rfl (HLt.out k (by omega)) (HCt.out k) (oneCell_terms _) (by unfold maxLen; omega) (by omega) (by simp) ?_)
              intro v1 w1 hown1 hgrow1 hnil1
              obtain ⟨g1, cap1, hg1b, rfl⟩ := notNil hown1 hnil1
              have hB1 : Below w.heap.size w w1 := ((Below.refl _ w).alloc (Nat.le_refl _) _).grown hgrow1 (by simp) (fun j ej => by cases ej; exact Nat.le_refl _)
              have HX1 := Lib.hid (HX.out.below hB1)
              have HO1 := Lib.hid hown1
              clear hown1 hgrow1 hnil1

              have r0 := (hB1.cell (p := ⟨g, k * 2, none⟩) HX.out.1).trans q0
              have r1 := (hB1.cell (p := ⟨g, k * 2 + 1, none⟩) HX.out.1).trans q1

              go_wp2_with (at_builtin; refine wpList_append_own _ rfl _ _ 25 rfl w.heap.size TI i0 (.agg #[.int .i64 0, .string ByteArray.empty]) 2 24 Try.underlying25 hi hz0 hz1 hz2 rfl (by decide) _ _ _ rfl (HO1.out.alloc _) ⟨w1.heap.size, 0, none⟩ 1 1 [.int .i64 z, .string s] rfl rfl (cell_pair_new _ _ _ _) (fun u hu => by simp at hu; rcases hu with rfl | rfl <;> rfl) (by unfold maxLen; omega) (by omega) (by have := hB1.size; simp; omega) ?_)
              intro v2 w2 hown2 hgrow2 hnil2
              obtain ⟨g2, cap2, hg2b, rfl⟩ := notNil hown2 hnil2
              have hB2 : Below w.heap.size w w2 := (hB1.alloc hB1.size _).grown hgrow2 (by have := hB1.size; simp; omega) (fun j ej => by cases ej; exact hg1b)
              have HX2 := Lib.hid (HX.out.below hB2)
              have HO2 := Lib.hid hown2
              clear hown2 hgrow2 hnil2

              go_wp2_with (at_builtin; refine wpList_append_own _ rfl _ _ 25 rfl w.heap.size TI i0 (.agg #[.int .i64 0, .string ByteArray.empty]) 2 24 Try.underlying25 hi hz0 hz1 hz2 rfl (by decide) _ _ _ rfl HO2.out ⟨g, (k + 1) * 2, none⟩ (n - (k + 1)) _ (termsV (ts.drop (k + 1))) rfl (by rw [termsV_len, List.length_drop, HN.out]; first | done | omega) ((HX2.out.dropAt (k + 1)).cells) (oneCell_terms _) (by unfold maxLen; omega) (by omega) hB2.size ?_)
              intro v3 w3 hown3 hgrow3 hnil3
              obtain ⟨g3, cap3, hg3b, rfl⟩ := notNil hown3 hnil3
              have hB3 : Below w.heap.size w w3 := hB2.grown hgrow3 hB2.size (fun j ej => by cases ej; exact hg2b)
              have HO3 := Lib.hid hown3
              clear hown3 hgrow3 hnil3
              go_wp2
              go_ret

              have e1 : addT ts ⟨c, s⟩ = ts.take k ++ ([⟨z, s⟩] ++ ts.drop (k + 1)) := by rw [HA.out c, if_pos HS.out]; show _ ++ (nz ⟨c + t.c, s⟩ ++ _) = _; rw [HZ.out, len_nz1 HZ0.out]
              exact addEnd (us := addT ts ⟨c, s⟩) hB3 HO3.out (by rw [e1]; have h := lenCat1 ts k (k + 1) ⟨z, s⟩ (by rw [HN.out]; omega); rw [HN.out] at h; omega) (by rw [e1]; first | exact cat1 _ _ _ _ | exact cat3 _ _ _ _) (by rw [e1]; have h := lenCat1 ts k (k + 1) ⟨z, s⟩ (by rw [HN.out]; omega); rw [HN.out] at h; omega)
        · have HS := Lib.hid hts
          have hst : (t.s.toList == s.toList) = false := by
            rw [beq_eq_false_iff_ne]; exact fun e => HS.out (bytes_ext2 e)
          clear hts
          by_cases hz0 : c = 0
          · have HZ0 := Lib.hid hz0
            have hzb : (c != 0) = false := by rw [hz0]; rfl
            clear hz0
            go_wp2_with fail
            refine (l2Less_any _ _ _).mono ?_
            rintro e w' ⟨rfl, rfl⟩
            have hll := HL.out
            rw [hll]
            clear hll

            go_wp2_with (at_builtin; refine wpList_append_own _ rfl _ _ 25 rfl w.heap.size TI i0 (.agg #[.int .i64 0, .string ByteArray.empty]) 2 24 Try.underlying25 hi hz0 hz1 hz2 rfl (by decide) _ _ _ rfl hmade ⟨g, 0, none⟩ k cap (termsV (ts.take k)) rfl (HLt.out k (by omega)) (HCt.out k) (oneCell_terms _) (by unfold maxLen; omega) (by omega) (by simp) ?_)
            intro v1 w1 hown1 hgrow1 hnil1
            obtain ⟨g1, cap1, hg1b, rfl⟩ := notNil hown1 hnil1
            have hB1 : Below w.heap.size w w1 := ((Below.refl _ w).alloc (Nat.le_refl _) _).grown hgrow1 (by simp) (fun j ej => by cases ej; exact Nat.le_refl _)
            have HX1 := Lib.hid (HX.out.below hB1)
            have HO1 := Lib.hid hown1
            clear hown1 hgrow1 hnil1

            have r0 := (hB1.cell (p := ⟨g, k * 2, none⟩) HX.out.1).trans q0
            have r1 := (hB1.cell (p := ⟨g, k * 2 + 1, none⟩) HX.out.1).trans q1

            go_wp2_with (at_builtin; refine wpList_append_own _ rfl _ _ 25 rfl w.heap.size TI i0 (.agg #[.int .i64 0, .string ByteArray.empty]) 2 24 Try.underlying25 hi hz0 hz1 hz2 rfl (by decide) _ _ _ rfl HO1.out ⟨g, (k) * 2, none⟩ (n - (k)) _ (termsV (ts.drop (k))) rfl (by rw [termsV_len, List.length_drop, HN.out]; first | done | omega) ((HX1.out.dropAt (k)).cells) (oneCell_terms _) (by unfold maxLen; omega) (by omega) hB1.size ?_)
            intro v3 w3 hown3 hgrow3 hnil3
            obtain ⟨g3, cap3, hg3b, rfl⟩ := notNil hown3 hnil3
            have hB3 : Below w.heap.size w w3 := hB1.grown hgrow3 hB1.size (fun j ej => by cases ej; exact hg1b)
            have HO3 := Lib.hid hown3
            clear hown3 hgrow3 hnil3
            go_wp2
            go_ret

            have e1 : addT ts ⟨c, s⟩ = ts.take k ++ ([] ++ ts.drop k) := by rw [HA.out c, if_neg HS.out, len_nz0 HZ0.out]
            exact addEnd (us := addT ts ⟨c, s⟩) hB3 HO3.out (by rw [e1]; have h := lenCat0 ts k (k) (by rw [HN.out]; omega); rw [HN.out] at h; omega) (by rw [e1]; first | exact cat0 _ _ | exact cat2 _ _) (by rw [e1]; have h := lenCat0 ts k (k) (by rw [HN.out]; omega); rw [HN.out] at h; omega)
          · have HZ0 := Lib.hid hz0
            have hzb : (c != 0) = true := by simpa using hz0
            clear hz0
            go_wp2_with fail
            refine (l2Less_any _ _ _).mono ?_
            rintro e w' ⟨rfl, rfl⟩
            have hll := HL.out
            rw [hll]
            clear hll

            go_wp2_with (at_builtin; refine wpList_append_own _ rfl _ _ 25 rfl w.heap.size TI i0 (.agg #[.int .i64 0, .string ByteArray.empty]) 2 24 Try.underlying25 hi hz0 hz1 hz2 rfl (by decide) _ _ _ rfl hmade ⟨g, 0, none⟩ k cap (termsV (ts.take k)) rfl (HLt.out k (by omega)) (HCt.out k) (oneCell_terms _) (by unfold maxLen; omega) (by omega) (by simp) ?_)
            intro v1 w1 hown1 hgrow1 hnil1
            obtain ⟨g1, cap1, hg1b, rfl⟩ := notNil hown1 hnil1
            have hB1 : Below w.heap.size w w1 := ((Below.refl _ w).alloc (Nat.le_refl _) _).grown hgrow1 (by simp) (fun j ej => by cases ej; exact Nat.le_refl _)
            have HX1 := Lib.hid (HX.out.below hB1)
            have HO1 := Lib.hid hown1
            clear hown1 hgrow1 hnil1

            have r0 := (hB1.cell (p := ⟨g, k * 2, none⟩) HX.out.1).trans q0
            have r1 := (hB1.cell (p := ⟨g, k * 2 + 1, none⟩) HX.out.1).trans q1

            go_wp2_with (at_builtin; refine wpList_append_own _ rfl _ _ 25 rfl w.heap.size TI i0 (.agg #[.int .i64 0, .string ByteArray.empty]) 2 24 Try.underlying25 hi hz0 hz1 hz2 rfl (by decide) _ _ _ rfl (HO1.out.alloc _) ⟨w1.heap.size, 0, none⟩ 1 1 [.int .i64 c, .string s] rfl rfl (cell_pair_new _ _ _ _) (fun u hu => by simp at hu; rcases hu with rfl | rfl <;> rfl) (by unfold maxLen; omega) (by omega) (by have := hB1.size; simp; omega) ?_)
            intro v2 w2 hown2 hgrow2 hnil2
            obtain ⟨g2, cap2, hg2b, rfl⟩ := notNil hown2 hnil2
            have hB2 : Below w.heap.size w w2 := (hB1.alloc hB1.size _).grown hgrow2 (by have := hB1.size; simp; omega) (fun j ej => by cases ej; exact hg1b)
            have HX2 := Lib.hid (HX.out.below hB2)
            have HO2 := Lib.hid hown2
            clear hown2 hgrow2 hnil2

            go_wp2_with (at_builtin; refine wpList_append_own _ rfl _ _ 25 rfl w.heap.size TI i0 (.agg #[.int .i64 0, .string ByteArray.empty]) 2 24 Try.underlying25 hi hz0 hz1 hz2 rfl (by decide) _ _ _ rfl HO2.out ⟨g, (k) * 2, none⟩ (n - (k)) _ (termsV (ts.drop (k))) rfl (by rw [termsV_len, List.length_drop, HN.out]; first | done | omega) ((HX2.out.dropAt (k)).cells) (oneCell_terms _) (by unfold maxLen; omega) (by omega) hB2.size ?_)
            intro v3 w3 hown3 hgrow3 hnil3
            obtain ⟨g3, cap3, hg3b, rfl⟩ := notNil hown3 hnil3
            have hB3 : Below w.heap.size w w3 := hB2.grown hgrow3 hB2.size (fun j ej => by cases ej; exact hg2b)
            have HO3 := Lib.hid hown3
            clear hown3 hgrow3 hnil3
            go_wp2
            go_ret

            have e1 : addT ts ⟨c, s⟩ = ts.take k ++ ([⟨c, s⟩] ++ ts.drop k) := by rw [HA.out c, if_neg HS.out, len_nz1 HZ0.out]
            exact addEnd (us := addT ts ⟨c, s⟩) hB3 HO3.out (by rw [e1]; have h := lenCat1 ts k (k) ⟨c, s⟩ (by rw [HN.out]; omega); rw [HN.out] at h; omega) (by rw [e1]; first | exact cat1 _ _ _ _ | exact cat3 _ _ _ _) (by rw [e1]; have h := lenCat1 ts k (k) ⟨c, s⟩ (by rw [HN.out]; omega); rw [HN.out] at h; omega)
    · obtain rfl : k = n := by omega
      have HE := Lib.hid (fun c' => addT_end (ts := ts) (t := ⟨c', s⟩) (fun j hj => HJ.out j hj (by rw [← HN.out]; exact hj)))
      by_cases hcap0 : cap = 0
      · obtain rfl : k = 0 := by omega
        have HTn : Hid (ts = []) := Lib.hid (List.length_eq_zero_iff.1 HN.out)
        subst hcap0
        have HM := Lib.hid hmade
        clear hmade
        by_cases hz0 : c = 0
        · have HZ0 := Lib.hid hz0
          have hzb : (c != 0) = false := by rw [hz0]; rfl
          clear hz0
          go_wp2
          go_ret
          have e1 : addT ts ⟨c, s⟩ = [] := by rw [HTn.out, addT, len_nz0 HZ0.out]
          exact addEnd (us := addT ts ⟨c, s⟩) ((Below.refl _ w).alloc (Nat.le_refl _) _) HM.out (by rw [e1]; rfl) (by rw [e1]; rfl) (by rw [e1]; rfl)
        · have HZ0 := Lib.hid hz0
          have hzb : (c != 0) = true := by simpa using hz0
          clear hz0
          have HPN := Lib.hid (cell_pair_new (w.alloc (.cells #[] TI)) (.int .i64 c) (.string s) TI)
          simp only [World.size_alloc] at HPN

          go_wp2_with (at_builtin; refine wpList_append_own _ rfl _ _ 25 rfl w.heap.size TI i0 (.agg #[.int .i64 0, .string ByteArray.empty]) 2 24 Try.underlying25 hi hz0 hz1 hz2 rfl (by decide) _ _ _ rfl (HM.out.alloc _) ⟨w.heap.size + 1, 0, none⟩ 1 1 [.int .i64 c, .string s] rfl rfl (HPN.out) (fun u hu => by simp at hu; rcases hu with rfl | rfl <;> rfl) (by unfold maxLen; omega) (by omega) (by simp; omega) ?_)
          intro v2 w2 hown2 hgrow2 hnil2
          obtain ⟨g2, cap2, hg2b, rfl⟩ := notNil hown2 hnil2
          have hB2 : Below w.heap.size w w2 := (((Below.refl _ w).alloc (Nat.le_refl _) _).alloc (by simp) _).grown hgrow2 (by simp; omega) (fun j ej => by cases ej; exact Nat.le_refl _)
          have HO2 := Lib.hid hown2
          clear hown2 hgrow2 hnil2
          go_wp2_with (at_builtin; refine wpList_append_own _ rfl _ _ 25 rfl w.heap.size TI i0 (.agg #[.int .i64 0, .string ByteArray.empty]) 2 24 Try.underlying25 hi hz0 hz1 hz2 rfl (by decide) _ _ _ rfl HO2.out ⟨g, 0, none⟩ 0 _ [] rfl rfl (fun j u h => by simp at h) (fun u hu => by cases hu) (by unfold maxLen; omega) (by omega) hB2.size ?_)
          intro v3 w3 hown3 hgrow3 hnil3
          obtain ⟨g3, cap3, hg3b, rfl⟩ := notNil hown3 hnil3
          have hB3 : Below w.heap.size w w3 := hB2.grown hgrow3 hB2.size (fun j ej => by cases ej; exact hg2b)
          have HO3 := Lib.hid hown3
          clear hown3 hgrow3 hnil3
          go_wp2
          go_ret
          have e1 : addT ts ⟨c, s⟩ = [⟨c, s⟩] := by rw [HTn.out, addT, len_nz1 HZ0.out]
          exact addEnd (us := addT ts ⟨c, s⟩) hB3 HO3.out (by rw [e1]; rfl) (by rw [e1]; rfl) (by rw [e1]; rfl)
      by_cases hz0 : c = 0
      · have HZ0 := Lib.hid hz0
        have hzb : (c != 0) = false := by rw [hz0]; rfl
        clear hz0
        by_cases hck : cap = k
        · have hck2 := hck.symm
          clear hck
          subst hck2
          go_wp2_with (at_builtin; refine wpList_append_own _ rfl _ _ 25 rfl w.heap.size TI i0 (.agg #[.int .i64 0, .string ByteArray.empty]) 2 24 Try.underlying25 hi hz0 hz1 hz2 rfl (by decide) _ _ _ rfl hmade ⟨g, 0, none⟩ k k (termsV (ts.take k)) rfl (HLt.out k (by omega)) (HCt.out k) (oneCell_terms _) (by unfold maxLen; omega) (by omega) (by simp) ?_)
          intro v1 w1 hown1 hgrow1 hnil1
          obtain ⟨g1, cap1, hg1b, rfl⟩ := notNil hown1 hnil1
          have hB1 : Below w.heap.size w w1 := ((Below.refl _ w).alloc (Nat.le_refl _) _).grown hgrow1 (by simp) (fun j ej => by cases ej; exact Nat.le_refl _)
          have HX1 := Lib.hid (HX.out.below hB1)
          have HO1 := Lib.hid hown1
          clear hown1 hgrow1 hnil1

          go_wp2_with (at_builtin; refine wpList_append_own _ rfl _ _ 25 rfl w.heap.size TI i0 (.agg #[.int .i64 0, .string ByteArray.empty]) 2 24 Try.underlying25 hi hz0 hz1 hz2 rfl (by decide) _ _ _ rfl HO1.out ⟨g, 0, none⟩ (0) _ (termsV (ts.drop k)) rfl (by rw [List.drop_of_length_le (by rw [HN.out]; omega)]; show 0 = _; omega) (fun j u h => by rw [List.drop_of_length_le (by rw [HN.out]; omega)] at h; simp [termsV] at h) (oneCell_terms _) (by unfold maxLen; omega) (by omega) hB1.size ?_)
          intro v3 w3 hown3 hgrow3 hnil3
          obtain ⟨g3, cap3, hg3b, rfl⟩ := notNil hown3 hnil3
          have hB3 : Below w.heap.size w w3 := hB1.grown hgrow3 hB1.size (fun j ej => by cases ej; exact hg1b)
          have HO3 := Lib.hid hown3
          clear hown3 hgrow3 hnil3
          go_wp2
          go_ret

          have e1 : addT ts ⟨c, s⟩ = ts.take k ++ ([] ++ ts.drop k) := by rw [HE.out c, len_nz0 HZ0.out, List.take_of_length_le (by rw [HN.out]; exact Nat.le_refl _), List.drop_of_length_le (by rw [HN.out]; exact Nat.le_refl _)]; rfl
          exact addEnd (us := addT ts ⟨c, s⟩) hB3 HO3.out (by rw [e1]; have h := lenCat0 ts k (k) (by rw [HN.out]; omega); rw [HN.out] at h; omega) (by rw [e1]; first | exact cat0 _ _ | exact cat2 _ _) (by rw [e1]; have h := lenCat0 ts k (k) (by rw [HN.out]; omega); rw [HN.out] at h; omega)
        · have hcp := hcap
          go_wp2_with (at_builtin; refine wpList_append_own _ rfl _ _ 25 rfl w.heap.size TI i0 (.agg #[.int .i64 0, .string ByteArray.empty]) 2 24 Try.underlying25 hi hz0 hz1 hz2 rfl (by decide) _ _ _ rfl hmade ⟨g, 0, none⟩ k cap (termsV (ts.take k)) rfl (HLt.out k (by omega)) (HCt.out k) (oneCell_terms _) (by unfold maxLen; omega) (by omega) (by simp) ?_)
          intro v1 w1 hown1 hgrow1 hnil1
          obtain ⟨g1, cap1, hg1b, rfl⟩ := notNil hown1 hnil1
          have hB1 : Below w.heap.size w w1 := ((Below.refl _ w).alloc (Nat.le_refl _) _).grown hgrow1 (by simp) (fun j ej => by cases ej; exact Nat.le_refl _)
          have HX1 := Lib.hid (HX.out.below hB1)
          have HO1 := Lib.hid hown1
          clear hown1 hgrow1 hnil1

          go_wp2_with (at_builtin; refine wpList_append_own _ rfl _ _ 25 rfl w.heap.size TI i0 (.agg #[.int .i64 0, .string ByteArray.empty]) 2 24 Try.underlying25 hi hz0 hz1 hz2 rfl (by decide) _ _ _ rfl HO1.out ⟨g, (k) * 2, none⟩ (0) _ (termsV (ts.drop k)) rfl (by rw [termsV_len, List.length_drop, HN.out]; first | done | omega) ((HX1.out.dropAt k).cells) (oneCell_terms _) (by unfold maxLen; omega) (by omega) hB1.size ?_)
          intro v3 w3 hown3 hgrow3 hnil3
          obtain ⟨g3, cap3, hg3b, rfl⟩ := notNil hown3 hnil3
          have hB3 : Below w.heap.size w w3 := hB1.grown hgrow3 hB1.size (fun j ej => by cases ej; exact hg1b)
          have HO3 := Lib.hid hown3
          clear hown3 hgrow3 hnil3
          go_wp2
          go_ret

          have e1 : addT ts ⟨c, s⟩ = ts.take k ++ ([] ++ ts.drop k) := by rw [HE.out c, len_nz0 HZ0.out, List.take_of_length_le (by rw [HN.out]; exact Nat.le_refl _), List.drop_of_length_le (by rw [HN.out]; exact Nat.le_refl _)]; rfl
          exact addEnd (us := addT ts ⟨c, s⟩) hB3 HO3.out (by rw [e1]; have h := lenCat0 ts k (k) (by rw [HN.out]; omega); rw [HN.out] at h; omega) (by rw [e1]; first | exact cat0 _ _ | exact cat2 _ _) (by rw [e1]; have h := lenCat0 ts k (k) (by rw [HN.out]; omega); rw [HN.out] at h; omega)
      · have HZ0 := Lib.hid hz0
        have hzb : (c != 0) = true := by simpa using hz0
        clear hz0
        by_cases hck : cap = k
        · have hck2 := hck.symm
          clear hck
          subst hck2
          go_wp2_with (at_builtin; refine wpList_append_own _ rfl _ _ 25 rfl w.heap.size TI i0 (.agg #[.int .i64 0, .string ByteArray.empty]) 2 24 Try.underlying25 hi hz0 hz1 hz2 rfl (by decide) _ _ _ rfl hmade ⟨g, 0, none⟩ k k (termsV (ts.take k)) rfl (HLt.out k (by omega)) (HCt.out k) (oneCell_terms _) (by unfold maxLen; omega) (by omega) (by simp) ?_)
          intro v1 w1 hown1 hgrow1 hnil1
          obtain ⟨g1, cap1, hg1b, rfl⟩ := notNil hown1 hnil1
          have hB1 : Below w.heap.size w w1 := ((Below.refl _ w).alloc (Nat.le_refl _) _).grown hgrow1 (by simp) (fun j ej => by cases ej; exact Nat.le_refl _)
          have HX1 := Lib.hid (HX.out.below hB1)
          have HO1 := Lib.hid hown1
          clear hown1 hgrow1 hnil1

          go_wp2_with (at_builtin; refine wpList_append_own _ rfl _ _ 25 rfl w.heap.size TI i0 (.agg #[.int .i64 0, .string ByteArray.empty]) 2 24 Try.underlying25 hi hz0 hz1 hz2 rfl (by decide) _ _ _ rfl (HO1.out.alloc _) ⟨w1.heap.size, 0, none⟩ 1 1 [.int .i64 c, .string s] rfl rfl (cell_pair_new _ _ _ _) (fun u hu => by simp at hu; rcases hu with rfl | rfl <;> rfl) (by unfold maxLen; omega) (by omega) (by have := hB1.size; simp; omega) ?_)
          intro v2 w2 hown2 hgrow2 hnil2
          obtain ⟨g2, cap2, hg2b, rfl⟩ := notNil hown2 hnil2
          have hB2 : Below w.heap.size w w2 := (hB1.alloc hB1.size _).grown hgrow2 (by have := hB1.size; simp; omega) (fun j ej => by cases ej; exact hg1b)
          have HX2 := Lib.hid (HX.out.below hB2)
          have HO2 := Lib.hid hown2
          clear hown2 hgrow2 hnil2

          go_wp2_with (at_builtin; refine wpList_append_own _ rfl _ _ 25 rfl w.heap.size TI i0 (.agg #[.int .i64 0, .string ByteArray.empty]) 2 24 Try.underlying25 hi hz0 hz1 hz2 rfl (by decide) _ _ _ rfl HO2.out ⟨g, 0, none⟩ (0) _ (termsV (ts.drop k)) rfl (by rw [List.drop_of_length_le (by rw [HN.out]; omega)]; show 0 = _; omega) (fun j u h => by rw [List.drop_of_length_le (by rw [HN.out]; omega)] at h; simp [termsV] at h) (oneCell_terms _) (by unfold maxLen; omega) (by omega) hB2.size ?_)
          intro v3 w3 hown3 hgrow3 hnil3
          obtain ⟨g3, cap3, hg3b, rfl⟩ := notNil hown3 hnil3
          have hB3 : Below w.heap.size w w3 := hB2.grown hgrow3 hB2.size (fun j ej => by cases ej; exact hg2b)
          have HO3 := Lib.hid hown3
          clear hown3 hgrow3 hnil3
          go_wp2
          go_ret

          have e1 : addT ts ⟨c, s⟩ = ts.take k ++ ([⟨c, s⟩] ++ ts.drop k) := by rw [HE.out c, len_nz1 HZ0.out, List.take_of_length_le (by rw [HN.out]; exact Nat.le_refl _), List.drop_of_length_le (by rw [HN.out]; exact Nat.le_refl _)]; rfl
          exact addEnd (us := addT ts ⟨c, s⟩) hB3 HO3.out (by rw [e1]; have h := lenCat1 ts k (k) ⟨c, s⟩ (by rw [HN.out]; omega); rw [HN.out] at h; omega) (by rw [e1]; first | exact cat1 _ _ _ _ | exact cat3 _ _ _ _) (by rw [e1]; have h := lenCat1 ts k (k) ⟨c, s⟩ (by rw [HN.out]; omega); rw [HN.out] at h; omega)
        · have hcp := hcap
          go_wp2_with (at_builtin; refine wpList_append_own _ rfl _ _ 25 rfl w.heap.size TI i0 (.agg #[.int .i64 0, .string ByteArray.empty]) 2 24 Try.underlying25 hi hz0 hz1 hz2 rfl (by decide) _ _ _ rfl hmade ⟨g, 0, none⟩ k cap (termsV (ts.take k)) rfl (HLt.out k (by omega)) (HCt.out k) (oneCell_terms _) (by unfold maxLen; omega) (by omega) (by simp) ?_)
          intro v1 w1 hown1 hgrow1 hnil1
          obtain ⟨g1, cap1, hg1b, rfl⟩ := notNil hown1 hnil1
          have hB1 : Below w.heap.size w w1 := ((Below.refl _ w).alloc (Nat.le_refl _) _).grown hgrow1 (by simp) (fun j ej => by cases ej; exact Nat.le_refl _)
          have HX1 := Lib.hid (HX.out.below hB1)
          have HO1 := Lib.hid hown1
          clear hown1 hgrow1 hnil1

          go_wp2_with (at_builtin; refine wpList_append_own _ rfl _ _ 25 rfl w.heap.size TI i0 (.agg #[.int .i64 0, .string ByteArray.empty]) 2 24 Try.underlying25 hi hz0 hz1 hz2 rfl (by decide) _ _ _ rfl (HO1.out.alloc _) ⟨w1.heap.size, 0, none⟩ 1 1 [.int .i64 c, .string s] rfl rfl (cell_pair_new _ _ _ _) (fun u hu => by simp at hu; rcases hu with rfl | rfl <;> rfl) (by unfold maxLen; omega) (by omega) (by have := hB1.size; simp; omega) ?_)
          intro v2 w2 hown2 hgrow2 hnil2
          obtain ⟨g2, cap2, hg2b, rfl⟩ := notNil hown2 hnil2
          have hB2 : Below w.heap.size w w2 := (hB1.alloc hB1.size _).grown hgrow2 (by have := hB1.size; simp; omega) (fun j ej => by cases ej; exact hg1b)
          have HX2 := Lib.hid (HX.out.below hB2)
          have HO2 := Lib.hid hown2
          clear hown2 hgrow2 hnil2

          go_wp2_with (at_builtin; refine wpList_append_own _ rfl _ _ 25 rfl w.heap.size TI i0 (.agg #[.int .i64 0, .string ByteArray.empty]) 2 24 Try.underlying25 hi hz0 hz1 hz2 rfl (by decide) _ _ _ rfl HO2.out ⟨g, (k) * 2, none⟩ (0) _ (termsV (ts.drop k)) rfl (by rw [termsV_len, List.length_drop, HN.out]; first | done | omega) ((HX2.out.dropAt k).cells) (oneCell_terms _) (by unfold maxLen; omega) (by omega) hB2.size ?_)
          intro v3 w3 hown3 hgrow3 hnil3
          obtain ⟨g3, cap3, hg3b, rfl⟩ := notNil hown3 hnil3
          have hB3 : Below w.heap.size w w3 := hB2.grown hgrow3 hB2.size (fun j ej => by cases ej; exact hg2b)
          have HO3 := Lib.hid hown3
          clear hown3 hgrow3 hnil3
          go_wp2
          go_ret

          have e1 : addT ts ⟨c, s⟩ = ts.take k ++ ([⟨c, s⟩] ++ ts.drop k) := by rw [HE.out c, len_nz1 HZ0.out, List.take_of_length_le (by rw [HN.out]; exact Nat.le_refl _), List.drop_of_length_le (by rw [HN.out]; exact Nat.le_refl _)]; rfl
          exact addEnd (us := addT ts ⟨c, s⟩) hB3 HO3.out (by rw [e1]; have h := lenCat1 ts k (k) ⟨c, s⟩ (by rw [HN.out]; omega); rw [HN.out] at h; omega) (by rw [e1]; first | exact cat1 _ _ _ _ | exact cat3 _ _ _ _) (by rw [e1]; have h := lenCat1 ts k (k) ⟨c, s⟩ (by rw [HN.out]; omega); rw [HN.out] at h; omega)

end Go.Proofs.Ytebgcebjlbhjjab

/- The contracts of the model's 'l2Done' and 'SumOf'. -/

namespace Go.Proofs.Ytebgcebjlbhjjab
open Go.RowKit Go.Shelf

/-- A slice value of the call's own that holds terms; nil where there are none, maybe. -/
def OwnT (base : Nat) (w : World) (v : Value) (ts : List Tm) : Prop := w.ownsRow base TI 2 v ts.length (termsV ts)
theorem OwnTerms.own {base : Nat} {w : World} {v : Value} {ts : List Tm} (h : OwnTerms base w v ts) : OwnT base w v ts := by obtain ⟨g, cap, _, h⟩ := h; exact h
theorem OwnT.mono {b1 b2 : Nat} {w : World} {v : Value} {ts : List Tm} (h : OwnT b1 w v ts) (hb : b2 ≤ b1) : OwnT b2 w v ts := ownsRow_base h hb
theorem OwnT.below {base : Nat} {w w' : World} {v : Value} {ts : List Tm} (h : OwnT base w v ts) (hb : Below w.heap.size w w') : OwnT base w' v ts :=
  h.kept ⟨hb.os, hb.tape, hb.output, hb.size, fun j hj _ => hb.block j hj⟩ (row := none) (by
    rcases h.2 with ⟨rfl, _⟩ | ⟨g, cap, cur, rfl, _⟩
    · exact .inl rfl
    · exact .inr (by simp [Value.ownBlock]))
theorem OwnTerms.below {base : Nat} {w w' : World} {v : Value} {ts : List Tm} (h : OwnTerms base w v ts) (hb : Below w.heap.size w w') : OwnTerms base w' v ts := by
  have h2 := h.own.below hb
  obtain ⟨g, cap, e, _⟩ := h
  exact ⟨g, cap, e, h2⟩
theorem OwnTerms.mono {b1 b2 : Nat} {w : World} {v : Value} {ts : List Tm} (h : OwnTerms b1 w v ts) (hb : b2 ≤ b1) : OwnTerms b2 w v ts := by
  obtain ⟨g, cap, e, h⟩ := h
  exact ⟨g, cap, e, ownsRow_base h hb⟩
/-- What fits into an integer of 64 bits and into a text. -/
def SmallT (ts : List Tm) : Prop := ts.length ≤ maxLen ∧ ∀ t ∈ ts, t.s.size ≤ maxLen ∧ -9223372036854775808 ≤ t.c ∧ t.c ≤ 9223372036854775807
theorem OwnT.isTerms {base : Nat} {w : World} {v : Value} {ts : List Tm} (h : OwnT base w v ts) (hs : SmallT ts) : ∃ a cap, v = .slice a ts.length cap ∧ IsTerms w a ts.length ts := by
  rcases h.2 with ⟨rfl, h0⟩ | ⟨g, cap, cur, rfl, hb, hg, hn, hc, _⟩
  · exact ⟨none, 0, by rw [h0], rfl, hs.1, fun hp => absurd hp (by omega), hs.2⟩
  · exact ⟨_, cap, rfl, rfl, hs.1, fun _ => ⟨_, rfl, termsAt_of_owns rfl h⟩, hs.2⟩
theorem OwnTerms.form {base : Nat} {w : World} {v : Value} {ts : List Tm} (h : OwnTerms base w v ts) : ∃ g cap, v = .slice (some ⟨g, 0, none⟩) ts.length cap ∧ TermsAt w ⟨g, 0, none⟩ ts ∧ ts.length ≤ cap ∧ cap ≤ maxLen ∧ base ≤ g := by
  obtain ⟨g, cap, rfl, h⟩ := h
  obtain ⟨h1, h2, h3, _⟩ := ownsRow_cap h
  exact ⟨g, cap, rfl, termsAt_of_owns rfl h, h1, h2, h3⟩
theorem ownEmpty (w : World) : OwnTerms w.heap.size (w.alloc (.cells #[] TI)) (.slice (some ⟨w.heap.size, 0, none⟩) 0 0) [] :=
  ⟨_, _, rfl, World.ownsRow_made w #[] 0 (Nat.le_refl _) (Nat.zero_le _) rfl⟩

theorem add_bound {t : Tm} {B C : Int} (hC : 0 ≤ C) (ht : -C ≤ t.c ∧ t.c ≤ C) : ∀ {ts : List Tm}, (∀ u ∈ ts, -B ≤ u.c ∧ u.c ≤ B) → 0 ≤ B → ∀ u ∈ addT ts t, -(B + C) ≤ u.c ∧ u.c ≤ B + C
  | [], _, hB, u, hu => by rw [addT] at hu; rw [(nz_mem hu).1]; omega
  | x :: r, h, hB, u, hu => by
    rw [addT] at hu
    have hx := h x (by simp)
    split at hu
    · rcases List.mem_cons.1 hu with rfl | hu
      · omega
      · exact add_bound hC ht (fun v hv => h v (by simp [hv])) hB u hu
    · split at hu
      · rcases List.mem_append.1 hu with hu | hu
        · rw [(nz_mem hu).1]; show -(B + C) ≤ t.c + x.c ∧ t.c + x.c ≤ B + C; omega
        · have := h u (by simp [hu]); omega
      · rcases List.mem_append.1 hu with hu | hu
        · rw [(nz_mem hu).1]; omega
        · have := h u hu; omega
theorem add_len (t : Tm) : ∀ ts : List Tm, (addT ts t).length ≤ ts.length + 1
  | [] => by rw [addT]; unfold nz; split <;> simp
  | x :: r => by
    have h0 : ∀ y : Tm, (nz y).length ≤ 1 := fun y => by unfold nz; split <;> simp
    rw [addT]
    split
    · have := add_len t r; simp only [List.length_cons]; omega
    · split
      · have := h0 ⟨t.c + x.c, t.s⟩; simp only [List.length_append, List.length_cons]; omega
      · have := h0 t; simp only [List.length_append, List.length_cons]; omega
theorem add_small {t : Tm} {ts : List Tm} {M : Nat} (ht : t.s.size ≤ M) (h : ∀ u ∈ ts, u.s.size ≤ M) : ∀ u ∈ addT ts t, u.s.size ≤ M := fun u hu => by
  rcases add_words hu with e | ⟨v, hv, e⟩
  · rw [e]; exact ht
  · rw [← e]; exact h v hv

/-- A list that grows term by term. -/
structure Acc (base : Nat) (w : World) (v : Value) (acc : List Tm) (N : Nat) (B : Int) : Prop where
  own : OwnTerms base w v acc
  len : acc.length ≤ N
  bnd : ∀ u ∈ acc, -B ≤ u.c ∧ u.c ≤ B
  sml : ∀ u ∈ acc, u.s.size ≤ 60
theorem Acc.below {base : Nat} {w w' : World} {v : Value} {acc : List Tm} {N : Nat} {B : Int} (h : Acc base w v acc N B) (hb : Below w.heap.size w w') : Acc base w' v acc N B := ⟨h.own.below hb, h.len, h.bnd, h.sml⟩
theorem Acc.small {base : Nat} {w : World} {v : Value} {acc : List Tm} {N : Nat} {B : Int} (h : Acc base w v acc N B) (hN : N ≤ 200000) (hB : B ≤ 4000000000000000000) : SmallT acc :=
  ⟨by have := h.len; unfold maxLen; omega, fun u hu => by
    have h1 := h.bnd u hu
    have h2 := h.sml u hu
    unfold maxLen
    omega⟩

/-- The model's step: one term more. -/
theorem step_any (base : Nat) (v : Value) (acc : List Tm) (N : Nat) (B C : Int) (c : Int) (s : ByteArray) (w : World) (h : Acc base w v acc N B) (hN : N ≤ 200000) (hB : 0 ≤ B) (hC : 0 ≤ C) (hBC : B + C ≤ 4000000000000000000)
    (hc : -C ≤ c ∧ c ≤ C) (hs : s.size ≤ 60) (hbase : base ≤ w.heap.size) :
    Calls Try.prog 62 #[v, .int .i64 c, .string s] w fun e w' => (∃ v', e = .returned v' ∧ Acc base w' v' (addT acc ⟨c, s⟩) (N + 1) (B + C)) ∧ Below w.heap.size w w' := by
  obtain ⟨g, cap, rfl, h1, h2, h3, h4⟩ := h.own.form
  refine (l2Add_any g cap acc.length acc c s w rfl (by have := h.len; omega) h1 h2 h3 (by omega) (by omega) (fun t ht => by have := h.bnd t ht; omega)).mono ?_
  rintro e w' ⟨⟨v', rfl, ho⟩, hb⟩
  exact ⟨⟨v', rfl, ho.mono hbase, by have := add_len ⟨c, s⟩ acc; have := h.len; omega, add_bound hC hc h.bnd hB, add_small hs h.sml⟩, hb⟩

/-- What a function of the model hands back: a list and true, or an empty one and false. -/
def STold (w : World) (b : Bool) (us : List Tm) (e : Ending) (w' : World) : Prop := (∃ v', e = .returned (.tuple #[v', .bool b]) ∧ OwnTerms w.heap.size w' v' (cond b us [])) ∧ Below w.heap.size w w'

theorem sDone_any (base : Nat) (v : Value) (ts : List Tm) (b : Bool) (w : World) (h : OwnTerms base w v ts) (hs : SmallT ts) (hbase : base ≤ w.heap.size) (hb : sumB ts = b) :
    Calls Try.prog 63 #[v] w fun e w' => (∃ v', e = .returned (.tuple #[v', .bool b]) ∧ OwnTerms base w' v' (cond b ts [])) ∧ Below w.heap.size w w' := by
  obtain ⟨g, cap, rfl, h1, h2, h3, h4⟩ := h.form
  have HI : Hid (IsTerms w (some ⟨g, 0, none⟩) ts.length ts) := Lib.hid ⟨rfl, hs.1, fun _ => ⟨_, rfl, h1⟩, hs.2⟩
  obtain ⟨n, hn⟩ : ∃ n, ts.length = n := ⟨_, rfl⟩
  have HH := Lib.hid h
  rw [hn] at HI HH ⊢
  have HB := Lib.hid hb
  have HN := Lib.hid hn
  clear h h1 h2 h3 hs hb hn
  cases b with
  | true =>
    go_enter Try.func63, Try.ntmps63
    go_wp2_with fail
    refine (sSumIn_any _ cap n ts _ HI.out).mono ?_
    rintro e w' ⟨rfl, hb⟩
    have hbb := HB.out
    rw [hbb]
    clear hbb
    go_wp2
    go_ret2
    exact ⟨⟨_, rfl, HH.out.below hb⟩, hb⟩
  | false =>
    go_enter Try.func63, Try.ntmps63
    go_wp2_with fail
    refine (sSumIn_any _ cap n ts _ HI.out).mono ?_
    rintro e w' ⟨rfl, hb⟩
    have hbb := HB.out
    rw [hbb]
    clear hbb
    go_wp2
    go_ret2
    exact ⟨⟨_, rfl, (ownEmpty w').mono (Nat.le_trans hbase hb.size)⟩, hb.trans (((Below.refl _ _).alloc (Nat.le_refl _) _).mono hb.size)⟩

end Go.Proofs.Ytebgcebjlbhjjab

/- The contract of the model's 'SumOf'. -/

namespace Go.Proofs.Ytebgcebjlbhjjab
open Go.RowKit Go.Shelf

theorem acc_zero (w : World) : Acc w.heap.size (w.alloc (.cells #[] TI)) (.slice (some ⟨w.heap.size, 0, none⟩) 0 0) [] 0 0 := ⟨ownEmpty w, Nat.le_refl _, fun u h => (by cases h), fun u h => (by cases h)⟩
theorem termB_iff {t : Tm} (h : termB t = true) : t.s.size ≤ 60 ∧ -1000000 ≤ t.c ∧ t.c ≤ 1000000 := by
  unfold termB inR at h
  simp only [Bool.and_eq_true, decide_eq_true_eq] at h
  exact ⟨by have := ((wordB_iff _).1 h.1).1; simpa using this, h.2⟩
theorem fold_succ (ts : List Tm) (k : Nat) (h : k < ts.length) : (ts.take (k + 1)).foldl addT [] = addT ((ts.take k).foldl addT []) ts[k] := by
  rw [List.take_succ_eq_append_getElem h, List.foldl_append]; rfl

/-- What SumOf answers. -/
def ofB (ts : List Tm) : Bool := twB ts && sumB (canonT ts)

set_option maxRecDepth 100000 in
set_option maxHeartbeats 4000000 in
theorem sSumOf_any (a : Option Addr) (cap n : Nat) (ts : List Tm) (b : Bool) (w : World) (hs : IsTerms w a n ts) (hb : ofB ts = b) :
    Calls Try.prog 110 #[.slice a n cap] w (STold w b (canonT ts)) := by
  have hm := hs.max
  have HN := Lib.hid hs.len
  have HS := Lib.hid hs
  have HB := Lib.hid hb
  have hmx : Try.prog.follows .mixedOrders = true := by kernel_rfl
  clear hs hb
  unfold maxLen at hm
  go_enter Try.func110, Try.ntmps110
  go_wp2
  go_loopw [4, 5] (fun v i wr => ∃ k : Nat, k ≤ n ∧ i = .int .i64 k ∧ Hid ((∀ j (h : j < ts.length), j < k → termB ts[j] = true) ∧ (0 < k → n ≤ 300) ∧ Acc w.heap.size wr v ((ts.take k).foldl addT []) k (1000000 * k)) ∧ Below w.heap.size w wr) (fun _ i _ => n - (intOf i).toNat)
  case atStart => exact ⟨0, Nat.zero_le _, rfl, Lib.hid ⟨fun j _ h => absurd h (Nat.not_lt_zero _), fun h => absurd h (Nat.lt_irrefl _), acc_zero w⟩, (Below.refl _ _).alloc (Nat.le_refl _) _⟩
  case round =>
    obtain ⟨k, hk, rfl, HA, hB⟩ := hrel
    by_cases hlt : k < n
    · have hkz : k < ts.length := by rw [HN.out]; exact hlt
      obtain ⟨x, rfl, hx⟩ := HS.out.at_ (by omega)
      obtain ⟨t, ht⟩ : ∃ t, ts[k] = t := ⟨_, rfl⟩
      have hsm : t.s.size ≤ maxLen := by rw [← ht]; exact (HS.out.small _ (List.getElem_mem hkz)).1
      have hxw := hx.below hB
      have hc := hxw.2 k hkz
      have hbx := hxw.1
      rw [ht, addr_next] at hc
      obtain ⟨c0, c1⟩ := hc
      have HT := Lib.hid ht
      clear ht hx hxw
      cases hc : inR (-1000000) 1000000 t.c with
      | false =>
        have HC := Lib.hid hc
        clear hc
        go_wp2_with fail
        refine (l6In_is _ _ _ false _ HC.out).mono ?_
        rintro e w2 ⟨rfl, hb2⟩
        go_wp2
        go_ret2
        have hbf : b = false := by rw [← HB.out]; unfold ofB; rw [twB_at hkz (by rw [HT.out]; unfold termB; rw [HC.out, Bool.and_false])]; rfl
        subst hbf
        have hB2 : Below w.heap.size w w2 := hB.trans (hb2.mono hB.size)
        exact ⟨⟨_, rfl, (ownEmpty w2).mono hB2.size⟩, hB2.alloc hB2.size _⟩
      | true =>
        have HC := Lib.hid hc
        clear hc
        cases hw : wordB t.s.data.toList with
        | false =>
          have HW := Lib.hid hw
          clear hw
          go_wp2_with fail
          refine (l6In_is _ _ _ true _ HC.out).mono ?_
          rintro e w1 ⟨rfl, hb1⟩
          have d1 := (hb1.cell (p := ⟨(x.add (k * 2)).block, (x.add (k * 2)).off + 1, none⟩) (by show (x.add (k * 2)).block < _; rw [addr_add_block]; exact hbx)).trans c1
          go_wp2_with fail
          refine (sWordIn_is _ false _ hsm HW.out).mono ?_
          rintro e w2 ⟨rfl, hb2'⟩
          have hb2 := hb1.trans (hb2'.mono hb1.size)
          go_wp2
          go_ret2
          have hbf : b = false := by rw [← HB.out]; unfold ofB; rw [twB_at hkz (by rw [HT.out]; unfold termB; rw [HW.out]; rfl)]; rfl
          subst hbf
          have hB2 : Below w.heap.size w w2 := hB.trans (hb2.mono hB.size)
          exact ⟨⟨_, rfl, (ownEmpty w2).mono hB2.size⟩, hB2.alloc hB2.size _⟩
        | true =>
          have HW := Lib.hid hw
          clear hw
          by_cases h300 : n ≤ 300
          · have hd3 : decide (300 < n) = false := by simp; omega
            have hbd : -1000000 ≤ t.c ∧ t.c ≤ 1000000 := by have h := HC.out; unfold inR at h; simpa using h
            have hsz : t.s.size ≤ 60 := by have := ((wordB_iff _).1 HW.out).1; simpa using this
            have HBd := Lib.hid hbd
            clear hbd
            go_wp2_with fail
            refine (l6In_is _ _ _ true _ HC.out).mono ?_
            rintro e w1 ⟨rfl, hb1⟩
            have d1 := (hb1.cell (p := ⟨(x.add (k * 2)).block, (x.add (k * 2)).off + 1, none⟩) (by show (x.add (k * 2)).block < _; rw [addr_add_block]; exact hbx)).trans c1
            go_wp2_with fail
            refine (sWordIn_is _ true _ hsm HW.out).mono ?_
            rintro e w2 ⟨rfl, hb2'⟩
            have hb2 := hb1.trans (hb2'.mono hb1.size)
            have hbx2 := Nat.lt_of_lt_of_le hbx hb2.size
            have v0 := (hb2.cell (p := x.add (k * 2)) (by rw [addr_add_block]; exact hbx)).trans c0
            have v1 := (hb2.cell (p := ⟨(x.add (k * 2)).block, (x.add (k * 2)).off + 1, none⟩) (by show (x.add (k * 2)).block < _; rw [addr_add_block]; exact hbx)).trans c1
            have hB2 : Below w.heap.size w w2 := hB.trans (hb2.mono hB.size)
            have HAcc := Lib.hid ((HA.out.2.2).below hb2)
            clear d1 hb1 hb2'
            go_wp2
            go_still_tail 11, hmx
            change wpList _ _ _ _ _ w2.drew
            go_wp2_with fail
            refine (step_any w.heap.size u4 _ k (1000000 * k) 1000000 t.c t.s w2.drew (HAcc.out.below (Below.refl _ _).drew) (by omega) (by omega) (by omega) (by omega) HBd.out hsz hB2.size).mono ?_
            rintro e w3 ⟨⟨v', rfl, ho⟩, hb3⟩
            have hB3 : Below w.heap.size w w3 := hB2.trans (((Below.refl _ _).drew.trans hb3).mono hB2.size)
            have HO := Lib.hid ho
            clear ho hb3
            go_wp2
            go_roundw
            case rel =>
              refine ⟨k + 1, by omega, by go_num, Lib.hid ⟨fun j hj hjk => ?_, fun _ => h300, ?_⟩, hB3⟩
              · by_cases e : j = k
                · subst e; rw [HT.out]; unfold termB; rw [HW.out, HC.out]; rfl
                · exact HA.out.1 j hj (by omega)
              · have h := HO.out
                rw [fold_succ ts k hkz, HT.out]
                rw [show (1000000 : Int) * ((k + 1 : Nat) : Int) = 1000000 * k + 1000000 by omega]
                exact h
            case measure => simp [intOf]; omega
          · have hd3 : decide (300 < n) = true := by simp; omega
            go_wp2_with fail
            refine (l6In_is _ _ _ true _ HC.out).mono ?_
            rintro e w1 ⟨rfl, hb1⟩
            have d1 := (hb1.cell (p := ⟨(x.add (k * 2)).block, (x.add (k * 2)).off + 1, none⟩) (by show (x.add (k * 2)).block < _; rw [addr_add_block]; exact hbx)).trans c1
            go_wp2_with fail
            refine (sWordIn_is _ true _ hsm HW.out).mono ?_
            rintro e w2 ⟨rfl, hb2'⟩
            have hb2 := hb1.trans (hb2'.mono hb1.size)
            go_wp2
            go_ret2
            have hbf : b = false := by rw [← HB.out]; unfold ofB; rw [twB_len (by rw [HN.out]; exact h300)]; rfl
            subst hbf
            have hB2 : Below w.heap.size w w2 := hB.trans (hb2.mono hB.size)
            exact ⟨⟨_, rfl, (ownEmpty w2).mono hB2.size⟩, hB2.alloc hB2.size _⟩
    · obtain rfl : k = n := by omega
      have hall := HA.out.1
      have htw : twB ts = true := by
        by_cases h0 : 0 < k
        · exact twB_of (by rw [HN.out]; exact HA.out.2.1 h0) (fun j hj => hall j hj (by rw [← HN.out]; exact hj))
        · exact twB_of (by rw [HN.out]; omega) (fun j hj => by have := HN.out; omega)
      have h300 : k ≤ 300 := by have h : ts.length ≤ 300 := (by unfold twB at htw; simp only [Bool.and_eq_true, decide_eq_true_eq] at htw; exact htw.1); rw [HN.out] at h; exact h
      have hacc := HA.out.2.2
      rw [List.take_of_length_le (by rw [HN.out]; exact Nat.le_refl _)] at hacc
      have HAcc : Hid (Acc w.heap.size wr u4 (canonT ts) k (1000000 * k)) := Lib.hid hacc
      have hsb : sumB (canonT ts) = b := by rw [← HB.out]; unfold ofB; rw [htw, Bool.true_and]
      have HSb := Lib.hid hsb
      clear hall htw hacc hsb
      go_wp2_with fail
      refine (sDone_any w.heap.size u4 (canonT ts) b wr HAcc.out.own (HAcc.out.small (by omega) (by omega)) hB.size HSb.out).mono ?_
      rintro e w2 ⟨⟨v', rfl, ho⟩, hb2⟩
      have HO := Lib.hid ho
      clear ho
      go_wp2
      go_ret2
      exact ⟨⟨_, rfl, HO.out⟩, hB.trans (hb2.mono hB.size)⟩

end Go.Proofs.Ytebgcebjlbhjjab

/- The contracts of the program's 'sumWords' and 'SumIn'. -/

namespace Go.Proofs.Ytebgcebjlbhjjab
open Go.RowKit Go.Shelf

theorem sumB_eq (ts : List Tm) : sumB ts = (twB ts && !hasZero ts && ascB ts) := by
  have hg : ∀ j (h : j < ts.length), ts.getD j default = ts[j] := fun j h => by rw [List.getD_eq_getElem?_getD, List.getElem?_eq_getElem h]; rfl
  rw [Bool.eq_iff_iff]
  unfold sumB twB hasZero ascB allGood
  simp only [Bool.and_eq_true, List.all_eq_true, List.mem_range, decide_eq_true_eq, Bool.not_eq_true', List.any_eq_false]
  constructor
  · rintro ⟨h1, h2⟩
    refine ⟨⟨⟨h2, fun t ht => ?_⟩, fun t ht => ?_⟩, fun j hj => ?_⟩
    · obtain ⟨j, hj, rfl⟩ := List.getElem_of_mem ht
      have := h1 j hj
      unfold goodAt at this
      simp only [hg j hj, Bool.and_eq_true] at this
      unfold termB
      rw [this.1.2, this.1.1.2]; rfl
    · obtain ⟨j, hj, rfl⟩ := List.getElem_of_mem ht
      have := h1 j hj
      unfold goodAt at this
      simp only [hg j hj, Bool.and_eq_true] at this
      simpa using this.1.1.1
    · have := h1 j hj
      unfold goodAt at this
      simp only [Bool.and_eq_true] at this
      exact this.2
  · rintro ⟨⟨⟨h1, h2⟩, h3⟩, h4⟩
    refine ⟨fun j hj => ?_, h1⟩
    have a2 := h2 _ (List.getElem_mem hj)
    have a3 := h3 _ (List.getElem_mem hj)
    unfold termB at a2
    simp only [Bool.and_eq_true] at a2
    unfold goodAt
    simp only [hg j hj, Bool.and_eq_true]
    exact ⟨⟨⟨by simpa using a3, a2.2⟩, a2.1⟩, by have := h4 j hj; rw [hg j hj] at this; exact this⟩

set_option maxRecDepth 100000 in
set_option maxHeartbeats 2000000 in
theorem sumWords_any (a : Option Addr) (cap n : Nat) (ts : List Tm) (w : World) (hs : IsTerms w a n ts) :
    Calls Try.prog 65 #[.slice a n cap] w fun e w' =>
      ((e = .returned (.tuple #[.slice none 0 0, .bool false]) ∧ sumB ts = false) ∨
       (∃ g vals, e = .returned (.tuple #[.slice (some ⟨g, 0, none⟩) n n, .bool true]) ∧ sumB ts = true ∧ w'.ownsRow w.heap.size WT 1 (.slice (some ⟨g, 0, none⟩) n n) n vals ∧
        ∀ j (h : j < ts.length) v, vals[j]? = some v → WordAt w.heap.size w' v ts[j].s.data.toList)) ∧ Below w.heap.size w w' := by
  have HS := Lib.hid hs
  have HE := Lib.hid (sumB_eq ts)
  clear hs
  cases h1 : twB ts with
  | false =>
    have H1 := Lib.hid h1
    clear h1
    go_enter Try.func65, Try.ntmps65
    go_wp2_with fail
    refine (termWords_any a cap n ts _ HS.out).mono ?_
    rintro e w1 ⟨⟨rfl, _⟩ | ⟨_, _, _, h, _⟩, hb1⟩
    · go_wp2
      go_ret2
      exact ⟨.inl ⟨rfl, by rw [HE.out, H1.out]; rfl⟩, hb1.trans (((Below.refl _ _).alloc (Nat.le_refl _) _).mono hb1.size)⟩
    · rw [H1.out] at h; cases h
  | true =>
    have H1 := Lib.hid h1
    clear h1
    cases h2 : hasZero ts with
    | true =>
      have H2 := Lib.hid h2
      clear h2
      go_enter Try.func65, Try.ntmps65
      go_wp2_with fail
      refine (termWords_any a cap n ts _ HS.out).mono ?_
      rintro e w1 ⟨⟨rfl, h⟩ | ⟨g, vals, rfl, _, hrow, hv⟩, hb1⟩
      · rw [H1.out] at h; cases h
      · have HR := Lib.hid hrow
        have HV := Lib.hid hv
        clear hrow hv
        go_wp2_with fail
        have hb2 : Below w.heap.size w (w1.alloc (.cells #[.slice a n cap, .func (.func 88) #[] #[]] 101)) := hb1.alloc hb1.size _
        have HS2 := Lib.hid (HS.out.below hb2)
        refine (containsZero_is a cap n ts true _ HS2.out H2.out).mono ?_
        rintro e w3 ⟨rfl, hb3⟩
        go_wp2
        go_ret2
        exact ⟨.inl ⟨rfl, by rw [HE.out, H2.out, Bool.not_true, Bool.and_false]; rfl⟩, hb2.trans (hb3.mono hb2.size)⟩
    | false =>
      have H2 := Lib.hid h2
      clear h2
      cases h3 : ascB ts with
      | false =>
        have H3 := Lib.hid h3
        clear h3
        go_enter Try.func65, Try.ntmps65
        go_wp2_with fail
        refine (termWords_any a cap n ts _ HS.out).mono ?_
        rintro e w1 ⟨⟨rfl, h⟩ | ⟨g, vals, rfl, _, hrow, hv⟩, hb1⟩
        · rw [H1.out] at h; cases h
        · have HR := Lib.hid hrow
          have HV := Lib.hid hv
          clear hrow hv
          go_wp2_with fail
          have hb2 : Below w.heap.size w (w1.alloc (.cells #[.slice a n cap, .func (.func 88) #[] #[]] 101)) := hb1.alloc hb1.size _
          have HS2 := Lib.hid (HS.out.below hb2)
          have hn0 : w1.heap.size < (w1.alloc (.cells #[.slice a n cap, .func (.func 88) #[] #[]] 101)).heap.size := by simp
          refine (containsZero_is a cap n ts false _ HS2.out H2.out).mono ?_
          rintro e w3 ⟨rfl, hb3⟩
          have d0 : w3.cell? ⟨w1.heap.size, 0, none⟩ = some (.slice a n cap) := (hb3.cell (p := ⟨w1.heap.size, 0, none⟩) hn0).trans ((World.cell?_alloc_at _ _ _ _ (by simp)).trans rfl)
          have d1 : w3.cell? ⟨w1.heap.size, 1, none⟩ = some (.func (.func 88) #[] #[]) := (hb3.cell (p := ⟨w1.heap.size, 1, none⟩) hn0).trans ((World.cell?_alloc_at _ _ _ _ (by simp)).trans rfl)
          have HS3 := Lib.hid (HS2.out.below hb3)
          have hb3' : Below w.heap.size w w3 := hb2.trans (hb3.mono hb2.size)
          have hlt3 : w1.heap.size < w3.heap.size := Nat.lt_of_lt_of_le hn0 hb3.size
          clear hn0 hb2
          go_wp2_with fail
          refine (ascends_any w1.heap.size a cap n ts _ HS3.out hlt3 d0 d1).mono ?_
          rintro e w4 ⟨rfl, hb4⟩
          have H3' := H3.out
          rw [H3']
          clear H3'
          go_wp2
          go_ret2
          exact ⟨.inl ⟨rfl, by rw [HE.out, H3.out, Bool.and_false]⟩, hb3'.trans (hb4.mono hb3'.size)⟩
      | true =>
        have H3 := Lib.hid h3
        clear h3
        go_enter Try.func65, Try.ntmps65
        go_wp2_with fail
        refine (termWords_any a cap n ts _ HS.out).mono ?_
        rintro e w1 ⟨⟨rfl, h⟩ | ⟨g, vals, rfl, _, hrow, hv⟩, hb1⟩
        · rw [H1.out] at h; cases h
        · have HR := Lib.hid hrow
          have HV := Lib.hid hv
          clear hrow hv
          go_wp2_with fail
          have hb2 : Below w.heap.size w (w1.alloc (.cells #[.slice a n cap, .func (.func 88) #[] #[]] 101)) := hb1.alloc hb1.size _
          have hb12 : Below w1.heap.size w1 (w1.alloc (.cells #[.slice a n cap, .func (.func 88) #[] #[]] 101)) := (Below.refl _ _).alloc (Nat.le_refl _) _
          have HS2 := Lib.hid (HS.out.below hb2)
          have hn0 : w1.heap.size < (w1.alloc (.cells #[.slice a n cap, .func (.func 88) #[] #[]] 101)).heap.size := by simp
          refine (containsZero_is a cap n ts false _ HS2.out H2.out).mono ?_
          rintro e w3 ⟨rfl, hb3⟩
          have d0 : w3.cell? ⟨w1.heap.size, 0, none⟩ = some (.slice a n cap) := (hb3.cell (p := ⟨w1.heap.size, 0, none⟩) hn0).trans ((World.cell?_alloc_at _ _ _ _ (by simp)).trans rfl)
          have d1 : w3.cell? ⟨w1.heap.size, 1, none⟩ = some (.func (.func 88) #[] #[]) := (hb3.cell (p := ⟨w1.heap.size, 1, none⟩) hn0).trans ((World.cell?_alloc_at _ _ _ _ (by simp)).trans rfl)
          have HS3 := Lib.hid (HS2.out.below hb3)
          have hb3' : Below w.heap.size w w3 := hb2.trans (hb3.mono hb2.size)
          have hb13 : Below w1.heap.size w1 w3 := hb12.trans (hb3.mono hb12.size)
          have hlt3 : w1.heap.size < w3.heap.size := Nat.lt_of_lt_of_le hn0 hb3.size
          clear hn0 hb2 hb12
          go_wp2_with fail
          refine (ascends_any w1.heap.size a cap n ts _ HS3.out hlt3 d0 d1).mono ?_
          rintro e w4 ⟨rfl, hb4⟩
          have H3' := H3.out
          rw [H3']
          clear H3'
          have hb14 := Lib.hid (hb13.trans (hb4.mono hb13.size))
          go_wp2
          go_ret2
          refine ⟨.inr ⟨g, vals, rfl, by rw [HE.out, H1.out, H2.out, H3.out]; rfl, ?_, fun j hj v hv => (HV.out j hj v hv).below hb14.out⟩, hb3'.trans (hb4.mono hb3'.size)⟩
          exact HR.out.kept ⟨hb14.out.os, hb14.out.tape, hb14.out.output, hb14.out.size, fun j hj _ => hb14.out.block j hj⟩ (row := none) (.inr (by simp [Value.ownBlock]))

theorem iSumIn_any (a : Option Addr) (cap n : Nat) (ts : List Tm) (w : World) (hs : IsTerms w a n ts) :
    Calls Try.prog 64 #[.slice a n cap] w fun e w' => e = .returned (.bool (sumB ts)) ∧ Below w.heap.size w w' := by
  have HS := Lib.hid hs
  clear hs
  go_enter Try.func64, Try.ntmps64
  go_wp2_with fail
  refine (sumWords_any a cap n ts _ HS.out).mono ?_
  rintro e w1 ⟨⟨rfl, h⟩ | ⟨g, vals, rfl, h, _, _⟩, hb1⟩
  · have H := Lib.hid h
    clear h
    go_wp2
    go_ret
    exact ⟨ret_bool H.out.symm, hb1⟩
  · have H := Lib.hid h
    clear h
    go_wp2
    go_ret
    exact ⟨ret_bool H.out.symm, hb1⟩

end Go.Proofs.Ytebgcebjlbhjjab

/- Canonical lists of terms are sums where their terms are as told. -/

namespace Go.Proofs.Ytebgcebjlbhjjab
open Go.RowKit Go.Shelf

theorem canon_of (ts : List Tm) : Canon (canonT ts) := (canon_foldl ts [] ⟨List.Pairwise.nil, fun t h => by cases h⟩).1
theorem hasZero_canon {ts : List Tm} (h : Canon ts) : hasZero ts = false := by
  unfold hasZero
  refine List.any_eq_false.2 fun t ht => ?_
  simpa using h.2 t ht
theorem ascB_canon {ts : List Tm} (h : Canon ts) : ascB ts = true := by
  refine ascB_true fun k hk hk0 => ?_
  rw [List.getD_eq_getElem?_getD, List.getD_eq_getElem?_getD, List.getElem?_eq_getElem hk, List.getElem?_eq_getElem (by omega : k - 1 < ts.length)]
  exact List.pairwise_iff_getElem.1 h.1 (k - 1) k (by omega) hk (by omega)
theorem sumB_canon {ts : List Tm} (h : Canon ts) : sumB ts = twB ts := by
  rw [sumB_eq, hasZero_canon h, ascB_canon h]
  simp

theorem canon_len_words {ts : List Tm} (h : twB ts = true) : ts.length ≤ 300 ∧ ∀ t ∈ ts, termB t = true := by
  unfold twB at h
  simp only [Bool.and_eq_true, decide_eq_true_eq, List.all_eq_true] at h
  exact h

end Go.Proofs.Ytebgcebjlbhjjab

/- The contract of the model's 'SumAdd'; sums as canonical lists. -/

namespace Go.Proofs.Ytebgcebjlbhjjab
open Go.RowKit Go.Shelf

theorem sSumIn_is (a : Option Addr) (cap n : Nat) (ts : List Tm) (b : Bool) (w : World) (hs : IsTerms w a n ts) (hb : sumB ts = b) :
    Calls Try.prog 117 #[.slice a n cap] w fun e w' => e = .returned (.bool b) ∧ Below w.heap.size w w' := by
  subst hb; exact sSumIn_any a cap n ts w hs
theorem iSumIn_is (a : Option Addr) (cap n : Nat) (ts : List Tm) (b : Bool) (w : World) (hs : IsTerms w a n ts) (hb : sumB ts = b) :
    Calls Try.prog 64 #[.slice a n cap] w fun e w' => e = .returned (.bool b) ∧ Below w.heap.size w w' := by
  subst hb; exact iSumIn_any a cap n ts w hs

theorem pairwise_lessW {ts : List Tm} (h : ∀ k, k < ts.length → 0 < k → lessW (ts.getD (k - 1) default).s (ts.getD k default).s = true) : ts.Pairwise (fun a b => lessW a.s b.s = true) := by
  rw [List.pairwise_iff_getElem]
  have key : ∀ d i (hi : i < ts.length) (hj : i + (d + 1) < ts.length), lessW ts[i].s ts[i + (d + 1)].s = true := by
    intro d
    induction d with
    | zero =>
      intro i hi hj
      have := h (i + 1) hj (by omega)
      rw [show i + 1 - 1 = i by omega, List.getD_eq_getElem?_getD, List.getD_eq_getElem?_getD, List.getElem?_eq_getElem hj, List.getElem?_eq_getElem hi] at this
      exact this
    | succ d ih =>
      intro i hi hj
      have h1 := ih i hi (by omega)
      have h2 := h (i + (d + 1) + 1) hj (by omega)
      rw [show i + (d + 1) + 1 - 1 = i + (d + 1) by omega, List.getD_eq_getElem?_getD, List.getD_eq_getElem?_getD, List.getElem?_eq_getElem (by omega : i + (d + 1) < ts.length), List.getElem?_eq_getElem (by omega : i + (d + 1) + 1 < ts.length)] at h2
      exact lessW_trans h1 h2
  intro i j hi hj hij
  obtain ⟨d, rfl⟩ : ∃ d, j = i + (d + 1) := ⟨j - i - 1, by omega⟩
  exact key d i hi hj
theorem sumB_parts {ts : List Tm} (h : sumB ts = true) : twB ts = true ∧ Canon ts := by
  rw [sumB_eq] at h
  simp only [Bool.and_eq_true, Bool.not_eq_true'] at h
  obtain ⟨⟨h1, h2⟩, h3⟩ := h
  refine ⟨h1, pairwise_lessW fun k hk hk0 => ?_, fun t ht => ?_⟩
  · unfold ascB at h3
    have := List.all_eq_true.1 h3 k (List.mem_range.2 hk)
    simp only [Bool.or_eq_true, decide_eq_true_eq] at this
    rcases this with h | h
    · omega
    · exact h
  · unfold hasZero at h2
    have := List.any_eq_false.1 h2 t ht
    simpa using this
theorem canonT_of_canon {ts : List Tm} (h : Canon ts) : canonT ts = ts := (canonT_unique h fun _ => rfl).symm
theorem canonT_append {x : List Tm} (y : List Tm) (h : Canon x) : canonT (x ++ y) = y.foldl addT x := by
  have h2 := canonT_of_canon h
  unfold canonT at h2 ⊢
  rw [List.foldl_append, h2]
theorem fold_succ2 (x ts : List Tm) (k : Nat) (h : k < ts.length) : (ts.take (k + 1)).foldl addT x = addT ((ts.take k).foldl addT x) ts[k] := by
  rw [List.take_succ_eq_append_getElem h, List.foldl_append]; rfl

/-- What SumAdd answers. -/
def addB (x y : List Tm) : Bool := sumB x && (sumB y && twB (canonT (x ++ y)))

theorem acc_start {base : Nat} {w : World} {v : Value} {x : List Tm} (h : OwnTerms base w v x) (ht : twB x = true) : Acc base w v x 300 1000000 := by
  obtain ⟨h1, h2⟩ := canon_len_words ht
  exact ⟨h, h1, fun u hu => by have := (termB_iff (h2 u hu)).2; omega, fun u hu => (termB_iff (h2 u hu)).1⟩

theorem isTerms_cells {w : World} {ad : Addr} {n : Nat} {x : List Tm} (h : IsTerms w (some ad) n x) : ∀ j u, (termsV x)[j]? = some u → w.cell? (ad.add j) = some u := by
  intro j u hu
  rcases Nat.eq_zero_or_pos n with h0 | h0
  · have : x = [] := List.length_eq_zero_iff.1 (h.len.trans h0)
    subst this
    simp [termsV] at hu
  · obtain ⟨z, e, h2⟩ := h.at_ h0
    cases e
    exact h2.cells j u hu

end Go.Proofs.Ytebgcebjlbhjjab

/- Derivatives of words as lists of terms in the order of letters; sums of such lists. -/

namespace Go.Proofs.Ytebgcebjlbhjjab
open Go.RowKit

/-- The term of one letter behind p. -/
def foxT (g c : Int) (p : List UInt8) (x : UInt8) : List Tm := if (idxB x : Int) = g then [⟨c * sgnB x, bstr (if 97 ≤ x.toNat then p else p ++ [x])⟩] else []
/-- The terms of the first k letters. -/
def foxN (g c : Int) (l : List UInt8) : Nat → List Tm
  | 0 => []
  | k + 1 => foxN g c l k ++ foxT g c (l.take k) (l.getD k 0)
def foxL (g c : Int) (l : List UInt8) : List Tm := foxN g c l l.length
theorem foxN_succ (g c : Int) (l : List UInt8) (k : Nat) (hk : k < l.length) : foxN g c l (k + 1) = foxN g c l k ++ foxT g c (l.take k) l[k] := by
  rw [foxN, List.getD_eq_getElem?_getD, List.getElem?_eq_getElem hk]; rfl
theorem foxT_no {g c : Int} {p : List UInt8} {x : UInt8} (h : (idxB x : Int) ≠ g) : foxT g c p x = [] := if_neg h
theorem foxT_hi {g c : Int} {p : List UInt8} {x : UInt8} (h : (idxB x : Int) = g) (hx : 97 ≤ x.toNat) : foxT g c p x = [⟨c * sgnB x, bstr p⟩] := by
  unfold foxT; rw [if_pos h, if_pos hx]
theorem foxT_lo {g c : Int} {p : List UInt8} {x : UInt8} (h : (idxB x : Int) = g) (hx : ¬ 97 ≤ x.toNat) : foxT g c p x = [⟨c * sgnB x, bstr (p ++ [x])⟩] := by
  unfold foxT; rw [if_pos h, if_neg hx]
theorem sgnB_bnd (x : UInt8) : -1 ≤ sgnB x ∧ sgnB x ≤ 1 := by unfold sgnB; split <;> omega
theorem mul_sgn {c C : Int} (hc : -C ≤ c ∧ c ≤ C) (x : UInt8) : -C ≤ c * sgnB x ∧ c * sgnB x ≤ C := by
  unfold sgnB; split <;> omega
theorem foxN_len (g c : Int) (l : List UInt8) : ∀ k, (foxN g c l k).length ≤ k
  | 0 => Nat.le_refl _
  | k + 1 => by
    have := foxN_len g c l k
    rw [foxN, List.length_append]
    have h2 : (foxT g c (l.take k) (l.getD k 0)).length ≤ 1 := by unfold foxT; split <;> simp
    omega
theorem foxN_mem {g c C : Int} (hc : -C ≤ c ∧ c ≤ C) {l : List UInt8} {t : Tm} : ∀ {k}, k ≤ l.length → t ∈ foxN g c l k → (-C ≤ t.c ∧ t.c ≤ C) ∧ ∃ j, j ≤ k ∧ t.s = bstr (l.take j)
  | 0, _, h => by cases h
  | k + 1, hk, h => by
    rw [foxN_succ g c l k (by omega)] at h
    rcases List.mem_append.1 h with h | h
    · obtain ⟨h1, j, hj, h2⟩ := foxN_mem hc (by omega) h
      exact ⟨h1, j, by omega, h2⟩
    · by_cases hi : (idxB l[k] : Int) = g
      · by_cases hx : 97 ≤ l[k].toNat
        · rw [foxT_hi hi hx] at h
          obtain rfl := List.mem_singleton.1 h
          exact ⟨mul_sgn hc _, k, by omega, rfl⟩
        · rw [foxT_lo hi hx] at h
          obtain rfl := List.mem_singleton.1 h
          refine ⟨mul_sgn hc _, k + 1, by omega, ?_⟩
          show bstr (l.take k ++ [l[k]]) = _
          rw [← take_snoc l k (by omega)]
      · rw [foxT_no hi] at h; cases h
theorem word_take {l : List UInt8} (h : wordB l = true) (j : Nat) : wordB (l.take j) = true := by
  obtain ⟨h1, h2, h3⟩ := (wordB_iff _).1 h
  refine (wordB_iff _).2 ⟨by rw [List.length_take]; omega, letL_of_mem _ _ h2 fun _ hc => List.mem_of_mem_take hc, (red_iff _).2 ?_⟩
  have := (red_iff _).1 h3
  rw [← List.take_append_drop j l] at this
  exact noC_left this

/-! ### Coefficients -/
def scaleT (c : Int) (ts : List Tm) : List Tm := ts.map fun t => ⟨c * t.c, t.s⟩
theorem coefAt_scale (s : ByteArray) (c : Int) : ∀ ts, coefAt s (scaleT c ts) = c * coefAt s ts
  | [] => by simp [scaleT, coefAt]
  | t :: r => by
    have ih := coefAt_scale s c r
    unfold scaleT at *
    rw [List.map_cons, coefAt, coefAt, ih, Int.mul_add]
    show (if t.s = s then c * t.c else 0) + _ = _
    split
    · rfl
    · simp
theorem foxT_scale (g c : Int) (p : List UInt8) (x : UInt8) : foxT g c p x = scaleT c (foxT g 1 p x) := by
  unfold foxT scaleT
  split
  · simp
  · rfl
theorem foxN_scale (g c : Int) (l : List UInt8) : ∀ k, foxN g c l k = scaleT c (foxN g 1 l k)
  | 0 => rfl
  | k + 1 => by
    rw [foxN, foxN, foxN_scale g c l k, foxT_scale]
    unfold scaleT; rw [List.map_append]
theorem foxL_scale (g c : Int) (l : List UInt8) : foxL g c l = scaleT c (foxL g 1 l) := foxN_scale g c l _
theorem coefAt_flat (s : ByteArray) {f h : Tm → List Tm} (hfh : ∀ t, coefAt s (f t) = coefAt s (h t)) : ∀ a : List Tm, coefAt s (a.flatMap f) = coefAt s (a.flatMap h)
  | [] => rfl
  | t :: r => by rw [List.flatMap_cons, List.flatMap_cons, coefAt_append, coefAt_append, hfh, coefAt_flat s hfh r]
theorem canonT_congr {a b : List Tm} (h : ∀ s, coefAt s a = coefAt s b) : canonT a = canonT b :=
  canonT_unique (canonT_spec a).1 fun s => by rw [(canonT_spec a).2, h]

/-- The terms of the derivative of a sum: as the program gathers them, and as the model does. -/
def foxI (g : Int) (a : List Tm) : List Tm := a.flatMap fun t => foxL g t.c t.s.data.toList
def foxM (g : Int) (a : List Tm) : List Tm := a.flatMap fun t => scaleT t.c (canonT (foxL g 1 t.s.data.toList))
theorem foxIM (g : Int) (a : List Tm) : canonT (foxM g a) = canonT (foxI g a) :=
  canonT_congr fun s => coefAt_flat s (fun t => by rw [coefAt_scale, (canonT_spec _).2, foxL_scale g t.c, coefAt_scale]) a

/-! ### Sizes -/
theorem fold_bound {C : Int} (hC : 0 ≤ C) : ∀ (ts acc : List Tm) (B : Int), 0 ≤ B → (∀ t ∈ ts, -C ≤ t.c ∧ t.c ≤ C) → (∀ u ∈ acc, -B ≤ u.c ∧ u.c ≤ B) → ∀ u ∈ ts.foldl addT acc, -(B + C * ts.length) ≤ u.c ∧ u.c ≤ B + C * ts.length
  | [], acc, B, _, _, h, u, hu => by have := h u hu; simpa using this
  | t :: r, acc, B, hB, ht, h, u, hu => by
    have h1 := fold_bound hC r (addT acc t) (B + C) (by omega) (fun v hv => ht v (by simp [hv])) (add_bound hC (ht t (by simp)) h hB) u hu
    rw [List.length_cons, show ((r.length + 1 : Nat) : Int) = (r.length : Int) + 1 by omega, Int.mul_add, Int.mul_one]
    omega
theorem fold_words : ∀ (ts acc : List Tm), ∀ u ∈ ts.foldl addT acc, (∃ v ∈ acc, v.s = u.s) ∨ ∃ v ∈ ts, v.s = u.s
  | [], acc, u, hu => .inl ⟨u, hu, rfl⟩
  | t :: r, acc, u, hu => by
    rcases fold_words r (addT acc t) u hu with ⟨v, hv, e⟩ | ⟨v, hv, e⟩
    · rcases add_words hv with h | ⟨x, hx, h⟩
      · exact .inr ⟨t, by simp, by rw [← h, e]⟩
      · exact .inl ⟨x, hx, by rw [h, e]⟩
    · exact .inr ⟨v, by simp [hv], e⟩
theorem canon_words {ts : List Tm} {u : Tm} (h : u ∈ canonT ts) : ∃ v ∈ ts, v.s = u.s := by
  rcases fold_words ts [] u h with ⟨v, hv, _⟩ | h
  · cases hv
  · exact h
theorem fold_len : ∀ (ts acc : List Tm), (ts.foldl addT acc).length ≤ acc.length + ts.length
  | [], acc => Nat.le_refl _
  | t :: r, acc => by
    have := fold_len r (addT acc t)
    have h2 := add_len t acc
    rw [List.length_cons]
    show (r.foldl addT (addT acc t)).length ≤ _
    omega
/-- A derivative of a word is a sum. -/
theorem fox_tw {g : Int} {l : List UInt8} (h : wordB l = true) : twB (canonT (foxL g 1 l)) = true := by
  have hl := ((wordB_iff _).1 h).1
  have hn := foxN_len g 1 l l.length
  have hlen : (canonT (foxL g 1 l)).length ≤ 60 := by
    have := fold_len (foxL g 1 l) []
    unfold foxL canonT at *
    simp only [List.length_nil] at this
    omega
  refine twB_of (by omega) fun j hj => ?_
  have hm := List.getElem_mem hj
  have hb := fold_bound (C := 1) (by omega) (foxL g 1 l) [] 0 (by omega) (fun t ht => (foxN_mem (C := 1) (by omega) (Nat.le_refl _) ht).1) (fun u hu => by cases hu) _ hm
  have hb2 : (foxL g 1 l).length ≤ 60 := by unfold foxL; omega
  obtain ⟨v, hv, e⟩ := canon_words hm
  obtain ⟨_, k, _, e2⟩ := foxN_mem (C := 1) (by omega) (Nat.le_refl _) hv
  unfold termB
  rw [← e, e2, bstr_toList, word_take h, Bool.true_and]
  unfold inR
  simp only [Bool.and_eq_true, decide_eq_true_eq]
  omega
theorem foxI_succ (g : Int) (a : List Tm) (k : Nat) (h : k < a.length) : foxI g (a.take (k + 1)) = foxI g (a.take k) ++ foxL g a[k].c a[k].s.data.toList := by
  unfold foxI; rw [List.take_succ_eq_append_getElem h, List.flatMap_append]; simp
theorem foxM_succ (g : Int) (a : List Tm) (k : Nat) (h : k < a.length) : foxM g (a.take (k + 1)) = foxM g (a.take k) ++ scaleT a[k].c (canonT (foxL g 1 a[k].s.data.toList)) := by
  unfold foxM; rw [List.take_succ_eq_append_getElem h, List.flatMap_append]; simp
theorem foxI_len (g : Int) : ∀ (a : List Tm), (∀ t ∈ a, t.s.size ≤ 60) → (foxI g a).length ≤ 60 * a.length
  | [], _ => by simp [foxI]
  | t :: r, h => by
    have ih := foxI_len g r fun u hu => h u (by simp [hu])
    have h1 := foxN_len g t.c t.s.data.toList t.s.data.toList.length
    have h2 := h t (by simp)
    unfold foxI foxL at *
    rw [List.flatMap_cons, List.length_append, List.length_cons]
    have h3 : t.s.data.toList.length = t.s.size := by simp
    omega
theorem foxI_mem {g : Int} {a : List Tm} (h : ∀ t ∈ a, t.s.size ≤ 60 ∧ -1000000 ≤ t.c ∧ t.c ≤ 1000000) {u : Tm} (hu : u ∈ foxI g a) : u.s.size ≤ 60 ∧ -1000000 ≤ u.c ∧ u.c ≤ 1000000 := by
  obtain ⟨t, ht, hu⟩ := List.mem_flatMap.1 hu
  obtain ⟨h1, h2⟩ := h t ht
  obtain ⟨h3, j, _, e⟩ := foxN_mem (C := 1000000) h2 (Nat.le_refl _) hu
  refine ⟨?_, h3⟩
  rw [e, bstr_size, List.length_take]
  have : t.s.data.toList.length = t.s.size := by simp
  omega

end Go.Proofs.Ytebgcebjlbhjjab

/- Monomials and series: what they are; the contracts of the model's 'l4Mono' and 'SeriesIn'. -/

namespace Go.Proofs.Ytebgcebjlbhjjab
open Go.RowKit

def genB (c : UInt8) : Bool := decide (97 ≤ c.toNat) && decide (c.toNat ≤ 100)
/-- Is this a monomial? -/
def monoB (s : ByteArray) : Bool := s.data.toList.all genB && decide (s.size ≤ 4)
theorem genB_false (s : ByteArray) (k : Nat) (hk : k < s.data.toList.length) (h : genB s.data.toList[k] = false) : monoB s = false := by
  unfold monoB; rw [List.all_eq_false.2 ⟨_, List.getElem_mem hk, by rw [h]; exact Bool.false_ne_true⟩]; rfl

set_option maxRecDepth 100000 in
set_option maxHeartbeats 1000000 in
theorem sMono_is (s : ByteArray) (b : Bool) (w : World) (hs : s.size ≤ maxLen) (hb : monoB s = b) :
    Calls Try.prog 92 #[.string s] w fun e w' => e = .returned (.bool b) ∧ Below w.heap.size w w' := by
  have HB := Lib.hid hb
  unfold maxLen at hs
  clear hb
  go_enter Try.func92, Try.ntmps92
  go_wp2
  go_loopw [3] (fun i wr => ∃ k : Nat, k ≤ s.size ∧ i = .int .i64 k ∧ Hid ((s.data.toList.take k).all genB = true) ∧ Below w.heap.size w wr) (fun i _ => s.size - (intOf i).toNat)
  case atStart => exact ⟨0, Nat.zero_le _, rfl, Lib.hid rfl, Below.refl _ _⟩
  case round =>
    obtain ⟨k, hk, rfl, HG, hB⟩ := hrel
    by_cases hlt : k < s.size
    · have hl : k < s.data.toList.length := by simpa using hlt
      have hstep : (s.data.toList.take (k + 1)).all genB = genB s[k] := by rw [take_snoc _ k hl, List.all_append, HG.out, Bool.true_and]; simp; rfl
      have HS := Lib.hid hstep
      have HF : Hid (genB s[k] = false → b = false) := Lib.hid fun h => by rw [← HB.out]; exact genB_false s k hl h
      clear hstep
      by_cases h1 : 97 ≤ s[k].toNat
      · by_cases h2 : s[k].toNat ≤ 100
        · have hg : genB s[k] = true := by unfold genB; rw [decide_eq_true h1, decide_eq_true h2]; rfl
          have HGT := Lib.hid hg
          clear hg
          go_wp2_with fail
          go_roundw
          case rel => exact ⟨k + 1, by omega, by go_num, Lib.hid (by rw [HS.out]; exact HGT.out), hB⟩
          case measure => simp [intOf]; omega
        · have hg : genB s[k] = false := by unfold genB; rw [decide_eq_false h2, Bool.and_false]
          have hbf := HF.out hg
          clear hg
          subst hbf
          go_wp2_with fail
          go_ret
          exact ⟨rfl, hB⟩
      · have hg : genB s[k] = false := by unfold genB; rw [decide_eq_false h1]; rfl
        have hbf := HF.out hg
        clear hg
        subst hbf
        go_wp2_with fail
        go_ret
        exact ⟨rfl, hB⟩
    · have hall : s.data.toList.all genB = true := by rw [← HG.out, List.take_of_length_le (by simp; omega)]
      have hbb : decide (s.size ≤ 4) = b := by rw [← HB.out]; unfold monoB; rw [hall, Bool.true_and]
      have HBB := Lib.hid hbb
      clear hbb hall
      go_wp2_with fail
      go_ret
      exact ⟨ret_bool (by rw [← HBB.out]; exact decide_eq_decide.2 (by omega)), hB⟩

/-- Is the term at j as a series wants it, beside the one ahead of it? -/
def serAt (ts : List Tm) (j : Nat) : Bool :=
  (ts.getD j default).c != 0 && inR (-1000000) 1000000 (ts.getD j default).c && monoB (ts.getD j default).s && (decide (j = 0) || lessW (ts.getD (j - 1) default).s (ts.getD j default).s)
def allSer (ts : List Tm) (n : Nat) : Bool := (List.range n).all (serAt ts)
theorem allSer_succ (ts : List Tm) (n : Nat) : allSer ts (n + 1) = (allSer ts n && serAt ts n) := by simp [allSer, List.range_succ]
theorem allSer_false (ts : List Tm) (n k : Nat) (hk : k < n) (h : serAt ts k = false) : allSer ts n = false :=
  List.all_eq_false.2 ⟨k, List.mem_range.2 hk, by simp [h]⟩
/-- Is this a series? -/
def serB (ts : List Tm) : Bool := allSer ts ts.length && decide (ts.length ≤ 400)

theorem serB_false (ts : List Tm) (k : Nat) (hk : k < ts.length) (h : serAt ts k = false) : serB ts = false := by
  unfold serB; rw [allSer_false ts _ k hk h, Bool.false_and]
theorem serAt_c (ts : List Tm) (k : Nat) (t : Tm) (ht : ts.getD k default = t) (h : t.c = 0) : serAt ts k = false := by
  unfold serAt; rw [ht, h]; rfl
theorem serAt_r (ts : List Tm) (k : Nat) (t : Tm) (ht : ts.getD k default = t) (h : inR (-1000000) 1000000 t.c = false) : serAt ts k = false := by
  unfold serAt; rw [ht, h]; simp
theorem serAt_w (ts : List Tm) (k : Nat) (t : Tm) (ht : ts.getD k default = t) (h : monoB t.s = false) : serAt ts k = false := by
  unfold serAt; rw [ht, h]; simp
theorem serAt_zero (ts : List Tm) (k : Nat) (t : Tm) (hk : k = 0) (ht : ts.getD k default = t) (h0 : ¬ t.c = 0) (h1 : inR (-1000000) 1000000 t.c = true) (h2 : monoB t.s = true) : serAt ts k = true := by
  unfold serAt; rw [ht, h1, h2]; simp [h0, hk]
theorem serAt_succ (ts : List Tm) (k : Nat) (t p : Tm) (hk : 0 < k) (ht : ts.getD k default = t) (hp : ts.getD (k - 1) default = p) (h0 : ¬ t.c = 0) (h1 : inR (-1000000) 1000000 t.c = true) (h2 : monoB t.s = true) : serAt ts k = lessW p.s t.s := by
  have h3 : ¬ k = 0 := by omega
  unfold serAt; rw [ht, hp, h1, h2]; simp [h0, h3]

set_option maxRecDepth 100000 in
set_option maxHeartbeats 2000000 in
theorem sSeriesIn_any (a : Option Addr) (cap n : Nat) (ts : List Tm) (w : World) (hs : IsTerms w a n ts) :
    Calls Try.prog 32 #[.slice a n cap] w fun e w' => e = .returned (.bool (serB ts)) ∧ Below w.heap.size w w' := by
  have HN := Lib.hid hs.len
  have HS := Lib.hid hs
  have hm := hs.max
  have hmx : Try.prog.follows .mixedOrders = true := by kernel_rfl
  clear hs
  unfold maxLen at hm
  go_enter Try.func32, Try.ntmps32
  go_wp2
  go_loopw [3] (fun i wr => ∃ k : Nat, k ≤ n ∧ i = .int .i64 k ∧ Hid (allSer ts k = true) ∧ Below w.heap.size w wr) (fun i _ => n - (intOf i).toNat)
  case atStart => exact ⟨0, Nat.zero_le _, rfl, Lib.hid rfl, Below.refl _ _⟩
  case round =>
    obtain ⟨k, hk, rfl, HG, hB⟩ := hrel
    by_cases hlt : k < n
    · have hkz : k < ts.length := by rw [HN.out]; exact hlt
      obtain ⟨x, rfl, hx⟩ := HS.out.at_ (by omega)
      obtain ⟨t, ht⟩ : ∃ t, ts[k] = t := ⟨_, rfl⟩
      have hsm : t.s.size ≤ maxLen := by rw [← ht]; exact (HS.out.small _ (List.getElem_mem hkz)).1
      have hc := (hx.below hB).2 k hkz
      have hbx := (hx.below hB).1
      rw [ht, addr_next] at hc
      obtain ⟨c0, c1⟩ := hc
      have HT : Hid (ts.getD k default = t) := Lib.hid (by rw [List.getD_eq_getElem?_getD, List.getElem?_eq_getElem hkz, ht]; rfl)
      have HX := Lib.hid (hx.below hB)
      clear ht hx
      obtain ⟨V, hV⟩ : ∃ V, wr.alloc (.cells #[.int .i64 t.c, .string t.s] TI) = V := ⟨_, rfl⟩
      have hbV : Below wr.heap.size wr V := by rw [← hV]; exact (Below.refl _ _).alloc (Nat.le_refl _) _
      have hzV : V.heap.size = wr.heap.size + 1 := by rw [← hV]; simp
      have v0 := BelowBy.cell (w := V) (a := ⟨wr.heap.size, 0, none⟩) (by show wr.heap.size < _; omega) (by rw [← hV]; exact (World.cell?_alloc_at _ _ _ _ (by simp)).trans rfl : V.cell? ⟨wr.heap.size, 0, none⟩ = some (.int .i64 t.c))
      have v1 := BelowBy.cell (w := V) (a := ⟨wr.heap.size, 1, none⟩) (by show wr.heap.size < _; omega) (by rw [← hV]; exact (World.cell?_alloc_at _ _ _ _ (by simp)).trans rfl : V.cell? ⟨wr.heap.size, 1, none⟩ = some (.string t.s))
      have HV := Lib.hid hV
      have HZ := Lib.hid hzV
      clear hV hzV
      by_cases h0 : t.c = 0
      · have HC0 := Lib.hid h0
        have hz : (t.c == 0) = true := by rw [h0]; rfl
        clear h0
        go_wp2
        rw [HV.out]
        refine wp_region_below hmx (by kernel_rfl) ?_
        repeat (((with_reducible refine wpQuiet_step (fun K hK => ?_)); go_simp; first | ((with_reducible refine hK _ ?_); clear hK K) | (refine (if_neg (by decide)).mpr ?_; (with_reducible refine hK _ ?_); clear hK K) | (apply Exists.intro; (with_reducible refine ⟨fun _ => ?_, hK _ ?_⟩); (first | (go_at_call 91; exact Calls.bel (l6In_is _ _ _ _ _ HC.out)) | (go_at_call 92; exact Calls.bel (sMono_is _ _ _ hsm HW.out)) | (go_at_call 93; exact Calls.bel (l2Less_is _ _ _ _ HLs.out))); clear hK K)))
        with_reducible refine wpQuiet_nil ?_
        rintro W ⟨⟨_, hW⟩, rfl⟩
        have hBW : Below w.heap.size w W := hB.trans (((hbV.mono (Nat.le_refl _)).trans (hW.mono (by rw [HZ.out]; omega))).mono hB.size)
        clear v0 v1
        go_wp2
        go_ret
        exact ⟨ret_bool (serB_false ts k hkz (by rw [serAt_c ts k t HT.out HC0.out])).symm, hBW⟩
      · have hz : (t.c == 0) = false := by simpa using h0
        have HC0 := Lib.hid h0
        clear h0
        cases hc : inR (-1000000) 1000000 t.c with
        | false =>
          have HC := Lib.hid hc
          clear hc
          go_wp2
          rw [HV.out]
          refine wp_region_below hmx (by kernel_rfl) ?_
          repeat (((with_reducible refine wpQuiet_step (fun K hK => ?_)); go_simp; first | ((with_reducible refine hK _ ?_); clear hK K) | (refine (if_neg (by decide)).mpr ?_; (with_reducible refine hK _ ?_); clear hK K) | (apply Exists.intro; (with_reducible refine ⟨fun _ => ?_, hK _ ?_⟩); (first | (go_at_call 91; exact Calls.bel (l6In_is _ _ _ _ _ HC.out)) | (go_at_call 92; exact Calls.bel (sMono_is _ _ _ hsm HW.out)) | (go_at_call 93; exact Calls.bel (l2Less_is _ _ _ _ HLs.out))); clear hK K)))
          with_reducible refine wpQuiet_nil ?_
          rintro W ⟨⟨_, hW⟩, rfl⟩
          have hBW : Below w.heap.size w W := hB.trans (((hbV.mono (Nat.le_refl _)).trans (hW.mono (by rw [HZ.out]; omega))).mono hB.size)
          clear v0 v1
          go_wp2
          go_ret
          exact ⟨ret_bool (serB_false ts k hkz (by rw [serAt_r ts k t HT.out HC.out])).symm, hBW⟩
        | true =>
          have HC := Lib.hid hc
          clear hc
          cases hw : monoB t.s with
          | false =>
            have HW := Lib.hid hw
            clear hw
            go_wp2
            rw [HV.out]
            refine wp_region_below hmx (by kernel_rfl) ?_
            repeat (((with_reducible refine wpQuiet_step (fun K hK => ?_)); go_simp; first | ((with_reducible refine hK _ ?_); clear hK K) | (refine (if_neg (by decide)).mpr ?_; (with_reducible refine hK _ ?_); clear hK K) | (apply Exists.intro; (with_reducible refine ⟨fun _ => ?_, hK _ ?_⟩); (first | (go_at_call 91; exact Calls.bel (l6In_is _ _ _ _ _ HC.out)) | (go_at_call 92; exact Calls.bel (sMono_is _ _ _ hsm HW.out)) | (go_at_call 93; exact Calls.bel (l2Less_is _ _ _ _ HLs.out))); clear hK K)))
            with_reducible refine wpQuiet_nil ?_
            rintro W ⟨⟨_, hW⟩, rfl⟩
            have hBW : Below w.heap.size w W := hB.trans (((hbV.mono (Nat.le_refl _)).trans (hW.mono (by rw [HZ.out]; omega))).mono hB.size)
            clear v0 v1
            go_wp2
            go_ret
            exact ⟨ret_bool (serB_false ts k hkz (by rw [serAt_w ts k t HT.out HW.out])).symm, hBW⟩
          | true =>
            have HW := Lib.hid hw
            clear hw
            by_cases hk0 : k = 0
            · have HK0 := Lib.hid hk0
              have hd : decide (0 < k) = false := by simp; omega
              clear hk0
              go_wp2
              rw [HV.out]
              refine wp_region_below hmx (by kernel_rfl) ?_
              repeat (((with_reducible refine wpQuiet_step (fun K hK => ?_)); go_simp; first | ((with_reducible refine hK _ ?_); clear hK K) | (refine (if_neg (by decide)).mpr ?_; (with_reducible refine hK _ ?_); clear hK K) | (apply Exists.intro; (with_reducible refine ⟨fun _ => ?_, hK _ ?_⟩); (first | (go_at_call 91; exact Calls.bel (l6In_is _ _ _ _ _ HC.out)) | (go_at_call 92; exact Calls.bel (sMono_is _ _ _ hsm HW.out)) | (go_at_call 93; exact Calls.bel (l2Less_is _ _ _ _ HLs.out))); clear hK K)))
              with_reducible refine wpQuiet_nil ?_
              rintro W ⟨⟨_, hW⟩, rfl⟩
              have hBW : Below w.heap.size w W := hB.trans (((hbV.mono (Nat.le_refl _)).trans (hW.mono (by rw [HZ.out]; omega))).mono hB.size)
              clear v0 v1
              go_wp2
              go_roundw
              case rel => exact ⟨k + 1, by omega, by go_num, Lib.hid (by rw [allSer_succ, HG.out, Bool.true_and]; exact serAt_zero ts k t HK0.out HT.out HC0.out HC.out HW.out), hBW⟩
              case measure => simp [intOf]; omega
            · have HKp := Lib.hid (Nat.pos_of_ne_zero hk0)
              have hd : decide (0 < k) = true := by simp; omega
              obtain ⟨j, hj⟩ : ∃ j, k - 1 = j := ⟨_, rfl⟩
              have hjn : j < n := by omega
              have hjz : j < ts.length := by omega
              obtain ⟨p, hp⟩ : ∃ p, ts[j] = p := ⟨_, rfl⟩
              have hd0 := (HX.out.2 j hjz).2
              have hdb := HX.out.1
              have hwr : IntKind.i64.wrap ((k : Int) - 1) = (j : Int) := by rw [IntWalk.i64_in _ (by omega)]; omega
              have HP : Hid (ts.getD (k - 1) default = p) := Lib.hid (by rw [hj, List.getD_eq_getElem?_getD, List.getElem?_eq_getElem hjz, hp]; rfl)
              rw [hp, addr_next] at hd0
              have v2 := BelowBy.cell (w := V) (a := ⟨(x.add (j * 2)).block, (x.add (j * 2)).off + 1, none⟩) (by show (x.add (j * 2)).block < _; rw [addr_add_block]; rw [HZ.out]; omega) ((hbV.cell (p := ⟨(x.add (j * 2)).block, (x.add (j * 2)).off + 1, none⟩) (by show (x.add (j * 2)).block < _; rw [addr_add_block]; exact hdb)).trans hd0)
              clear hk0 hj hp hd0 hdb
              cases hl : lessW p.s t.s with
              | false =>
                have HLs := Lib.hid hl
                clear hl
                go_wp2
                rw [HV.out]
                refine wp_region_below hmx (by kernel_rfl) ?_
                repeat (((with_reducible refine wpQuiet_step (fun K hK => ?_)); go_simp; first | ((with_reducible refine hK _ ?_); clear hK K) | (refine (if_neg (by decide)).mpr ?_; (with_reducible refine hK _ ?_); clear hK K) | (apply Exists.intro; (with_reducible refine ⟨fun _ => ?_, hK _ ?_⟩); (first | (go_at_call 91; exact Calls.bel (l6In_is _ _ _ _ _ HC.out)) | (go_at_call 92; exact Calls.bel (sMono_is _ _ _ hsm HW.out)) | (go_at_call 93; exact Calls.bel (l2Less_is _ _ _ _ HLs.out))); clear hK K)))
                with_reducible refine wpQuiet_nil ?_
                rintro W ⟨⟨_, hW⟩, rfl⟩
                have hBW : Below w.heap.size w W := hB.trans (((hbV.mono (Nat.le_refl _)).trans (hW.mono (by rw [HZ.out]; omega))).mono hB.size)
                clear v0 v1 v2 hwr
                go_wp2
                go_ret
                exact ⟨ret_bool (serB_false ts k hkz (by rw [serAt_succ ts k t p HKp.out HT.out HP.out HC0.out HC.out HW.out]; exact HLs.out)).symm, hBW⟩
              | true =>
                have HLs := Lib.hid hl
                clear hl
                go_wp2
                rw [HV.out]
                refine wp_region_below hmx (by kernel_rfl) ?_
                repeat (((with_reducible refine wpQuiet_step (fun K hK => ?_)); go_simp; first | ((with_reducible refine hK _ ?_); clear hK K) | (refine (if_neg (by decide)).mpr ?_; (with_reducible refine hK _ ?_); clear hK K) | (apply Exists.intro; (with_reducible refine ⟨fun _ => ?_, hK _ ?_⟩); (first | (go_at_call 91; exact Calls.bel (l6In_is _ _ _ _ _ HC.out)) | (go_at_call 92; exact Calls.bel (sMono_is _ _ _ hsm HW.out)) | (go_at_call 93; exact Calls.bel (l2Less_is _ _ _ _ HLs.out))); clear hK K)))
                with_reducible refine wpQuiet_nil ?_
                rintro W ⟨⟨_, hW⟩, rfl⟩
                have hBW : Below w.heap.size w W := hB.trans (((hbV.mono (Nat.le_refl _)).trans (hW.mono (by rw [HZ.out]; omega))).mono hB.size)
                clear v0 v1 v2 hwr
                go_wp2
                go_roundw
                case rel => exact ⟨k + 1, by omega, by go_num, Lib.hid (by rw [allSer_succ, HG.out, Bool.true_and]; rw [serAt_succ ts k t p HKp.out HT.out HP.out HC0.out HC.out HW.out]; exact HLs.out), hBW⟩
                case measure => simp [intOf]; omega
    · obtain rfl : k = n := by omega
      go_wp2
      go_ret
      exact ⟨ret_bool (by unfold serB; rw [HN.out, HG.out, Bool.true_and, Bool.eq_iff_iff]; simp; omega), hB⟩

end Go.Proofs.Ytebgcebjlbhjjab

/- The contracts of the laws' own helpers on slices of ints: are two equal, put marks in, are the marks still there. -/

namespace Go.Proofs.Ytebgcebjlbhjjab
open Go.RowKit

def intsV (zs : List Int) : List Value := zs.map (Value.int .i64)
theorem intsV_len (zs : List Int) : (intsV zs).length = zs.length := by simp [intsV]
theorem infoInt : (Try.prog.info? 3).map (fun i => (i.zero, i.size, i.bytes)) = some (some (.int .i64 0), 1, 8) := by kernel_rfl

/-- The value v is a slice of the call's own that holds the ints zs, in a block from base on. -/
def IntRow (base : Nat) (w : World) (v : Value) (zs : List Int) : Prop := w.ownsRow base 3 1 v zs.length (intsV zs)

theorem IntRow.shape {base : Nat} {w : World} {v : Value} {zs : List Int} (h : IntRow base w v zs) :
    ∃ a g cap, v = .slice a zs.length cap ∧ (0 < zs.length → a = some ⟨g, 0, none⟩ ∧ base ≤ g ∧ g < w.heap.size) ∧ zs.length ≤ maxLen ∧ ∀ j (hj : j < zs.length), w.cell? ⟨g, j, none⟩ = some (.int .i64 zs[j]) ∧ w.frozen? ⟨g, j, none⟩ = false := by
  rcases h.2 with ⟨rfl, h0⟩ | ⟨g, cap, cur, rfl, hb, hg, hn, hc, _⟩
  · exact ⟨none, 0, 0, by rw [h0], fun h => by omega, by rw [h0]; exact Nat.zero_le _, fun j hj => by omega⟩
  · refine ⟨some ⟨g, 0, none⟩, g, cap, rfl, fun _ => ⟨rfl, hb, (Array.getElem?_eq_some_iff.1 hg).1⟩, Nat.le_trans hn hc, fun j hj => ⟨?_, h.frozenAt j⟩⟩
    rw [h.cellAt j (by omega)]
    simp [intsV, hj]
theorem IntRow.below {base : Nat} {w w' : World} {v : Value} {zs : List Int} (h : IntRow base w v zs) (hb : Below w.heap.size w w') : IntRow base w' v zs :=
  h.kept ⟨hb.os, hb.tape, hb.output, hb.size, fun j hj _ => hb.block j hj⟩ (row := none) (by
    rcases h.2 with ⟨rfl, _⟩ | ⟨g, cap, cur, rfl, _⟩
    · exact .inl rfl
    · exact .inr (by simp [Value.ownBlock]))
theorem IntRow.mono {b1 b2 : Nat} {w : World} {v : Value} {zs : List Int} (h : IntRow b1 w v zs) (hb : b2 ≤ b1) : IntRow b2 w v zs := ownsRow_base h hb

/-- The marks k, k + 1, .. -/
def marks (k n : Nat) : List Int := (List.range n).map fun i => ((k + i : Nat) : Int)
theorem marks_succ (k j : Nat) : marks k (j + 1) = marks k j ++ [((k + j : Nat) : Int)] := by simp [marks, List.range_succ]
theorem marks_len (k n : Nat) : (marks k n).length = n := by simp [marks]

end Go.Proofs.Ytebgcebjlbhjjab

/- The contracts of the model's sums of letters. -/

namespace Go.Proofs.Ytebgcebjlbhjjab
open Go.RowKit

theorem sIndex_any (c : UInt8) (w : World) (h : letB c = true) :
    Calls Try.prog 123 #[.int .u8 (c.toNat : Int)] w fun e w' => e = .returned (.int .i64 (idxB c : Int)) ∧ w = w' := by
  have hc := (letB_iff c).1 h
  clear h
  by_cases h97 : 97 ≤ c.toNat
  · have H : Hid ((idxB c : Int) = (c.toNat : Int) - 97) := Lib.hid (by unfold idxB; rw [if_pos h97]; omega)
    have h2 : c.toNat ≤ 100 := by omega
    clear hc
    go_enter Try.func123, Try.ntmps123
    go_wp2
    go_ret
    exact ⟨ret_int H.out.symm, rfl⟩
  · have H : Hid ((idxB c : Int) = (c.toNat : Int) - 65) := Lib.hid (by unfold idxB; rw [if_neg h97]; omega)
    have h2 : c.toNat ≤ 68 := by omega
    have h3 : 65 ≤ c.toNat := by omega
    clear hc
    go_enter Try.func123, Try.ntmps123
    go_wp2
    go_ret
    exact ⟨ret_int H.out.symm, rfl⟩

end Go.Proofs.Ytebgcebjlbhjjab

/- A drawn region whose head makes memory but has fixed values, and whose tail comes in one order only. -/

namespace Go.Proofs.Ytebgcebjlbhjjab
open Go.RowKit

section
variable {P : Program} {ops : Array Oper} {md : Region.Mode} {C : World → Prop}

/-- The head in whatever order, up to the place where L holds. -/
def headQ (P : Program) (md : Region.Mode) (ops : Array Oper) (C : World → Prop) (n : Nat) (L : Array Bool → Act → Prop) : Nat → Array Bool → Act → Prop
  | 0, listed, a => L listed a
  | f + 1, listed, a => Region.ready md ops listed ≠ [] ∧ ∀ i ∈ Region.ready md ops listed, i < n ∧ qOp P ops C i (headQ P md ops C n L f (listed.setIfInBounds i true)) a

theorem wpAny_headQ {n g : Nat} {L : Array Bool → Act → Prop} {Q' : Exit → Act → World → Prop} (hL : ∀ listed a w, C w → L listed a → wpAny P md ops Q' g listed a w) :
    ∀ (f : Nat) (listed : Array Bool) (a : Act) (w : World), C w → headQ P md ops C n L f listed a → wpAny P md ops Q' (f + g) listed a w
  | 0, _, _, _, hw, h => by rw [Nat.zero_add]; exact hL _ _ _ hw h
  | f + 1, listed, a, w, hw, h => by
    rw [Nat.succ_add]
    exact ⟨fun h0 => absurd h0 h.1, fun i hi => wpOp_of_qOp hw (fun a' w' hw' h' => wpAny_headQ hL f _ a' w' hw' h') (h.2 i hi).2⟩

theorem headQ_first {n i : Nat} {oi : Oper} {v : Value} {L : Array Bool → Act → Prop} (hi : ops[i]? = some oi) (hsel : ∀ (j : Nat) (o : Oper) cs b, ops[j]? = some o → o.op ≠ .select cs b)
    (hs : Region.sinkB md ops n = true) (hc : Region.chainB md ops n = true) (hn : n < ops.size) (hin : i < n) (hdone : ∀ listed a, L listed a → ∀ j ∈ Region.ready md ops listed, n ≤ j) :
    ∀ (f : Nat) (listed : Array Bool) (a : Act), HeadInv md ops n listed →
      (∀ j oj, ops[j]? = some oj → j ≠ i → listed.getD j true = false → (∀ e ∈ oj.after, Region.binds md e = true → e.on ≠ i) → oi.apart ops oj = true) →
      i ∈ Region.ready md ops listed → YieldsIn P ops C oi v a →
      headQ P md ops C n L f (listed.setIfInBounds i true) (a.put oi.dst v) → headQ P md ops C n L (f + 1) listed a := by
  intro f
  induction f with
  | zero =>
    intro listed a inv _ hr hy H
    refine ⟨fun h => (by rw [h] at hr; cases hr), fun j hj => ?_⟩
    have hjn : j < n := Nat.lt_of_not_le fun h => tail_waits hs hc hn inv _ i rfl hin (mem_ready.1 hr).1 j h hj
    refine ⟨hjn, ?_⟩
    by_cases hji : j = i
    · subst hji; exact hy.qOp hi H
    · exact absurd (hdone _ _ H j (ready_mono hj hji)) (by omega)
  | succ f ih =>
    intro listed a inv hfree hr hy H
    have hun := (mem_ready.1 hr).1
    refine ⟨fun h => (by rw [h] at hr; cases hr), fun j hj => ?_⟩
    have hjn : j < n := Nat.lt_of_not_le fun h => tail_waits hs hc hn inv _ i rfl hin hun j h hj
    refine ⟨hjn, ?_⟩
    by_cases hji : j = i
    · subst hji; exact hy.qOp hi H
    · obtain ⟨hjun, oj, hoj, hall⟩ := mem_ready.1 hj
      have hnot : ∀ e ∈ oj.after, Region.binds md e = true → e.on ≠ i := fun e he hb heq => by
        have h1 := hall e he hb
        rw [heq, getD_both hun] at h1
        cases h1
      have h2 := qOp_put hoj (hfree j oj hoj hji hjun hnot) (fun cs b => hsel i oi cs b hi) (fun cs b => hsel j oj cs b hoj) hy (H.2 j (ready_mono hj hji)).2
      refine qOp_mono (fun a' h3 => ih _ a' (inv.set hj hjn) (fun k ok hk hki hu hno => hfree k ok hk hki ?_ hno) (ready_mono hr (Ne.symm hji)) h3.1 ?_) h2
      · by_cases hjk : j = k
        · subst hjk; exact hjun
        · rw [getD_set_ne true hjk] at hu; exact hu
      · rw [Array.setIfInBounds_comm _ _ hji]
        exact h3.2

theorem headQ_lex {n g : Nat} {Lq : Act → Prop} (hsel : Region.noSelect ops = true) (hs : Region.sinkB md ops n = true) (hc : Region.chainB md ops n = true) (hn : n < ops.size) :
    ∀ (l : List Oper) (k : Nat) (listed : Array Bool) (a : Act), (∀ j, j < l.length → l[j]? = ops[k + j]?) → k + l.length = n → HeadInv md ops n listed →
    Region.lexHead md ops g l.length k listed = true → wpQuiet P ops C Lq l a → headQ P md ops C n (fun listed' a' => Region.seqB md ops g n listed' = true ∧ Lq a') l.length listed a
  | [], k, listed, a, _, hk, _, hB, h => by
    obtain rfl : k = n := by simpa using hk
    exact ⟨by simpa [Region.lexHead] using hB, h⟩
  | o :: l, k, listed, a, hl, hk, inv, hB, h => by
    have h0 : ops[k]? = some o := by simpa using (hl 0 (by simp)).symm
    simp only [List.length_cons, Region.lexHead, Bool.and_eq_true] at hB
    have hkn : k < n := by simp only [List.length_cons] at hk; omega
    have hr' : k ∈ Region.ready md ops listed := by simpa using hB.1.1
    have hst : qOp P ops C k (wpQuiet P ops C Lq l) a := by unfold qOp; simp only [h0]; exact h
    obtain ⟨v, hy, hK⟩ := yieldsIn_of_qOp h0 hst
    exact headQ_first h0 (Region.noSelect_spec hsel) hs hc hn hkn (fun listed' a' hL => seqB_ready hL.1) l.length listed a inv (Region.free_spec h0 hB.1.2) hr' hy
      (headQ_lex hsel hs hc hn l (k + 1) _ _ (fun j hj => by have := hl (j + 1) (by simp; omega); simpa [Nat.add_assoc, Nat.add_comm 1 j] using this) (by simp only [List.length_cons] at hk; omega) (inv.set hr' hkn) hB.2 hK)

/-- The head walked once, in every world of the class; then the tail. -/
theorem wp_region_quiet_tail {id : Nat} {Q : Exit → Act → World → Prop} {a : Act} {w : World} {l : List Oper} (n : Nat) (hm : P.follows .mixedOrders = true) (hB : Region.lexTailB .any l.toArray n = true) (hC : C { w with drawn := w.drawn + 1 })
    (h : wpQuiet P l.toArray C (fun a' => ∀ w', C w' → wpList P l.toArray Q (l.drop n) a' w') (l.take n) a) : (Code.region id l.toArray true).wp P Q a w := by
  simp only [Region.lexTailB, Bool.and_eq_true, decide_eq_true_eq] at hB
  obtain ⟨⟨⟨⟨hsel, hn⟩, hs⟩, hc⟩, hlex⟩ := hB
  have hn' : n < l.length := by simpa using hn
  have htl : (l.take n).length = n := by simp; omega
  have hdl : (l.drop n).length = l.toArray.size - n := by simp
  have inv0 : HeadInv .any l.toArray n (Array.replicate l.toArray.size false) :=
    ⟨by simp, fun j oj _ hl => (by rw [getD_replicate_false] at hl; cases hl), fun t _ ht => getD_in (by simpa using ht) (getD_replicate_false _ _)⟩
  have H := headQ_lex (md := .any) (g := l.toArray.size - n) hsel hs hc hn (l.take n) 0 _ a (fun j hj => by
    have hj' : j < n := by rw [htl] at hj; exact hj
    simp [hj']) (by simpa using htl) inv0 (by rw [htl]; exact hlex) h
  refine wp_region_any hm ?_
  have := wpAny_headQ (Q' := Q) (g := l.toArray.size - n) (fun listed a' w' hw' hL => by
    have := wpAny_of_seq (md := .any) (Q' := Q) (l.drop n) n listed a' w' (fun j => by simp [List.getElem?_drop]) (by rw [hdl]; exact hL.1) (hL.2 w' hw')
    rwa [hdl] at this) _ _ _ _ hC H
  rw [htl, show n + (l.toArray.size - n) = l.toArray.size by omega] at this
  exact this
/-- At the worlds behind w. -/
theorem wp_region_below_tail {id : Nat} {Q : Exit → Act → World → Prop} {a : Act} {w : World} {l : List Oper} (n : Nat) (hm : P.follows .mixedOrders = true) (hB : Region.lexTailB .any l.toArray n = true)
    (h : wpQuiet P l.toArray (fun w' => ∃ p : BelowBy w, w' = p.world) (fun a' => ∀ w', (∃ p : BelowBy w, w' = p.world) → wpList P l.toArray Q (l.drop n) a' w') (l.take n) a) : (Code.region id l.toArray true).wp P Q a w :=
  wp_region_quiet_tail n hm hB ⟨⟨w.drew, (Below.refl _ _).drew⟩, rfl⟩ h
end

end Go.Proofs.Ytebgcebjlbhjjab

/- The contracts of the model's 'l3Fox' and 'FoxOf'. -/

namespace Go.Proofs.Ytebgcebjlbhjjab
open Go.RowKit Go.Shelf

theorem Acc.more {base : Nat} {w : World} {v : Value} {acc : List Tm} {N N' : Nat} {B B' : Int} (h : Acc base w v acc N B) (hN : N ≤ N') (hB : B ≤ B') : Acc base w v acc N' B' :=
  ⟨h.own, Nat.le_trans h.len hN, fun u hu => by have := h.bnd u hu; omega, h.sml⟩
theorem extract_take (s : ByteArray) (k : Nat) : s.extract 0 k = bstr (s.data.toList.take k) := by
  apply bytes_ext
  rw [Lib.extract_data, bstr_toList]; simp

set_option maxRecDepth 100000 in
set_option maxHeartbeats 2000000 in
theorem l3Fox_any (s : ByteArray) (g : Int) (w : World) (hs : s.size ≤ 60) (hl : letL s.data.toList = true) :
    Calls Try.prog 109 #[.string s, .int .i64 g] w fun e w' => (∃ v, e = .returned v ∧ Acc w.heap.size w' v (canonT (foxL g 1 s.data.toList)) 60 60) ∧ Below w.heap.size w w' := by
  have HL := Lib.hid hl
  clear hl
  go_enter Try.func109, Try.ntmps109
  go_wp2
  go_loopw [5, 6] (fun v i wr => ∃ k : Nat, k ≤ s.size ∧ i = .int .i64 k ∧ Hid (Acc w.heap.size wr v ((foxN g 1 s.data.toList k).foldl addT []) k k) ∧ Below w.heap.size w wr) (fun _ i _ => s.size - (intOf i).toNat)
  case atStart => exact ⟨0, Nat.zero_le _, rfl, Lib.hid (acc_zero w), (Below.refl _ _).alloc (Nat.le_refl _) _⟩
  case round =>
    obtain ⟨k, hk, rfl, HA, hB⟩ := hrel
    by_cases hlt : k < s.size
    · have hl : k < s.data.toList.length := by simpa using hlt
      have hlet : letB s[k] = true := letL_get _ HL.out k hl
      have HLet := Lib.hid hlet
      have hsucc := foxN_succ g 1 s.data.toList k hl
      rw [show s.data.toList[k] = s[k] from rfl] at hsucc
      obtain ⟨q, hq⟩ : ∃ q, idxB s[k] = q := ⟨_, rfl⟩
      have HQ := Lib.hid hq
      by_cases hg : (q : Int) = g
      · have hgg : (idxB s[k] : Int) = g := by rw [hq]; exact hg
        have hdg : decide ((q : Int) = g) = true := decide_eq_true hg
        by_cases h97 : 97 ≤ s[k].toNat
        · have hsg : sgnB s[k] = 1 := by unfold sgnB; rw [if_pos h97]
          rw [foxT_hi hgg h97, hsg, ← extract_take] at hsucc
          have HS := Lib.hid hsucc
          clear hsucc hgg hlet hq hsg
          obtain ⟨x, hx⟩ : ∃ x, s.extract 0 k = x := ⟨_, rfl⟩
          have hxs : x.size ≤ 60 := by rw [← hx, extract_take, bstr_size, List.length_take]; omega
          have HX := Lib.hid hx
          go_wp2_with fail
          refine (sIndex_any _ _ HLet.out).mono ?_
          rw [HQ.out]
          rintro e w2 ⟨rfl, rfl⟩
          go_wp2_with fail
          clear hx
          refine (step_any w.heap.size u5 _ k k 1 1 x wr HA.out (by omega) (by omega) (by omega) (by omega) (by omega) hxs hB.size).mono ?_
          rintro e w4 ⟨⟨v', rfl, ho⟩, hb4⟩
          have HO := Lib.hid ho
          have hB4 : Below w.heap.size w w4 := hB.trans (hb4.mono hB.size)
          clear ho hb4
          go_wp2
          go_roundw
          case rel =>
            refine ⟨k + 1, by omega, by go_num, Lib.hid ?_, hB4⟩
            rw [HS.out, List.foldl_append, HX.out]
            exact HO.out.more (by omega) (by omega)
          case measure => simp [intOf]; omega
        · have hsg : sgnB s[k] = -1 := by unfold sgnB; rw [if_neg h97]
          rw [foxT_lo hgg h97, hsg, show s[k] = s.data.toList[k] from rfl, ← take_snoc _ k hl, ← extract_take] at hsucc
          have HS := Lib.hid hsucc
          clear hsucc hgg hlet hq hsg
          obtain ⟨x, hx⟩ : ∃ x, s.extract 0 (k + 1) = x := ⟨_, rfl⟩
          have hxs : x.size ≤ 60 := by rw [← hx, extract_take, bstr_size, List.length_take]; omega
          have HX := Lib.hid hx
          go_wp2_with fail
          refine (sIndex_any _ _ HLet.out).mono ?_
          rw [HQ.out]
          rintro e w2 ⟨rfl, rfl⟩
          go_wp2_with fail
          clear hx
          refine (step_any w.heap.size u5 _ k k 1 (-1) x wr HA.out (by omega) (by omega) (by omega) (by omega) (by omega) hxs hB.size).mono ?_
          rintro e w4 ⟨⟨v', rfl, ho⟩, hb4⟩
          have HO := Lib.hid ho
          have hB4 : Below w.heap.size w w4 := hB.trans (hb4.mono hB.size)
          clear ho hb4
          go_wp2
          go_roundw
          case rel =>
            refine ⟨k + 1, by omega, by go_num, Lib.hid ?_, hB4⟩
            rw [HS.out, List.foldl_append, HX.out]
            exact HO.out.more (by omega) (by omega)
          case measure => simp [intOf]; omega
      · have hgg : ¬ (idxB s[k] : Int) = g := by rw [hq]; exact hg
        have hdg : decide ((q : Int) = g) = false := decide_eq_false hg
        rw [foxT_no hgg, List.append_nil] at hsucc
        have HS := Lib.hid hsucc
        clear hsucc hgg hlet hq
        go_wp2_with fail
        refine (sIndex_any _ _ HLet.out).mono ?_
        rw [HQ.out]
        rintro e w2 ⟨rfl, rfl⟩
        go_wp2_with fail
        go_roundw
        case rel =>
          refine ⟨k + 1, by omega, by go_num, Lib.hid ?_, hB⟩
          rw [HS.out]
          exact HA.out.more (by omega) (by omega)
        case measure => simp [intOf]; omega
    · have HE : Hid (s.size = k) := by have : s.size = k := by omega
                                       exact this
      go_wp2_with fail
      go_ret
      refine ⟨⟨_, rfl, ?_⟩, hB⟩
      have h := HA.out
      have hk2 : k = s.data.toList.length := by rw [← HE.out]; simp
      unfold foxL canonT
      rw [← hk2]
      exact h.more (by omega) (by omega)

end Go.Proofs.Ytebgcebjlbhjjab

/- The contracts of the model's 'l1Four', 'l1Put' and 'WordPut'. -/

namespace Go.Proofs.Ytebgcebjlbhjjab
open Go.RowKit

def wordsB (zs : List ByteArray) : Bool := zs.all fun s => wordB s.data.toList
/-- Are these four words? -/
def fourB (zs : List ByteArray) : Bool := wordsB zs && decide (zs.length = 4)

theorem wordsB_false (zs : List ByteArray) (k : Nat) (hk : k < zs.length) (h : wordB zs[k].data.toList = false) : wordsB zs = false :=
  List.all_eq_false.2 ⟨_, List.getElem_mem hk, by simp [h]⟩
theorem wordsB_of (zs : List ByteArray) (h : ∀ j (hj : j < zs.length), wordB zs[j].data.toList = true) : wordsB zs = true :=
  List.all_eq_true.2 fun s hs => by
    obtain ⟨j, hj, rfl⟩ := List.mem_iff_getElem.1 hs
    exact h j hj

set_option maxRecDepth 100000 in
set_option maxHeartbeats 1000000 in
theorem four_any (a : Option Addr) (cap n : Nat) (zs : List ByteArray) (w : World) (hn : zs.length = n) (hm : n ≤ maxLen) (hs : StrsAt w a zs) :
    Calls Try.prog 73 #[.slice a n cap] w fun e w' => e = .returned (.bool (fourB zs)) ∧ Below w.heap.size w w' := by
  have HS := Lib.hid hs
  have HN := Lib.hid hn
  clear hs hn
  have hm0 := hm
  unfold maxLen at hm
  have ht : ((n : Int) == 4) = decide (zs.length = 4) := by rw [HN.out, Bool.eq_iff_iff]; simp; omega
  go_enter Try.func73, Try.ntmps73
  go_wp2
  go_loopw [3] (fun i wr => ∃ k : Nat, k ≤ n ∧ i = .int .i64 k ∧ Hid (∀ j (h : j < zs.length), j < k → wordB zs[j].data.toList = true) ∧ Below w.heap.size w wr) (fun i _ => n - (intOf i).toNat)
  case atStart => exact ⟨0, Nat.zero_le _, rfl, Lib.hid (fun j _ h => absurd h (Nat.not_lt_zero _)), Below.refl _ _⟩
  case round =>
    obtain ⟨k, hk, rfl, HJ, hB⟩ := hrel
    by_cases hlt : k < n
    · have hkz : k < zs.length := by rw [HN.out]; exact hlt
      obtain ⟨x, rfl, hb, hc⟩ := HS.out.cells (by omega)
      obtain ⟨s, hs⟩ : ∃ s, zs[k] = s := ⟨_, rfl⟩
      have hck : wr.cell? (x.add k) = some (.string s) := by rw [← hs]; exact (hB.cell (p := x.add k) (by rw [addr_add_block]; exact hb)).trans (hc k hkz)
      have hsm : s.size ≤ maxLen := by rw [← hs]; exact HS.out.small _ (List.getElem_mem hkz)
      have HE := Lib.hid hs
      have HK := Lib.hid hkz
      clear hs hc
      cases hw : wordB s.data.toList with
      | true =>
        have HW := Lib.hid hw
        clear hw
        go_wp2_with fail
        refine (sWordIn_is s true _ hsm HW.out).mono ?_
        rintro e w2 ⟨rfl, hb2⟩
        go_wp2_with fail
        go_roundw
        case rel =>
          refine ⟨k + 1, by omega, by go_num, Lib.hid ?_, hB.trans (hb2.mono hB.size)⟩
          intro j hj hjk
          by_cases e : j = k
          · subst e; rw [HE.out]; exact HW.out
          · exact HJ.out j hj (by omega)
        case measure => simp [intOf]; omega
      | false =>
        have HW := Lib.hid hw
        clear hw
        go_wp2_with fail
        refine (sWordIn_is s false _ hsm HW.out).mono ?_
        rintro e w2 ⟨rfl, hb2⟩
        go_wp2_with fail
        go_ret
        refine ⟨?_, hB.trans (hb2.mono hB.size)⟩
        rw [show fourB zs = false by unfold fourB; rw [wordsB_false zs k HK.out (by rw [HE.out]; exact HW.out)]; rfl]
        rfl
    · obtain rfl : k = n := by omega
      have HT := Lib.hid ht
      clear ht
      go_wp2
      go_ret
      refine ⟨ret_bool ?_, hB⟩
      have hw : wordsB zs = true := wordsB_of zs fun j hj => HJ.out j hj (by rw [← HN.out]; exact hj)
      have := HT.out
      unfold fourB
      rw [hw, Bool.true_and]
      simpa using this

theorem four_is (b : Bool) (a : Option Addr) (cap n : Nat) (zs : List ByteArray) (w : World) (hn : zs.length = n) (hm : n ≤ maxLen) (hs : StrsAt w a zs) (h : fourB zs = b) :
    Calls Try.prog 73 #[.slice a n cap] w fun e w' => e = .returned (.bool b) ∧ Below w.heap.size w w' := by
  rw [← h]; exact four_any a cap n zs w hn hm hs

/-- The image of a letter, and of a row of letters. -/
def imgL (zs : List ByteArray) (c : UInt8) : List UInt8 := if c.toNat < 97 then backL (zs.getD (idxB c) ByteArray.empty).data.toList else (zs.getD (idxB c) ByteArray.empty).data.toList
def putL (zs : List ByteArray) (l : List UInt8) : List UInt8 := (l.map (imgL zs)).flatten
theorem putL_snoc (zs : List ByteArray) (l : List UInt8) (c : UInt8) : putL zs (l ++ [c]) = putL zs l ++ imgL zs c := by simp [putL]
theorem imgL_len (zs : List ByteArray) (c : UInt8) (h : ∀ z ∈ zs, z.size ≤ 60) (hc : idxB c < zs.length) : (imgL zs c).length ≤ 60 := by
  have h1 : (zs.getD (idxB c) ByteArray.empty) ∈ zs := by
    rw [List.getD_eq_getElem?_getD, List.getElem?_eq_getElem hc]; exact List.getElem_mem hc
  have h2 := h _ h1
  unfold imgL
  split
  · rw [backL_length]; simpa using h2
  · simpa using h2

set_option maxRecDepth 100000 in
set_option maxHeartbeats 1000000 in
theorem put_any (s : ByteArray) (a : Option Addr) (cap : Nat) (zs : List ByteArray) (w : World) (hs : s.size ≤ 60) (hl : letL s.data.toList = true) (hn : zs.length = 4) (hz : ∀ z ∈ zs, z.size ≤ 60) (hst : StrsAt w a zs) :
    Calls Try.prog 75 #[.string s, .slice a 4 cap] w fun e w' => e = .returned (.string (bstr (redL [] (putL zs s.data.toList)))) ∧ Below w.heap.size w w' := by
  obtain ⟨x, rfl, hb, hc⟩ := hst.cells (by omega)
  have HL := Lib.hid hl
  have HN := Lib.hid hn
  have HZ := Lib.hid hz
  have HC := Lib.hid hc
  clear hl hn hz hc hst
  go_enter Try.func75, Try.ntmps75
  go_wp2
  go_loopw [5, 6, 7] (fun o i q7 wr => ∃ (k : Nat) (t : ByteArray), k ≤ s.size ∧ o = .string t ∧ i = .int .i64 k ∧ t.size ≤ 60 * k ∧ Hid (t = bstr (redL [] (putL zs (s.data.toList.take k))) ∧ (putL zs (s.data.toList.take k)).length ≤ 60 * k) ∧ Below w.heap.size w wr) (fun _ i _ _ => s.size - (intOf i).toNat)
  case atStart => exact ⟨0, ByteArray.empty, Nat.zero_le _, rfl, rfl, by simp, Lib.hid ⟨rfl, by simp [putL]⟩, Below.refl _ _⟩
  case round =>
    obtain ⟨k, t, hk, rfl, rfl, htz, HT, hB⟩ := hrel
    by_cases hlt : k < s.size
    · have hl : k < s.data.toList.length := by simpa using hlt
      have hlet : letB s[k] = true := letL_get _ HL.out k hl
      have hid := idxB_lt _ hlet
      obtain ⟨z, hzz⟩ : ∃ z, zs[idxB s[k]]'(by rw [HN.out]; exact hid) = z := ⟨_, rfl⟩
      have hck : wr.cell? (x.add (idxB s[k])) = some (.string z) := by rw [← hzz]; exact (hB.cell (p := x.add (idxB s[k])) (by rw [addr_add_block]; exact hb)).trans (HC.out _ (by rw [HN.out]; exact hid))
      have hz60 : z.size ≤ 60 := by rw [← hzz]; exact HZ.out _ (List.getElem_mem _)
      have hgd : zs.getD (idxB s[k]) ByteArray.empty = z := by
        rw [List.getD_eq_getElem?_getD, List.getElem?_eq_getElem (by rw [HN.out]; exact hid)]; exact hzz
      have hpn : putL zs (s.data.toList.take (k + 1)) = putL zs (s.data.toList.take k) ++ imgL zs s[k] := by rw [take_snoc _ k hl, putL_snoc]; rfl
      have himl := imgL_len zs s[k] HZ.out (by rw [HN.out]; exact hid)
      have HP := Lib.hid hpn
      have HG := Lib.hid hgd
      have HLt := Lib.hid hlet
      have HI := Lib.hid himl
      clear hpn hgd hlet himl hzz
      by_cases hc97 : s[k].toNat < 97
      · have himg : imgL zs s[k] = backL z.data.toList := by unfold imgL; rw [if_pos hc97, HG.out]
        have HM := Lib.hid himg
        obtain ⟨bz, hbz⟩ : ∃ b, bstr (backL z.data.toList) = b := ⟨_, rfl⟩
        have hbs : bz.size ≤ 60 := by rw [← hbz, bstr_size, backL_length]; simpa using hz60
        have hbl : bz.data.toList = backL z.data.toList := by rw [← hbz, bstr_toList]
        have hbk : ∀ W, Calls Try.prog 108 #[.string z] W fun e w' => e = .returned (.string bz) ∧ Below W.heap.size W w' := fun W => by rw [← hbz]; exact back_any z W (by omega)
        have HBK := Lib.hid hbk
        have HBL := Lib.hid hbl
        clear himg hbz hbl hbk
        go_wp2_with fail
        refine (sIndex_any s[k] _ HLt.out).mono ?_
        rintro e w1 ⟨rfl, rfl⟩
        go_wp2_with fail
        refine (HBK.out _).mono ?_
        rintro e w2 ⟨rfl, hb2⟩
        go_wp2_with fail
        refine (reduce_any (t ++ bz) _ (by rw [append_size]; omega)).mono ?_
        rintro e w3 ⟨rfl, hb3⟩
        go_wp2_with fail
        go_roundw
        case rel =>
          have hlen2 : (putL zs (s.data.toList.take (k + 1))).length ≤ 60 * (k + 1) := by rw [HP.out, List.length_append]; have := HT.out.2; have := HI.out; omega
          have he : redL [] (t.data.toList ++ bz.data.toList) = redL [] (putL zs (s.data.toList.take (k + 1))) := by
            rw [HT.out.1, bstr_toList, HBL.out, red_append, HP.out, HM.out]
          refine ⟨k + 1, _, by omega, rfl, by go_num, ?_, Lib.hid ⟨by rw [he], hlen2⟩, hB.trans ((hb2.trans (hb3.mono hb2.size)).mono hB.size)⟩
          simp only [bstr_size]
          rw [he]
          exact Nat.le_trans (redL_len _ []) (by simpa using hlen2)
        case measure => simp [intOf]; omega
      · have himg : imgL zs s[k] = z.data.toList := by unfold imgL; rw [if_neg hc97, HG.out]
        have HM := Lib.hid himg
        clear himg
        go_wp2_with fail
        refine (sIndex_any s[k] _ HLt.out).mono ?_
        rintro e w1 ⟨rfl, rfl⟩
        go_wp2_with fail
        refine (reduce_any (t ++ z) _ (by rw [append_size]; omega)).mono ?_
        rintro e w3 ⟨rfl, hb3⟩
        go_wp2_with fail
        go_roundw
        case rel =>
          have hlen2 : (putL zs (s.data.toList.take (k + 1))).length ≤ 60 * (k + 1) := by rw [HP.out, List.length_append]; have := HT.out.2; have := HI.out; omega
          have he : redL [] (t.data.toList ++ z.data.toList) = redL [] (putL zs (s.data.toList.take (k + 1))) := by
            rw [HT.out.1, bstr_toList, red_append, HP.out, HM.out]
          refine ⟨k + 1, _, by omega, rfl, by go_num, ?_, Lib.hid ⟨by rw [he], hlen2⟩, hB.trans (hb3.mono hB.size)⟩
          simp only [bstr_size]
          rw [he]
          exact Nat.le_trans (redL_len _ []) (by simpa using hlen2)
        case measure => simp [intOf]; omega
    · obtain rfl : k = s.size := by omega
      go_wp2
      go_ret
      exact ⟨ret_string (by rw [HT.out.1, List.take_of_length_le (by simp)]), hB⟩

theorem put_is (r : ByteArray) (s : ByteArray) (a : Option Addr) (cap : Nat) (zs : List ByteArray) (w : World) (hs : s.size ≤ 60) (hl : letL s.data.toList = true) (hn : zs.length = 4) (hz : ∀ z ∈ zs, z.size ≤ 60) (hst : StrsAt w a zs) (h : bstr (redL [] (putL zs s.data.toList)) = r) :
    Calls Try.prog 75 #[.string s, .slice a 4 cap] w fun e w' => e = .returned (.string r) ∧ Below w.heap.size w w' := by
  rw [← h]; exact put_any s a cap zs w hs hl hn hz hst

theorem fourB_iff (zs : List ByteArray) : fourB zs = true ↔ zs.length = 4 ∧ ∀ z ∈ zs, wordB z.data.toList = true := by
  unfold fourB wordsB
  rw [Bool.and_eq_true, List.all_eq_true, decide_eq_true_iff, and_comm]

set_option maxRecDepth 100000 in
set_option maxHeartbeats 1000000 in
theorem sPut_yes (s : ByteArray) (a : Option Addr) (cap : Nat) (zs : List ByteArray) (w : World) (hw : wordB s.data.toList = true) (hf : fourB zs = true) (hst : StrsAt w a zs) :
    Calls Try.prog 21 #[.string s, .slice a 4 cap] w fun e w' => e = .returned (toldV (redL [] (putL zs s.data.toList))) ∧ Below w.heap.size w w' := by
  obtain ⟨p1, p2, _⟩ := (wordB_iff _).1 hw
  have hs : s.size ≤ 60 := by simpa using p1
  obtain ⟨hn, hz0⟩ := (fourB_iff zs).1 hf
  have hz : ∀ z ∈ zs, z.size ≤ 60 := fun z h => by have := ((wordB_iff _).1 (hz0 z h)).1; simpa using this
  have H := Lib.hid hw
  have HF := Lib.hid hf
  have HL := Lib.hid p2
  have HN := Lib.hid hn
  have HZ := Lib.hid hz
  have HS := Lib.hid hst
  clear hw hf p1 p2 hn hz hz0 hst
  by_cases h : (redL [] (putL zs s.data.toList)).length ≤ 60
  · have HT := Lib.hid (toldV_yes h)
    have HLe := Lib.hid h
    clear h
    go_enter Try.func21, Try.ntmps21
    go_wp2_with fail
    refine (sWordIn_is s true _ (by unfold maxLen; omega) H.out).mono ?_
    rintro e w1 ⟨rfl, hb1⟩
    go_wp2_with fail
    refine (four_is true a cap 4 zs _ HN.out (by unfold maxLen; omega) (HS.out.below hb1) HF.out).mono ?_
    rintro e w2 ⟨rfl, hb2⟩
    have hS2 := Lib.hid ((HS.out.below hb1).below hb2)
    go_wp2_with fail
    refine (put_is (bstr (redL [] (putL zs s.data.toList))) s a cap zs _ hs HL.out HN.out HZ.out hS2.out rfl).mono ?_
    rintro e w3 ⟨rfl, hb3⟩
    go_wp2_with fail
    refine (done_yes _ _ (by rw [bstr_size]; exact HLe.out)).mono ?_
    rintro e w4 ⟨rfl, rfl⟩
    go_wp2_with fail
    go_ret2
    exact ⟨by rw [HT.out]; rfl, hb1.trans ((hb2.trans (hb3.mono hb2.size)).mono hb1.size)⟩
  · have HT := Lib.hid (toldV_no h)
    have HLe := Lib.hid (Nat.lt_of_not_le h)
    clear h
    go_enter Try.func21, Try.ntmps21
    go_wp2_with fail
    refine (sWordIn_is s true _ (by unfold maxLen; omega) H.out).mono ?_
    rintro e w1 ⟨rfl, hb1⟩
    go_wp2_with fail
    refine (four_is true a cap 4 zs _ HN.out (by unfold maxLen; omega) (HS.out.below hb1) HF.out).mono ?_
    rintro e w2 ⟨rfl, hb2⟩
    have hS2 := Lib.hid ((HS.out.below hb1).below hb2)
    go_wp2_with fail
    refine (put_is (bstr (redL [] (putL zs s.data.toList))) s a cap zs _ hs HL.out HN.out HZ.out hS2.out rfl).mono ?_
    rintro e w3 ⟨rfl, hb3⟩
    go_wp2_with fail
    refine (done_no _ _ (by rw [bstr_size]; exact HLe.out)).mono ?_
    rintro e w4 ⟨rfl, rfl⟩
    go_wp2_with fail
    go_ret2
    exact ⟨by rw [HT.out]; rfl, hb1.trans ((hb2.trans (hb3.mono hb2.size)).mono hb1.size)⟩

theorem sPut_no (s : ByteArray) (a : Option Addr) (cap n : Nat) (zs : List ByteArray) (w : World) (hm : s.size ≤ maxLen) (hn : zs.length = n) (hm2 : n ≤ maxLen) (hst : StrsAt w a zs) (h : ¬ (wordB s.data.toList = true ∧ fourB zs = true)) :
    Calls Try.prog 21 #[.string s, .slice a n cap] w fun e w' => e = .returned (.tuple #[.string ByteArray.empty, .bool false]) ∧ Below w.heap.size w w' := by
  have HS := Lib.hid hst
  have HN := Lib.hid hn
  cases ha : wordB s.data.toList with
  | true =>
    have hb : fourB zs = false := by
      cases hb : fourB zs with
      | true => exact absurd ⟨ha, hb⟩ h
      | false => rfl
    have HA := Lib.hid ha
    have HB := Lib.hid hb
    clear ha hb h hst hn
    go_enter Try.func21, Try.ntmps21
    go_wp2_with fail
    refine (sWordIn_is s true _ hm HA.out).mono ?_
    rintro e w1 ⟨rfl, hb1⟩
    go_wp2_with fail
    refine (four_is false a cap n zs _ HN.out hm2 (HS.out.below hb1) HB.out).mono ?_
    rintro e w2 ⟨rfl, hb2⟩
    go_wp2_with fail
    go_ret2
    exact ⟨rfl, hb1.trans (hb2.mono hb1.size)⟩
  | false =>
    have HA := Lib.hid ha
    clear ha h hst hn
    go_enter Try.func21, Try.ntmps21
    go_wp2_with fail
    refine (sWordIn_is s false _ hm HA.out).mono ?_
    rintro e w1 ⟨rfl, hb1⟩
    go_wp2_with fail
    go_ret2
    exact ⟨rfl, hb1⟩

end Go.Proofs.Ytebgcebjlbhjjab

/- The contracts of the model's 'SumTurned' and 'SumPut'. -/

namespace Go.Proofs.Ytebgcebjlbhjjab
open Go.RowKit Go.Shelf

/-- A term whose word is changed. -/
def mapT (f : List UInt8 → List UInt8) (t : Tm) : Tm := ⟨t.c, bstr (f t.s.data.toList)⟩
def fitB (ts : List Tm) : Bool := ts.all fun t => decide (t.s.size ≤ 60)
theorem fitB_at {ts : List Tm} {k : Nat} (hk : k < ts.length) (h : ¬ ts[k].s.size ≤ 60) : fitB ts = false :=
  List.all_eq_false.2 ⟨_, List.getElem_mem hk, by simpa using h⟩
theorem fitB_of {ts : List Tm} (h : ∀ j (hj : j < ts.length), ts[j].s.size ≤ 60) : fitB ts = true :=
  List.all_eq_true.2 fun t ht => by
    obtain ⟨j, hj, rfl⟩ := List.getElem_of_mem ht
    simpa using h j hj
theorem termB_word {t : Tm} (h : termB t = true) : wordB t.s.data.toList = true := by unfold termB at h; simp only [Bool.and_eq_true] at h; exact h.1

def putF (zs : List ByteArray) (l : List UInt8) : List UInt8 := redL [] (putL zs l)

end Go.Proofs.Ytebgcebjlbhjjab

/- The contracts of the model's 'l2Times' and 'SumTimes'. -/

namespace Go.Proofs.Ytebgcebjlbhjjab
open Go.RowKit Go.Shelf

/-- The product of two terms, and those of all pairs. -/
def pairT (t u : Tm) : Tm := ⟨t.c * u.c, bstr (redL [] (t.s.data.toList ++ u.s.data.toList))⟩
def pairsT (x y : List Tm) : List Tm := x.flatMap fun t => y.map (pairT t)
theorem pairs_succ (x y : List Tm) (k : Nat) (h : k < x.length) : pairsT (x.take (k + 1)) y = pairsT (x.take k) y ++ y.map (pairT x[k]) := by
  unfold pairsT
  rw [List.take_succ_eq_append_getElem h, List.flatMap_append]
  simp
theorem pairs_zero (y : List Tm) : pairsT [] y = [] := rfl
theorem pairs_len (x y : List Tm) : (pairsT x y).length = x.length * y.length := by
  unfold pairsT
  induction x with
  | nil => simp
  | cons t r ih => rw [List.flatMap_cons, List.length_append, ih, List.length_map, List.length_cons, Nat.succ_mul]; omega
theorem map_succ (f : Tm → Tm) (y : List Tm) (j : Nat) (h : j < y.length) : (y.take (j + 1)).map f = (y.take j).map f ++ [f y[j]] := by
  rw [List.take_succ_eq_append_getElem h, List.map_append]; rfl
theorem mul_bnd {a b : Int} (ha : -1000000 ≤ a ∧ a ≤ 1000000) (hb : -1000000 ≤ b ∧ b ≤ 1000000) : -1000000000000 ≤ a * b ∧ a * b ≤ 1000000000000 := by
  have h : (a * b).natAbs ≤ 1000000 * 1000000 := by
    rw [Int.natAbs_mul]
    exact Nat.mul_le_mul (by omega) (by omega)
  omega

/-- What has been added up so far: the terms of L. -/
structure AccL (base : Nat) (w : World) (v : Value) (L : List Tm) : Prop where
  fit : ∀ t ∈ L, t.s.size ≤ 60
  acc : Acc base w v (L.foldl addT []) L.length (1000000000000 * L.length)
theorem AccL.below {base : Nat} {w w' : World} {v : Value} {L : List Tm} (h : AccL base w v L) (hb : Below w.heap.size w w') : AccL base w' v L := ⟨h.fit, h.acc.below hb⟩
theorem AccL.snoc {base : Nat} {w w' : World} {v v' : Value} {L : List Tm} {t : Tm} (h : AccL base w v L) (ht : t.s.size ≤ 60) (h2 : Acc base w' v' (addT (L.foldl addT []) t) (L.length + 1) (1000000000000 * L.length + 1000000000000)) : AccL base w' v' (L ++ [t]) :=
  ⟨fun u hu => by
    rcases List.mem_append.1 hu with hu | hu
    · exact h.fit u hu
    · rw [List.mem_singleton.1 hu]; exact ht, by
    rw [List.foldl_append, List.length_append]
    rw [show (1000000000000 : Int) * ((L.length + [t].length : Nat) : Int) = 1000000000000 * L.length + 1000000000000 by rw [List.length_singleton]; omega]
    exact h2⟩
theorem AccL.nil (w : World) : AccL w.heap.size (w.alloc (.cells #[] TI)) (.slice (some ⟨w.heap.size, 0, none⟩) 0 0) [] := ⟨fun t h => (by cases h), acc_zero w⟩

/-- What l2Times hands back. -/
def TimesYes (w : World) (ts : List Tm) (e : Ending) (w' : World) : Prop := ∃ v, e = .returned (.tuple #[v, .bool true]) ∧ OwnTerms w.heap.size w' v (canonT ts) ∧ SmallT (canonT ts) ∧ Below w.heap.size w w'
def TimesNo (w : World) (e : Ending) (w' : World) : Prop := ∃ g n cap, e = .returned (.tuple #[.slice (some ⟨g, 0, none⟩) n cap, .bool false]) ∧ Below w.heap.size w w'
def TimesAny (w : World) (b : Bool) (ts : List Tm) (e : Ending) (w' : World) : Prop := (b = true ∧ TimesYes w ts e w') ∨ (b = false ∧ TimesNo w e w')

set_option maxRecDepth 100000 in
set_option maxHeartbeats 8000000 in
theorem l2Times_any (a1 a2 : Option Addr) (c1 c2 n m : Nat) (x y : List Tm) (b : Bool) (w : World) (hx : IsTerms w a1 n x) (hy : IsTerms w a2 m y) (htx : twB x = true) (hty : twB y = true) (hb : fitB (pairsT x y) = b) :
    Calls Try.prog 118 #[.slice a1 n c1, .slice a2 m c2] w (TimesAny w b (pairsT x y)) := by
  obtain ⟨hlx, hwx⟩ := canon_len_words htx
  obtain ⟨hly, hwy⟩ := canon_len_words hty
  have hn : n ≤ 300 := by rw [← hx.len]; exact hlx
  have hm : m ≤ 300 := by rw [← hy.len]; exact hly
  have HX := Lib.hid hx
  have HY := Lib.hid hy
  have HWX := Lib.hid hwx
  have HWY := Lib.hid hwy
  have HBB := Lib.hid hb
  have hmx : Try.prog.follows .mixedOrders = true := by kernel_rfl
  have HLEN : Hid (∀ k j, k < n → j ≤ m → ∀ t : Tm, (pairsT (x.take k) y ++ (y.take j).map (pairT t)).length ≤ 90000 ∧ (pairsT (x.take k) y).length ≤ 90000) := Lib.hid fun k j hk hj t => by
    have h1 := pairs_len (x.take k) y
    have h2 : (x.take k).length * y.length ≤ 299 * 300 := Nat.mul_le_mul (by rw [List.length_take]; omega) hly
    rw [List.length_append, List.length_map, List.length_take]
    omega
  have HLENN : Hid ((pairsT x y).length ≤ 90000) := Lib.hid (by rw [pairs_len]; exact Nat.mul_le_mul hlx hly)
  have HN := Lib.hid (AccL.nil w)
  clear hx hy htx hty hlx hwx hly hwy hb
  go_enter Try.func118, Try.ntmps118
  go_wp2
  go_loopw [6, 7] (fun v i wr => ∃ k : Nat, k ≤ n ∧ i = .int .i64 k ∧ Hid (AccL w.heap.size wr v (pairsT (x.take k) y)) ∧ Below w.heap.size w wr) (fun _ i _ => n - (intOf i).toNat)
  case atStart => exact ⟨0, Nat.zero_le _, rfl, HN, (Below.refl _ _).alloc (Nat.le_refl _) _⟩
  case round =>
    obtain ⟨k, hk, rfl, HA, hB⟩ := hrel
    by_cases hlt : k < n
    · have hkx : k < x.length := by rw [HX.out.len]; exact hlt
      obtain ⟨z, rfl, hz⟩ := HX.out.at_ (by omega)
      obtain ⟨t, ht⟩ : ∃ t, x[k] = t := ⟨_, rfl⟩
      have htb := HWX.out _ (List.getElem_mem hkx)
      rw [ht] at htb
      have HTI := Lib.hid (termB_iff htb)
      have HT := Lib.hid ht
      have HZ := Lib.hid hz
      clear ht htb hz
      go_wp2
      go_loopw [6, 8] (fun v i wr => ∃ j : Nat, j ≤ m ∧ i = .int .i64 j ∧ Hid (AccL w.heap.size wr v (pairsT (x.take k) y ++ (y.take j).map (pairT t))) ∧ Below w.heap.size w wr) (fun _ i _ => m - (intOf i).toNat)
      case atStart => exact ⟨0, Nat.zero_le _, rfl, Lib.hid (by simpa using HA.out), hB⟩
      case round =>
        obtain ⟨j, hj, rfl, HAj, hBj⟩ := hrel
        by_cases hltj : j < m
        · have hjy : j < y.length := by rw [HY.out.len]; exact hltj
          obtain ⟨zy, rfl, hzy⟩ := HY.out.at_ (by omega)
          obtain ⟨u, hu⟩ : ∃ u, y[j] = u := ⟨_, rfl⟩
          have hub := HWY.out _ (List.getElem_mem hjy)
          rw [hu] at hub
          have hui := termB_iff hub
          have hti := HTI.out
          have hzw := HZ.out.below hBj
          have hzyw := hzy.below hBj
          have hc := hzw.2 k hkx
          have hcy := hzyw.2 j hjy
          have hbz := hzw.1
          have hbzy := hzyw.1
          rw [HT.out, addr_next] at hc
          rw [hu, addr_next] at hcy
          obtain ⟨c0, d1⟩ := hc
          obtain ⟨e0, f1⟩ := hcy
          obtain ⟨r, hr⟩ : ∃ r, bstr (redL [] (t.s.data.toList ++ u.s.data.toList)) = r := ⟨_, rfl⟩
          have hpt : pairT t u = ⟨t.c * u.c, r⟩ := by rw [← hr]; rfl
          have hcs : (t.s ++ u.s).size ≤ 1048576 := by rw [append_size]; omega
          have hnot : ¬ 9223372036854775807 < t.s.size + u.s.size := by omega
          have HR : Hid (∀ W : World, Calls Try.prog 104 #[.string (t.s ++ u.s)] W fun e w' => e = .returned (.string r) ∧ Below W.heap.size W w') :=
            Lib.hid fun W => reduce_is (t.s ++ u.s) r W hcs (by rw [append_toList]; exact hr)
          have HPT := Lib.hid hpt
          have HU := Lib.hid hu
          have HUI := Lib.hid hui
          have HMB := Lib.hid (mul_bnd hti.2 hui.2)
          have hmul : IntKind.i64.wrap (t.c * u.c) = t.c * u.c := by have := HMB.out; exact IntWalk.i64_in _ (by omega)
          have HMUL := Lib.hid hmul
          have v0 := BelowBy.cell (w := wr) (by show (z.add (k * 2)).block < _; rw [addr_add_block]; exact hbz) d1
          have v1 := BelowBy.cell (w := wr) (by show (zy.add (j * 2)).block < _; rw [addr_add_block]; exact hbzy) f1
          have HC0 := Lib.hid c0
          have HE0 := Lib.hid e0
          have HBZ := Lib.hid hbz
          have HBZY := Lib.hid hbzy
          have hsz := HAj.out.acc
          clear hu hub hui hti hzw hzyw hzy c0 d1 e0 f1 hr hpt hcs hsz hmul
          go_wp2
          refine wp_region_below hmx (by kernel_rfl) ?_
          repeat (((with_reducible refine wpQuiet_step (fun K hK => ?_)); go_simp; first | ((with_reducible refine hK _ ?_); clear hK K) | (refine (if_neg (by decide)).mpr ?_; (with_reducible refine hK _ ?_); clear hK K) | (apply Exists.intro; (with_reducible refine ⟨fun _ => ?_, hK _ ?_⟩); (go_at_call 104; exact Calls.bel (HR.out _)); clear hK K)))
          with_reducible refine wpQuiet_nil ?_
          rintro W ⟨⟨W, hW⟩, rfl⟩
          clear v0 v1
          have hBW : Below w.heap.size w W := hBj.trans (hW.mono hBj.size)
          have HAW := Lib.hid (HAj.out.below hW)
          have c0 := (hW.cell (p := z.add (k * 2)) (by rw [addr_add_block]; exact HBZ.out)).trans HC0.out
          have e0 := (hW.cell (p := zy.add (j * 2)) (by rw [addr_add_block]; exact HBZY.out)).trans HE0.out
          have hmul := HMUL.out
          change Exit.then _ _ _ _ W
          by_cases hrs : r.size ≤ 60
          · go_wp2
            go_still_tail 13, hmx
            change wpList _ _ _ _ _ W.drew
            go_wp2_with fail
            obtain ⟨hl1, hl2⟩ := HLEN.out k j hlt (by omega) t
            refine (step_any w.heap.size u6 _ _ _ 1000000000000 (t.c * u.c) r W.drew (HAW.out.acc.below (Below.refl _ _).drew) (by omega) (by omega) (by omega) (by omega) HMB.out hrs hBW.size).mono ?_
            rintro e w4 ⟨⟨v', rfl, ho⟩, hb4⟩
            have hB4 : Below w.heap.size w w4 := hBW.trans (((Below.refl _ _).drew.trans hb4).mono hBW.size)
            have HO := Lib.hid (HAW.out.snoc (t := ⟨t.c * u.c, r⟩) hrs ho)
            clear ho hb4 hl1 hl2
            go_wp2
            go_roundw
            case rel =>
              refine ⟨j + 1, by omega, by go_num, Lib.hid ?_, hB4⟩
              have h := HO.out
              rw [map_succ (pairT t) y j hjy, HU.out, HPT.out, ← List.append_assoc]
              exact h
            case measure => simp [intOf]; omega
          · obtain ⟨gv, cv, rfl, _⟩ := HAW.out.acc.own.form
            go_wp2
            go_ret2
            have hbf : b = false := by
              rw [← HBB.out]
              refine List.all_eq_false.2 ⟨pairT t u, ?_, by rw [HPT.out]; simpa using hrs⟩
              unfold pairsT
              exact List.mem_flatMap.2 ⟨t, by rw [← HT.out]; exact List.getElem_mem hkx, List.mem_map.2 ⟨u, by rw [← HU.out]; exact List.getElem_mem hjy, rfl⟩⟩
            exact .inr ⟨hbf, gv, _, cv, rfl, hBW⟩
        · obtain rfl : j = m := by omega
          go_wp2
          go_roundw
          case rel =>
            refine ⟨k + 1, by omega, by go_num, Lib.hid ?_, hBj⟩
            have h := HAj.out
            have hty : y.take j = y := List.take_of_length_le (by rw [HY.out.len]; exact Nat.le_refl _)
            rw [hty, ← HT.out, ← pairs_succ x y k hkx] at h
            exact h
          case measure => simp [intOf]; omega
    · obtain rfl : k = n := by omega
      have hacc := HA.out
      rw [List.take_of_length_le (by rw [HX.out.len]; exact Nat.le_refl _)] at hacc
      have HAcc := Lib.hid hacc
      clear hacc
      obtain ⟨gv, cv, rfl, hf1, _⟩ := HAcc.out.acc.own.form
      have hf1 := Lib.hid hf1
      go_wp2
      go_ret2
      have hbt : b = true := by rw [← HBB.out]; exact List.all_eq_true.2 fun t ht => by simpa using HAcc.out.fit t ht
      have hlen := HLENN.out
      exact .inl ⟨hbt, _, rfl, HAcc.out.acc.own, HAcc.out.acc.small (by omega) (by omega), hB⟩

/-! ### SumTimes -/

set_option maxRecDepth 100000 in
set_option maxHeartbeats 4000000 in
theorem sSumTimes_no (a1 a2 : Option Addr) (c1 c2 n m : Nat) (x y : List Tm) (w : World) (hx : IsTerms w a1 n x) (hy : IsTerms w a2 m y) (hb : sumB x = false ∨ sumB y = false) :
    Calls Try.prog 61 #[.slice a1 n c1, .slice a2 m c2] w (STold w false []) := by
  have HX := Lib.hid hx
  have HY := Lib.hid hy
  clear hx hy
  cases hbx : sumB x with
  | false =>
    have HBX := Lib.hid hbx
    clear hbx hb
    go_enter Try.func61, Try.ntmps61
    go_wp2_with fail
    refine (sSumIn_is a1 c1 n x false _ HX.out HBX.out).mono ?_
    rintro e w1 ⟨rfl, hb1⟩
    have HB1 := Lib.hid hb1
    clear hb1
    go_wp2
    go_ret2
    exact ⟨⟨_, rfl, (ownEmpty w1).mono HB1.out.size⟩, HB1.out.alloc HB1.out.size _⟩
  | true =>
    have hby : sumB y = false := by rcases hb with h | h; · rw [h] at hbx; cases hbx
                                    · exact h
    have HBX := Lib.hid hbx
    have HBY := Lib.hid hby
    clear hbx hby hb
    go_enter Try.func61, Try.ntmps61
    go_wp2_with fail
    refine (sSumIn_is a1 c1 n x true _ HX.out HBX.out).mono ?_
    rintro e w1 ⟨rfl, hb1⟩
    have HB1 := Lib.hid hb1
    clear hb1
    go_wp2_with fail
    refine (sSumIn_is a2 c2 m y false _ (HY.out.below HB1.out) HBY.out).mono ?_
    rintro e w2 ⟨rfl, hb2⟩
    have HB2 := Lib.hid (HB1.out.trans (hb2.mono HB1.out.size))
    clear hb2
    go_wp2
    go_ret2
    exact ⟨⟨_, rfl, (ownEmpty w2).mono HB2.out.size⟩, HB2.out.alloc HB2.out.size _⟩

set_option maxRecDepth 100000 in
set_option maxHeartbeats 4000000 in
theorem sSumTimes_yes (a1 a2 : Option Addr) (c1 c2 n m : Nat) (x y : List Tm) (b : Bool) (w : World) (hx : IsTerms w a1 n x) (hy : IsTerms w a2 m y) (hbx : sumB x = true) (hby : sumB y = true)
    (hb : (fitB (pairsT x y) && twB (canonT (pairsT x y))) = b) :
    Calls Try.prog 61 #[.slice a1 n c1, .slice a2 m c2] w (STold w b (canonT (pairsT x y))) := by
  have HX := Lib.hid hx
  have HY := Lib.hid hy
  have HBX := Lib.hid hbx
  have HBY := Lib.hid hby
  have HBB := Lib.hid hb
  obtain ⟨f, hf⟩ : ∃ f, fitB (pairsT x y) = f := ⟨_, rfl⟩
  have HFF := Lib.hid hf
  have HT : Hid (∀ W, IsTerms W a1 n x → IsTerms W a2 m y → Calls Try.prog 118 #[.slice a1 n c1, .slice a2 m c2] W (TimesAny W f (pairsT x y))) :=
    Lib.hid fun W h1 h2 => l2Times_any a1 a2 c1 c2 n m x y f W h1 h2 (sumB_parts HBX.out).1 (sumB_parts HBY.out).1 HFF.out
  clear hx hy hbx hby hb hf
  go_enter Try.func61, Try.ntmps61
  go_wp2_with fail
  refine (sSumIn_is a1 c1 n x true _ HX.out HBX.out).mono ?_
  rintro e w1 ⟨rfl, hb1⟩
  have HB1 := Lib.hid hb1
  clear hb1
  go_wp2_with fail
  refine (sSumIn_is a2 c2 m y true _ (HY.out.below HB1.out) HBY.out).mono ?_
  rintro e w2 ⟨rfl, hb2⟩
  have HB2 := Lib.hid (HB1.out.trans (hb2.mono HB1.out.size))
  clear hb2
  go_wp2_with fail
  refine (HT.out _ (HX.out.below HB2.out) (HY.out.below HB2.out)).mono ?_
  rintro e w3 (⟨hft, v, rfl, ho, hsm, hb3⟩ | ⟨hff, g, l, cap, rfl, hb3⟩)
  · have HO := Lib.hid ho
    have HSM := Lib.hid hsm
    have HB3 := Lib.hid (HB2.out.trans (hb3.mono HB2.out.size))
    have HFT := Lib.hid hft
    obtain ⟨gv, cv, rfl, _⟩ := ho.form
    have HSb : Hid (sumB (canonT (pairsT x y)) = b) := Lib.hid (by
      have h := HBB.out
      rw [HFF.out, HFT.out, Bool.true_and] at h
      rw [sumB_canon (canon_of _)]; exact h)
    have hbs := HB2.out.size
    have hbs3 := hb3.size
    clear ho hsm hb3 hft
    go_wp2_with fail
    refine (sDone_any w.heap.size _ (canonT (pairsT x y)) b _ (HO.out.mono hbs) HSM.out HB3.out.size HSb.out).mono ?_
    rintro e w4 ⟨⟨v', rfl, ho⟩, hb4⟩
    have HO4 := Lib.hid ho
    clear ho
    go_wp2
    go_ret2
    exact ⟨⟨_, rfl, HO4.out⟩, HB3.out.trans (hb4.mono HB3.out.size)⟩
  · have HB3 := Lib.hid (HB2.out.trans (hb3.mono HB2.out.size))
    have hbf : b = false := by rw [← HBB.out, HFF.out, hff]; rfl
    subst hbf
    clear hb3 hff
    go_wp2
    go_ret2
    exact ⟨⟨_, rfl, (ownEmpty _).mono HB3.out.size⟩, HB3.out.alloc HB3.out.size _⟩

end Go.Proofs.Ytebgcebjlbhjjab

/- The contract of the model's 'FoxSum'. -/

namespace Go.Proofs.Ytebgcebjlbhjjab
open Go.RowKit Go.Shelf

theorem mul_bnd60 {a b : Int} (ha : -1000000 ≤ a ∧ a ≤ 1000000) (hb : -60 ≤ b ∧ b ≤ 60) : -60000000 ≤ a * b ∧ a * b ≤ 60000000 := by
  have h : (a * b).natAbs ≤ 1000000 * 60 := by
    rw [Int.natAbs_mul]
    exact Nat.mul_le_mul (by omega) (by omega)
  omega
theorem scale_succ (c : Int) (ds acc : List Tm) (j : Nat) (h : j < ds.length) : (scaleT c (ds.take (j + 1))).foldl addT acc = addT ((scaleT c (ds.take j)).foldl addT acc) ⟨c * ds[j].c, ds[j].s⟩ := by
  unfold scaleT
  rw [List.take_succ_eq_append_getElem h, List.map_append, List.foldl_append]; rfl

/-- What FoxSum answers. -/
def foxSumB (x : List Tm) (g : Int) : Bool := sumB x && (inR 0 3 g && twB (canonT (foxI g x)))

set_option maxRecDepth 100000 in
set_option maxHeartbeats 4000000 in
theorem sFoxSum_no (a : Option Addr) (cap n : Nat) (x : List Tm) (g : Int) (w : World) (hx : IsTerms w a n x) (hb : sumB x = false ∨ inR 0 3 g = false) :
    Calls Try.prog 83 #[.slice a n cap, .int .i64 g] w (STold w false []) := by
  have HX := Lib.hid hx
  have hba : Below w.heap.size w (w.alloc (.cells #[] TI)) := (Below.refl _ _).alloc (Nat.le_refl _) _
  have HBA := Lib.hid hba
  clear hx hba
  cases hbx : sumB x with
  | false =>
    have HBX := Lib.hid hbx
    clear hbx hb
    go_enter Try.func83, Try.ntmps83
    go_wp2_with fail
    refine (sSumIn_is a cap n x false _ (HX.out.below HBA.out) HBX.out).mono ?_
    rintro e w1 ⟨rfl, hb1⟩
    have HB1 := Lib.hid (HBA.out.trans (hb1.mono HBA.out.size))
    have HE := Lib.hid ((ownEmpty w).below hb1)
    clear hb1
    go_wp2
    go_ret2
    exact ⟨⟨_, rfl, HE.out⟩, HB1.out⟩
  | true =>
    have hbf : inR 0 3 g = false := by rcases hb with h | h; · rw [h] at hbx; cases hbx
                                       · exact h
    have HBX := Lib.hid hbx
    have HBF := Lib.hid hbf
    clear hbx hbf hb
    go_enter Try.func83, Try.ntmps83
    go_wp2_with fail
    refine (sSumIn_is a cap n x true _ (HX.out.below HBA.out) HBX.out).mono ?_
    rintro e w1 ⟨rfl, hb1⟩
    have HB1 := Lib.hid (HBA.out.trans (hb1.mono HBA.out.size))
    have HE := Lib.hid ((ownEmpty w).below hb1)
    clear hb1
    go_wp2_with fail
    refine (l6In_is _ _ _ false _ HBF.out).mono ?_
    rintro e w2 ⟨rfl, hb2⟩
    have HB2 := Lib.hid (HB1.out.trans (hb2.mono HB1.out.size))
    have HE2 := Lib.hid (HE.out.below hb2)
    clear hb2
    go_wp2
    go_ret2
    exact ⟨⟨_, rfl, HE2.out⟩, HB2.out⟩

set_option maxRecDepth 100000 in
set_option maxHeartbeats 4000000 in
theorem sFoxSum_yes (a : Option Addr) (cap n : Nat) (x : List Tm) (g : Int) (b : Bool) (w : World) (hx : IsTerms w a n x) (hbx : sumB x = true) (hg : inR 0 3 g = true) (hb : twB (canonT (foxI g x)) = b) :
    Calls Try.prog 83 #[.slice a n cap, .int .i64 g] w (STold w b (canonT (foxI g x))) := by
  obtain ⟨htx, hcx⟩ := sumB_parts hbx
  obtain ⟨hlx, hwx⟩ := canon_len_words htx
  have hn : n ≤ 300 := by rw [← hx.len]; exact hlx
  have HX := Lib.hid hx
  have HBX := Lib.hid hbx
  have HG := Lib.hid hg
  have HWX := Lib.hid hwx
  have HBB := Lib.hid hb
  have hmx : Try.prog.follows .mixedOrders = true := by kernel_rfl
  have hba : Below w.heap.size w (w.alloc (.cells #[] TI)) := (Below.refl _ _).alloc (Nat.le_refl _) _
  have HBA := Lib.hid hba
  clear hx hbx htx hcx hlx hwx hb hba hg
  go_enter Try.func83, Try.ntmps83
  go_wp2_with fail
  refine (sSumIn_is a cap n x true _ (HX.out.below HBA.out) HBX.out).mono ?_
  rintro e w1 ⟨rfl, hb1⟩
  have HB1 := Lib.hid (HBA.out.trans (hb1.mono HBA.out.size))
  have HE := Lib.hid ((acc_zero w).below hb1)
  clear hb1
  go_wp2_with fail
  refine (l6In_is _ _ _ true _ HG.out).mono ?_
  rintro e w2 ⟨rfl, hb2⟩
  have HB2 := Lib.hid (HB1.out.trans (hb2.mono HB1.out.size))
  have HE2 := Lib.hid (HE.out.below hb2)
  clear hb2
  go_wp2_with fail
  go_loopw [6, 7] (fun v i wr => ∃ k : Nat, k ≤ n ∧ i = .int .i64 k ∧ Hid (Acc w.heap.size wr v ((foxM g (x.take k)).foldl addT []) (60 * k) (3600000000 * k)) ∧ Below w.heap.size w wr) (fun _ i _ => n - (intOf i).toNat)
  case atStart => exact ⟨0, Nat.zero_le _, rfl, HE2, HB2.out⟩
  case round =>
    obtain ⟨k, hk, rfl, HA, hB⟩ := hrel
    by_cases hlt : k < n
    · have hkx : k < x.length := by rw [HX.out.len]; exact hlt
      obtain ⟨z, rfl, hz⟩ := HX.out.at_ (by omega)
      obtain ⟨t, ht⟩ : ∃ t, x[k] = t := ⟨_, rfl⟩
      have hzw := hz.below hB
      have hc := hzw.2 k hkx
      have hbz := hzw.1
      rw [ht, addr_next] at hc
      obtain ⟨c0, d1⟩ := hc
      have htb := HWX.out _ (List.getElem_mem hkx)
      rw [ht] at htb
      have hti := termB_iff htb
      have HTI := Lib.hid hti
      have hlet := ((wordB_iff _).1 (termB_word htb)).2.1
      have HT := Lib.hid ht
      obtain ⟨ds, hds⟩ : ∃ ds, canonT (foxL g 1 t.s.data.toList) = ds := ⟨_, rfl⟩
      have HF : Hid (∀ W : World, Calls Try.prog 109 #[.string t.s, .int .i64 g] W fun e w' => (∃ v, e = .returned v ∧ Acc W.heap.size w' v ds 60 60) ∧ Below W.heap.size W w') :=
        Lib.hid fun W => by rw [← hds]; exact l3Fox_any t.s g W hti.1 hlet
      have HDS := Lib.hid hds
      have HBZ := Lib.hid hbz
      have HC0 := Lib.hid c0
      clear ht hz hzw htb hti hds hlet c0
      go_wp2_with fail
      refine (HF.out _).mono ?_
      rintro e w3 ⟨⟨vd, rfl, had⟩, hb3⟩
      obtain ⟨gd, capd, rfl, hd1, hd2, hd3, hd4⟩ := had.own.form
      obtain ⟨zd, hzd⟩ : ∃ zd : Addr, (⟨gd, 0, none⟩ : Addr) = zd := ⟨_, rfl⟩
      rw [hzd] at hd1 ⊢
      have HAD := Lib.hid had
      have HD1 := Lib.hid hd1
      have HA3 := Lib.hid (HA.out.below hb3)
      have hB3 : Below w.heap.size w w3 := hB.trans (hb3.mono hB.size)
      have HC3 := Lib.hid ((hb3.cell (p := z.add (k * 2)) (by rw [addr_add_block]; exact HBZ.out)).trans HC0.out)
      have HBZ3 := Lib.hid (Nat.lt_of_lt_of_le HBZ.out hb3.size)
      have hm60 : ds.length ≤ 60 := HAD.out.len
      obtain ⟨m, hm⟩ : ∃ m, ds.length = m := ⟨_, rfl⟩
      rw [hm] at hm60 hd2 ⊢
      have HM := Lib.hid hm
      have hbs3 := hb3.size
      clear had hzd hd1 hb3 hm d1
      go_wp2_with fail
      go_loopw [6, 9] (fun v i wr2 => ∃ j : Nat, j ≤ m ∧ i = .int .i64 j ∧ Hid (Acc w.heap.size wr2 v ((scaleT t.c (ds.take j)).foldl addT ((foxM g (x.take k)).foldl addT [])) (60 * k + j) (3600000000 * k + 60000000 * j)) ∧ Below w3.heap.size w3 wr2) (fun _ i _ => m - (intOf i).toNat)
      case atStart => exact ⟨0, Nat.zero_le _, rfl, Lib.hid (by simpa [scaleT] using HA3.out), Below.refl _ _⟩
      case round =>
        obtain ⟨j, hj, rfl, HAj, hBj⟩ := hrel
        by_cases hltj : j < m
        · have hjd : j < ds.length := by rw [HM.out]; exact hltj
          obtain ⟨u, hu⟩ : ∃ u, ds[j] = u := ⟨_, rfl⟩
          have hzdw := HD1.out.below hBj
          have hcd := hzdw.2 j hjd
          have hbzd := hzdw.1
          rw [hu, addr_next] at hcd
          obtain ⟨e0, f1⟩ := hcd
          have hub := HAD.out.bnd _ (List.getElem_mem hjd)
          have hus := HAD.out.sml _ (List.getElem_mem hjd)
          rw [hu] at hub hus
          have c0 := (hBj.cell (p := z.add (k * 2)) (by rw [addr_add_block]; exact HBZ3.out)).trans HC3.out
          have hbz := Nat.lt_of_lt_of_le HBZ3.out hBj.size
          have HMB := Lib.hid (mul_bnd60 HTI.out.2 hub)
          have hmul : IntKind.i64.wrap (t.c * u.c) = t.c * u.c := by have := HMB.out; exact IntWalk.i64_in _ (by omega)
          have HU := Lib.hid hu
          have hBw : Below w.heap.size w wr := hB3.trans (hBj.mono hB3.size)
          clear hu hzdw hub
          go_wp2
          go_still_tail 17, hmx
          change wpList _ _ _ _ _ wr.drew
          go_wp2_with fail
          refine (step_any w.heap.size u6 _ _ _ 60000000 (t.c * u.c) u.s wr.drew (HAj.out.below (Below.refl _ _).drew) (by omega) (by omega) (by omega) (by omega) HMB.out hus hBw.size).mono ?_
          rintro e w4 ⟨⟨v', rfl, ho⟩, hb4⟩
          have hB4 : Below w3.heap.size w3 w4 := hBj.trans (((Below.refl _ _).drew.trans hb4).mono hBj.size)
          have HO := Lib.hid ho
          clear ho hb4
          go_wp2
          go_roundw
          case rel =>
            refine ⟨j + 1, by omega, by go_num, Lib.hid ?_, hB4⟩
            rw [scale_succ t.c ds _ j hjd, HU.out]
            exact HO.out.more (by omega) (by omega)
          case measure => simp [intOf]; omega
        · obtain rfl : j = m := by omega
          go_wp2
          go_roundw
          case rel =>
            refine ⟨k + 1, by omega, by go_num, Lib.hid ?_, hB3.trans (hBj.mono hB3.size)⟩
            have h := HAj.out
            rw [show ds.take j = ds from List.take_of_length_le (by rw [HM.out]; exact Nat.le_refl _)] at h
            rw [foxM_succ g x k hkx, HT.out, HDS.out, List.foldl_append]
            exact h.more (by omega) (by omega)
          case measure => simp [intOf]; omega
    · obtain rfl : k = n := by omega
      have hacc := HA.out
      rw [List.take_of_length_le (by rw [HX.out.len]; exact Nat.le_refl _)] at hacc
      change Acc _ _ _ (canonT (foxM g x)) _ _ at hacc
      rw [foxIM] at hacc
      have HAcc := Lib.hid hacc
      have HSb : Hid (sumB (canonT (foxI g x)) = b) := Lib.hid (by rw [sumB_canon (canon_of _)]; exact HBB.out)
      clear hacc
      go_wp2_with fail
      refine (sDone_any w.heap.size u6 (canonT (foxI g x)) b wr HAcc.out.own (HAcc.out.small (by omega) (by omega)) hB.size HSb.out).mono ?_
      rintro e w2 ⟨⟨v', rfl, ho⟩, hb2⟩
      have HO := Lib.hid ho
      clear ho
      go_wp2
      go_ret2
      exact ⟨⟨_, rfl, HO.out⟩, hB.trans (hb2.mono hB.size)⟩

/-! ### As a law wants it -/
theorem foxSumB_tw {x : List Tm} {g : Int} {b : Bool} (h : foxSumB x g = b) : b = true → twB (canonT (foxI g x)) = true := by
  intro hb
  subst hb
  unfold foxSumB at h
  simp only [Bool.and_eq_true] at h
  exact h.2.2
theorem sFoxSum_any (a : Option Addr) (cap n : Nat) (x : List Tm) (g : Int) (b : Bool) (w : World) (hx : IsTerms w a n x) (hb : foxSumB x g = b) :
    Calls Try.prog 83 #[.slice a n cap, .int .i64 g] w (STold w b (canonT (foxI g x))) := by
  unfold foxSumB at hb
  cases hbx : sumB x with
  | false => rw [hbx] at hb; subst hb; exact sFoxSum_no _ _ _ x g w hx (.inl hbx)
  | true =>
    cases hbg : inR 0 3 g with
    | false => rw [hbx, hbg] at hb; subst hb; exact sFoxSum_no _ _ _ x g w hx (.inr hbg)
    | true => rw [hbx, hbg] at hb; exact sFoxSum_yes _ _ _ x g b w hx hbx hbg hb

end Go.Proofs.Ytebgcebjlbhjjab

/- The contracts of the model's 'l4Times', 'l4Done' and 'SeriesTimes'. -/

namespace Go.Proofs.Ytebgcebjlbhjjab
open Go.RowKit Go.Shelf

/-- The product of two terms whose words are put one behind the other; those of all pairs that are not too long. -/
def pairS (t u : Tm) : Tm := ⟨t.c * u.c, t.s ++ u.s⟩
def short (t : Tm) : Bool := decide (t.s.size ≤ 4)
def pairsS (x y : List Tm) : List Tm := x.flatMap fun t => (y.map (pairS t)).filter short
theorem pairsS_succ (x y : List Tm) (k : Nat) (h : k < x.length) : pairsS (x.take (k + 1)) y = pairsS (x.take k) y ++ (y.map (pairS x[k])).filter short := by
  unfold pairsS
  rw [List.take_succ_eq_append_getElem h, List.flatMap_append]
  simp
def rowS (t : Tm) (y : List Tm) : List Tm := (y.map (pairS t)).filter short
theorem rowS_succ (t : Tm) (y : List Tm) (j : Nat) (h : j < y.length) : rowS t (y.take (j + 1)) = rowS t (y.take j) ++ (if (t.s ++ y[j].s).size ≤ 4 then [pairS t y[j]] else []) := by
  unfold rowS
  rw [map_succ (pairS t) y j h, List.filter_append, List.filter_cons, List.filter_nil]
  congr 1
  by_cases hs : (t.s ++ y[j].s).size ≤ 4
  · rw [if_pos (show short (pairS t y[j]) = true from decide_eq_true hs), if_pos hs]
  · rw [if_neg (show ¬ short (pairS t y[j]) = true by unfold short pairS; simpa using hs), if_neg hs]

/-- What fits into the products of series. -/
def SerL (x : List Tm) : Prop := x.length ≤ 400 ∧ ∀ t ∈ x, t.s.size ≤ 4 ∧ -1000000 ≤ t.c ∧ t.c ≤ 1000000

set_option maxRecDepth 100000 in
set_option maxHeartbeats 8000000 in
theorem l4Times_any (a1 a2 : Option Addr) (c1 c2 n m : Nat) (x y : List Tm) (w : World) (hx : IsTerms w a1 n x) (hy : IsTerms w a2 m y) (hsx : SerL x) (hsy : SerL y) :
    Calls Try.prog 98 #[.slice a1 n c1, .slice a2 m c2] w fun e w' => (∃ v, e = .returned v ∧ Acc w.heap.size w' v (canonT (pairsS x y)) 160000 160000000000000000) ∧ Below w.heap.size w w' := by
  obtain ⟨hlx, hwx⟩ := hsx
  obtain ⟨hly, hwy⟩ := hsy
  have hn : n ≤ 400 := by rw [← hx.len]; exact hlx
  have hm : m ≤ 400 := by rw [← hy.len]; exact hly
  have HX := Lib.hid hx
  have HY := Lib.hid hy
  have HWX := Lib.hid hwx
  have HWY := Lib.hid hwy
  have hmx : Try.prog.follows .mixedOrders = true := by kernel_rfl
  have HN := Lib.hid (acc_zero w)
  clear hx hy hlx hwx hly hwy
  go_enter Try.func98, Try.ntmps98
  go_wp2
  go_loopw [5, 6] (fun v i wr => ∃ k : Nat, k ≤ n ∧ i = .int .i64 k ∧ Hid (Acc w.heap.size wr v ((pairsS (x.take k) y).foldl addT []) (400 * k) (400000000000000 * k)) ∧ Below w.heap.size w wr) (fun _ i _ => n - (intOf i).toNat)
  case atStart => exact ⟨0, Nat.zero_le _, rfl, HN, (Below.refl _ _).alloc (Nat.le_refl _) _⟩
  case round =>
    obtain ⟨k, hk, rfl, HA, hB⟩ := hrel
    by_cases hlt : k < n
    · have hkx : k < x.length := by rw [HX.out.len]; exact hlt
      obtain ⟨z, rfl, hz⟩ := HX.out.at_ (by omega)
      obtain ⟨t, ht⟩ : ∃ t, x[k] = t := ⟨_, rfl⟩
      have htb := HWX.out _ (List.getElem_mem hkx)
      rw [ht] at htb
      have HTI := Lib.hid htb
      have HT := Lib.hid ht
      have HZ := Lib.hid hz
      clear ht htb hz
      go_wp2
      go_loopw [5, 7] (fun v i wr => ∃ j : Nat, j ≤ m ∧ i = .int .i64 j ∧ Hid (Acc w.heap.size wr v ((pairsS (x.take k) y ++ rowS t (y.take j)).foldl addT []) (400 * k + j) (400000000000000 * k + 1000000000000 * j)) ∧ Below w.heap.size w wr) (fun _ i _ => m - (intOf i).toNat)
      case atStart => exact ⟨0, Nat.zero_le _, rfl, Lib.hid (by simpa [rowS] using HA.out), hB⟩
      case round =>
        obtain ⟨j, hj, rfl, HAj, hBj⟩ := hrel
        by_cases hltj : j < m
        · have hjy : j < y.length := by rw [HY.out.len]; exact hltj
          obtain ⟨zy, rfl, hzy⟩ := HY.out.at_ (by omega)
          obtain ⟨u, hu⟩ : ∃ u, y[j] = u := ⟨_, rfl⟩
          have hub := HWY.out _ (List.getElem_mem hjy)
          rw [hu] at hub
          have hzw := HZ.out.below hBj
          have hzyw := hzy.below hBj
          have hc := hzw.2 k hkx
          have hcy := hzyw.2 j hjy
          have hbz := hzw.1
          have hbzy := hzyw.1
          rw [HT.out, addr_next] at hc
          rw [hu, addr_next] at hcy
          obtain ⟨c0, d1⟩ := hc
          obtain ⟨e0, f1⟩ := hcy
          have hrow := rowS_succ t y j hjy
          rw [hu] at hrow
          obtain ⟨q, hq⟩ : ∃ q, t.s ++ u.s = q := ⟨_, rfl⟩
          rw [hq] at hrow
          have hti := HTI.out
          have hqs : q.size = t.s.size + u.s.size := by rw [← hq]; exact ByteArray.size_append
          have hnot : ¬ 9223372036854775807 < t.s.size + u.s.size := by omega
          have hpt : pairS t u = ⟨t.c * u.c, q⟩ := by unfold pairS; rw [hq]
          rw [hpt] at hrow
          have HMB := Lib.hid (mul_bnd hti.2 hub.2)
          have hmul : IntKind.i64.wrap (t.c * u.c) = t.c * u.c := by have := HMB.out; exact IntWalk.i64_in _ (by omega)
          have v0 := BelowBy.cell (w := wr) (by show (z.add (k * 2)).block < _; rw [addr_add_block]; exact hbz) d1
          have v1 := BelowBy.cell (w := wr) (by show (zy.add (j * 2)).block < _; rw [addr_add_block]; exact hbzy) f1
          have HROW := Lib.hid hrow
          have HC0 := Lib.hid c0
          have HE0 := Lib.hid e0
          have HBZ := Lib.hid hbz
          have HBZY := Lib.hid hbzy
          have HMUL := Lib.hid hmul
          have HQS := Lib.hid hqs
          clear hu hub hti hzw hzyw hzy c0 d1 e0 f1 hrow hpt hmul hqs
          go_wp2
          refine wp_region_below hmx (by kernel_rfl) ?_
          repeat (((with_reducible refine wpQuiet_step (fun K hK => ?_)); go_simp; first | ((with_reducible refine hK _ ?_); clear hK K) | (refine (if_neg (by decide)).mpr ?_; (with_reducible refine hK _ ?_); clear hK K)))
          with_reducible refine wpQuiet_nil ?_
          rintro W ⟨⟨W, hW⟩, rfl⟩
          clear v0 v1
          have hBW : Below w.heap.size w W := hBj.trans (hW.mono hBj.size)
          have HAW := Lib.hid (HAj.out.below hW)
          have c0 := (hW.cell (p := z.add (k * 2)) (by rw [addr_add_block]; exact HBZ.out)).trans HC0.out
          have e0 := (hW.cell (p := zy.add (j * 2)) (by rw [addr_add_block]; exact HBZY.out)).trans HE0.out
          have hmul := HMUL.out
          change Exit.then _ _ _ _ W
          by_cases hqs4 : q.size ≤ 4
          · have HROW2 : Hid (rowS t (y.take (j + 1)) = rowS t (y.take j) ++ [⟨t.c * u.c, q⟩]) := Lib.hid (by rw [HROW.out, if_pos hqs4])
            go_wp2
            go_still_tail 13, hmx
            change wpList _ _ _ _ _ W.drew
            go_wp2_with fail
            refine (step_any w.heap.size u5 _ _ _ 1000000000000 (t.c * u.c) q W.drew (HAW.out.below (Below.refl _ _).drew) (by omega) (by omega) (by omega) (by omega) HMB.out (by omega) hBW.size).mono ?_
            rintro e w4 ⟨⟨v', rfl, ho⟩, hb4⟩
            have hB4 : Below w.heap.size w w4 := hBW.trans (((Below.refl _ _).drew.trans hb4).mono hBW.size)
            have HO := Lib.hid ho
            clear ho hb4
            go_wp2
            go_roundw
            case rel =>
              refine ⟨j + 1, by omega, by go_num, Lib.hid ?_, hB4⟩
              rw [HROW2.out, ← List.append_assoc, List.foldl_append]
              exact HO.out.more (by omega) (by omega)
            case measure => simp [intOf]; omega
          · have HROW2 : Hid (rowS t (y.take (j + 1)) = rowS t (y.take j)) := Lib.hid (by rw [HROW.out, if_neg hqs4, List.append_nil])
            go_wp2
            go_roundw
            case rel =>
              refine ⟨j + 1, by omega, by go_num, Lib.hid ?_, hBW⟩
              rw [HROW2.out]
              exact HAW.out.more (by omega) (by omega)
            case measure => simp [intOf]; omega
        · obtain rfl : j = m := by omega
          go_wp2
          go_roundw
          case rel =>
            refine ⟨k + 1, by omega, by go_num, Lib.hid ?_, hBj⟩
            have h := HAj.out
            rw [show y.take j = y from List.take_of_length_le (by rw [HY.out.len]; exact Nat.le_refl _)] at h
            rw [pairsS_succ x y k hkx, HT.out]
            exact h.more (by omega) (by omega)
          case measure => simp [intOf]; omega
    · obtain rfl : k = n := by omega
      have hacc := HA.out
      rw [List.take_of_length_le (by rw [HX.out.len]; exact Nat.le_refl _)] at hacc
      have HAcc := Lib.hid hacc
      clear hacc
      go_wp2
      go_ret
      exact ⟨⟨_, rfl, HAcc.out.more (by omega) (by omega)⟩, hB⟩

/-! ### Told -/
theorem serB_is (ts : List Tm) : serB ts = ((List.range ts.length).all (serAt ts) && decide (ts.length ≤ 400)) := rfl
theorem serB_parts {ts : List Tm} (h : serB ts = true) : ts.length ≤ 400 ∧ (∀ t ∈ ts, t.c ≠ 0 ∧ (-1000000 ≤ t.c ∧ t.c ≤ 1000000) ∧ monoB t.s = true) ∧ Canon ts := by
  rw [serB_is] at h
  simp only [Bool.and_eq_true, decide_eq_true_eq] at h
  obtain ⟨h1, h2⟩ := h
  have hat : ∀ j (hj : j < ts.length), ts[j].c ≠ 0 ∧ (-1000000 ≤ ts[j].c ∧ ts[j].c ≤ 1000000) ∧ monoB ts[j].s = true ∧ (j = 0 ∨ lessW (ts.getD (j - 1) default).s (ts.getD j default).s = true) := fun j hj => by
    have h3 := List.all_eq_true.1 h1 j (List.mem_range.2 hj)
    have hg : ts.getD j default = ts[j] := by rw [List.getD_eq_getElem?_getD, List.getElem?_eq_getElem hj]; rfl
    unfold serAt inR at h3
    simp only [Bool.and_eq_true, bne_iff_ne, ne_eq, Bool.or_eq_true, decide_eq_true_eq] at h3
    rw [hg] at h3 ⊢
    exact ⟨h3.1.1.1, h3.1.1.2, h3.1.2, h3.2⟩
  refine ⟨h2, fun t ht => ?_, pairwise_lessW fun k hk hk0 => ?_, fun t ht => ?_⟩
  · obtain ⟨j, hj, rfl⟩ := List.getElem_of_mem ht
    exact ⟨(hat j hj).1, (hat j hj).2.1, (hat j hj).2.2.1⟩
  · rcases (hat k hk).2.2.2 with h | h
    · omega
    · exact h
  · obtain ⟨j, hj, rfl⟩ := List.getElem_of_mem ht
    exact (hat j hj).1
theorem mono_size {s : ByteArray} (h : monoB s = true) : s.size ≤ 4 := by
  unfold monoB at h
  simp only [Bool.and_eq_true, decide_eq_true_eq] at h
  exact h.2
theorem serL_of {ts : List Tm} (h : serB ts = true) : SerL ts := by
  obtain ⟨h1, h2, _⟩ := serB_parts h
  exact ⟨h1, fun t ht => ⟨mono_size (h2 t ht).2.2, (h2 t ht).2.1⟩⟩
/-- For canonical lists only the terms have to be looked at. -/
def twS (ts : List Tm) : Bool := decide (ts.length ≤ 400) && ts.all fun t => inR (-1000000) 1000000 t.c && monoB t.s
theorem serB_canon {ts : List Tm} (h : Canon ts) : serB ts = twS ts := by
  rw [serB_is, Bool.and_comm]
  unfold twS
  congr 1
  have hg : ∀ j (h : j < ts.length), ts.getD j default = ts[j] := fun j h => by rw [List.getD_eq_getElem?_getD, List.getElem?_eq_getElem h]; rfl
  rw [Bool.eq_iff_iff]
  simp only [List.all_eq_true, List.mem_range]
  constructor
  · intro h1 t ht
    obtain ⟨j, hj, rfl⟩ := List.getElem_of_mem ht
    have h3 := h1 j hj
    unfold serAt at h3
    rw [hg j hj] at h3
    simp only [Bool.and_eq_true] at h3 ⊢
    exact ⟨h3.1.1.2, h3.1.2⟩
  · intro h1 j hj
    have h3 := h1 _ (List.getElem_mem hj)
    simp only [Bool.and_eq_true] at h3
    unfold serAt
    rw [hg j hj, h3.1, h3.2]
    have h4 : (ts[j].c != 0) = true := by simpa using h.2 _ (List.getElem_mem hj)
    rw [h4]
    by_cases hj0 : j = 0
    · simp [hj0]
    · have h5 := List.pairwise_iff_getElem.1 h.1 (j - 1) j (by omega) hj (by omega)
      rw [hg (j - 1) (by omega), h5]
      simp
theorem twS_parts {ts : List Tm} (h : twS ts = true) : ts.length ≤ 400 ∧ ∀ t ∈ ts, (-1000000 ≤ t.c ∧ t.c ≤ 1000000) ∧ monoB t.s = true := by
  unfold twS inR at h
  simp only [Bool.and_eq_true, decide_eq_true_eq, List.all_eq_true] at h
  exact h
theorem told_smallS {b : Bool} {L us : List Tm} (h : b = true → twS L = true) (hus : cond b L [] = us) : SmallT us ∧ us.length ≤ 400 := by
  cases b with
  | false => subst hus; exact ⟨⟨Nat.zero_le _, fun t h => by cases h⟩, Nat.zero_le _⟩
  | true =>
    have hus : L = us := hus
    subst hus
    obtain ⟨h1, h2⟩ := twS_parts (h rfl)
    exact ⟨⟨by unfold maxLen; omega, fun t ht => by have := h2 t ht; have := mono_size this.2; unfold maxLen; omega⟩, h1⟩
theorem sSeriesIn_is (a : Option Addr) (cap n : Nat) (ts : List Tm) (b : Bool) (w : World) (hs : IsTerms w a n ts) (hb : serB ts = b) :
    Calls Try.prog 32 #[.slice a n cap] w fun e w' => e = .returned (.bool b) ∧ Below w.heap.size w w' := by
  subst hb; exact sSeriesIn_any a cap n ts w hs

theorem s4Done_any (base : Nat) (v : Value) (ts : List Tm) (b : Bool) (w : World) (h : OwnTerms base w v ts) (hs : SmallT ts) (hbase : base ≤ w.heap.size) (hb : serB ts = b) :
    Calls Try.prog 100 #[v] w fun e w' => (∃ v', e = .returned (.tuple #[v', .bool b]) ∧ OwnTerms base w' v' (cond b ts [])) ∧ Below w.heap.size w w' := by
  obtain ⟨g, cap, rfl, h1, h2, h3, h4⟩ := h.form
  have HI : Hid (IsTerms w (some ⟨g, 0, none⟩) ts.length ts) := Lib.hid ⟨rfl, hs.1, fun _ => ⟨_, rfl, h1⟩, hs.2⟩
  obtain ⟨n, hn⟩ : ∃ n, ts.length = n := ⟨_, rfl⟩
  have HH := Lib.hid h
  rw [hn] at HI HH ⊢
  have HB := Lib.hid hb
  clear h h1 h2 h3 hs hb hn
  cases b with
  | true =>
    go_enter Try.func100, Try.ntmps100
    go_wp2_with fail
    refine (sSeriesIn_is _ cap n ts true _ HI.out HB.out).mono ?_
    rintro e w' ⟨rfl, hb⟩
    go_wp2
    go_ret2
    exact ⟨⟨_, rfl, HH.out.below hb⟩, hb⟩
  | false =>
    go_enter Try.func100, Try.ntmps100
    go_wp2_with fail
    refine (sSeriesIn_is _ cap n ts false _ HI.out HB.out).mono ?_
    rintro e w' ⟨rfl, hb⟩
    go_wp2
    go_ret2
    exact ⟨⟨_, rfl, (ownEmpty w').mono (Nat.le_trans hbase hb.size)⟩, hb.trans (((Below.refl _ _).alloc (Nat.le_refl _) _).mono hb.size)⟩

/-- What SeriesTimes answers. -/
def serProdB (x y : List Tm) : Bool := serB x && (serB y && twS (canonT (pairsS x y)))
theorem serProdB_tw {x y : List Tm} {b : Bool} (h : serProdB x y = b) : b = true → twS (canonT (pairsS x y)) = true := by
  intro hb
  subst hb
  unfold serProdB at h
  simp only [Bool.and_eq_true] at h
  exact h.2.2

set_option maxRecDepth 100000 in
set_option maxHeartbeats 4000000 in
theorem sSeriesTimes_no (a1 a2 : Option Addr) (c1 c2 n m : Nat) (x y : List Tm) (w : World) (hx : IsTerms w a1 n x) (hy : IsTerms w a2 m y) (hb : serB x = false ∨ serB y = false) :
    Calls Try.prog 43 #[.slice a1 n c1, .slice a2 m c2] w (STold w false []) := by
  have HX := Lib.hid hx
  have HY := Lib.hid hy
  clear hx hy
  cases hbx : serB x with
  | false =>
    have HBX := Lib.hid hbx
    clear hbx hb
    go_enter Try.func43, Try.ntmps43
    go_wp2_with fail
    refine (sSeriesIn_is a1 c1 n x false _ HX.out HBX.out).mono ?_
    rintro e w1 ⟨rfl, hb1⟩
    have HB1 := Lib.hid hb1
    clear hb1
    go_wp2
    go_ret2
    exact ⟨⟨_, rfl, (ownEmpty w1).mono HB1.out.size⟩, HB1.out.alloc HB1.out.size _⟩
  | true =>
    have hby : serB y = false := by rcases hb with h | h; · rw [h] at hbx; cases hbx
                                    · exact h
    have HBX := Lib.hid hbx
    have HBY := Lib.hid hby
    clear hbx hby hb
    go_enter Try.func43, Try.ntmps43
    go_wp2_with fail
    refine (sSeriesIn_is a1 c1 n x true _ HX.out HBX.out).mono ?_
    rintro e w1 ⟨rfl, hb1⟩
    have HB1 := Lib.hid hb1
    clear hb1
    go_wp2_with fail
    refine (sSeriesIn_is a2 c2 m y false _ (HY.out.below HB1.out) HBY.out).mono ?_
    rintro e w2 ⟨rfl, hb2⟩
    have HB2 := Lib.hid (HB1.out.trans (hb2.mono HB1.out.size))
    clear hb2
    go_wp2
    go_ret2
    exact ⟨⟨_, rfl, (ownEmpty w2).mono HB2.out.size⟩, HB2.out.alloc HB2.out.size _⟩

set_option maxRecDepth 100000 in
set_option maxHeartbeats 4000000 in
theorem sSeriesTimes_yes (a1 a2 : Option Addr) (c1 c2 n m : Nat) (x y : List Tm) (b : Bool) (w : World) (hx : IsTerms w a1 n x) (hy : IsTerms w a2 m y) (hbx : serB x = true) (hby : serB y = true) (hb : twS (canonT (pairsS x y)) = b) :
    Calls Try.prog 43 #[.slice a1 n c1, .slice a2 m c2] w (STold w b (canonT (pairsS x y))) := by
  have HX := Lib.hid hx
  have HY := Lib.hid hy
  have HBX := Lib.hid hbx
  have HBY := Lib.hid hby
  have HSb : Hid (serB (canonT (pairsS x y)) = b) := Lib.hid (by rw [serB_canon (canon_of _)]; exact hb)
  clear hx hy hbx hby hb
  go_enter Try.func43, Try.ntmps43
  go_wp2_with fail
  refine (sSeriesIn_is a1 c1 n x true _ HX.out HBX.out).mono ?_
  rintro e w1 ⟨rfl, hb1⟩
  have HB1 := Lib.hid hb1
  clear hb1
  go_wp2_with fail
  refine (sSeriesIn_is a2 c2 m y true _ (HY.out.below HB1.out) HBY.out).mono ?_
  rintro e w2 ⟨rfl, hb2⟩
  have HB2 := Lib.hid (HB1.out.trans (hb2.mono HB1.out.size))
  clear hb2
  go_wp2_with fail
  refine (l4Times_any a1 a2 c1 c2 n m x y _ (HX.out.below HB2.out) (HY.out.below HB2.out) (serL_of HBX.out) (serL_of HBY.out)).mono ?_
  rintro e w3 ⟨⟨v, rfl, ho⟩, hb3⟩
  have HO := Lib.hid ho
  have HB3 := Lib.hid (HB2.out.trans (hb3.mono HB2.out.size))
  have hbs := HB2.out.size
  clear ho hb3
  go_wp2_with fail
  refine (s4Done_any w.heap.size v (canonT (pairsS x y)) b _ (HO.out.own.mono hbs) (HO.out.small (by omega) (by omega)) HB3.out.size HSb.out).mono ?_
  rintro e w4 ⟨⟨v', rfl, ho⟩, hb4⟩
  have HO4 := Lib.hid ho
  clear ho
  go_wp2
  go_ret2
  exact ⟨⟨_, rfl, HO4.out⟩, HB3.out.trans (hb4.mono HB3.out.size)⟩

theorem sSeriesTimes_any (a1 a2 : Option Addr) (c1 c2 n m : Nat) (x y : List Tm) (b : Bool) (w : World) (hx : IsTerms w a1 n x) (hy : IsTerms w a2 m y) (hb : serProdB x y = b) :
    Calls Try.prog 43 #[.slice a1 n c1, .slice a2 m c2] w (STold w b (canonT (pairsS x y))) := by
  unfold serProdB at hb
  cases hbx : serB x with
  | false => rw [hbx] at hb; subst hb; exact sSeriesTimes_no _ _ _ _ _ _ x y w hx hy (.inl hbx)
  | true =>
    cases hby : serB y with
    | false => rw [hbx, hby] at hb; subst hb; exact sSeriesTimes_no _ _ _ _ _ _ x y w hx hy (.inr hby)
    | true => rw [hbx, hby] at hb; exact sSeriesTimes_yes _ _ _ _ _ _ x y b w hx hy hbx hby hb

end Go.Proofs.Ytebgcebjlbhjjab

/- How great the coefficients of the series of a word get, and how many terms it has. -/

namespace Go.Proofs.Ytebgcebjlbhjjab
open Go.RowKit

/-- The sum of the sizes of the coefficients of degree d; of those up to degree d. -/
def nrm (d : Nat) : List Tm → Nat
  | [] => 0
  | t :: r => (if t.s.size = d then t.c.natAbs else 0) + nrm d r
def cum (d : Nat) : List Tm → Nat
  | [] => 0
  | t :: r => (if t.s.size ≤ d then t.c.natAbs else 0) + cum d r
theorem nrm_append (d : Nat) (a b : List Tm) : nrm d (a ++ b) = nrm d a + nrm d b := by
  induction a with
  | nil => simp [nrm]
  | cons t r ih => rw [List.cons_append, nrm, nrm, ih]; omega
theorem nrm_nz (d : Nat) (t : Tm) : nrm d (nz t) = if t.s.size = d then t.c.natAbs else 0 := by
  unfold nz
  by_cases h : t.c = 0
  · rw [if_pos h, h]; simp [nrm]
  · rw [if_neg h]; simp [nrm]
theorem nrm_add (d : Nat) (t : Tm) : ∀ ts, nrm d (addT ts t) ≤ nrm d ts + if t.s.size = d then t.c.natAbs else 0
  | [] => by rw [addT, nrm_nz, nrm]; omega
  | x :: r => by
    rw [addT]
    by_cases h : lessW x.s t.s = true
    · rw [if_pos h, nrm, nrm]
      have := nrm_add d t r
      omega
    · rw [if_neg h]
      by_cases h2 : x.s = t.s
      · rw [if_pos h2, nrm_append, nrm_nz, nrm, h2]
        by_cases h3 : t.s.size = d
        · simp only [h3, if_true]; omega
        · simp only [h3, if_false]; omega
      · rw [if_neg h2, nrm_append, nrm_nz]; omega
theorem nrm_fold (d : Nat) : ∀ (ts acc : List Tm), nrm d (ts.foldl addT acc) ≤ nrm d acc + nrm d ts
  | [], acc => by simp [nrm]
  | t :: r, acc => by
    have h1 := nrm_fold d r (addT acc t)
    have h2 := nrm_add d t acc
    rw [List.foldl_cons, nrm]
    omega
theorem nrm_canon (d : Nat) (ts : List Tm) : nrm d (canonT ts) ≤ nrm d ts := by
  have h := nrm_fold d ts []
  rw [show nrm d [] = 0 from rfl, Nat.zero_add] at h
  exact h
theorem cum_zero : ∀ ts, cum 0 ts = nrm 0 ts
  | [] => rfl
  | t :: r => by rw [cum, nrm, cum_zero r]; simp only [Nat.le_zero_eq]
theorem cum_succ (d : Nat) : ∀ ts, cum (d + 1) ts = cum d ts + nrm (d + 1) ts
  | [] => rfl
  | t :: r => by
    rw [cum, cum, nrm, cum_succ d r]
    by_cases h : t.s.size ≤ d
    · rw [if_pos (by omega), if_pos h, if_neg (by omega)]; omega
    · by_cases h2 : t.s.size = d + 1
      · rw [if_pos (by omega), if_neg h, if_pos h2]; omega
      · rw [if_neg (by omega), if_neg h, if_neg h2]; omega
theorem cum_le (d : Nat) : ∀ {ts : List Tm} {t : Tm}, t ∈ ts → t.s.size ≤ d → t.c.natAbs ≤ cum d ts
  | u :: r, t, h, hd => by
    rw [cum]
    rcases List.mem_cons.1 h with rfl | h
    · rw [if_pos hd]; omega
    · have := cum_le d h hd; omega
theorem nrm_row (d : Nat) (t : Tm) {y : List Tm} (hy : ∀ e, nrm e y ≤ 1) : nrm d (rowS t y) ≤ if t.s.size ≤ d then t.c.natAbs else 0 := by
  have key : ∀ z : List Tm, nrm d (rowS t z) ≤ if t.s.size ≤ d then t.c.natAbs * nrm (d - t.s.size) z else 0 := by
    intro z
    induction z with
    | nil => simp [rowS, nrm]
    | cons u r ih =>
      have e : rowS t (u :: r) = (if short (pairS t u) = true then [pairS t u] else []) ++ rowS t r := by
        unfold rowS
        rw [List.map_cons, List.filter_cons]
        split <;> simp
      have h1 : nrm d (if short (pairS t u) = true then [pairS t u] else []) ≤ if t.s.size + u.s.size = d then t.c.natAbs * u.c.natAbs else 0 := by
        have hs : (pairS t u).s.size = t.s.size + u.s.size := by unfold pairS; exact ByteArray.size_append
        split
        · rw [nrm, nrm, hs]
          split
          · unfold pairS; rw [Int.natAbs_mul]; omega
          · omega
        · simp [nrm]
      rw [e, nrm_append, nrm]
      by_cases h : t.s.size ≤ d
      · rw [if_pos h] at ih ⊢
        rw [Nat.mul_add]
        have h2 : (if t.s.size + u.s.size = d then t.c.natAbs * u.c.natAbs else 0) ≤ t.c.natAbs * (if u.s.size = d - t.s.size then u.c.natAbs else 0) := by
          by_cases h3 : t.s.size + u.s.size = d
          · rw [if_pos h3, if_pos (by omega)]; exact Nat.le_refl _
          · rw [if_neg h3]; exact Nat.zero_le _
        omega
      · rw [if_neg h] at ih ⊢
        have h3 : ¬ t.s.size + u.s.size = d := by omega
        rw [if_neg h3] at h1
        omega
  have h := key y
  by_cases hd : t.s.size ≤ d
  · rw [if_pos hd] at h ⊢
    have := Nat.mul_le_mul_left t.c.natAbs (hy (d - t.s.size))
    omega
  · rw [if_neg hd] at h ⊢; exact h
theorem nrm_pairs (d : Nat) {y : List Tm} (hy : ∀ e, nrm e y ≤ 1) : ∀ x, nrm d (pairsS x y) ≤ cum d x
  | [] => by simp [pairsS, nrm]
  | t :: r => by
    have h1 := nrm_pairs d hy r
    have h2 := nrm_row d t hy
    have e : pairsS (t :: r) y = rowS t y ++ pairsS r y := by unfold pairsS rowS; rw [List.flatMap_cons]
    rw [e, nrm_append, cum]
    omega

/-- How many ways there are to choose: of degree 0 to 4. -/
def stepW (p : Nat × Nat × Nat × Nat × Nat) : Nat × Nat × Nat × Nat × Nat := (p.1, p.1 + p.2.1, p.1 + p.2.1 + p.2.2.1, p.1 + p.2.1 + p.2.2.1 + p.2.2.2.1, p.1 + p.2.1 + p.2.2.1 + p.2.2.2.1 + p.2.2.2.2)
def waysT : Nat → Nat × Nat × Nat × Nat × Nat
  | 0 => (1, 1, 1, 1, 1)
  | k + 1 => stepW (waysT k)
theorem ways_le {k n : Nat} (h : k ≤ n) : (waysT k).2.2.2.2 ≤ (waysT n).2.2.2.2 := by
  induction h with
  | refl => exact Nat.le_refl _
  | step _ ih => exact Nat.le_trans ih (by rw [waysT, stepW]; simp only []; omega)
theorem ways_max : (waysT 60).2.2.2.2 = 635376 := by decide +kernel
def WaysIn (k : Nat) (x : List Tm) : Prop := cum 0 x ≤ (waysT k).1 ∧ cum 1 x ≤ (waysT k).2.1 ∧ cum 2 x ≤ (waysT k).2.2.1 ∧ cum 3 x ≤ (waysT k).2.2.2.1 ∧ cum 4 x ≤ (waysT k).2.2.2.2
theorem ways_step {k : Nat} {x y : List Tm} (hy : ∀ e, nrm e y ≤ 1) (h : WaysIn k x) : WaysIn (k + 1) (canonT (pairsS x y)) := by
  obtain ⟨h0, h1, h2, h3, h4⟩ := h
  have hn : ∀ d, nrm d (canonT (pairsS x y)) ≤ cum d x := fun d => Nat.le_trans (nrm_canon d _) (nrm_pairs d hy x)
  have n0 := hn 0
  have n1 := hn 1
  have n2 := hn 2
  have n3 := hn 3
  have n4 := hn 4
  have e0 := cum_zero (canonT (pairsS x y))
  have e1 := cum_succ 0 (canonT (pairsS x y))
  have e2 := cum_succ 1 (canonT (pairsS x y))
  have e3 := cum_succ 2 (canonT (pairsS x y))
  have e4 := cum_succ 3 (canonT (pairsS x y))
  simp only [Nat.zero_add, Nat.reduceAdd] at e1 e2 e3 e4
  unfold WaysIn
  rw [waysT, stepW]
  simp only []
  omega
theorem ways_coef {k : Nat} {x : List Tm} (h : WaysIn k x) (hk : k ≤ 60) {t : Tm} (ht : t ∈ x) (hs : t.s.size ≤ 4) : -1000000 ≤ t.c ∧ t.c ≤ 1000000 := by
  have h1 := cum_le 4 ht hs
  have h2 := h.2.2.2.2
  have h3 := ways_le hk
  rw [ways_max] at h3
  omega

/-! ### How many terms -/
theorem nodup_len {α : Type} [BEq α] [LawfulBEq α] : ∀ (l m : List α), l.Nodup → (∀ x ∈ l, x ∈ m) → l.length ≤ m.length
  | [], _, _, _ => Nat.zero_le _
  | x :: r, m, h, hs => by
    obtain ⟨h1, h2⟩ := List.nodup_cons.1 h
    have hx := hs x (by simp)
    have := nodup_len r (m.erase x) h2 fun y hy => (List.mem_erase_of_ne (fun e => h1 (by rw [← e]; exact hy))).2 (hs y (by simp [hy]))
    rw [List.length_erase_of_mem hx] at this
    have : 0 < m.length := List.length_pos_of_mem hx
    rw [List.length_cons]; omega
def monosN : Nat → List (List UInt8)
  | 0 => [[]]
  | n + 1 => (monosN n).flatMap fun l => [97 :: l, 98 :: l, 99 :: l, 100 :: l]
theorem mem_monos : ∀ (l : List UInt8), l.all genB = true → l ∈ monosN l.length
  | [], _ => by simp [monosN]
  | c :: r, h => by
    rw [List.all_cons, Bool.and_eq_true] at h
    obtain ⟨hc, hr⟩ := h
    have ih := mem_monos r hr
    have h4 : c = 97 ∨ c = 98 ∨ c = 99 ∨ c = 100 := by
      unfold genB at hc
      simp only [Bool.and_eq_true, decide_eq_true_eq] at hc
      have : c.toNat = 97 ∨ c.toNat = 98 ∨ c.toNat = 99 ∨ c.toNat = 100 := by omega
      rcases this with h | h | h | h
      · exact .inl (UInt8.toNat_inj.1 h)
      · exact .inr (.inl (UInt8.toNat_inj.1 h))
      · exact .inr (.inr (.inl (UInt8.toNat_inj.1 h)))
      · exact .inr (.inr (.inr (UInt8.toNat_inj.1 h)))
    rw [List.length_cons, monosN]
    refine List.mem_flatMap.2 ⟨r, ih, ?_⟩
    rcases h4 with rfl | rfl | rfl | rfl <;> simp
def monosAll : List (List UInt8) := (List.range 5).flatMap monosN
theorem monosAll_len : monosAll.length = 341 := by decide +kernel
theorem mono_mem {s : ByteArray} (h : monoB s = true) : s.data.toList ∈ monosAll := by
  unfold monoB at h
  simp only [Bool.and_eq_true, decide_eq_true_eq] at h
  have hl : s.data.toList.length ≤ 4 := by simpa using h.2
  exact List.mem_flatMap.2 ⟨_, List.mem_range.2 (by omega), mem_monos _ h.1⟩
theorem canon_len341 {ts : List Tm} (hc : Canon ts) (h : ∀ t ∈ ts, monoB t.s = true) : ts.length ≤ 341 := by
  have := nodup_len (ts.map fun t => t.s.data.toList) monosAll (by
    rw [List.nodup_iff_pairwise_ne, List.pairwise_map]
    exact hc.1.imp fun hl e => lessW_ne hl (bytes_ext e)) (fun l hl => by
    obtain ⟨t, ht, rfl⟩ := List.mem_map.1 hl
    exact mono_mem (h t ht))
  rwa [List.length_map, monosAll_len] at this
theorem mono_append {a b : ByteArray} (ha : monoB a = true) (hb : monoB b = true) (h : (a ++ b).size ≤ 4) : monoB (a ++ b) = true := by
  unfold monoB at *
  simp only [Bool.and_eq_true, decide_eq_true_eq] at *
  refine ⟨?_, h⟩
  rw [append_toList, List.all_append, ha.1, hb.1]; rfl
theorem pairsS_mono {x y : List Tm} (hx : ∀ t ∈ x, monoB t.s = true) (hy : ∀ t ∈ y, monoB t.s = true) : ∀ t ∈ pairsS x y, monoB t.s = true := fun t ht => by
  obtain ⟨u, hu, ht⟩ := List.mem_flatMap.1 ht
  obtain ⟨h1, h2⟩ := List.mem_filter.1 ht
  obtain ⟨v, hv, rfl⟩ := List.mem_map.1 h1
  exact mono_append (hx u hu) (hy v hv) (of_decide_eq_true h2)

end Go.Proofs.Ytebgcebjlbhjjab

/- The contracts of the model's powers of words. -/

namespace Go.Proofs.Ytebgcebjlbhjjab
open Go.RowKit

theorem l6In_same (k lo hi : Int) (b : Bool) (w : World) (h : (decide (lo ≤ k) && decide (k ≤ hi)) = b) :
    Calls Try.prog 91 #[.int .i64 k, .int .i64 lo, .int .i64 hi] w fun e w' => e = .returned (.bool b) ∧ w = w' := by
  by_cases h1 : lo ≤ k
  · by_cases h2 : k ≤ hi
    · have H : Hid (b = true) := Lib.hid (by rw [← h, decide_eq_true h1, decide_eq_true h2]; rfl)
      clear h
      go_enter Try.func91, Try.ntmps91
      go_wp2
      go_ret
      exact ⟨ret_bool H.out.symm, rfl⟩
    · have H : Hid (b = false) := Lib.hid (by rw [← h, decide_eq_false h2, Bool.and_false])
      clear h
      have h3 : hi < k := by omega
      go_enter Try.func91, Try.ntmps91
      go_wp2
      go_ret
      exact ⟨ret_bool H.out.symm, rfl⟩
  · have H : Hid (b = false) := Lib.hid (by rw [← h, decide_eq_false h1]; rfl)
    clear h
    have h3 : k < lo := by omega
    go_enter Try.func91, Try.ntmps91
    go_wp2
    go_ret
    exact ⟨ret_bool H.out.symm, rfl⟩

set_option maxRecDepth 100000 in
set_option maxHeartbeats 1000000 in
theorem many_any (s : ByteArray) (N : Nat) (w : World) (hN : N ≤ 60) (hs : s.size ≤ 60) :
    Calls Try.prog 135 #[.string s, .int .i64 N] w fun e w' => ∃ t, e = .returned (.string t) ∧ t.size ≤ 3600 ∧ Hid (t.data.toList = repL N s.data.toList) ∧ w = w' := by
  go_enter Try.func135, Try.ntmps135
  go_wp2
  go_loop [0, 1, 5] (fun x i o => ∃ (sx so : ByteArray) (n a b : Nat), x = .string sx ∧ i = .int .i64 n ∧ o = .string so ∧ n ≤ 60 ∧ sx.size ≤ 7200 ∧ so.size ≤ 3600 ∧
      Hid (sx.data.toList = repL b s.data.toList ∧ so.data.toList = repL a s.data.toList ∧ a + n * b = N ∧ b ≤ 120 ∧ a ≤ 60)) (fun _ i _ => (intOf i).toNat)
  case atStart => exact ⟨s, ByteArray.empty, N, 0, 1, rfl, rfl, rfl, hN, by omega, by simp, Lib.hid ⟨(repL_one _).symm, rfl, by omega, by omega, by omega⟩⟩
  case round =>
    obtain ⟨sx, so, n, a, b, rfl, rfl, rfl, hn, hsx, hso, HC⟩ := hrel
    have hstep : ∀ (s1 s2 : ByteArray) (p q : Nat), s1.data.toList = repL p s.data.toList → s2.data.toList = repL q s.data.toList → (s1 ++ s2).data.toList = repL (p + q) s.data.toList := fun s1 s2 p q h1 h2 => by
      rw [append_toList, h1, h2, repL_add]
    have hsz : ∀ (s1 : ByteArray) (p : Nat), s1.data.toList = repL p s.data.toList → s1.size ≤ p * 60 := fun s1 p h1 => by
      have : s1.data.toList.length = p * s.data.toList.length := by rw [h1, repL_len]
      have h2 : s1.size = p * s.size := by simpa using this
      rw [h2]; exact Nat.mul_le_mul_left _ hs
    by_cases h0 : 0 < n
    · obtain ⟨e1, e2, e3, e4, e5⟩ := HC.out
      have hbN : b ≤ 60 := by
        have : 1 * b ≤ n * b := Nat.mul_le_mul_right _ h0
        omega
      have HS1 : Hid ((sx ++ sx).data.toList = repL (b + b) s.data.toList) := hstep _ _ _ _ e1 e1
      have hz1 : (sx ++ sx).size ≤ 7200 := by have := hsz _ _ HS1.out; omega
      have hdiv : n / 2 + n / 2 + n % 2 = n := by omega
      have hmul : n * b = (n / 2) * (b + b) + (n % 2) * b := by
        conv => lhs; rw [← hdiv]
        rw [Nat.add_mul, Nat.add_mul, Nat.mul_add]
      by_cases hodd : n % 2 = 1
      · have HS2 : Hid ((so ++ sx).data.toList = repL (a + b) s.data.toList) := hstep _ _ _ _ e2 e1
        rw [hodd] at hmul
        have hab : a + b ≤ 60 := by omega
        have hz2 : (so ++ sx).size ≤ 3600 := by have := hsz _ _ HS2.out; omega
        have HX : Hid (a + b + n / 2 * (b + b) = N ∧ b + b ≤ 120 ∧ a + b ≤ 60) := Lib.hid ⟨by omega, by omega, hab⟩
        clear e1 e2 e3 e4 e5 hstep hsz hdiv hmul
        go_wp2
        go_round
        case rel => exact ⟨_, _, n / 2, a + b, b + b, rfl, by go_num, rfl, by omega, hz1, hz2, Lib.hid ⟨HS1.out, HS2.out, HX.out⟩⟩
        case measure => simp [intOf]; omega
      · have hev : n % 2 = 0 := by omega
        rw [hev] at hmul
        have HX : Hid (a + n / 2 * (b + b) = N ∧ b + b ≤ 120 ∧ a ≤ 60) := Lib.hid ⟨by omega, by omega, e5⟩
        have HE2 := Lib.hid e2
        clear e1 e2 e3 e4 e5 hstep hsz hdiv hmul
        go_wp2
        go_round
        case rel => exact ⟨_, _, n / 2, a, b + b, rfl, by go_num, rfl, by omega, hz1, hso, Lib.hid ⟨HS1.out, HE2.out, HX.out⟩⟩
        case measure => simp [intOf]; omega
    · have hn0 : n ≤ 0 := by omega
      clear hstep hsz
      go_wp2
      go_ret
      refine ⟨so, rfl, hso, Lib.hid ?_, rfl⟩
      obtain ⟨e1, e2, e3, e4, e5⟩ := HC.out
      have : a = N := by
        have : n = 0 := by omega
        subst this; omega
      rw [e2, this]

theorem many_int (s : ByteArray) (k : Int) (N : Nat) (w : World) (hk : k = (N : Int)) (hN : N ≤ 60) (hs : s.size ≤ 60) :
    Calls Try.prog 135 #[.string s, .int .i64 k] w fun e w' => ∃ t, e = .returned (.string t) ∧ t.size ≤ 3600 ∧ Hid (t.data.toList = repL N s.data.toList) ∧ w = w' := by
  subst hk; exact many_any s N w hN hs

end Go.Proofs.Ytebgcebjlbhjjab

/- The contracts of slices.Grow and slices.Concat at terms. -/

namespace Go.Proofs.Ytebgcebjlbhjjab
open Go.RowKit Go.Shelf

set_option maxRecDepth 100000 in
set_option maxHeartbeats 2000000 in
theorem growNil_any (n : Nat) (w : World) (hn : n ≤ 200000) :
    Calls Try.prog 126 #[.slice none 0 0, .int .i64 n] w fun e w' => (∃ v, e = .returned v ∧ w'.ownsRow w.heap.size TI 2 v 0 []) ∧ Below w.heap.size w w' := by
  by_cases h0 : n = 0
  · subst h0
    go_enter Try.func126, Try.ntmps126
    go_wp2
    go_ret
    exact ⟨⟨_, rfl, World.ownsRow_nil _ _ _ _⟩, Below.refl _ _⟩
  · obtain ⟨i0, hi, hz0, hz1, hz2⟩ := info_parts infoTerm
    have hp : 0 < n := by omega
    have hold : (Builtin.firstCells i0.size 0 (.slice none 0 0)).run Try.prog w.drew = .ok (#[] : Array Value) w.drew := run_firstCells_none w.drew i0.size 0 0 0
    have hrz : ∀ ty, (Builtin.append_ #[25, 3] ty #[.slice none 0 0, .int .i64 (n : Int)]).run Try.prog w =
        .ok (.slice (some ⟨w.heap.size, 0, none⟩) (0 + n) (grownCap w (0 + n) 0 TI)) (w.drew.alloc (.cells ((#[] : Array Value) ++ Builtin.zeroCells (Value.agg #[.int .i64 0, .string ByteArray.empty]).cells n ++ Builtin.zeroCells (Value.agg #[.int .i64 0, .string ByteArray.empty]).cells (grownCap w (0 + n) 0 TI - (0 + n))) TI)) := fun ty =>
      Lib.run_append_grow_zeros (olds := []) w 25 3 ty TI i0 _ .i64 .i64 Try.underlying25 Try.underlying3 hi hz0 none 0 0 hold n hp (by omega) (by omega) (by omega) (by rw [hz2]; omega) (growslice_fits (by omega) (by rw [hz2]; omega))
    have hG := grownCap_ge w (0 + n) 0 TI
    have hGm := grownCap_le_maxLen w (0 + n) 0 TI (by unfold maxLen; omega)
    obtain ⟨cur, hcur⟩ : ∃ cur, ((#[] : Array Value) ++ Builtin.zeroCells (Value.agg #[.int .i64 0, .string ByteArray.empty]).cells n ++ Builtin.zeroCells (Value.agg #[.int .i64 0, .string ByteArray.empty]).cells (grownCap w (0 + n) 0 TI - (0 + n))) = cur := ⟨_, rfl⟩
    obtain ⟨G, hGG⟩ : ∃ G, grownCap w (0 + n) 0 TI = G := ⟨_, rfl⟩
    have hcs : cur.size = G * 2 := by
      rw [← hcur, hGG]
      rw [hGG] at hG
      simp [Builtin.zeroCells, Value.cells]
      omega
    rw [hcur, hGG, Nat.zero_add] at hrz
    rw [hGG] at hG hGm
    have HCS := Lib.hid hcs
    have hmade := Lib.hid (World.ownsRow_made (base := w.heap.size) (e := TI) (size := 2) w.drew cur G (Nat.le_refl _) hGm hcs)
    unfold maxLen at hGm
    rw [Nat.zero_add] at hG
    clear hold hcur hGG hcs
    go_enter Try.func126, Try.ntmps126
    go_wp2_with (at_builtin; refine Lib.wpList_append_run _ rfl _ _ _ _ rfl _ _ rfl rfl _ _ (hrz _) ?_)
    go_ret
    exact ⟨⟨_, rfl, hmade.out⟩, ((Below.refl _ _).drew).alloc (Nat.le_refl _) _⟩

theorem ownsRow_low {W : World} {base : Nat} {e : TypeId} {size : Nat} {v : Value} {n : Nat} {xs : List Value} (h : W.ownsRow base e size v n xs) : ∀ j, v.ownBlock = some j → base ≤ j := fun j ej => (h.lt j ej).1

/-- A slice of terms that may be nil. -/
def PartT (w : World) (v : Value) (ts : List Tm) : Prop := (v = .slice none 0 0 ∧ ts = []) ∨ ∃ x cap, v = .slice (some x) ts.length cap ∧ ∀ j u, (termsV ts)[j]? = some u → w.cell? (x.add j) = some u ∧ x.block < w.heap.size
theorem PartT.below {w w' : World} {v : Value} {ts : List Tm} (h : PartT w v ts) (hb : Below w.heap.size w w') : PartT w' v ts := by
  rcases h with h | ⟨x, cap, e, h⟩
  · exact .inl h
  · exact .inr ⟨x, cap, e, fun j u hu => by
      obtain ⟨h1, h2⟩ := h j u hu
      exact ⟨(hb.cell (p := x.add j) (by rw [addr_add_block]; exact h2)).trans h1, Nat.lt_of_lt_of_le h2 hb.size⟩⟩
theorem partT_of {w : World} {ad : Addr} {n cap : Nat} {ts : List Tm} (h : IsTerms w (some ad) n ts) : PartT w (.slice (some ad) n cap) ts := by
  refine .inr ⟨ad, cap, by rw [h.len], fun j u hu => ?_⟩
  rcases Nat.eq_zero_or_pos n with h0 | h0
  · have : ts = [] := List.length_eq_zero_iff.1 (h.len.trans h0)
    subst this
    simp [termsV] at hu
  · obtain ⟨z, e, h2⟩ := h.at_ h0
    cases e
    exact ⟨h2.cells j u hu, h2.1⟩
theorem partT_own {base : Nat} {w : World} {v : Value} {ts : List Tm} (h : OwnT base w v ts) : PartT w v ts := by
  rcases h.2 with ⟨rfl, h0⟩ | ⟨g, cap, cur, rfl, _, hg, _⟩
  · exact .inl ⟨rfl, List.length_eq_zero_iff.1 h0⟩
  · exact .inr ⟨_, cap, rfl, fun j u hu => ⟨(termsAt_of_owns rfl h).cells j u hu, (ownsRow_cap h).2.2.2⟩⟩
theorem PartT.len {w : World} {v : Value} {ts : List Tm} (h : PartT w v ts) : ∃ a cap, v = .slice a ts.length cap := by
  rcases h with ⟨rfl, rfl⟩ | ⟨x, cap, e, _⟩
  · exact ⟨_, _, rfl⟩
  · exact ⟨_, _, e⟩

def lens (ps : List (Value × List Tm)) : Nat := (ps.map fun p => p.2.length).sum
def flatT (ps : List (Value × List Tm)) : List Tm := (ps.map Prod.snd).flatten
theorem lens_succ (ps : List (Value × List Tm)) (k : Nat) (h : k < ps.length) : lens (ps.take (k + 1)) = lens (ps.take k) + ps[k].2.length := by
  unfold lens
  rw [List.take_succ_eq_append_getElem h, List.map_append, List.sum_append]; simp
theorem flatT_succ (ps : List (Value × List Tm)) (k : Nat) (h : k < ps.length) : flatT (ps.take (k + 1)) = flatT (ps.take k) ++ ps[k].2 := by
  unfold flatT
  rw [List.take_succ_eq_append_getElem h, List.map_append, List.flatten_append]; simp
theorem flatT_len (ps : List (Value × List Tm)) : (flatT ps).length = lens ps := by
  unfold flatT lens
  rw [List.length_flatten, List.map_map]; rfl
theorem lens_take (ps : List (Value × List Tm)) (k : Nat) : lens (ps.take k) ≤ lens ps := by
  have h : lens ps = lens (ps.take k) + lens (ps.drop k) := by
    conv => lhs; rw [← List.take_append_drop k ps]
    unfold lens
    rw [List.map_append, List.sum_append]
  omega

set_option maxRecDepth 100000 in
set_option maxHeartbeats 4000000 in
theorem concat_any (g cap n : Nat) (ps : List (Value × List Tm)) (w : World) (hl : ps.length = n) (hn : n ≤ 100000) (hg : g < w.heap.size) (hc : ∀ i (h : i < ps.length), w.cell? ⟨g, i, none⟩ = some ps[i].1) (hp : ∀ p ∈ ps, PartT w p.1 p.2) (hs : lens ps ≤ 200000) :
    Calls Try.prog 80 #[.slice (some ⟨g, 0, none⟩) n cap] w fun e w' => (∃ v, e = .returned v ∧ OwnT w.heap.size w' v (flatT ps)) ∧ Below w.heap.size w w' := by
  obtain ⟨i0, hi, hz0, hz1, hz2⟩ := info_parts infoTerm
  have HL := Lib.hid hl
  have HC := Lib.hid hc
  have HP := Lib.hid hp
  have HT := Lib.hid (lens_take ps)
  clear hl hc hp
  go_enter Try.func80, Try.ntmps80
  go_wp2
  go_loop [3, 11] (fun s i => ∃ k : Nat, k ≤ n ∧ i = .int .i64 k ∧ s = .int .i64 (lens (ps.take k) : Nat)) (fun _ i => n - (intOf i).toNat)
  case atStart => exact ⟨0, Nat.zero_le _, rfl, rfl⟩
  case round =>
    obtain ⟨k, hk, rfl, rfl⟩ := hrel
    by_cases hlt : k < n
    · have hkp : k < ps.length := by rw [HL.out]; exact hlt
      have hck := HC.out k hkp
      obtain ⟨a, c, ev⟩ := (HP.out _ (List.getElem_mem hkp)).len
      rw [ev] at hck
      have hsu := lens_succ ps k hkp
      have hle := HT.out (k + 1)
      obtain ⟨L, hL⟩ : ∃ L, lens (ps.take k) = L := ⟨_, rfl⟩
      obtain ⟨M, hM⟩ : ∃ M, ps[k].2.length = M := ⟨_, rfl⟩
      rw [hL, hM] at hsu
      rw [hM] at hck
      rw [hL]
      have HSU := Lib.hid hsu
      have hLM : L + M ≤ 200000 := by omega
      clear hsu hle ev hL hM
      go_wp2
      go_round
      case rel => exact ⟨k + 1, by omega, by go_num, by rw [HSU.out]; go_num⟩
      case measure => simp [intOf]; omega
    · obtain rfl : n = k := by omega
      have hle := HT.out n
      obtain ⟨L, hL⟩ : ∃ L, lens (ps.take n) = L := ⟨_, rfl⟩
      rw [hL] at hle ⊢
      have hL2 : L ≤ 200000 := by omega
      clear hle hL
      go_wp2_with fail
      refine (growNil_any L _ hL2).mono ?_
      rintro e w2 ⟨⟨v, rfl, ho⟩, hb2⟩
      have HO : Hid (OwnT w.heap.size w2 v (flatT (ps.take 0))) := Lib.hid ho
      have HB2 := Lib.hid hb2
      clear ho hb2
      go_wp2_with fail
      go_loopw [6, 27] (fun v i wr => ∃ k : Nat, k ≤ n ∧ i = .int .i64 k ∧ Hid (OwnT w.heap.size wr v (flatT (ps.take k))) ∧ Below w.heap.size w wr) (fun _ i _ => n - (intOf i).toNat)
      case atStart => exact ⟨0, Nat.zero_le _, rfl, HO, HB2.out⟩
      case round =>
        obtain ⟨k, hk2, rfl, HA, hB⟩ := hrel
        by_cases hlt2 : k < n
        · have hkp : k < ps.length := by rw [HL.out]; exact hlt2
          have hck := (hB.cell (p := ⟨g, k, none⟩) hg).trans (HC.out k hkp)
          have hPk := (HP.out _ (List.getElem_mem hkp)).below hB
          have HFS := Lib.hid (flatT_succ ps k hkp)
          have hle := HT.out (k + 1)
          have hsu := lens_succ ps k hkp
          have hown := HA.out
          unfold OwnT at hown
          obtain ⟨N, hN⟩ : ∃ N, (flatT (ps.take k)).length = N := ⟨_, rfl⟩
          rw [hN] at hown
          rw [flatT_len] at hN
          rw [hN] at hsu
          have HOWN := Lib.hid hown
          have HN := Lib.hid hN
          rcases hPk with ⟨ev, ez⟩ | ⟨x, cp, ev, hx⟩
          · rw [ev] at hck
            have HEZ := Lib.hid ez
            clear ez ev hle hsu hown hN
            go_wp2_with (at_builtin; refine wpList_append_own_none rfl _ _ 25 rfl w.heap.size TI i0 2 Try.underlying25 hi _ _ _ rfl HOWN.out rfl ?_)
            go_roundw
            case rel =>
              refine ⟨k + 1, by omega, by go_num, Lib.hid ?_, hB⟩
              rw [HFS.out, HEZ.out, List.append_nil]
              exact HA.out
            case measure => simp [intOf]; omega
          · obtain ⟨us, hus⟩ : ∃ us, ps[k].2 = us := ⟨_, rfl⟩
            rw [hus] at hx ev hsu
            obtain ⟨M, hM⟩ : ∃ M, us.length = M := ⟨_, rfl⟩
            rw [hM] at hsu ev
            rw [ev] at hck
            have hNM : N + M ≤ 200000 := by omega
            have HX := Lib.hid hx
            have HM := Lib.hid hM
            have HUS := Lib.hid hus
            have hbs := hB.size
            clear hx ev hsu hus hM hle hown hN
            go_wp2_with (at_builtin; refine wpList_append_own _ rfl _ _ 25 rfl w.heap.size TI i0 (.agg #[.int .i64 0, .string ByteArray.empty]) 2 24 Try.underlying25 hi hz0 hz1 hz2 rfl (by decide) _ _ _ rfl HOWN.out x M cp (termsV us) rfl (by rw [termsV_len, HM.out]) (fun j u hu => (HX.out j u hu).1) (oneCell_terms _) (by unfold maxLen; omega) (by omega) hbs ?_)
            intro v3 w3 hown3 hgrow3 _
            have hB3 : Below w.heap.size w w3 := hB.grown hgrow3 hbs (fun j e => (ownsRow_low HOWN.out) j e)
            have HO3 := Lib.hid hown3
            clear hown3 hgrow3
            go_wp2
            go_roundw
            case rel =>
              refine ⟨k + 1, by omega, by go_num, Lib.hid ?_, hB3⟩
              rw [HFS.out, HUS.out]
              unfold OwnT
              rw [List.length_append, flatT_len, HN.out, HM.out, termsV_append]
              exact HO3.out
            case measure => simp [intOf]; omega
        · obtain rfl : n = k := by omega
          have hall : flatT (ps.take n) = flatT ps := by rw [List.take_of_length_le (by rw [HL.out]; exact Nat.le_refl _)]
          rw [hall] at HA
          clear hall
          go_wp2
          go_ret
          exact ⟨⟨_, rfl, HA.out⟩, hB⟩

end Go.Proofs.Ytebgcebjlbhjjab

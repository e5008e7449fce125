/- Strands that are linked: the contracts of the program's 'strandsInOrder' and 'exchange'. -/
import Derived.Test.YtaaeiogdhmiaaaaCq
import Derived.Test.YtaaeiogdhmiaaaaCl
namespace Go.Proofs.Ytaaeiogdhmiaaaa
open Go.RowKit Go.Shelf

abbrev StrandT : TypeId := 137

/-- The pointer to a node, if there is one. -/
def ptrA (o : Option Nat) : Option Addr := o.map fun b => ⟨b, 0, none⟩
theorem ptrA_some (b : Nat) : ptrA (some b) = some ⟨b, 0, none⟩ := rfl
/-- The nodes lie in these blocks, in this order, with these numbers. -/
def LinkedN (base : Nat) (w : World) (l : List (Nat × Nat)) : Prop :=
  (∀ i j (hi : i < l.length) (hj : j < l.length), (l[i]'hi).1 = (l[j]'hj).1 → i = j) ∧ ∀ i (h : i < l.length), base ≤ (l[i]'h).1 ∧ w.heap[(l[i]'h).1]? = some (.cells #[.int .i64 ((l[i]'h).2 : Int), .pointer (ptrA ((l[i + 1]?).map Prod.fst))] StrandT (0, 0))

theorem LinkedN.kept {base : Nat} {w w' : World} {l : List (Nat × Nat)} (h : LinkedN base w l) (hk : ∀ i (hi : i < l.length), w'.heap[(l[i]'hi).1]? = w.heap[(l[i]'hi).1]?) : LinkedN base w' l :=
  ⟨h.1, fun i hi => ⟨(h.2 i hi).1, (hk i hi).trans (h.2 i hi).2⟩⟩
theorem LinkedN.lt {base : Nat} {w : World} {l : List (Nat × Nat)} (h : LinkedN base w l) {i : Nat} (hi : i < l.length) : (l[i]'hi).1 < w.heap.size := (Array.getElem?_eq_some_iff.1 (h.2 i hi).2).1
theorem LinkedN.below {base : Nat} {w w' : World} {l : List (Nat × Nat)} (h : LinkedN base w l) (hb : Below w.heap.size w w') : LinkedN base w' l := h.kept fun _ hi => hb.block _ (h.lt hi)
/-- One more node ahead. -/
theorem LinkedN.cons {base : Nat} {w : World} {l : List (Nat × Nat)} {x : Nat} (h : LinkedN base w l) (hb : base ≤ w.heap.size) :
    LinkedN base (w.alloc (.cells #[.int .i64 (x : Int), (.pointer (ptrA (l.head?.map Prod.fst)))] StrandT)) ((w.heap.size, x) :: l) := by
  have hnew := World.alloc_heap_new w (.cells #[.int .i64 (x : Int), (.pointer (ptrA (l.head?.map Prod.fst)))] StrandT)
  have hl := h.kept (w' := w.alloc (.cells #[.int .i64 (x : Int), (.pointer (ptrA (l.head?.map Prod.fst)))] StrandT)) fun i hi => Below.heap_alloc _ _ _ (h.lt hi)
  refine ⟨?_, ?_⟩
  · intro i j hi hj e
    match i, hi, j, hj with
    | 0, _, 0, _ => rfl
    | 0, _, j + 1, hj => exact absurd (h.lt (i := j) (by simpa using hj)) (by simp at e; omega)
    | i + 1, hi, 0, _ => exact absurd (h.lt (i := i) (by simpa using hi)) (by simp at e; omega)
    | i + 1, hi, j + 1, hj => exact congrArg (· + 1) (h.1 i j (by simpa using hi) (by simpa using hj) (by simpa using e))
  · intro i hi
    match i, hi with
    | 0, _ => exact ⟨hb, by simpa [List.head?_eq_getElem?] using hnew⟩
    | i + 1, hi => exact hl.2 i (by simpa using hi)

/-- The nodes at a place and behind it, exchanged. -/
def swapL (l : List (Nat × Nat)) (k : Nat) : List (Nat × Nat) := (l.set k (l.getD (k + 1) (0, 0))).set (k + 1) (l.getD k (0, 0))

theorem cell_upd {w : World} {b : Nat} {x y v : Value} {t : TypeId} (h : w.heap[b]? = some (.cells #[x, y] t (0, 0))) : (w.setCell ⟨b, 1, none⟩ v).heap[b]? = some (.cells #[x, v] t (0, 0)) := by
  simp [World.setCell, Array.getElem?_modify, h]

set_option maxRecDepth 100000 in
set_option maxHeartbeats 1000000 in
theorem strands_any (N : Nat) (w : World) (hN : N ≤ 100) :
    Calls Try.prog 116 #[.int .i64 (N : Int)] w fun e w' => ∃ hd l, e = .returned (.pointer (some ⟨hd, 0, none⟩)) ∧ LinkedN w.heap.size w' ((hd, 0) :: l) ∧ l.map Prod.snd = List.range N ∧ Below w.heap.size w w' := by
  go_enter Try.func116, Try.ntmps116
  go_wp2
  go_loopw [3, 4] (fun f i wr => ∃ (k : Nat) (l : List (Nat × Nat)) (a : Option Addr), k ≤ N ∧ i = .int .i64 ((k : Int) - 1) ∧ f = .pointer a ∧ Hid (a = ptrA (l.head?.map Prod.fst) ∧ LinkedN w.heap.size wr l ∧ l.map Prod.snd = (List.range N).drop k) ∧ Below w.heap.size w wr)
    (fun _ i _ => (intOf i + 1).toNat)
  case atStart => exact ⟨N, [], none, Nat.le_refl _, rfl, rfl, Lib.hid ⟨rfl, ⟨fun i j hi => absurd hi (Nat.not_lt_zero _), fun i h => absurd h (Nat.not_lt_zero _)⟩, by rw [List.drop_of_length_le (by simp)]; rfl⟩, Below.refl _ _⟩
  case round =>
    obtain ⟨k, l, a, hk, rfl, rfl, HL, hB⟩ := hrel
    by_cases hlt : 0 < k
    · obtain ⟨j, rfl⟩ : ∃ j, k = j + 1 := ⟨k - 1, by omega⟩
      have HB := Lib.hid (hB.alloc hB.size (.cells #[.int .i64 (j : Int), .pointer a] StrandT))
      have HL2 : Hid (LinkedN w.heap.size (wr.alloc (.cells #[.int .i64 (j : Int), .pointer a] StrandT)) ((wr.heap.size, j) :: l) ∧ ((wr.heap.size, j) :: l).map Prod.snd = (List.range N).drop j) := by
        obtain ⟨h1, h2, h3⟩ := HL.out
        refine Lib.hid ⟨?_, ?_⟩
        · rw [h1]; exact h2.cons hB.size
        · have e : (List.range N).drop j = j :: (List.range N).drop (j + 1) := by
            rw [List.drop_eq_getElem_cons (show j < (List.range N).length by simp; omega)]; simp
          rw [List.map_cons, h3, e]
      clear hB
      go_wp2
      go_roundw
      case rel => exact ⟨j, (wr.heap.size, j) :: l, some ⟨wr.heap.size, 0, none⟩, by omega, by go_num, rfl, Lib.hid ⟨rfl, HL2.out⟩, HB.out⟩
      case measure => simp [intOf]
    · have hk0 : k ≤ 0 := by omega
      have HB := Lib.hid (hB.alloc hB.size (.cells #[.int .i64 0, .pointer a] StrandT))
      have HL2 : Hid (LinkedN w.heap.size (wr.alloc (.cells #[.int .i64 0, .pointer a] StrandT)) ((wr.heap.size, 0) :: l) ∧ l.map Prod.snd = List.range N) := by
        obtain ⟨h1, h2, h3⟩ := HL.out
        refine Lib.hid ⟨?_, ?_⟩
        · rw [h1]; exact h2.cons hB.size
        · rw [h3, show k = 0 by omega, List.drop_zero]
      clear hB
      go_wp2
      go_ret
      exact ⟨_, l, rfl, HL2.out.1, HL2.out.2, HB.out⟩

theorem swapL_len (l : List (Nat × Nat)) (k : Nat) : (swapL l k).length = l.length := by simp [swapL]
theorem swapL_get (l : List (Nat × Nat)) (k i : Nat) (hk : k + 1 < l.length) : (swapL l k)[i]? = if i = k then l[k + 1]? else if i = k + 1 then l[k]? else l[i]? := by
  unfold swapL
  have h1 : l.getD (k + 1) (0, 0) = l[k + 1] := by simp [List.getElem?_eq_getElem hk]
  have h0 : l.getD k (0, 0) = l[k]'(by omega) := by simp [List.getElem?_eq_getElem (show k < l.length by omega)]
  rw [h1, h0, List.getElem?_set, List.getElem?_set, List.length_set]
  by_cases e1 : i = k
  · subst e1
    rw [if_neg (by omega), if_pos rfl, if_pos (by omega), if_pos rfl, List.getElem?_eq_getElem hk]
  · rw [if_neg e1]
    by_cases e2 : i = k + 1
    · subst e2
      rw [if_pos rfl, if_pos hk, if_pos rfl, List.getElem?_eq_getElem (by omega)]
    · rw [if_neg (fun e => e2 e.symm), if_neg (fun e => e1 e.symm), if_neg e2]
theorem swapL_snd (l : List (Nat × Nat)) (k : Nat) (hk : k + 1 < l.length) : (swapL l k).map Prod.snd = swapN (l.map Prod.snd) k := by
  unfold swapL swapN
  rw [List.map_set, List.map_set]
  simp [List.getElem?_eq_getElem hk, List.getElem?_eq_getElem (show k < l.length by omega)]

/-- Three nodes linked anew. -/
theorem LinkedN.swapped {base : Nat} {w : World} {l : List (Nat × Nat)} {p : Nat} (h : LinkedN base w l) (hp : p + 2 < l.length) :
    LinkedN base (((w.setCell ⟨(l[p]'(by omega)).1, 1, none⟩ (.pointer (some ⟨(l[p + 2]'hp).1, 0, none⟩))).setCell ⟨(l[p + 1]'(by omega)).1, 1, none⟩ (.pointer (ptrA ((l[p + 3]?).map Prod.fst)))).setCell ⟨(l[p + 2]'hp).1, 1, none⟩ (.pointer (some ⟨(l[p + 1]'(by omega)).1, 0, none⟩))) (swapL l (p + 1)) := by
  have hne : ∀ i j (hi : i < l.length) (hj : j < l.length), i ≠ j → (l[i]'hi).1 ≠ (l[j]'hj).1 := fun i j hi hj hij e => hij (h.1 i j hi hj e)
  have hs := (h.2 p (by omega)).2
  have hl := (h.2 (p + 1) (by omega)).2
  have hr := (h.2 (p + 2) hp).2
  obtain ⟨bs, hbs⟩ : ∃ b, (l[p]'(by omega)).1 = b := ⟨_, rfl⟩
  obtain ⟨bl, hbl⟩ : ∃ b, (l[p + 1]'(by omega)).1 = b := ⟨_, rfl⟩
  obtain ⟨br, hbr⟩ : ∃ b, (l[p + 2]'hp).1 = b := ⟨_, rfl⟩
  have n1 : bs ≠ bl := by rw [← hbs, ← hbl]; exact hne _ _ _ _ (by omega)
  have n2 : bs ≠ br := by rw [← hbs, ← hbr]; exact hne _ _ _ _ (by omega)
  have n3 : bl ≠ br := by rw [← hbl, ← hbr]; exact hne _ _ _ _ (by omega)
  rw [hbs] at hs ⊢
  rw [hbl] at hl ⊢
  rw [hbr] at hr ⊢
  obtain ⟨W', hW'⟩ : ∃ W', ((w.setCell ⟨bs, 1, none⟩ (.pointer (some ⟨br, 0, none⟩))).setCell ⟨bl, 1, none⟩ (.pointer (ptrA ((l[p + 3]?).map Prod.fst)))).setCell ⟨br, 1, none⟩ (.pointer (some ⟨bl, 0, none⟩)) = W' := ⟨_, rfl⟩
  have k1 : W'.heap[bs]? = some (.cells #[.int .i64 ((l[p]'(by omega)).2 : Int), .pointer (some ⟨br, 0, none⟩)] StrandT (0, 0)) := by
    rw [← hW', Below.heap_setCell _ _ _ _ n2, Below.heap_setCell _ _ _ _ n1]; exact cell_upd hs
  have k2 : W'.heap[bl]? = some (.cells #[.int .i64 ((l[p + 1]'(by omega)).2 : Int), .pointer (ptrA ((l[p + 3]?).map Prod.fst))] StrandT (0, 0)) := by
    rw [← hW', Below.heap_setCell _ _ _ _ n3]; exact cell_upd ((Below.heap_setCell _ _ _ _ n1.symm).trans hl)
  have k3 : W'.heap[br]? = some (.cells #[.int .i64 ((l[p + 2]'hp).2 : Int), .pointer (some ⟨bl, 0, none⟩)] StrandT (0, 0)) := by
    rw [← hW']; exact cell_upd ((Below.heap_setCell _ _ _ _ n3.symm).trans ((Below.heap_setCell _ _ _ _ n2.symm).trans hr))
  have k4 : ∀ k, k ≠ bs → k ≠ bl → k ≠ br → W'.heap[k]? = w.heap[k]? := fun k a b c => by
    rw [← hW', Below.heap_setCell _ _ _ _ c, Below.heap_setCell _ _ _ _ b, Below.heap_setCell _ _ _ _ a]
  rw [hW']
  have hget : ∀ i (hi : i < (swapL l (p + 1)).length) (x : Nat × Nat), (swapL l (p + 1))[i]? = some x → (swapL l (p + 1))[i] = x := fun i hi x hx => by
    rw [List.getElem?_eq_getElem hi] at hx; exact Option.some.inj hx
  have hlen := swapL_len l (p + 1)
  have hS := fun i => swapL_get l (p + 1) i hp
  refine ⟨?_, fun i hi => ?_⟩
  · have hsg : ∀ i (hi : i < (swapL l (p + 1)).length), ∃ k, ∃ hk : k < l.length, (swapL l (p + 1))[i] = l[k]'hk ∧ k = if i = p + 1 then p + 2 else if i = p + 2 then p + 1 else i := by
      intro i hi
      have hil : i < l.length := by omega
      by_cases e1 : i = p + 1
      · exact ⟨p + 2, hp, hget i hi _ (by rw [hS, if_pos e1, List.getElem?_eq_getElem]), (if_pos e1).symm⟩
      · by_cases e2 : i = p + 2
        · exact ⟨p + 1, by omega, hget i hi _ (by rw [hS, if_neg e1, if_pos e2, List.getElem?_eq_getElem]), by rw [if_neg e1, if_pos e2]⟩
        · exact ⟨i, hil, hget i hi _ (by rw [hS, if_neg e1, if_neg e2, List.getElem?_eq_getElem]), by rw [if_neg e1, if_neg e2]⟩
    intro i j hi hj e
    obtain ⟨k, hk, ek, ck⟩ := hsg i hi
    obtain ⟨m, hm, em, cm⟩ := hsg j hj
    rw [ek, em] at e
    have := h.1 k m hk hm e
    split at ck <;> split at cm <;> (try split at ck) <;> (try split at cm) <;> omega
  · have hil : i < l.length := by omega
    by_cases e0 : i = p
    · subst e0
      have g0 := hget i (by omega) (l[i]'hil) (by rw [hS, if_neg (by omega), if_neg (by omega), List.getElem?_eq_getElem])
      have g1 : (swapL l (i + 1))[i + 1]? = some (l[i + 2]'hp) := by rw [hS, if_pos rfl, List.getElem?_eq_getElem]
      rw [g0, g1, hbs]
      exact ⟨by rw [← hbs]; exact (h.2 i hil).1, by rw [k1]; simp [hbr, ptrA]⟩
    · by_cases e1 : i = p + 1
      · subst e1
        have g0 := hget (p + 1) (by omega) (l[p + 2]'hp) (by rw [hS, if_pos rfl, List.getElem?_eq_getElem])
        have g1 : (swapL l (p + 1))[p + 2]? = some (l[p + 1]'hil) := by rw [hS, if_neg (by omega), if_pos rfl, List.getElem?_eq_getElem]
        rw [g0, g1, hbr]
        exact ⟨by rw [← hbr]; exact (h.2 (p + 2) hp).1, by rw [k3]; simp [hbl, ptrA]⟩
      · by_cases e2 : i = p + 2
        · subst e2
          have g0 := hget (p + 2) (by omega) (l[p + 1]'(by omega)) (by rw [hS, if_neg (by omega), if_pos rfl, List.getElem?_eq_getElem])
          have g1 : (swapL l (p + 1))[p + 3]? = l[p + 3]? := by rw [hS, if_neg (by omega), if_neg (by omega)]
          rw [g0, g1, hbl]
          exact ⟨by rw [← hbl]; exact (h.2 (p + 1) (by omega)).1, k2⟩
        · have g0 := hget i (by omega) (l[i]'hil) (by rw [hS, if_neg (by omega), if_neg (by omega), List.getElem?_eq_getElem])
          have g1 : (swapL l (p + 1))[i + 1]? = l[i + 1]? := by rw [hS, if_neg (by omega), if_neg (by omega)]
          rw [g0, g1]
          refine ⟨(h.2 i hil).1, ?_⟩
          rw [k4 _ (by rw [← hbs]; exact hne _ _ _ _ e0) (by rw [← hbl]; exact hne _ _ _ _ e1) (by rw [← hbr]; exact hne _ _ _ _ e2)]
          exact (h.2 i hil).2

theorem ptr_next {base : Nat} {w : World} {l : List (Nat × Nat)} (h : LinkedN base w l) {i : Nat} (hi : i < l.length) :
    w.cell? ⟨(l[i]'hi).1, 0, none⟩ = some (.int .i64 ((l[i]'hi).2 : Int)) ∧ w.cell? ⟨(l[i]'hi).1, 1, none⟩ = some (.pointer (ptrA ((l[i + 1]?).map Prod.fst))) ∧ w.frozen? ⟨(l[i]'hi).1, 1, none⟩ = false := by
  have e := (h.2 i hi).2
  refine ⟨?_, ?_, ?_⟩ <;> simp [World.cell?, World.frozen?, e]

set_option maxRecDepth 100000 in
set_option maxHeartbeats 2000000 in
theorem exchange_any (base hd p : Nat) (l : List (Nat × Nat)) (w : World) (h : LinkedN base w l) (hp : p + 2 < l.length) (hp4 : p ≤ 100) (hhd : (l[0]'(by omega)).1 = hd) :
    Calls Try.prog 117 #[.pointer (some ⟨hd, 0, none⟩), .int .i64 (p : Int)] w fun e w' => (∃ v, e = .returned v) ∧ LinkedN base w' (swapL l (p + 1)) ∧ (∀ k, (∀ i (hi : i < l.length), (l[i]'hi).1 ≠ k) → w'.heap[k]? = w.heap[k]?) ∧ Below base w w' ∧ KeepsOthers w w' := by
  have HL := Lib.hid h
  have HP := Lib.hid hp
  have HH : Hid (∃ h0 : 0 < l.length, (l[0]'h0).1 = hd) := Lib.hid ⟨_, hhd⟩
  clear h hp hhd
  go_enter Try.func117, Try.ntmps117
  go_wp2
  go_loop [0, 7] (fun s i => ∃ (j b : Nat), j ≤ p ∧ i = .int .i64 (j : Int) ∧ s = .pointer (some ⟨b, 0, none⟩) ∧ Hid (∃ hj : j < l.length, (l[j]'hj).1 = b)) (fun _ i => p - (intOf i).toNat)
  case atStart => exact ⟨0, hd, Nat.zero_le _, rfl, rfl, HH⟩
  case round =>
    obtain ⟨j, b, hj, rfl, rfl, HJ⟩ := hrel
    by_cases hlt : j < p
    · obtain ⟨hjl, hjb⟩ := HJ.out
      have hj1 : j + 1 < l.length := by have := HP.out; omega
      have hc := (ptr_next HL.out hjl).2.1
      rw [hjb, List.getElem?_eq_getElem hj1, Option.map_some, ptrA_some] at hc
      obtain ⟨c, hcc⟩ : ∃ c, (l[j + 1]'hj1).1 = c := ⟨_, rfl⟩
      rw [hcc] at hc
      have HC := Lib.hid hcc
      clear hjb hcc
      go_wp2
      go_round
      case rel => exact ⟨j + 1, c, by omega, by go_num, rfl, Lib.hid ⟨hj1, HC.out⟩⟩
      case measure => simp [intOf]; omega
    · obtain rfl : j = p := by omega
      obtain ⟨hjl, hjb⟩ := HJ.out
      have hp := HP.out
      have hsw := fun nq : Nat => (show LinkedN base (w.drewN nq) l from HL.out).swapped hp
      have hc0 := ptr_next HL.out hjl
      have hc1 := ptr_next HL.out (show j + 1 < l.length by omega)
      have hc2 := ptr_next HL.out hp
      have n1 : (l[j]'hjl).1 ≠ (l[j + 1]'(by omega)).1 := fun e => by have := HL.out.1 _ _ _ _ e; omega
      have n2 : (l[j]'hjl).1 ≠ (l[j + 2]'hp).1 := fun e => by have := HL.out.1 _ _ _ _ e; omega
      have n3 : (l[j + 1]'(by omega)).1 ≠ (l[j + 2]'hp).1 := fun e => by have := HL.out.1 _ _ _ _ e; omega
      have hg0 := (HL.out.2 j hjl).1
      have hg1 := (HL.out.2 (j + 1) (by omega)).1
      have hg2 := (HL.out.2 (j + 2) hp).1
      have hex : ∀ k, (∀ i (hi : i < l.length), (l[i]'hi).1 ≠ k) → k ≠ (l[j]'hjl).1 ∧ k ≠ (l[j + 1]'(by omega)).1 ∧ k ≠ (l[j + 2]'hp).1 := fun k hk => ⟨fun e => hk j hjl e.symm, fun e => hk (j + 1) (by omega) e.symm, fun e => hk (j + 2) hp e.symm⟩
      rw [List.getElem?_eq_getElem (show j + 1 < l.length by omega), Option.map_some, ptrA_some] at hc0
      rw [List.getElem?_eq_getElem (show j + 1 + 1 < l.length by omega), Option.map_some, ptrA_some] at hc1
      rw [hjb] at hc0 n1 n2 hg0 hex hsw
      obtain ⟨bl, hbl⟩ : ∃ c, (l[j + 1]'(by omega)).1 = c := ⟨_, rfl⟩
      obtain ⟨br, hbr⟩ : ∃ c, (l[j + 2]'hp).1 = c := ⟨_, rfl⟩
      obtain ⟨rn, hrn⟩ : ∃ a, ptrA ((l[j + 3]?).map Prod.fst) = a := ⟨_, rfl⟩
      rw [hbl] at hc0 hc1 n1 n3 hg1 hex hsw
      rw [show (l[j + 1 + 1]'(by omega)).1 = br from hbr] at hc1
      rw [hbr] at hc2 n2 n3 hg2 hex hsw
      rw [show ptrA ((l[j + 2 + 1]?).map Prod.fst) = rn from hrn] at hc2
      rw [hrn] at hsw
      obtain ⟨_, c0, f0⟩ := hc0
      obtain ⟨_, c1, f1⟩ := hc1
      obtain ⟨_, c2, f2⟩ := hc2
      have n1' : ¬ bl = b := fun e => n1 e.symm
      have n2' : ¬ br = b := fun e => n2 e.symm
      have n3' : ¬ br = bl := fun e => n3 e.symm
      have HSW := Lib.hid hsw
      have HEX := Lib.hid hex
      have HG := Lib.hid (And.intro hg0 (And.intro hg1 hg2))
      clear hsw hex hg0 hg1 hg2 hbl hbr hrn hjb
      go_wp2
      go_quiet (fail)
      go_wp2
      go_end0
      obtain ⟨g0, g1, g2⟩ := HG.out
      refine ⟨⟨_, rfl⟩, HSW.out nq, fun k hk => ?_, ?_, ?_⟩
      · obtain ⟨e0, e1, e2⟩ := HEX.out k hk
        rw [Below.heap_setCell _ _ _ _ e2, Below.heap_setCell _ _ _ _ e1, Below.heap_setCell _ _ _ _ e0]; rfl
      · exact (((below_drewN (Below.refl base w) nq).setCell (p := ⟨b, 1, none⟩) g0 _).setCell (p := ⟨bl, 1, none⟩) g1 _).setCell (p := ⟨br, 1, none⟩) g2 _
      · exact (show KeepsOthers w (w.drewN nq) from ⟨Nat.le_refl _, fun _ _ h _ => h⟩).trans ((KeepsOthers.setCell _ _ _).trans ((KeepsOthers.setCell _ _ _).trans (KeepsOthers.setCell _ _ _)))

end Go.Proofs.Ytaaeiogdhmiaaaa

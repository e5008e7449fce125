/- What the laws' proofs stand on, part 3 of 4. -/
import Derived.Deep.AppendLies
import Derived.Laws.AppendOwn
import Derived.Deep.SlicePairs
import Derived.Deep.Slices
import Derived.Deep.WholeRow
import Derived.Test.YtakfobihakbefaaBa
import Derived.Test.YtakfobihakbefaaBb

/- The contract of the program's 'WordPut'. -/

namespace Go.Proofs.Ytakfobihakbefaa
open Go.RowKit Go.Shelf

attribute [local go_sem] Oper.semAt_some

/-- What a round keeps, where the iterator is that of a word. -/
def KeepP (n₀ N : Nat) (W W' : World) : Prop := Below n₀ W W' ∧ KeepsFrom N W W'

def funcV (p : Part) : Value := .func (.func p.gf) #[] p.lb
/-- The letters of a letter's image, as its iterator gives them. -/
def imgX (zs : List ByteArray) (x : UInt8) : List UInt8 := if 97 ≤ x.toNat then (zs.getD (idxB x) ByteArray.empty).data.toList else (zs.getD (idxB x) ByteArray.empty).data.toList.reverse.map invB
/-- All images, one behind the other. -/
def putX (zs : List ByteArray) (L : List UInt8) : List UInt8 := (L.map (imgX zs)).flatten
theorem imgX_len (zs : List ByteArray) (hz : ∀ z ∈ zs, wordB z.data.toList = true) (x : UInt8) : (imgX zs x).length ≤ 60 := by
  have hz' : (zs.getD (idxB x) ByteArray.empty).data.toList.length ≤ 60 := by
    rw [List.getD_eq_getElem?_getD]
    cases h : zs[idxB x]? with
    | none => simp
    | some z => exact ((wordB_iff _).1 (hz z (List.mem_of_getElem? h))).1
  unfold imgX
  split
  · exact hz'
  · rw [List.length_map, List.length_reverse]; exact hz'
theorem putX_len (zs : List ByteArray) (L : List UInt8) (hz : ∀ z ∈ zs, wordB z.data.toList = true) : (putX zs L).length ≤ L.length * 60 := by
  unfold putX
  induction L with
  | nil => simp
  | cons x r ih =>
    rw [List.map_cons, List.flatten_cons, List.length_append, List.length_cons]
    have := imgX_len zs hz x
    omega
theorem imgX_eq (zs : List ByteArray) (hz : ∀ z ∈ zs, wordB z.data.toList = true) (x : UInt8) : imgX zs x = imgL zs x ∧ letL (imgL zs x) = true := by
  have hl : letL (zs.getD (idxB x) ByteArray.empty).data.toList = true := by
    rw [List.getD_eq_getElem?_getD]
    cases h : zs[idxB x]? with
    | none => rfl
    | some z => exact ((wordB_iff _).1 (hz z (List.mem_of_getElem? h))).2.1
  unfold imgX imgL
  by_cases h : 97 ≤ x.toNat
  · rw [if_pos h, if_neg (by omega)]; exact ⟨rfl, hl⟩
  · rw [if_neg h, if_pos (by omega)]; exact ⟨inv_back _ hl, letL_back _ hl⟩
theorem putX_eq (zs : List ByteArray) (L : List UInt8) (hz : ∀ z ∈ zs, wordB z.data.toList = true) : putX zs L = putL zs L ∧ letL (putL zs L) = true := by
  unfold putX putL
  induction L with
  | nil => exact ⟨rfl, rfl⟩
  | cons x r ih =>
    obtain ⟨h1, h2⟩ := imgX_eq zs hz x
    rw [List.map_cons, List.map_cons, List.flatten_cons, List.flatten_cons, h1, ih.1, letL_append, h2, ih.2]
    exact ⟨rfl, rfl⟩
theorem letL_putX (zs : List ByteArray) (L : List UInt8) (hz : ∀ z ∈ zs, wordB z.data.toList = true) : letL (putX zs L) = true := by
  rw [(putX_eq zs L hz).1]; exact (putX_eq zs L hz).2
/-- An append in whatever place of a region. -/
theorem wpIn_append_op {F : Fence} {n : Nat} {P : Program} (w : World) {o : Oper} {a : Act} {K : Act → World → Prop} {Q : Exit → Act → World → Prop}
    (s x : Operand) (t : TypeId) (hop : o.op = Op.call { callee := Callee.builtin Builtin.append, args := #[s, x], argTypes := #[t, t] })
    (base : Nat) (e : TypeId) (i : TypeInfo) (z : Value) (size bytes : Nat) (h1 : P.underlying t = some (.slice e)) (h2 : P.info? e = some i) (h3 : i.zero = some z) (h4 : i.size = size) (h5 : i.bytes = bytes) (h6 : z.cells.size = size) (h7 : 0 < size)
    (v : Value) (k : Nat) (xs : List Value) (hs : a.eval s = v) (hown : w.ownsRow base e size v k xs) (ad : Addr) (m c : Nat) (news : List Value) (hx : a.eval x = .slice (some ad) m c) (hn : news.length = m * size)
    (hc : ∀ j u, news[j]? = some u → w.cell? (ad.add j) = some u) (h1c : ∀ u ∈ news, u.oneCell' = true) (b1 : k + m ≤ maxLen) (b2 : (k + m) * bytes ≤ 140737488355328) (b3 : base ≤ w.heap.size)
    (hK : ∀ v' w', w'.ownsRow base e size v' (k + m) (xs ++ news) → w.grownBy w' v.ownBlock → True → K (a.put o.dst v') w') : o.wpIn F n P a w K Q := by
  obtain ⟨v', w', hrun, r1, r2, _⟩ := run_append_own (P := P) w base t o.type e i z size bytes h1 h2 h3 h4 h5 h6 h7 v k xs hown ad m c news hn hc h1c b1 b2 b3
  unfold Oper.wpIn
  refine ⟨by simp [Oper.about, hop, resolve, Target.leads, Sem.run_pure], ?_⟩
  rw [Oper.semAt_plain F _ _ (by rw [hop]; intro c hc'; cases hc')]
  simp [execOp, hop, resolve, invoke, builtin, hs, hx, hrun, Result.andThen]
  exact hK v' w' r1 r2 trivial

theorem owns_slice {W : World} {base : Nat} {e : TypeId} {v : Value} {n : Nat} {xs : List Value} (h : W.ownsRow base e 1 v n xs) (h0 : 0 < W.heap.size) :
    ∃ a cap b, v = .slice a n cap ∧ (0 < n → a = some ⟨b, 0, none⟩) ∧ b < W.heap.size ∧ ∀ i (h : i < xs.length), W.cell? ⟨b, i, none⟩ = some xs[i] := by
  have hl := h.1
  rw [Nat.mul_one] at hl
  have hc := fun g cap (e : v = .slice (some ⟨g, 0, none⟩) n cap) => e
  rcases h.2 with ⟨rfl, e⟩ | ⟨g, cap, cur, rfl, e2⟩
  · have e0 : n = 0 := e
    subst e0
    exact ⟨none, 0, 0, rfl, fun h => absurd h (Nat.lt_irrefl _), h0, fun i hi => absurd hi (by omega)⟩
  · refine ⟨_, cap, g, rfl, fun _ => rfl, (ownsRow_cap h).2.2.2, fun i hi => ?_⟩
    rw [h.cellAt i (by omega)]
    exact List.getElem?_eq_getElem hi

/-- Four words in memory. -/
def FourAt (gi : Nat) (lo : Nat) (w : World) (zs : List ByteArray) : Prop :=
  gi < w.heap.size ∧ ∀ j (h : j < zs.length), ∃ v, w.cell? ⟨gi, j, none⟩ = some v ∧ WordAt lo w v zs[j].data.toList
theorem FourAt.below {gi lo : Nat} {w w' : World} {zs : List ByteArray} (h : FourAt gi lo w zs) (hb : Below w.heap.size w w') : FourAt gi lo w' zs :=
  ⟨Nat.lt_of_lt_of_le h.1 hb.size, fun j hj => by
    obtain ⟨v, h1, h2⟩ := h.2 j hj
    exact ⟨v, (hb.cell (p := ⟨gi, j, none⟩) h.1).trans h1, h2.below hb⟩⟩

end Go.Proofs.Ytakfobihakbefaa

/- The contracts of the program's 'imagesOf' and 'WordPut'. -/

namespace Go.Proofs.Ytakfobihakbefaa
open Go.RowKit Go.Shelf

/-- A list of strings from a cell 0 on, as a law copies it. -/
structure StrsIn (w : World) (a : Option Addr) (g : Nat) (n : Nat) (zs : List ByteArray) : Prop where
  len : zs.length = n
  at0 : 0 < n → a = some ⟨g, 0, none⟩
  blk : g < w.heap.size
  cells : ∀ i (h : i < zs.length), w.cell? ⟨g, i, none⟩ = some (.string zs[i])
  small : ∀ s ∈ zs, s.size ≤ maxLen
theorem StrsIn.below {w w' : World} {a : Option Addr} {g n : Nat} {zs : List ByteArray} (h : StrsIn w a g n zs) (hb : Below w.heap.size w w') : StrsIn w' a g n zs :=
  ⟨h.len, h.at0, Nat.lt_of_lt_of_le h.blk hb.size, fun i hi => (hb.cell (p := ⟨g, i, none⟩) h.blk).trans (h.cells i hi), h.small⟩

end Go.Proofs.Ytakfobihakbefaa

/- Letters as a free group: reducing goes along, inverses cancel, sums of letters, powers, commutators, putting. -/

namespace Go.Proofs.Ytakfobihakbefaa
open Go.RowKit

theorem toList_size (s : ByteArray) : s.data.toList.length = s.size := by simp
theorem letL_step {l : List UInt8} {c : UInt8} (hl : letL l = true) (hc : letB c = true) : letL (redStep l c) = true := by
  unfold redStep
  split
  · exact letL_of_mem l _ hl fun _ h => List.dropLast_subset _ h
  · rw [letL_append, hl, letL_cons, hc]; rfl
theorem letL_red2 : ∀ (s acc : List UInt8), letL s = true → letL acc = true → letL (redL acc s) = true
  | [], _, _, h => h
  | c :: s, acc, h, ha => by
    rw [letL_cons, Bool.and_eq_true] at h
    exact letL_red2 s (redStep acc c) h.2 (letL_step ha h.1)
theorem step_cancel {l : List UInt8} (hn : noC l) {x : UInt8} (hx : letB x = true) : redStep (redStep l x) (turnB x) = l := by
  obtain ⟨ht, hx2⟩ := turn_turn x hx
  by_cases h : l.getLast? = some (turnB x)
  · obtain ⟨p, y, rfl⟩ := last_split l (by cases l with | nil => simp at h | cons a l => simp)
    have hy : y = turnB x := by simpa using h
    subst hy
    rw [redStep_pop p (turnB x) x rfl]
    by_cases h2 : p.getLast? = some (turnB (turnB x))
    · exfalso
      obtain ⟨q, z, rfl⟩ := last_split p (by cases p with | nil => simp at h2 | cons a l => simp)
      have hz : z = turnB (turnB x) := by simpa using h2
      exact hn q z (turnB x) [] (by simp) hz
    · unfold redStep; rw [if_neg h2]
  · have e : redStep l x = l ++ [x] := by unfold redStep; rw [if_neg h]
    rw [e, redStep_pop l x (turnB x) ht.symm]
theorem red_through : ∀ (y acc : List UInt8), noC acc → letL y = true → redL acc (redL [] y) = redL acc y := by
  intro y
  generalize hn : y.length = n
  induction n generalizing y with
  | zero => intro acc _ _; rw [List.length_eq_zero_iff.1 hn]; rfl
  | succ n ih =>
    intro acc ha hl
    obtain ⟨p, c, rfl⟩ := last_split y (by omega)
    have hp : p.length = n := by rw [List.length_append] at hn; simp at hn; exact hn
    rw [letL_append, Bool.and_eq_true] at hl
    have hc : letB c = true := by have := hl.2; simp [letL] at this; exact this
    have h1 := ih p hp acc ha hl.1
    rw [redL_snoc, redL_snoc]
    by_cases h : (redL [] p).getLast? = some (turnB c)
    · obtain ⟨q, z, hq⟩ := last_split (redL [] p) (by cases hr : redL [] p with | nil => rw [hr] at h; simp at h | cons a l => simp)
      rw [hq] at h h1 ⊢
      have hz : z = turnB c := by simpa using h
      subst hz
      rw [redStep_pop q (turnB c) c rfl, ← h1, redL_snoc]
      have := step_cancel (noC_red q acc ha) (turn_turn c hc).2
      rw [(turn_turn c hc).1] at this
      exact this.symm
    · have e : redStep (redL [] p) c = redL [] p ++ [c] := by unfold redStep; rw [if_neg h]
      rw [e, redL_snoc, h1]
/-- Reducing parts first. -/
theorem red_both {a b : List UInt8} (hb : letL b = true) : redL [] (redL [] a ++ redL [] b) = redL [] (a ++ b) := by
  rw [red_append, redL_append, redL_append, red_through b _ (noC_red a [] noC_nil) hb]
theorem red_right {a b : List UInt8} (hb : letL b = true) : redL [] (a ++ redL [] b) = redL [] (a ++ b) := by
  rw [redL_append, redL_append, red_through b _ (noC_red a [] noC_nil) hb]
/-- A word and its inverse. -/
theorem red_cancel : ∀ (s acc : List UInt8), noC acc → letL s = true → redL (redL acc s) (backL s) = acc := by
  intro s
  induction s with
  | nil => intro acc _ _; rfl
  | cons c s ih =>
    intro acc ha hl
    rw [letL_cons, Bool.and_eq_true] at hl
    have e : backL (c :: s) = backL s ++ [turnB c] := by simp [backL]
    have e2 : redL acc (c :: s) = redL (redStep acc c) s := rfl
    rw [e, redL_append, e2, ih _ (noC_step acc c ha) hl.2]
    exact step_cancel ha hl.1
theorem red_inv {s : List UInt8} (hl : letL s = true) (a : List UInt8) : redL [] (a ++ s ++ backL s) = redL [] a := by
  rw [redL_append, redL_append]
  exact red_cancel s _ (noC_red a [] noC_nil) hl
theorem red_inv2 {s : List UInt8} (hl : letL s = true) (a : List UInt8) : redL [] (a ++ backL s ++ s) = redL [] a := by
  have := red_inv (letL_back s hl) a
  rwa [back_back s hl] at this
/-- Words that are the same behind each other's inverse. -/
theorem red_unique {a b : List UInt8} (hb : letL b = true) (h : redL [] (a ++ backL b) = []) : redL [] a = redL [] b := by
  have h1 : redL [] (a ++ backL b ++ b) = redL [] a := red_inv2 hb a
  rw [← h1, redL_append, h]
theorem back_red {s : List UInt8} (hl : letL s = true) : backL (redL [] s) = redL [] (backL s) := by
  have hr := letL_red2 s [] hl rfl
  have h1 : redL [] (backL (redL [] s)) = backL (redL [] s) := red_back _ hr (red_red s)
  rw [← h1]
  refine red_unique (letL_back s hl) ?_
  rw [back_back s hl, ← red_right hl]
  have := red_inv2 hr []
  rw [List.nil_append] at this
  exact this
/-! ### Sums of letters -/
theorem sgnB_bnd2 (x : UInt8) : -1 ≤ sgnB x ∧ sgnB x ≤ 1 := by unfold sgnB; split <;> omega
def sgL (i : Nat) : List UInt8 → Int
  | [] => 0
  | c :: r => (if idxB c = i then sgnB c else 0) + sgL i r
theorem sgL_append (i : Nat) : ∀ a b : List UInt8, sgL i (a ++ b) = sgL i a + sgL i b
  | [], b => by simp [sgL]
  | c :: r, b => by rw [List.cons_append, sgL, sgL, sgL_append i r b]; omega
theorem sg_turn {c : UInt8} (hc : letB c = true) : idxB (turnB c) = idxB c ∧ sgnB (turnB c) = - sgnB c := by
  have h := (letB_iff c).1 hc
  unfold idxB sgnB
  rcases h with h | h
  · have := turnB_hi c h.1
    rw [if_neg (by omega), if_pos (by omega), if_neg (by omega), if_pos (by omega)]; omega
  · have := turnB_lo c (by omega)
    rw [if_pos (by omega), if_neg (by omega), if_pos (by omega), if_neg (by omega)]; omega
theorem sgL_turn (i : Nat) {c : UInt8} (hc : letB c = true) : sgL i [turnB c] = - sgL i [c] := by
  obtain ⟨h1, h2⟩ := sg_turn hc
  simp only [sgL]
  rw [h1, h2]; split <;> omega
theorem sgL_back (i : Nat) : ∀ s : List UInt8, letL s = true → sgL i (backL s) = - sgL i s
  | [], _ => by simp [sgL, backL]
  | c :: s, h => by
    rw [letL_cons, Bool.and_eq_true] at h
    have e : backL (c :: s) = backL s ++ [turnB c] := by simp [backL]
    rw [e, sgL_append, sgL_back i s h.2, sgL_turn i h.1, show c :: s = [c] ++ s from rfl, sgL_append]; omega
theorem sgL_step (i : Nat) {l : List UInt8} {c : UInt8} (hc : letB c = true) : sgL i (redStep l c) = sgL i l + sgL i [c] := by
  by_cases h : l.getLast? = some (turnB c)
  · obtain ⟨p, y, rfl⟩ := last_split l (by cases l with | nil => simp at h | cons a l => simp)
    have hy : y = turnB c := by simpa using h
    subst hy
    rw [redStep_pop p (turnB c) c rfl, sgL_append, sgL_turn i hc]; omega
  · have e : redStep l c = l ++ [c] := by unfold redStep; rw [if_neg h]
    rw [e, sgL_append]
theorem sgL_red (i : Nat) : ∀ (s acc : List UInt8), letL s = true → sgL i (redL acc s) = sgL i acc + sgL i s
  | [], acc, _ => by simp [redL_nil, sgL]
  | c :: s, acc, h => by
    rw [letL_cons, Bool.and_eq_true] at h
    have e : redL acc (c :: s) = redL (redStep acc c) s := rfl
    rw [e, sgL_red i s _ h.2, sgL_step i h.1, show c :: s = [c] ++ s from rfl, sgL_append]; omega
theorem sums_get : ∀ (s : List UInt8), letL s = true → ∀ i (h : i < (sumsL s).length), (sumsL s)[i] = sgL i s := by
  intro s
  generalize hn : s.length = n
  induction n generalizing s with
  | zero =>
    intro _ i h
    obtain rfl := List.length_eq_zero_iff.1 hn
    have h4 : i < 4 := h
    rcases (show i = 0 ∨ i = 1 ∨ i = 2 ∨ i = 3 by omega) with rfl | rfl | rfl | rfl <;> rfl
  | succ n ih =>
    intro hl i h
    obtain ⟨p, c, rfl⟩ := last_split s (by omega)
    have hp : p.length = n := by rw [List.length_append] at hn; simp at hn; exact hn
    rw [letL_append, Bool.and_eq_true] at hl
    have hc : letB c = true := by have := hl.2; simp [letL] at this; exact this
    have h4 := (sumsL_inv p hl.1).1
    have hi := idxB_lt c hc
    have h4s := (sumsL_inv (p ++ [c]) (by rw [letL_append, hl.1, hl.2]; rfl)).1
    have hi4 : i < (sumsL p).length := by omega
    have h1 := ih p hp hl.1 i hi4
    have e : sumsL (p ++ [c]) = (sumsL p).set (idxB c) ((sumsL p)[idxB c]?.getD 0 + sgnB c) := sumsL_snoc p c
    simp only [e]
    rw [List.getElem_set, sgL_append, ← h1]
    simp only [sgL]
    by_cases hic : idxB c = i
    · subst hic
      rw [if_pos rfl, if_pos rfl, List.getElem?_eq_getElem hi4]
      simp
    · rw [if_neg hic, if_neg hic]; omega
theorem sums_eq {s t : List UInt8} (hs : letL s = true) (ht : letL t = true) (h : ∀ i, i < 4 → sgL i s = sgL i t) : sumsL s = sumsL t := by
  have h1 := (sumsL_inv s hs).1
  have h2 := (sumsL_inv t ht).1
  refine List.ext_getElem (by omega) fun i hi hj => ?_
  rw [sums_get s hs, sums_get t ht]
  exact h i (by omega)
/-! ### Powers -/
theorem powL_next {s : List UInt8} (hl : letL s = true) (n : Int) : redL [] (powL (n + 1) s) = redL [] (powL n s ++ s) := by
  unfold powL
  by_cases h : n < 0
  · rw [if_pos h]
    obtain ⟨m, hm⟩ : ∃ m : Nat, n.natAbs = m + 1 := ⟨n.natAbs - 1, by omega⟩
    have e1 : repL n.natAbs (backL s) = repL m (backL s) ++ backL s := by rw [hm, ← repL_add m 1, repL_one]
    rw [e1, red_inv2 hl]
    by_cases h2 : n + 1 < 0
    · rw [if_pos h2, show (n + 1).natAbs = m by omega]
    · rw [if_neg h2, show (n + 1).natAbs = 0 by omega, show m = 0 by omega]; rfl
  · rw [if_neg h, if_neg (show ¬ n + 1 < 0 by omega), show (n + 1).natAbs = n.natAbs + 1 by omega, ← repL_add n.natAbs 1, repL_one]

end Go.Proofs.Ytakfobihakbefaa

/- Commutators, parity, cores and putting, over lists of letters. -/

namespace Go.Proofs.Ytakfobihakbefaa
open Go.RowKit

/-! ### Commutators -/
theorem comm_back {a b : List UInt8} (ha : letL a = true) (hb : letL b = true) : backL (commL a b) = commL b a := by
  unfold commL
  rw [backL_append, backL_append, backL_append, back_back a ha, back_back b hb]
  simp
theorem comm_let {a b : List UInt8} (ha : letL a = true) (hb : letL b = true) : letL (commL a b) = true := by
  unfold commL
  rw [letL_append, letL_append, letL_append, ha, hb, letL_back a ha, letL_back b hb]; rfl
theorem comm_sg (i : Nat) {a b : List UInt8} (ha : letL a = true) (hb : letL b = true) : sgL i (commL a b) = 0 := by
  unfold commL
  rw [sgL_append, sgL_append, sgL_append, sgL_back i a ha, sgL_back i b hb]; omega
/-- A commutator ahead of the product the other way. -/
theorem comm_times {a b : List UInt8} (ha : letL a = true) (hb : letL b = true) : redL [] (commL a b ++ (b ++ a)) = redL [] (a ++ b) := by
  unfold commL
  rw [show a ++ b ++ backL a ++ backL b ++ (b ++ a) = (a ++ b ++ backL a ++ backL b ++ b) ++ a by simp, redL_append, red_inv2 hb, ← redL_append, red_inv2 ha]
theorem sums_comm {a b : List UInt8} (ha : letL a = true) (hb : letL b = true) : sumsL (redL [] (commL a b)) = [0, 0, 0, 0] := by
  have hl := letL_red2 _ [] (comm_let ha hb) rfl
  have h4 := (sumsL_inv _ hl).1
  refine List.ext_getElem (by rw [h4]; rfl) fun i hi hj => ?_
  rw [sums_get _ hl, sgL_red i _ [] (comm_let ha hb), comm_sg i ha hb]
  have hj4 : i < 4 := hj
  rcases (show i = 0 ∨ i = 1 ∨ i = 2 ∨ i = 3 by omega) with rfl | rfl | rfl | rfl <;> rfl
/-! ### Parity -/
theorem step_parity (l : List UInt8) (c : UInt8) : ∃ k, (redStep l c).length + 2 * k = l.length + 1 := by
  unfold redStep
  split
  · refine ⟨1, ?_⟩
    rename_i h
    cases l with
    | nil => simp at h
    | cons a r => simp
  · exact ⟨0, by simp⟩
theorem red_parity : ∀ (s l : List UInt8), ∃ k, (redL l s).length + 2 * k = l.length + s.length
  | [], l => ⟨0, by simp [redL_nil]⟩
  | c :: s, l => by
    obtain ⟨k, hk⟩ := step_parity l c
    obtain ⟨j, hj⟩ := red_parity s (redStep l c)
    refine ⟨k + j, ?_⟩
    have e : redL l (c :: s) = redL (redStep l c) s := rfl
    rw [e, List.length_cons]; omega
/-! ### Cores -/
theorem coreF_core : ∀ (m : Nat) (l : List UInt8), l.length ≤ m → coreC (coreF m l) = false
  | 0, l, h => by
    have : l = [] := List.length_eq_zero_iff.1 (by omega)
    subst this
    rfl
  | m + 1, l, h => by
    rw [coreF]
    split
    · rename_i hc
      have h1 : 1 < l.length := by unfold coreC at hc; simp only [Bool.and_eq_true, decide_eq_true_eq] at hc; exact hc.1
      exact coreF_core m _ (by rw [core_len]; omega)
    · rename_i hc; simpa using hc
theorem core_core (l : List UInt8) : coreL (coreL l) = coreL l := coreF_false (coreF_core l.length l (Nat.le_refl _)) _
theorem core_le (l : List UInt8) : (coreL l).length ≤ l.length := coreF_len _ _
theorem core_ends {l : List UInt8} (hl : letL l = true) (hc : coreC l = true) : ∃ c, letB c = true ∧ l = [turnB c] ++ l.tail.dropLast ++ [c] := by
  have h1 : 1 < l.length := by unfold coreC at hc; simp only [Bool.and_eq_true, decide_eq_true_eq] at hc; exact hc.1
  obtain ⟨p, c, rfl⟩ := last_split l (by omega)
  cases p with
  | nil => simp at h1
  | cons x q =>
    have hx : x = turnB c := by
      unfold coreC at hc
      simp only [Bool.and_eq_true, decide_eq_true_eq] at hc
      have h2 := hc.2
      have e : (x :: q ++ [c]).getLast? = some c := List.getLast?_concat
      rw [e] at h2
      simpa using h2
    refine ⟨c, letL_get _ hl ((x :: q ++ [c]).length - 1) (by simp) |> fun h => by simpa using h, ?_⟩
    subst hx
    simp
theorem coreF_word : ∀ (m : Nat) (l : List UInt8), letL l = true → noC l → letL (coreF m l) = true ∧ noC (coreF m l)
  | 0, l, h1, h2 => ⟨h1, h2⟩
  | m + 1, l, h1, h2 => by
    rw [coreF]
    split
    · rename_i hc
      obtain ⟨c, _, e⟩ := core_ends h1 hc
      refine coreF_word m _ (letL_core l h1) ?_
      rw [e] at h2
      intro p x y q h3
      refine h2 (turnB c :: p) x y (q ++ [c]) ?_
      rw [h3]; simp
    · exact ⟨h1, h2⟩
theorem core_word {l : List UInt8} (h : wordB l = true) : wordB (coreL l) = true := by
  obtain ⟨h1, h2, h3⟩ := (wordB_iff _).1 h
  obtain ⟨h4, h5⟩ := coreF_word l.length l h2 ((red_iff _).1 h3)
  refine (wordB_iff _).2 ⟨by have := core_le l; omega, h4, (red_iff _).2 h5⟩
theorem coreF_sg (i : Nat) : ∀ (m : Nat) (l : List UInt8), letL l = true → sgL i (coreF m l) = sgL i l
  | 0, l, h1 => rfl
  | m + 1, l, h1 => by
    rw [coreF]
    split
    · rename_i hc
      obtain ⟨c, hcl, e⟩ := core_ends h1 hc
      have h2 := coreF_sg i m _ (letL_core l h1)
      rw [h2]
      have h3 : sgL i l = sgL i ([turnB c] ++ l.tail.dropLast ++ [c]) := congrArg _ e
      rw [sgL_append, sgL_append, sgL_turn i hcl] at h3
      omega
    · rfl
theorem sums_core {l : List UInt8} (h : letL l = true) (h2 : letL (coreL l) = true) : sumsL (coreL l) = sumsL l := sums_eq h2 h fun i _ => coreF_sg i _ l h
/-! ### Putting -/
theorem img_turn (zs : List ByteArray) (hz : ∀ z ∈ zs, wordB z.data.toList = true) {c : UInt8} (hc : letB c = true) : imgL zs (turnB c) = backL (imgL zs c) := by
  have hl : letL (zs.getD (idxB c) ByteArray.empty).data.toList = true := by
    rw [List.getD_eq_getElem?_getD]
    cases h : zs[idxB c]? with
    | none => rfl
    | some z => exact ((wordB_iff _).1 (hz z (List.mem_of_getElem? h))).2.1
  have hi := (sg_turn hc).1
  unfold imgL
  rw [hi]
  have h := (letB_iff c).1 hc
  rcases h with h | h
  · have := turnB_hi c h.1
    rw [if_pos (by omega), if_neg (by omega)]
  · have := turnB_lo c (by omega)
    rw [if_neg (by omega), if_pos (by omega), back_back _ hl]
theorem putL_append (zs : List ByteArray) (a b : List UInt8) : putL zs (a ++ b) = putL zs a ++ putL zs b := by simp [putL]
theorem put_back (zs : List ByteArray) (hz : ∀ z ∈ zs, wordB z.data.toList = true) : ∀ s : List UInt8, letL s = true → putL zs (backL s) = backL (putL zs s)
  | [], _ => rfl
  | c :: s, h => by
    rw [letL_cons, Bool.and_eq_true] at h
    have e : backL (c :: s) = backL s ++ [turnB c] := by simp [backL]
    have e1 : putL zs [turnB c] = imgL zs (turnB c) := by simp [putL]
    have e2 : putL zs (c :: s) = imgL zs c ++ putL zs s := by simp [putL]
    rw [e, putL_append, put_back zs hz s h.2, e1, img_turn zs hz h.1, e2, backL_append]
def abcd : List ByteArray := [{ data := #[97] }, { data := #[98] }, { data := #[99] }, { data := #[100] }]
theorem abcd_four : fourB abcd = true := by decide +kernel
theorem abcd_tab : ∀ n : Fin 256, letB (UInt8.ofNat n.val) = true → imgL abcd (UInt8.ofNat n.val) = [UInt8.ofNat n.val] := by decide +kernel
theorem abcd_img {c : UInt8} (h : letB c = true) : imgL abcd c = [c] := by
  have := abcd_tab ⟨c.toNat, c.toNat_lt⟩
  simp only [UInt8.ofNat_toNat] at this
  exact this h
theorem abcd_put : ∀ s : List UInt8, letL s = true → putL abcd s = s
  | [], _ => rfl
  | c :: s, h => by
    rw [letL_cons, Bool.and_eq_true] at h
    have e2 : putL abcd (c :: s) = imgL abcd c ++ putL abcd s := by simp [putL]
    rw [e2, abcd_img h.1, abcd_put s h.2]; rfl
theorem put_let (zs : List ByteArray) (hz : ∀ z ∈ zs, wordB z.data.toList = true) (s : List UInt8) : letL (putL zs s) = true := (putX_eq zs s hz).2

/-! ### Words of letters that reduce to few -/
theorem word_of_red {s : List UInt8} (hl : letL s = true) (h : (redL [] s).length ≤ 60) : wordB (redL [] s) = true := (wordB_iff _).2 ⟨h, letL_red2 s [] hl rfl, red_red s⟩
theorem word_back {s : List UInt8} (h : wordB s = true) : wordB (backL s) = true := by
  obtain ⟨h1, h2, h3⟩ := (wordB_iff _).1 h
  exact (wordB_iff _).2 ⟨by rw [backL_length]; exact h1, letL_back s h2, red_back s h2 h3⟩

end Go.Proofs.Ytakfobihakbefaa

/- The contracts of the model's 'l91Four' and 'DrawWordPut'. -/

namespace Go.Proofs.Ytakfobihakbefaa
open Go.RowKit Go.Shelf

theorem Rd.past {base N : Nat} {w w' : World} {rb : Nat} {a : Option Addr} {n cap : Nat} {zs : List Int} {p : Nat} (h : Rd base w rb a n cap zs p) (hb : Below N w w') (hN : rb < N) : Rd base w' rb a n cap zs p :=
  ⟨h.lo, (hb.block rb hN).trans h.box, h.data.below (hb.mono (Nat.le_of_lt (Nat.lt_of_le_of_lt h.lo hN))), h.short⟩
theorem ownS_made2 (w : World) : OwnS w.heap.size (w.alloc (.cells #[] 9)) (.slice (some ⟨w.heap.size, 0, none⟩) 0 0) [] :=
  World.ownsRow_made w #[] 0 (Nat.le_refl _) (Nat.zero_le _) rfl
theorem OwnS.kept {base : Nat} {w w' : World} {v : Value} {zs : List ByteArray} (h : OwnS base w v zs) {rb : Nat} (hg : w.grownBy w' (some rb)) (hr : rb < base) : OwnS base w' v zs :=
  World.ownsRow.kept h hg (by
    cases hv : v.ownBlock with
    | none => exact .inl rfl
    | some k => exact .inr fun e => by have := (h.lt k hv).1; cases e; omega)

theorem StrsIn.taken {w : World} {g n : Nat} {zs : List ByteArray} (h : StrsIn w (some ⟨g, 0, none⟩) g n zs) (k : Nat) (hk : k ≤ n) : StrsIn w (some ⟨g, 0, none⟩) g k (zs.take k) :=
  ⟨by rw [List.length_take, h.len]; omega, fun _ => rfl, h.blk, fun i hi => by rw [List.getElem_take]; exact h.cells i (by rw [List.length_take] at hi; omega), fun s hs => h.small s (List.mem_of_mem_take hs)⟩
theorem StrsIn.at_ {w : World} {g n : Nat} {zs : List ByteArray} (h : StrsIn w (some ⟨g, 0, none⟩) g n zs) : StrsAt w (some ⟨g, 0, none⟩) zs :=
  ⟨fun _ => ⟨_, rfl, h.blk, fun i hi => by
    have e : (⟨g, 0, none⟩ : Addr).add i = ⟨g, i, none⟩ := by unfold Addr.add; split <;> simp_all
    rw [e]; exact h.cells i hi⟩, h.small⟩
theorem strsIn_abcd (w : World) : StrsIn (w.alloc (.cells #[.string { data := #[97] }, .string { data := #[98] }, .string { data := #[99] }, .string { data := #[100] }] 9)) (some ⟨w.heap.size, 0, none⟩) w.heap.size 4 abcd :=
  ⟨rfl, fun _ => rfl, by simp, fun j hj => by
    have hj4 : j < 4 := hj
    rcases (show j = 0 ∨ j = 1 ∨ j = 2 ∨ j = 3 by omega) with rfl | rfl | rfl | rfl <;> exact (World.cell?_alloc_at _ _ _ _ (by simp)).trans rfl, by
    have : ∀ s ∈ abcd, s.size = 1 := by decide
    intro s hs
    rw [this s hs]; unfold maxLen; omega⟩

/-- Few texts that lie in a block of the call's own. -/
def FourS (base : Nat) (w' : World) (v : Value) : Prop := ∃ g c n zs, v = .slice (some ⟨g, 0, none⟩) n c ∧ base ≤ g ∧ StrsIn w' (some ⟨g, 0, none⟩) g n zs ∧ n ≤ 4 ∧ ∀ z ∈ zs, z.size ≤ 4

theorem _root_.Go.World.grownBy.past {w w1 w2 : World} {rb N : Nat} (hg : w.grownBy w1 (some rb)) (hb : Below N w1 w2) (hN : w.heap.size ≤ N := by omega) : w.grownBy w2 (some rb) :=
  ⟨hb.os.trans hg.os, hb.tape.trans hg.tape, hb.output.trans hg.output, Nat.le_trans hg.size hb.size, fun k hk hne => (hb.block k (by omega)).trans (hg.block k hk hne)⟩
theorem FourS.mono {b1 b2 : Nat} {w : World} {v : Value} (h : FourS b1 w v) (hb : b2 ≤ b1) : FourS b2 w v := by
  obtain ⟨g, c, n, ts, rfl, h1, h2⟩ := h
  exact ⟨g, c, n, ts, rfl, Nat.le_trans hb h1, h2⟩

end Go.Proofs.Ytakfobihakbefaa

/- The contracts of the model's draws of polynomials. -/

namespace Go.Proofs.Ytakfobihakbefaa
open Go.RowKit Go.Shelf

/-- A small polynomial of the draw's own, seldom none. -/
structure SmallP (base : Nat) (w : World) (low : Int) (v : Value) (zs : List Int) : Prop where
  row : IntRow base w v zs
  len : zs.length ≤ 4
  lo : -10 ≤ low ∧ low ≤ 10
  cs : ∀ i, -4 ≤ zs.getD i 0 ∧ zs.getD i 0 ≤ 4
theorem SmallP.below {base : Nat} {w w' : World} {low : Int} {v : Value} {zs : List Int} (h : SmallP base w low v zs) (hb : Below w.heap.size w w') : SmallP base w' low v zs := ⟨rowPast h.row hb, h.len, h.lo, h.cs⟩
theorem SmallP.grown {base B : Nat} {w w' : World} {low : Int} {v : Value} {zs : List Int} (h : SmallP base w low v zs) (hg : w.grownBy w' (some B)) (hB : B < base) : SmallP base w' low v zs := by
  refine ⟨?_, h.len, h.lo, h.cs⟩
  have hr := h.row
  unfold IntRow at hr ⊢
  refine hr.kept hg ?_
  cases e : v.ownBlock with
  | none => exact .inl rfl
  | some j => exact .inr fun e2 => by have := own_ge hr j e; simp only [Option.some.injEq] at e2; omega
theorem SmallP.mono {b1 b2 : Nat} {w : World} {low : Int} {v : Value} {zs : List Int} (h : SmallP b1 w low v zs) (hb : b2 ≤ b1) : SmallP b2 w low v zs := ⟨h.row.mono hb, h.len, h.lo, h.cs⟩
theorem SmallP.pin {base : Nat} {w : World} {low : Int} {v : Value} {zs : List Int} (h : SmallP base w low v zs) : ∃ a c, v = .slice a zs.length c ∧ PIn w a zs.length c zs := by
  obtain ⟨a, c, rfl, hc, hi⟩ := h.row.readc (fun z hz => by
    obtain ⟨i, hi, rfl⟩ := List.mem_iff_getElem.1 hz
    have := h.cs i
    rw [List.getD_eq_getElem?_getD, List.getElem?_eq_getElem hi] at this
    have : -4 ≤ zs[i] ∧ zs[i] ≤ 4 := this
    omega)
  exact ⟨a, c, rfl, hi, hc⟩
theorem tidy_small {low : Int} {l : List Int} (hl : l.length ≤ 4) (hlo : -3 ≤ low ∧ low ≤ 3) (hc : ∀ i, -4 ≤ l.getD i 0 ∧ l.getD i 0 ≤ 4) : (tidyP low l).cs.length ≤ 4 ∧ (-10 ≤ (tidyP low l).low ∧ (tidyP low l).low ≤ 10) ∧ ∀ i, -4 ≤ (tidyP low l).cs.getD i 0 ∧ (tidyP low l).cs.getD i 0 ≤ 4 := by
  have h1 := tidy_len low l
  have h2 := zfrom_le l
  refine ⟨by omega, ?_, fun i => ?_⟩
  · unfold tidyP
    split
    · show -10 ≤ (0 : Int) ∧ (0 : Int) ≤ 10; omega
    · show -10 ≤ low + (zfrom l : Int) ∧ low + (zfrom l : Int) ≤ 10; omega
  · rw [← pat_at (tidyP low l) i, tidy_pat]
    unfold pat
    split
    · exact hc _
    · omega
theorem snoc_small {l : List Int} {z : Int} (hc : ∀ i, -4 ≤ l.getD i 0 ∧ l.getD i 0 ≤ 4) (hz : -4 ≤ z ∧ z ≤ 4) : ∀ i, -4 ≤ (l ++ [z]).getD i 0 ∧ (l ++ [z]).getD i 0 ≤ 4 := fun i => by
  by_cases h : i < l.length
  · rw [List.getD_eq_getElem?_getD, List.getElem?_append_left h, ← List.getD_eq_getElem?_getD]; exact hc i
  · by_cases h2 : i = l.length
    · subst h2
      rw [List.getD_eq_getElem?_getD, List.getElem?_append_right (Nat.le_refl _), Nat.sub_self]
      exact hz
    · rw [getD_far (by simp; omega)]; omega
theorem set_small {l : List Int} (hc : ∀ i, -4 ≤ l.getD i 0 ∧ l.getD i 0 ≤ 4) : ∀ i, -4 ≤ (l.set 0 0).getD i 0 ∧ (l.set 0 0).getD i 0 ≤ 4 := fun i => by
  rw [List.getD_eq_getElem?_getD, List.getElem?_set]
  split
  · split
    · simp
    · simp
  · rw [← List.getD_eq_getElem?_getD]; exact hc i

theorem l92_close {base rb n cap p q b : Nat} {a : Option Addr} {zs : List Int} {w V : World} {ql : Int} {v : Value} {qc : List Int} (hrb : rb < w.heap.size) (hrow : IntRow b V v qc) (hb : w.heap.size < b) (hlo : base ≤ rb) (hlen : qc.length ≤ 4) (hl : -10 ≤ ql ∧ ql ≤ 10) (hc : ∀ i, -4 ≤ qc.getD i 0 ∧ qc.getD i 0 ≤ 4)
    (hR : Rd base V rb a n cap zs q) (hq : q ≤ p + 10) (hB : Below base w V) (hG : w.grownBy V (some rb)) :
    (∃ low v' cs, Ending.returned (plV ql v) = .returned (plV low v') ∧ SmallP w.heap.size ((V.setCell ⟨w.heap.size, 0, none⟩ (.int .i64 ql)).setCell ⟨w.heap.size, 1, none⟩ v) low v' cs) ∧ (∃ p', p' ≤ p + 10 ∧ Rd base ((V.setCell ⟨w.heap.size, 0, none⟩ (.int .i64 ql)).setCell ⟨w.heap.size, 1, none⟩ v) rb a n cap zs p') ∧ Below base w ((V.setCell ⟨w.heap.size, 0, none⟩ (.int .i64 ql)).setCell ⟨w.heap.size, 1, none⟩ v) ∧ w.grownBy ((V.setCell ⟨w.heap.size, 0, none⟩ (.int .i64 ql)).setCell ⟨w.heap.size, 1, none⟩ v) (some rb) := by
  have hs : Below w.heap.size V ((V.setCell ⟨w.heap.size, 0, none⟩ (.int .i64 ql)).setCell ⟨w.heap.size, 1, none⟩ v) := ((Below.refl w.heap.size V).setCell (p := ⟨w.heap.size, 0, none⟩) (Nat.le_refl _) _).setCell (p := ⟨w.heap.size, 1, none⟩) (Nat.le_refl _) _
  refine ⟨⟨ql, v, qc, rfl, (row_others hrow fun j e => ?_).mono (by omega), hlen, hl, hc⟩, ⟨q, hq, hR.past hs (by omega)⟩, hB.trans (hs.mono (by omega)), hG.past hs (Nat.le_refl _)⟩
  have := own_ge hrow j e
  omega

set_option maxRecDepth 100000 in
set_option maxHeartbeats 3000000 in
theorem l92Poly_any (base rb : Nat) (a : Option Addr) (n cap : Nat) (zs : List Int) (p : Nat) (w : World) (h : Rd base w rb a n cap zs p) (hp : p ≤ 80000) :
    Calls Try.prog 68 #[.pointer (some ⟨rb, 0, none⟩)] w fun e w' => (∃ low v cs, e = .returned (plV low v) ∧ SmallP w.heap.size w' low v cs) ∧ (∃ p', p' ≤ p + 10 ∧ Rd base w' rb a n cap zs p') ∧ Below base w w' ∧ w.grownBy w' (some rb) := by
  obtain ⟨i0, hi, hz0, hz1, hz2⟩ := info_parts infoInt
  have hlo := h.lo
  have hrl := h.lt
  obtain ⟨X1, hX1⟩ : ∃ X, w.alloc (.cells #[.int .i64 0, .slice none 0 0] 25) = X := ⟨_, rfl⟩
  obtain ⟨W, hW⟩ : ∃ X, X1.alloc (.cells #[] 3) = X := ⟨_, rfl⟩
  have s1 : X1.heap.size = w.heap.size + 1 := by rw [← hX1]; simp
  have s2 : W.heap.size = w.heap.size + 2 := by rw [← hW]; simp [s1]
  have b1 : Below w.heap.size w X1 := by rw [← hX1]; exact (Below.refl _ w).alloc (Nat.le_refl _) _
  have b2 : Below X1.heap.size X1 W := by rw [← hW]; exact (Below.refl _ _).alloc (Nat.le_refl _) _
  have bW : Below w.heap.size w W := b1.trans (b2.mono (by omega))
  have hF0 : BoxF W w.heap.size (.int .i64 0) (.slice none 0 0) := (BoxF.new hX1).below b2
  have hO0 : W.ownsRow (w.heap.size + 1) 3 1 (.slice (some ⟨w.heap.size + 1, 0, none⟩) 0 0) 0 (intsV []) := by
    have h := made_at X1 (w.heap.size + 1) s1 (w.heap.size + 1) (Nat.le_refl _)
    rwa [hW] at h
  have H := Lib.hid (h.below bW)
  have HBA := Lib.hid bW
  have HF0 := Lib.hid hF0
  have HO0 := Lib.hid hO0
  have hWW : (w.alloc (.cells #[.int .i64 0, .slice none 0 0] 25)).alloc (.cells #[] 3) = W := by rw [hX1, hW]
  have HWW := Lib.hid hWW
  have HS2 := Lib.hid s2
  clear h hX1 hW s1 b1 b2 bW hF0 hO0 hWW s2
  go_enter Try.func68, Try.ntmps68
  go_wp2_with fail
  rw [HWW.out]
  refine (pick_any base rb a n cap zs p 5 W H.out (by omega) (by omega) (by omega)).mono ?_
  rintro e w1 ⟨⟨N, rfl, hN⟩, hR1, hB1, hG1⟩
  have hs2 := HS2.out
  have HO1 : Hid (w1.ownsRow (w.heap.size + 1) 3 1 (.slice (some ⟨w.heap.size + 1, 0, none⟩) 0 0) 0 (intsV [])) := Lib.hid (HO0.out.kept hG1 (.inr (by simp [Value.ownBlock]; omega)))
  have HF1 := Lib.hid (HF0.out.grown hG1 (by simp; omega))
  have HR1 := Lib.hid hR1
  have HB1 := Lib.hid ((HBA.out.mono (by omega)).trans hB1)
  have HG1 := Lib.hid ((grownAny_of_below HBA.out (some rb)).trans hG1)
  have hs1 : w.heap.size + 1 < w1.heap.size := by have := hG1.size; omega
  clear hR1 hB1 hG1
  go_wp2_with fail
  go_loopw [3, 5] (fun v i wr => ∃ (k q : Nat) (cs : List Int), k ≤ N ∧ i = .int .i64 (k : Int) ∧ q ≤ p + 1 + k ∧ Hid (cs.length = k ∧ (∀ i, -4 ≤ cs.getD i 0 ∧ cs.getD i 0 ≤ 4) ∧ wr.ownsRow (w.heap.size + 1) 3 1 v k (intsV cs) ∧ BoxF wr w.heap.size (.int .i64 0) (.slice none 0 0) ∧ Rd base wr rb a n cap zs q ∧ Below base w wr ∧ w.grownBy wr (some rb)) ∧ w.heap.size + 1 < wr.heap.size) (fun _ i _ => N - (intOf i).toNat)
  case atStart => exact ⟨0, p + 1, [], Nat.zero_le _, rfl, by omega, Lib.hid ⟨rfl, fun i => by simp, HO1.out, HF1.out, HR1.out, HB1.out, HG1.out⟩, hs1⟩
  case round =>
    obtain ⟨k, q, cs, hk, rfl, hq, HH, hsz⟩ := hrel
    by_cases hlt : k < N
    · have hli : (k : Int) < (N : Int) := by omega
      go_wp2_with fail
      refine (pick_any base rb a n cap zs q 9 wr HH.out.2.2.2.2.1 (by omega) (by omega) (by omega)).mono ?_
      rintro e w4 ⟨⟨z, rfl, hz⟩, hR4, hB4, hG4⟩
      obtain ⟨h1, h2, h3, h4, h5, h6, h7⟩ := HH.out
      have ho4 : w4.ownsRow (w.heap.size + 1) 3 1 u3 k (intsV cs) := h3.kept hG4 (.inr fun e => by have := own_ge h3 rb e; omega)
      have HO4 := Lib.hid (ho4.alloc (.cells #[.int .i64 ((z : Int) - 4)] 3))
      have HOG := Lib.hid (own_ge ho4)
      have HF4 := Lib.hid (h4.grown hG4 (by simp; omega))
      have HR4 := Lib.hid hR4
      have HB4 := Lib.hid (h6.trans hB4)
      have HG4 := Lib.hid (h7.trans hG4)
      have hs4 := hG4.size
      have HL := Lib.hid h1
      have HC := Lib.hid h2
      have e1 : IntKind.i64.wrap ((z : Int) - 4) = (z : Int) - 4 := IntWalk.i64_in _ (by omega)
      have HNB := Lib.hid (World.news_of_block (cs := #[.int .i64 ((z : Int) - 4)]) (t := 3) (fr := (0, 0)) (World.alloc_heap_new w4 (.cells #[.int .i64 ((z : Int) - 4)] 3)))
      clear hR4 hB4 hG4 h1 h2 h3 h4 h5 h6 h7 ho4
      go_wp2_with (at_builtin; refine wpList_append_own _ rfl _ _ 23 rfl (w.heap.size + 1) 3 i0 (.int .i64 0) 1 8 Try.underlying23 hi hz0 hz1 hz2 rfl (by decide) _ k _ rfl HO4.out ⟨w4.heap.size, 0, none⟩ 1 1 [.int .i64 ((z : Int) - 4)] rfl rfl HNB.out (fun u hu => by simp at hu; rcases hu with rfl; rfl) (by unfold maxLen; omega) (by omega) (by simp; omega) ?_; intro v1 w7 hrow hgrow hnil)
      have hB57 : Below (w.heap.size + 1) w4 w7 := ((Below.refl (w.heap.size + 1) w4).alloc (by omega) _).grown hgrow (by simp; omega) (fun j e => HOG.out j e)
      have hs7 := hB57.size
      refine ⟨⟨k + 1, q + 1, cs ++ [(z : Int) - 4], by omega, by go_num, by omega, Lib.hid ⟨by rw [List.length_append, HL.out]; rfl, snoc_small HC.out (by omega), ?_, HF4.out.grown (grownTrans (World.grownBy_alloc w4 _ _) hgrow) (fun e => by have := HOG.out _ e.symm; omega), HR4.out.past hB57 (by omega), HB4.out.trans (hB57.mono (by omega)), HG4.out.past hB57⟩, by omega⟩, by simp [intOf]; omega⟩
      have h := hrow
      unfold intsV at h ⊢
      rw [List.map_append]
      exact h
    · obtain rfl : k = N := by omega
      go_wp2_with fail
      refine (pick_any base rb a n cap zs q 7 wr HH.out.2.2.2.2.1 (by omega) (by omega) (by omega)).mono ?_
      rintro e w4 ⟨⟨z, rfl, hz⟩, hR4, hB4, hG4⟩
      obtain ⟨h1, h2, h3, h4, h5, h6, h7⟩ := HH.out
      have ho4 : w4.ownsRow (w.heap.size + 1) 3 1 u3 k (intsV cs) := h3.kept hG4 (.inr fun e => by have := own_ge h3 rb e; omega)
      have hrow : IntRow (w.heap.size + 1) w4 u3 cs := rowI ho4 h1
      obtain ⟨a6, c6, rfl, hc6, hi6⟩ := hrow.readc (fun z hz => by
        obtain ⟨i, hi, rfl⟩ := List.mem_iff_getElem.1 hz
        have := h2 i
        rw [List.getD_eq_getElem?_getD, List.getElem?_eq_getElem hi] at this
        have : -4 ≤ cs[i] ∧ cs[i] ≤ 4 := this
        omega)
      rw [h1] at hi6 hc6 ⊢
      have HF4 := Lib.hid (h4.grown hG4 (by simp; omega))
      have HR4 := Lib.hid hR4
      have HB4 := Lib.hid (h6.trans hB4)
      have HG4 := Lib.hid (h7.trans hG4)
      have hs4 := hG4.size
      obtain ⟨t1, t2, t3⟩ := tidy_small (low := (z : Int) - 3) (l := cs) (by omega) (by omega) h2
      have e1 : IntKind.i64.wrap ((z : Int) - 3) = (z : Int) - 3 := IntWalk.i64_in _ (by omega)
      have HTI := Lib.hid (l6pTidy_any ((z : Int) - 3) cs a6 c6 k w4 hi6 hc6 (by omega) (by omega) (by omega))
      obtain ⟨Q, hQ⟩ : ∃ Q, tidyP ((z : Int) - 3) cs = Q := ⟨_, rfl⟩
      rw [hQ] at HTI t1 t2 t3
      have HT2 := Lib.hid t2
      have HT3 := Lib.hid t3
      clear hR4 hB4 hG4 h1 h2 h3 h4 h5 h6 h7 ho4 hrow hi6 hQ t2 t3
      go_wp2_with fail
      refine HTI.out.mono ?_
      rintro e w5 ⟨⟨v, rfl, hr5⟩, hb5⟩
      obtain ⟨ql, qc⟩ := Q
      obtain ⟨m, hm⟩ : ∃ m, qc.length = m := ⟨_, rfl⟩
      have hsh := hr5.shape
      obtain ⟨a7, g7, c7, rfl, hg7, _⟩ := hsh
      have hs5 := hb5.size
      rw [show (⟨ql, qc⟩ : Pl).low = ql from rfl, show (⟨ql, qc⟩ : Pl).cs.length = m from hm]
      have hg7 : 0 < m → a7 = some ⟨g7, 0, none⟩ ∧ w4.heap.size ≤ g7 ∧ g7 < w5.heap.size := fun h => hg7 (by show 0 < qc.length; rw [hm]; exact h)
      have hr5 : w5.ownsRow w4.heap.size 3 1 (.slice a7 m c7) m (intsV qc) := by
        have h := hr5
        unfold IntRow at h
        rw [show (⟨ql, qc⟩ : Pl).cs.length = m from hm] at h
        exact h
      obtain ⟨V, hV⟩ : ∃ V, w5.alloc (.cells #[.int .i64 ql, .slice a7 m c7] 25) = V := ⟨_, rfl⟩
      have hbV : Below w5.heap.size w5 V := by rw [← hV]; exact (Below.refl _ _).alloc (Nat.le_refl _) _
      have hb4V : Below w4.heap.size w4 V := hb5.trans (hbV.mono hs5)
      have HBX := Lib.hid (BoxF.new hV)
      have HRW := Lib.hid (rowPast hr5 hbV)
      have HFV := Lib.hid (HF4.out.below hb4V)
      have HRV := Lib.hid (HR4.out.below hb4V)
      have HBV := Lib.hid (HB4.out.trans (hb4V.mono (by omega)))
      have HGV := Lib.hid (HG4.out.trans (grownAny_of_below hb4V _))
      have hsV := hb4V.size
      have hp := HBX.out
      rw [← hV] at hp
      obtain ⟨_, q0, q1, _, _⟩ := hp
      have HV := Lib.hid hV
      have HM := Lib.hid hm
      have hm4 : m ≤ 4 := by rw [← hm]; exact t1
      have hw5 : w5.heap.size < V.heap.size := by rw [← hV]; simp
      clear hr5 hb5 hV hbV hb4V hm t1
      by_cases hm0 : m = 0
      · subst hm0
        have hd : decide ((0 : Int) < ((0 : Nat) : Int)) = false := rfl
        obtain ⟨_, e0, e1, f0, f1⟩ := HFV.out
        have d0 := e0
        have d1 := e1
        rw [← HV.out] at d0 d1 f0 f1
        clear hg7
        go_wp2_with fail
        rw [HV.out]
        clear d0 d1
        refine bodyPost_ret (v := plV ql (.slice a7 0 c7)) ?_ rfl (l92_close (b := w4.heap.size) hrl (rowI HRW.out HM.out) (by omega) hlo (by rw [HM.out]; omega) HT2.out HT3.out HRV.out (by omega) HBV.out HGV.out)
        simp [results, Try.results68, go_sem, e0, e1, plV]
      · have hd : decide ((0 : Int) < (m : Int)) = true := decide_eq_true (by omega)
        have hdi : (0 : Int) < (m : Int) := by omega
        obtain ⟨rfl, hga, hgb⟩ := hg7 (by omega)
        clear hg7
        go_wp2_with fail
        rw [HV.out]
        refine (pick_any base rb a n cap zs (q + 1) 30 V HRV.out (by omega) (by omega) (by omega)).mono ?_
        rintro e w6 ⟨⟨z3, rfl, hz3⟩, hR6, hB6, hG6⟩
        have HBX6 := Lib.hid (HBX.out.grown hG6 (by simp; omega))
        have HF6 := Lib.hid (HFV.out.grown hG6 (by simp; omega))
        have HRW6 := Lib.hid (HRW.out.kept hG6 (.inr fun e => by have := own_ge HRW.out rb e; omega))
        have HR6 := Lib.hid hR6
        have HB6 := Lib.hid (HBV.out.trans hB6)
        have HG6 := Lib.hid (HGV.out.trans hG6)
        have hs6 := hG6.size
        clear hR6 hB6 hG6 q0 q1
        obtain ⟨_, q0, q1, _, _⟩ := HBX6.out
        obtain ⟨_, e0, e1, f0, f1⟩ := HF6.out
        by_cases hz0 : z3 = 0
        · subst hz0
          obtain ⟨zc, hzc⟩ : ∃ z, qc[0]? = some z := by
            have : 0 < qc.length := by rw [HM.out]; omega
            exact ⟨_, List.getElem?_eq_getElem this⟩
          have ec : w6.cell? ⟨g7, 0, none⟩ = some (.int .i64 zc) := by
            rw [HRW6.out.cellAt 0 (by omega)]
            simp [intsV, hzc]
          have ef := HRW6.out.frozenAt 0
          have hst := (HRW6.out.stored 0 (.int .i64 0))
          obtain ⟨U, hU⟩ : ∃ U, w6.setCell ⟨g7, 0, none⟩ (.int .i64 0) = U := ⟨_, rfl⟩
          rw [hU] at hst
          obtain ⟨hs1', hs2'⟩ := hst
          have HRU : Hid (U.ownsRow w4.heap.size 3 1 (.slice (some ⟨g7, 0, none⟩) m c7) m (intsV (qc.set 0 0))) := Lib.hid (by
            have h := hs1'
            unfold intsV at h ⊢
            rw [List.map_set]
            exact h)
          have hbU : Below w4.heap.size w6 U := by rw [← hU]; exact (Below.refl w4.heap.size w6).setCell (p := ⟨g7, 0, none⟩) hga _
          have HFU := Lib.hid (HF6.out.grown hs2' (by simp; omega))
          have HBXU := Lib.hid (HBX6.out.grown hs2' (by simp; omega))
          have HRdU := Lib.hid (HR6.out.past hbU (by omega))
          have HBU := Lib.hid (HB6.out.trans (hbU.mono (by omega)))
          have HGU := Lib.hid (HG6.out.past hbU (by omega))
          obtain ⟨_, x0, x1, _, _⟩ := HBXU.out
          obtain ⟨_, y0, y1, y2, y3⟩ := HFU.out
          have z0 := y0
          have z1 := y1
          rw [← hU] at x0 x1 y0 y1 y2 y3
          have HU := Lib.hid hU
          clear hU hs1' hs2' hbU hzc e0 e1 f0 f1
          go_wp2_with fail
          rw [HU.out]
          clear y0 y1
          refine bodyPost_ret (v := plV ql (.slice (some ⟨g7, 0, none⟩) m c7)) ?_ rfl (l92_close (b := w4.heap.size) hrl (rowI HRU.out (by rw [List.length_set]; exact HM.out)) (by omega) hlo (by rw [List.length_set, HM.out]; omega) HT2.out (set_small HT3.out) HRdU.out (by omega) HBU.out HGU.out)
          simp [results, Try.results68, go_sem, z0, z1, plV]
        · have hzi : ((z3 : Int) == 0) = false := by simpa using hz0
          have hzn : ¬ (z3 : Int) = 0 := by omega
          go_wp2_with fail
          refine bodyPost_ret (v := plV ql (.slice (some ⟨g7, 0, none⟩) m c7)) ?_ rfl (l92_close (b := w4.heap.size) hrl (rowI HRW6.out HM.out) (by omega) hlo (by rw [HM.out]; omega) HT2.out HT3.out HR6.out (by omega) HB6.out HG6.out)
          simp [results, Try.results68, go_sem, e0, e1, plV]

end Go.Proofs.Ytakfobihakbefaa

/- The contracts of the model's draws of two polynomials. -/

namespace Go.Proofs.Ytakfobihakbefaa
open Go.RowKit Go.Shelf

theorem BsAt.more {b1 b2 : Nat} {w : World} {a : Option Addr} {n cap : Nat} {zs : List Int} (h : BsAt b1 w a n cap zs) (hb : b1 ≤ b2) : BsAt b2 w a n cap zs :=
  ⟨h.len, h.fit, fun h0 => by obtain ⟨x, e, hx, hc⟩ := h.at_ h0; exact ⟨x, e, by omega, hc⟩, h.byte⟩
theorem SmallP.others {b B : Nat} {w : World} {low : Int} {v : Value} {zs : List Int} (x y : Value) (h : SmallP b w low v zs) (hB : B < b) : SmallP b ((w.setCell ⟨B, 0, none⟩ x).setCell ⟨B, 1, none⟩ y) low v zs := h.grown (grown_cells w B x y) hB
/-- Two answers' cells. -/
theorem resTwo {w W w1 : World} (hW : (w.alloc (.cells #[.int .i64 0, .slice none 0 0] 25)).alloc (.cells #[.int .i64 0, .slice none 0 0] 25) = W) (hb : Below W.heap.size W w1) :
    BoxF w1 w.heap.size (.int .i64 0) (.slice none 0 0) ∧ BoxF w1 (w.heap.size + 1) (.int .i64 0) (.slice none 0 0) := by
  obtain ⟨X, hX⟩ : ∃ X, w.alloc (.cells #[.int .i64 0, .slice none 0 0] 25) = X := ⟨_, rfl⟩
  rw [hX] at hW
  have hs : X.heap.size = w.heap.size + 1 := by rw [← hX]; simp
  have h2 := BoxF.new hW
  rw [hs] at h2
  have hbX : Below X.heap.size X W := by rw [← hW]; exact (Below.refl _ _).alloc (Nat.le_refl _) _
  exact ⟨((BoxF.new hX).below hbX).below hb, h2.below hb⟩
theorem resTwoBelow {w W : World} (hW : (w.alloc (.cells #[.int .i64 0, .slice none 0 0] 25)).alloc (.cells #[.int .i64 0, .slice none 0 0] 25) = W) : Below w.heap.size w W ∧ W.heap.size = w.heap.size + 2 := by
  subst hW
  exact ⟨((Below.refl _ w).alloc (Nat.le_refl _) _).alloc (by simp) _, by simp⟩
theorem setTwoBelow {b r : Nat} {w w1 : World} (x y u v : Value) (h : Below b w w1) (hb : b ≤ r) : Below b w ((((w1.setCell ⟨r, 0, none⟩ x).setCell ⟨r, 1, none⟩ y).setCell ⟨r + 1, 0, none⟩ u).setCell ⟨r + 1, 1, none⟩ v) :=
  (((h.setCell (p := ⟨r, 0, none⟩) hb x).setCell (p := ⟨r, 1, none⟩) hb y).setCell (p := ⟨r + 1, 0, none⟩) (Nat.le_succ_of_le hb) u).setCell (p := ⟨r + 1, 1, none⟩) (Nat.le_succ_of_le hb) v
/-- What a draw of two polynomials comes to. -/
def TwoP (w : World) (e : Ending) (w' : World) : Prop := (∃ l1 v1 x l2 v2 y, e = .returned (.tuple #[plV l1 v1, plV l2 v2]) ∧ SmallP w.heap.size w' l1 v1 x ∧ SmallP w.heap.size w' l2 v2 y) ∧ Below w.heap.size w w'

end Go.Proofs.Ytakfobihakbefaa

/- The contracts of DrawPolyTimes and DrawPolyOver. -/

namespace Go.Proofs.Ytakfobihakbefaa
open Go.RowKit Go.Shelf

/-- A row of the draw's own. -/
structure AnyP (b : Nat) (w : World) (v : Value) (zs : List Int) : Prop where
  row : IntRow b w v zs
  wf : ∀ z ∈ zs, -9223372036854775808 ≤ z ∧ z ≤ 9223372036854775807
theorem SmallP.any {b : Nat} {w : World} {low : Int} {v : Value} {zs : List Int} (h : SmallP b w low v zs) : AnyP b w v zs := ⟨h.row, fun z hz => by
    obtain ⟨i, hi, rfl⟩ := List.mem_iff_getElem.1 hz
    have := h.cs i
    rw [List.getD_eq_getElem?_getD, List.getElem?_eq_getElem hi] at this
    have : -4 ≤ zs[i] ∧ zs[i] ≤ 4 := this
    omega⟩
theorem AnyP.below {b : Nat} {w w' : World} {v : Value} {zs : List Int} (h : AnyP b w v zs) (hb : Below w.heap.size w w') : AnyP b w' v zs := ⟨rowPast h.row hb, h.wf⟩
theorem AnyP.grown {b B : Nat} {w w' : World} {v : Value} {zs : List Int} (h : AnyP b w v zs) (hg : w.grownBy w' (some B)) (hB : B < b) : AnyP b w' v zs := by
  refine ⟨?_, h.wf⟩
  have hr := h.row
  unfold IntRow at hr ⊢
  refine hr.kept hg ?_
  cases e : v.ownBlock with
  | none => exact .inl rfl
  | some j => exact .inr fun e2 => by have := own_ge hr j e; simp only [Option.some.injEq] at e2; omega
theorem AnyP.others {b B : Nat} {w : World} {v : Value} {zs : List Int} (x y : Value) (h : AnyP b w v zs) (hB : B < b) : AnyP b ((w.setCell ⟨B, 0, none⟩ x).setCell ⟨B, 1, none⟩ y) v zs := h.grown (grown_cells w B x y) hB
theorem AnyP.pin {b : Nat} {w : World} {v : Value} {zs : List Int} (h : AnyP b w v zs) : ∃ a c, v = .slice a zs.length c ∧ PIn w a zs.length c zs := by
  obtain ⟨a, c, rfl, hc, hi⟩ := h.row.readc h.wf
  exact ⟨a, c, rfl, hi, hc⟩
theorem AnyP.pin_at {b m : Nat} {w : World} {a : Option Addr} {c : Nat} {zs : List Int} (h : AnyP b w (.slice a m c) zs) : PIn w a m c zs := by
  obtain ⟨a', c', e, hp⟩ := h.pin
  simp only [Value.slice.injEq] at e
  obtain ⟨rfl, rfl, rfl⟩ := e
  exact hp
/-- What a draw of two polynomials comes to, of whatever size. -/
def TwoAny (w : World) (e : Ending) (w' : World) : Prop := (∃ l1 a1 m1 d1 x l2 a2 m2 d2 y, e = .returned (.tuple #[plV l1 (.slice a1 m1 d1), plV l2 (.slice a2 m2 d2)]) ∧ PIn w' a1 m1 d1 x ∧ PIn w' a2 m2 d2 y) ∧ Below w.heap.size w w'

end Go.Proofs.Ytakfobihakbefaa

/- The contracts of the model's draws of one polynomial, and of DrawPolyAdd. -/

namespace Go.Proofs.Ytakfobihakbefaa
open Go.RowKit Go.Shelf

/-- What a draw of a polynomial comes to. -/
def OneP (w : World) (e : Ending) (w' : World) : Prop := (∃ l v x, e = .returned (plV l v) ∧ SmallP w.heap.size w' l v x) ∧ Below w.heap.size w w'

set_option maxRecDepth 100000 in
set_option maxHeartbeats 2000000 in
theorem drawPolyPlain_any (a : Option Addr) (n cap : Nat) (zs : List Int) (w : World) (h : BsAt w.heap.size w a n cap zs) :
    Calls Try.prog 24 #[.slice a n cap] w (OneP w) := by
  obtain ⟨W, hW⟩ : ∃ W, w.alloc (.cells #[.int .i64 0, .slice none 0 0] 25) = W := ⟨_, rfl⟩
  have hbW : Below w.heap.size w W := by rw [← hW]; exact (Below.refl _ w).alloc (Nat.le_refl _) _
  have hsz : W.heap.size = w.heap.size + 1 := by rw [← hW]; simp
  have HO := Lib.hid (open_any a n cap zs W ((h.below hbW).more hbW.size))
  have HF := Lib.hid (BoxF.new hW)
  have HBW := Lib.hid hbW
  have HW := Lib.hid hW
  have HSZ := Lib.hid hsz
  clear h hW hbW hsz
  go_enter Try.func24, Try.ntmps24
  go_wp2_with fail
  rw [HW.out]
  refine HO.out.mono ?_
  rintro e w1 ⟨n', zs', rfl, hR1, hB1⟩
  have HR1 := Lib.hid hR1
  have HB1 := Lib.hid hB1
  have hr1 := hR1.lt
  clear hR1 hB1
  go_wp2_with fail
  refine (l92Poly_any W.heap.size W.heap.size a n' cap zs' 0 w1 HR1.out (by omega)).mono ?_
  rintro e w2 ⟨⟨l1, v1, x, rfl, hS1⟩, _, hB2, _⟩
  obtain ⟨g1, d1, rfl, hi1⟩ := hS1.pin
  obtain ⟨m1, hm1⟩ : ∃ m, x.length = m := ⟨_, rfl⟩
  rw [hm1] at hS1 ⊢
  have HS1 := Lib.hid hS1
  have HB2 := Lib.hid (HB1.out.trans hB2)
  obtain ⟨_, d0, d1', f0, f1⟩ := HF.out.below HB2.out
  clear hS1 hi1 hm1 hB2
  go_wp2
  have hss := HSZ.out
  refine bodyPost_ret (v := plV l1 (.slice g1 m1 d1)) ?_ rfl ⟨⟨l1, _, x, rfl, (HS1.out.others (B := w.heap.size) _ _ (by omega)).mono (by omega)⟩, resBelow _ _ (HBW.out.trans (HB2.out.mono HBW.out.size))⟩
  simp [results, Try.results24, go_sem, d0, d1', plV]

end Go.Proofs.Ytakfobihakbefaa

/- Products and quotients as functions answer them (mathematics). -/

namespace Go.Proofs.Ytakfobihakbefaa
open Go.RowKit

theorem times_true {a b : Pl} (h : timesPB a b = true) : polyB a = true ∧ polyB b = true ∧ polyB (prodP a b) = true ∧ timesP a b = prodP a b := by
  have h' := h
  unfold timesPB at h
  simp only [Bool.and_eq_true] at h
  refine ⟨h.1, h.2.1, h.2.2, ?_⟩
  unfold timesP
  rw [h']
  rfl
theorem times_comm (a b : Pl) : timesPB b a = timesPB a b ∧ timesP b a = timesP a b := by
  have e : timesPB b a = timesPB a b := by
    unfold timesPB
    rw [prod_comm b a]
    cases polyB a <;> cases polyB b <;> rfl
  refine ⟨e, ?_⟩
  unfold timesP
  rw [e, prod_comm b a]
theorem over_times {a b : Pl} (h : timesPB a b = true) (h0 : 0 < b.cs.length) (hxa : ∀ i, -4 ≤ a.cs.getD i 0 ∧ a.cs.getD i 0 ≤ 4) (hxb : ∀ i, -4 ≤ b.cs.getD i 0 ∧ b.cs.getD i 0 ≤ 4) (hl : a.cs.length ≤ 1000) : dividedB (timesP a b) b = true ∧ dividedP (timesP a b) b = a := by
  obtain ⟨h1, h2, h3, h4⟩ := times_true h
  rw [h4]
  have e := over_prod (polyB_trim h1).1 (polyB_trim h2).1 h0 hxa hxb hl
  obtain ⟨e1, e2⟩ := over_some e
  have hb : dividedB (prodP a b) b = true := by
    unfold dividedB
    rw [h3, h2, decide_eq_true h0, e1, h1]
    rfl
  refine ⟨hb, ?_⟩
  rw [(divided_over hb h3 h2 h0).2, e2, h1]
  rfl
theorem times_over {a b : Pl} (h : dividedB a b = true) : timesPB (dividedP a b) b = true ∧ timesP (dividedP a b) b = a := by
  have h' := h
  unfold dividedB at h
  simp only [Bool.and_eq_true, decide_eq_true_eq] at h
  obtain ⟨h1, h2, h0, h3⟩ := h
  have hp : dividedP a b = overP a b := (divided_over h' h1 h2 h0).2
  cases e : overQ a b with
  | none => rw [(over_none e).1] at h3; exact absurd h3 (by decide)
  | some p =>
    obtain ⟨e1, e2⟩ := over_some e
    rw [e1] at h3
    have ep : dividedP a b = p := by rw [hp, e2, h3]; rfl
    have hm := over_back (polyB_trim h1).1 h0 e
    rw [ep]
    have hb : timesPB p b = true := by
      unfold timesPB
      rw [h3, h2, hm, h1]
      rfl
    exact ⟨hb, by rw [(times_true hb).2.2.2, hm]⟩

end Go.Proofs.Ytakfobihakbefaa

/- Values at 1; turned, plain ones and sums again (mathematics). -/

namespace Go.Proofs.Ytakfobihakbefaa
open Go.RowKit

/-- The value with 1 in the place of t. -/
def valP (p : Pl) : Int := oneP p.cs p.cs.length
theorem oneP_sumN (l : List Int) : ∀ k, oneP l k = sumN (fun i => l.getD i 0) k
  | 0 => rfl
  | k + 1 => by rw [oneP, sumN, oneP_sumN l k]
theorem sumN_split (f : Nat → Int) (a : Nat) : ∀ b, sumN f (a + b) = sumN f a + sumN (fun i => f (a + i)) b
  | 0 => by rw [Nat.add_zero, sumN, Int.add_zero]
  | b + 1 => by rw [← Nat.add_assoc, sumN, sumN, sumN_split f a b]; omega
/-- A window that holds all coefficients. -/
theorem val_window (p : Pl) {lo : Int} {n : Nat} (h1 : lo ≤ p.low) (h2 : p.low + p.cs.length ≤ lo + n) : sumN (fun i => pat p (lo + (i : Int))) n = valP p := by
  obtain ⟨a, ha⟩ : ∃ a : Nat, p.low = lo + (a : Int) := ⟨(p.low - lo).toNat, by omega⟩
  obtain ⟨b, hb⟩ : ∃ b : Nat, n = a + b := ⟨n - a, by omega⟩
  subst hb
  rw [sumN_split, sumN_none fun i hi => pat_low p (by omega), Int.zero_add, sumN_cut (m := p.cs.length) (by omega) fun i h3 _ => pat_high p (by omega)]
  unfold valP
  rw [oneP_sumN]
  refine sumN_congr fun i _ => ?_
  rw [show lo + ((a + i : Nat) : Int) = p.low + (i : Int) by omega, pat_at]
theorem val_pat {p q : Pl} (h : ∀ k, pat p k = pat q k) : valP p = valP q := by
  obtain ⟨lo, h1, h2⟩ : ∃ lo : Int, lo ≤ p.low ∧ lo ≤ q.low := ⟨if p.low ≤ q.low then p.low else q.low, by split <;> omega, by split <;> omega⟩
  obtain ⟨n, h3, h4⟩ : ∃ n : Nat, p.low + p.cs.length ≤ lo + n ∧ q.low + q.cs.length ≤ lo + n := ⟨(p.low - lo).toNat + (q.low - lo).toNat + p.cs.length + q.cs.length, by omega, by omega⟩
  rw [← val_window p h1 h3, ← val_window q h2 h4]
  exact sumN_congr fun i _ => h _
theorem val_tidy (low : Int) (l : List Int) : valP (tidyP low l) = oneP l l.length := val_pat (q := ⟨low, l⟩) fun k => tidy_pat low l k
theorem val_sum (a b : Pl) : valP (sumP a 1 b) = valP a + valP b := by
  obtain ⟨lo, h1, h2, h5⟩ : ∃ lo : Int, lo ≤ a.low ∧ lo ≤ b.low ∧ lo ≤ (sumP a 1 b).low := ⟨-(a.low.natAbs : Int) - b.low.natAbs - (sumP a 1 b).low.natAbs, by omega, by omega, by omega⟩
  obtain ⟨n, h3, h4, h6⟩ : ∃ n : Nat, a.low + a.cs.length ≤ lo + n ∧ b.low + b.cs.length ≤ lo + n ∧ (sumP a 1 b).low + (sumP a 1 b).cs.length ≤ lo + n := ⟨(a.low - lo).toNat + (b.low - lo).toNat + ((sumP a 1 b).low - lo).toNat + a.cs.length + b.cs.length + (sumP a 1 b).cs.length, by omega, by omega, by omega⟩
  rw [← val_window a h1 h3, ← val_window b h2 h4, ← val_window _ h5 h6, ← sumN_add]
  refine sumN_congr fun i _ => ?_
  rw [sum_pat, Int.one_mul]
theorem val_prod (a b : Pl) : valP (prodP a b) = valP a * valP b := by
  obtain ⟨lo, h1, h2⟩ : ∃ lo : Int, lo ≤ (prodP a b).low ∧ lo ≤ a.low + b.low := ⟨-((prodP a b).low.natAbs : Int) - (a.low + b.low).natAbs, by omega, by omega⟩
  obtain ⟨n, h3, h4⟩ : ∃ n : Nat, (prodP a b).low + (prodP a b).cs.length ≤ lo + n ∧ a.low + b.low + a.cs.length + b.cs.length ≤ lo + n := ⟨((prodP a b).low - lo).toNat + (a.low + b.low - lo).toNat + (prodP a b).cs.length + a.cs.length + b.cs.length, by omega, by omega⟩
  rw [← val_window _ h1 h3]
  have e1 : sumN (fun i => pat (prodP a b) (lo + (i : Int))) n = sumN (fun i => sumN (fun m => a.cs.getD m 0 * pat b (lo + (i : Int) - (a.low + (m : Int)))) a.cs.length) n := sumN_congr fun i _ => prod_pat a b _
  rw [e1, sumN_swap]
  have e2 : sumN (fun m => sumN (fun i => a.cs.getD m 0 * pat b (lo + (i : Int) - (a.low + (m : Int)))) n) a.cs.length = sumN (fun m => valP b * a.cs.getD m 0) a.cs.length := sumN_congr fun m hm => by
    rw [sumN_mul, Int.mul_comm (valP b)]
    congr 1
    rw [← val_window b (lo := lo - (a.low + (m : Int))) (n := n) (by omega) (by omega)]
    exact sumN_congr fun i _ => by rw [show lo + (i : Int) - (a.low + (m : Int)) = lo - (a.low + (m : Int)) + (i : Int) by omega]
  rw [e2, sumN_mul, Int.mul_comm]
  congr 1
  unfold valP
  rw [oneP_sumN]
theorem oneP_far (l : List Int) : ∀ m, oneP l (l.length + m) = oneP l l.length
  | 0 => rfl
  | m + 1 => by rw [← Nat.add_assoc, oneP, oneP_far l m, getD_far (by omega), Int.add_zero]
theorem sumN_back (f : Nat → Int) : ∀ n, sumN (fun i => f (n - 1 - i)) n = sumN f n
  | 0 => rfl
  | n + 1 => by
    have h := sumN_split (fun i => f (n + 1 - 1 - i)) 1 n
    rw [Nat.add_comm 1 n] at h
    rw [h, sumN, sumN, sumN, ← sumN_back f n, Int.zero_add, show n + 1 - 1 - 0 = n by omega, Int.add_comm]
    congr 1
    exact sumN_congr fun i _ => by rw [show n + 1 - 1 - (1 + i) = n - 1 - i by omega]
theorem val_turn (a : Pl) : valP (turnP a) = valP a := by
  unfold turnP
  rw [val_tidy, List.length_reverse, oneP_sumN]
  unfold valP
  rw [oneP_sumN, ← sumN_back (fun i => a.cs.getD i 0)]
  refine sumN_congr fun i hi => ?_
  rw [List.getD_eq_getElem?_getD, List.getElem?_reverse hi, ← List.getD_eq_getElem?_getD]
theorem turnP_turnP {a : Pl} (h : Trim a) : turnP (turnP a) = a := trim_unique (tidy_trim _ _) h fun k => by rw [turn_pat, turn_pat, Int.neg_neg]
theorem val_bound {p : Pl} (h : polyB p = true) : -200000000000 ≤ valP p ∧ valP p ≤ 200000000000 := by
  obtain ⟨_, h1, _, _, h2⟩ := polyB_trim h
  have := oneP_bound (l := p.cs) h2 p.cs.length
  unfold valP
  omega
theorem turned_true {a : Pl} (h : turnedPB a = true) : polyB a = true ∧ turnedP a = turnP a ∧ polyB (turnP a) = true ∧ turnedPB (turnP a) = true ∧ turnedP (turnP a) = a := by
  have h' := h
  unfold turnedPB at h
  simp only [Bool.and_eq_true] at h
  have e : turnedPB (turnP a) = true := by
    unfold turnedPB
    rw [h.2, turnP_turnP (polyB_trim h.1).1, h.1]
    rfl
  refine ⟨h.1, ?_, h.2, e, ?_⟩
  · unfold turnedP; rw [h']; rfl
  · unfold turnedP; rw [e, turnP_turnP (polyB_trim h.1).1]; rfl
theorem sum_comm {a b : Pl} (ha : Trim a) (hb : Trim b) : sumP b 1 a = sumP a 1 b := trim_unique (sum_trim _ _ hb) (sum_trim _ _ ha) fun k => by rw [sum_pat, sum_pat]; omega
theorem add_true {a b : Pl} (h : addPB a b = true) : polyB a = true ∧ polyB b = true ∧ polyB (sumP a 1 b) = true ∧ addP a b = sumP a 1 b ∧ addPB b a = true ∧ addP b a = sumP a 1 b := by
  have h' := h
  unfold addPB at h
  simp only [Bool.and_eq_true] at h
  have e : addPB b a = true := by
    unfold addPB
    rw [h.1, h.2.1, sum_comm (polyB_trim h.1).1 (polyB_trim h.2.1).1, h.2.2]
    rfl
  refine ⟨h.1, h.2.1, h.2.2, ?_, e, ?_⟩
  · unfold addP; rw [h']; rfl
  · unfold addP; rw [e, sum_comm (polyB_trim h.1).1 (polyB_trim h.2.1).1]; rfl
theorem plain_some {b : Pl} (h : ¬ b.cs.length = 0) : plainP b = ⟨0, b.cs.map fun z => (if b.cs.getD 0 0 < 0 then -1 else 1) * z⟩ := by unfold plainP; rw [if_neg h]
theorem plain_plain (a : Pl) : plainP (plainP a) = plainP a := by
  by_cases h0 : a.cs.length = 0
  · have e : plainP a = a := by unfold plainP; rw [if_pos h0]
    rw [e, e]
  · have hlen : (plainP a).cs.length = a.cs.length := plain_len a
    have hlow : (plainP a).low = 0 := plain_low (by omega)
    have e : (plainP a).cs = a.cs.map fun z => (if a.cs.getD 0 0 < 0 then -1 else 1) * z := by unfold plainP; rw [if_neg h0]
    have hz : (plainP a).cs.getD 0 0 = (if a.cs.getD 0 0 < 0 then -1 else 1) * a.cs.getD 0 0 := by
      rw [e, List.getD_eq_getElem?_getD, List.getElem?_map, List.getElem?_eq_getElem (by omega), List.getD_eq_getElem?_getD, List.getElem?_eq_getElem (by omega)]
      rfl
    have hn : ¬ (plainP a).cs.getD 0 0 < 0 := by
      rw [hz]
      split <;> omega
    have e2 : plainP (plainP a) = ⟨0, (plainP a).cs.map fun z => (if (plainP a).cs.getD 0 0 < 0 then -1 else 1) * z⟩ := plain_some (by rw [hlen]; exact h0)
    rw [e2, if_neg hn]
    have e3 : ((plainP a).cs.map fun z => 1 * z) = (plainP a).cs := by
      rw [show (fun z : Int => 1 * z) = id from funext fun z => Int.one_mul z, List.map_id]
    rw [e3]
    show (⟨0, (plainP a).cs⟩ : Pl) = plainP a
    rw [← hlow]

end Go.Proofs.Ytakfobihakbefaa

/- Polynomials of sums (mathematics). -/

namespace Go.Proofs.Ytakfobihakbefaa
open Go.RowKit

/-- The power of t that belongs to a word. -/
def pwL : List UInt8 → Int
  | [] => 0
  | c :: r => sgnB c + pwL r
theorem pwL_snoc (l : List UInt8) (c : UInt8) : pwL (l ++ [c]) = pwL l + sgnB c := by
  induction l with
  | nil => simp [pwL]
  | cons x r ih => rw [List.cons_append, pwL, pwL, ih]; omega
theorem sgnB_bound (c : UInt8) : -1 ≤ sgnB c ∧ sgnB c ≤ 1 := by unfold sgnB; split <;> omega
theorem pwL_bound : ∀ l : List UInt8, -(l.length : Int) ≤ pwL l ∧ pwL l ≤ (l.length : Int)
  | [] => by simp [pwL]
  | c :: r => by
    have h1 := pwL_bound r
    have h2 := sgnB_bound c
    rw [pwL, List.length_cons]
    omega
def four (z : List Int) : Int := z.getD 0 0 + z.getD 1 0 + z.getD 2 0 + z.getD 3 0
theorem four_step (z : List Int) (c : UInt8) (hz : z.length = 4) (hc : idxB c < 4) : four (sumsStep z c) = four z + sgnB c := by
  obtain ⟨j, hj⟩ : ∃ j, idxB c = j := ⟨_, rfl⟩
  obtain ⟨u, hu⟩ : ∃ u, sgnB c = u := ⟨_, rfl⟩
  unfold sumsStep
  rw [hj] at hc
  rw [hj, hu]
  match z, hz with
  | [z0, z1, z2, z3], _ =>
    have : j = 0 ∨ j = 1 ∨ j = 2 ∨ j = 3 := by omega
    rcases this with rfl | rfl | rfl | rfl <;> simp [four] <;> omega
theorem sums_power (l : List UInt8) (hl : letL l = true) : four (sumsL l) = pwL l := by
  have key : ∀ (n : Nat) (l : List UInt8), l.length = n → letL l = true → four (sumsL l) = pwL l := by
    intro n
    induction n with
    | zero =>
      intro l hl _
      obtain rfl := List.length_eq_zero_iff.1 hl
      rfl
    | succ n ih =>
      intro l hl hlet
      obtain ⟨p, c, rfl⟩ := last_split l (by omega)
      rw [letL_append, Bool.and_eq_true] at hlet
      have hp : p.length = n := by simp at hl; omega
      have hc : letB c = true := by
        have h := hlet.2
        unfold letL at h
        simpa using h
      rw [sumsL_snoc, pwL_snoc, four_step _ _ (sumsL_inv p hlet.1).1 (idxB_lt c hc), ih p hp hlet.1]
  exact key l.length l rfl hl

def pwT (t : Tm) : Int := pwL t.s.data.toList
/-- The coefficients of a list of terms. -/
def ofF : List Tm → Int → Int
  | [], _ => 0
  | t :: r, z => pat ⟨pwT t, [t.c]⟩ z + ofF r z
theorem ofF_snoc (l : List Tm) (t : Tm) (z : Int) : ofF (l ++ [t]) z = ofF l z + pat ⟨pwT t, [t.c]⟩ z := by
  induction l with
  | nil => simp [ofF]
  | cons x r ih => rw [List.cons_append, ofF, ofF, ih]; omega
theorem pat_one (low c z : Int) : pat ⟨low, [c]⟩ z = if z = low then c else 0 := by
  by_cases h : z = low
  · subst h
    have e := pat_at ⟨z, [c]⟩ 0
    rw [if_pos rfl]
    simpa using e
  · rw [if_neg h]
    by_cases h2 : z < low
    · exact pat_low _ h2
    · exact pat_high _ (by show low + ((1 : Nat) : Int) ≤ z; omega)
theorem pat_many (low c z : Int) : c * pat ⟨low, [1]⟩ z = pat ⟨low, [c]⟩ z := by
  rw [pat_one, pat_one]
  split
  · exact Int.mul_one c
  · exact Int.mul_zero c
/-- The sum of the powers, term for term. -/
def sumsP (ts : List Tm) : Pl := ts.foldl (fun p t => sumP p t.c ⟨pwT t, [1]⟩) ⟨0, []⟩
theorem sumsP_snoc (l : List Tm) (t : Tm) : sumsP (l ++ [t]) = sumP (sumsP l) t.c ⟨pwT t, [1]⟩ := by
  unfold sumsP
  rw [List.foldl_append]
  rfl
theorem sumsP_succ (x : List Tm) (k : Nat) (h : k < x.length) : sumsP (x.take (k + 1)) = sumP (sumsP (x.take k)) x[k].c ⟨pwT x[k], [1]⟩ := by
  rw [List.take_succ_eq_append_getElem h, sumsP_snoc]
theorem ofF_succ (x : List Tm) (k : Nat) (h : k < x.length) (z : Int) : ofF (x.take (k + 1)) z = ofF (x.take k) z + pat ⟨pwT x[k], [x[k].c]⟩ z := by
  rw [List.take_succ_eq_append_getElem h, ofF_snoc]
theorem sumsP_trim (x : List Tm) : ∀ k, k ≤ x.length → Trim (sumsP (x.take k))
  | 0, _ => .inl ⟨rfl, rfl⟩
  | k + 1, h => by
    rw [sumsP_succ x k h]
    exact sum_trim _ _ (sumsP_trim x k (by omega))
theorem sumsP_pat (x : List Tm) (z : Int) : ∀ k, k ≤ x.length → pat (sumsP (x.take k)) z = ofF (x.take k) z
  | 0, _ => pat_nil _ _
  | k + 1, h => by
    rw [sumsP_succ x k h, ofF_succ x k h, sum_pat, sumsP_pat x z k (by omega), pat_many]
theorem ofF_bound (x : List Tm) (hx : ∀ t ∈ x, -1000000 ≤ t.c ∧ t.c ≤ 1000000) (z : Int) : ∀ k : Nat, k ≤ x.length → -1000000 * (k : Int) ≤ ofF (x.take k) z ∧ ofF (x.take k) z ≤ 1000000 * (k : Int)
  | 0, _ => by simp [ofF]
  | k + 1, h => by
    have h1 := ofF_bound x hx z k (by omega)
    have h2 := hx x[k] (List.getElem_mem _)
    rw [ofF_succ x k h, pat_one]
    split <;> omega
theorem ofF_out (x : List Tm) (hx : ∀ t ∈ x, t.s.size ≤ 60) (z : Int) (hz : z < -60 ∨ 60 < z) : ∀ k : Nat, k ≤ x.length → ofF (x.take k) z = 0
  | 0, _ => rfl
  | k + 1, h => by
    have h1 := ofF_out x hx z hz k (by omega)
    have h2 := hx x[k] (List.getElem_mem _)
    have h3 := pwL_bound x[k].s.data.toList
    rw [show x[k].s.data.toList.length = x[k].s.size by simp] at h3
    rw [ofF_succ x k h, h1, pat_one, if_neg (by unfold pwT; omega)]
    rfl
/-- What a trimmed polynomial's powers and coefficients lie between. -/
theorem trim_within {p : Pl} {a b M : Int} (h : Trim p) (hab : a ≤ 0 ∧ 0 ≤ b) (_ : 0 ≤ M) (h0 : ∀ z, z < a ∨ b < z → pat p z = 0) (hm : ∀ z, -M ≤ pat p z ∧ pat p z ≤ M) :
    a ≤ p.low ∧ p.low ≤ b ∧ (p.cs.length : Int) ≤ b - a + 1 ∧ ∀ i, -M ≤ p.cs.getD i 0 ∧ p.cs.getD i 0 ≤ M := by
  have hc : ∀ i, -M ≤ p.cs.getD i 0 ∧ p.cs.getD i 0 ≤ M := fun i => by
    rw [← pat_at p i]
    exact hm _
  rcases h with ⟨h1, h2⟩ | ⟨h1, h2, h3⟩
  · rw [h1, h2]
    refine ⟨hab.1, hab.2, by simp; omega, ?_⟩
    rw [h1] at hc
    exact hc
  · have hl := List.length_pos_iff.2 h1
    have e1 := pat_at p 0
    have e2 := pat_at p (p.cs.length - 1)
    have c1 : ¬ (p.low + ((0 : Nat) : Int) < a ∨ b < p.low + ((0 : Nat) : Int)) := fun h => h2 (by rw [← e1]; exact h0 _ h)
    have c2 : ¬ (p.low + ((p.cs.length - 1 : Nat) : Int) < a ∨ b < p.low + ((p.cs.length - 1 : Nat) : Int)) := fun h => h3 (by rw [← e2]; exact h0 _ h)
    exact ⟨by omega, by omega, by omega, hc⟩
theorem sumsP_in (x : List Tm) (h1 : ∀ t ∈ x, -1000000 ≤ t.c ∧ t.c ≤ 1000000) (h2 : ∀ t ∈ x, t.s.size ≤ 60) (hl : x.length ≤ 300) (k : Nat) (hk : k ≤ x.length) :
    -60 ≤ (sumsP (x.take k)).low ∧ (sumsP (x.take k)).low ≤ 60 ∧ ((sumsP (x.take k)).cs.length : Int) ≤ 121 ∧ ∀ i, -300000000 ≤ (sumsP (x.take k)).cs.getD i 0 ∧ (sumsP (x.take k)).cs.getD i 0 ≤ 300000000 :=
  trim_within (p := sumsP (x.take k)) (a := -60) (b := 60) (M := 300000000) (sumsP_trim x k hk) (by omega) (by omega)
    (fun z hz => by rw [sumsP_pat x z k hk]; exact ofF_out x h2 z hz k hk)
    (fun z => by rw [sumsP_pat x z k hk]; have := ofF_bound x h1 z k hk; omega)
theorem sumsP_all (x : List Tm) : sumsP (x.take x.length) = sumsP x := by rw [List.take_length]

def ofSumB (ts : List Tm) : Bool := sumB ts && polyB (sumsP ts)
def ofSumP (ts : List Tm) : Pl := doneP (ofSumB ts) (sumsP ts)
theorem ofSum_len {ts : List Tm} {b : Bool} {p : Pl} (_ : ofSumB ts = b) (hp : ofSumP ts = p) : p.cs.length ≤ 200 := by
  unfold ofSumP at hp
  refine doneP_len (fun h => ?_) hp
  unfold ofSumB at h
  simp only [Bool.and_eq_true] at h
  exact h.2
theorem ofSum_fit {w : World} {a : Option Addr} {n : Nat} {ts : List Tm} {b : Bool} {p : Pl} (_ : IsTerms w a n ts) (hb : ofSumB ts = b) (hp : ofSumP ts = p) : p.cs.length ≤ 200 := ofSum_len hb hp

end Go.Proofs.Ytakfobihakbefaa

/- The program's power of a word. -/

namespace Go.Proofs.Ytakfobihakbefaa
open Go.RowKit Go.Shelf

attribute [local go_sem] Oper.semAt_some

end Go.Proofs.Ytakfobihakbefaa

/- The program's PolyOfSum. -/

namespace Go.Proofs.Ytakfobihakbefaa
open Go.RowKit

/-- A row of words, those of the terms. -/
def WordRow (w : World) (g : Nat) (ts : List Tm) : Prop :=
  g < w.heap.size ∧ ∀ j (h : j < ts.length), ∃ gw cap, w.cell? ⟨g, j, none⟩ = some (.slice (some ⟨gw, 0, none⟩) ts[j].s.size cap) ∧ IsWord w.heap.size w (.slice (some ⟨gw, 0, none⟩) ts[j].s.size cap) ts[j].s.data.toList
theorem WordRow.below {w w' : World} {g : Nat} {ts : List Tm} (h : WordRow w g ts) (hb : Below w.heap.size w w') : WordRow w' g ts :=
  ⟨Nat.lt_of_lt_of_le h.1 hb.size, fun j hj => by
    obtain ⟨gw, cap, h1, h2⟩ := h.2 j hj
    exact ⟨gw, cap, (hb.cell (p := ⟨g, j, none⟩) h.1).trans h1, (h2.below hb).mono hb.size⟩⟩
theorem tm_word {t : Tm} (h : termB t = true) : wordB t.s.data.toList = true ∧ t.s.size ≤ 60 ∧ -1000000 ≤ t.c ∧ t.c ≤ 1000000 := by
  unfold termB inR at h
  simp only [Bool.and_eq_true, decide_eq_true_eq] at h
  exact ⟨h.1, by have := ((wordB_iff _).1 h.1).1; simpa using this, h.2⟩

/-- An int that was laid in a block of its own. -/
def OneI (w : World) (j : Nat) (c : Int) : Prop := w.heap[j]? = some (.cells #[.int .i64 c] 3 (0, 0))
theorem OneI.new (w : World) (c : Int) : OneI (w.alloc (.cells #[.int .i64 c] 3)) w.heap.size c := World.alloc_heap_new w _
theorem OneI.below {w w' : World} {j : Nat} {c : Int} (h : OneI w j c) (hb : Below w.heap.size w w') : OneI w' j c :=
  (hb.block j (Array.getElem?_eq_some_iff.1 h).1).trans h
theorem OneI.of {w w' : World} {c : Int} (hb : Below (w.alloc (.cells #[.int .i64 c] 3)).heap.size (w.alloc (.cells #[.int .i64 c] 3)) w') : OneI w' w.heap.size c := (OneI.new w c).below hb
theorem OneI.ints {w : World} {j : Nat} {c : Int} (h : OneI w j c) (hc : -9223372036854775808 ≤ c ∧ c ≤ 9223372036854775807) : Ints w (some ⟨j, 0, none⟩) 1 [c] :=
  ⟨rfl, by unfold maxLen; omega, fun _ => ⟨_, rfl, (Array.getElem?_eq_some_iff.1 h).1, fun i hi => by
    have : i = 0 := by simpa using hi
    subst this
    rw [show (⟨j, 0, none⟩ : Addr).add 0 = ⟨j, 0, none⟩ by unfold Addr.add; simp]
    simp [World.cell?, show w.heap[j]? = _ from h]⟩, fun z hz => by rw [List.mem_singleton.1 hz]; exact hc⟩

end Go.Proofs.Ytakfobihakbefaa

/- Products share sums; polynomials times 1; plain ones are alike (mathematics). -/

namespace Go.Proofs.Ytakfobihakbefaa
open Go.RowKit

theorem mulF_one {a : Pl} (h : Trim a) (k : Int) : mulF a ⟨0, [1]⟩ k = pat a k := by rw [← prod_pat, prod_one h]
theorem shares {a b : Pl} (ha : Trim a) : prodP a (sumP b 1 ⟨0, [1]⟩) = sumP (prodP a b) 1 a := trim_unique (prod_trim _ _) (sum_trim _ _ (prod_trim _ _)) fun k => by
  rw [prod_pat, mulF_sum (b := b) (c := ⟨0, [1]⟩) (n := 1) (fun k => sum_pat b 1 ⟨0, [1]⟩ k), mulF_one ha, sum_pat, prod_pat]
theorem shares_all {a b m x y : Pl} (h : timesPB a b = true) (hm : addPB b ⟨0, [1]⟩ = true) (em : addP b ⟨0, [1]⟩ = m) (hx : timesPB a m = true) (ex : timesP a m = x) (hy : addPB (timesP a b) a = true) (ey : addP (timesP a b) a = y) : x = y := by
  have e1 := (add_true hm).2.2.2.1
  have e2 := (times_true hx).2.2.2
  have e3 := (add_true hy).2.2.2.1
  have e4 := times_true h
  rw [← ex, ← ey, e2, e3, ← em, e1, e4.2.2.2]
  exact shares (polyB_trim e4.1).1
theorem poly_one_is : polyB ⟨0, [1]⟩ = true := by decide
theorem times_one {a : Pl} (h : polyB a = true) : timesPB a ⟨0, [1]⟩ = true ∧ timesP a ⟨0, [1]⟩ = a := by
  have e := prod_one (polyB_trim h).1
  have hb : timesPB a ⟨0, [1]⟩ = true := by
    unfold timesPB
    rw [h, poly_one_is, e, h]
    rfl
  exact ⟨hb, by rw [(times_true hb).2.2.2, e]⟩
theorem of_itself {l : Int} {x : List Int} (h : polyB ⟨l, x⟩ = true) : polyOfB l x = true ∧ polyOfP l x = ⟨l, x⟩ := by
  obtain ⟨hT, h1, h2, h3, _⟩ := polyB_trim h
  have e : tidyP l x = ⟨l, x⟩ := tidy_self hT
  have hb : polyOfB l x = true := by
    unfold polyOfB inR
    rw [e, h, decide_eq_true h2, decide_eq_true h3, decide_eq_true h1]
    rfl
  refine ⟨hb, ?_⟩
  unfold polyOfP
  rw [hb, e]
  rfl
theorem alike_comm (a b : Pl) : alikeB b a = alikeB a b := by
  unfold alikeB
  rw [show decide ((plainP b).cs = (plainP a).cs) = decide ((plainP a).cs = (plainP b).cs) from decide_eq_decide.2 ⟨Eq.symm, Eq.symm⟩]
  cases polyB a <;> cases polyB b <;> rfl
theorem alike_len {a b : Pl} (h : alikeB a b = true) : a.cs.length = b.cs.length := by
  unfold alikeB at h
  simp only [Bool.and_eq_true, decide_eq_true_eq] at h
  rw [← plain_len a, ← plain_len b, h.2.2]
theorem plained_true {a : Pl} (h : polyB a = true) : plainedP a = plainP a ∧ polyB (plainP a) = true ∧ plainedP (plainP a) = plainP a ∧ alikeB a (plainP a) = true := by
  have h1 := plain_polyB h
  refine ⟨by unfold plainedP; rw [h]; rfl, h1, by unfold plainedP; rw [h1, plain_plain]; rfl, ?_⟩
  unfold alikeB
  rw [h, h1, plain_plain, decide_eq_true rfl]
  rfl
theorem plain_first {a : Pl} (h : polyB a = true) (h0 : 0 < (plainP a).cs.length) : (plainP a).low = 0 ∧ 0 < (plainP a).cs.getD 0 0 := by
  rw [plain_len] at h0
  obtain ⟨z0, _⟩ := trim_nonzero (polyB_trim h).1 h0
  refine ⟨plain_low h0, ?_⟩
  rw [plain_some (by omega)]
  show 0 < (a.cs.map fun z => (if a.cs.getD 0 0 < 0 then -1 else 1) * z).getD 0 0
  rw [List.getD_eq_getElem?_getD, List.getElem?_map]
  have e : a.cs[0]? = some (a.cs.getD 0 0) := by rw [List.getD_eq_getElem?_getD, List.getElem?_eq_getElem h0]; rfl
  rw [e]
  show 0 < (if a.cs.getD 0 0 < 0 then -1 else 1) * a.cs.getD 0 0
  split <;> omega

end Go.Proofs.Ytakfobihakbefaa

/- Rows of a call's own when other blocks turn. -/

namespace Go.Proofs.Ytakfobihakbefaa
open Go.RowKit

theorem ownsRow_touched {w w' : World} {base : Nat} {e : TypeId} {size : Nat} {v : Value} {n : Nat} {xs : List Value} (h : w.ownsRow base e size v n xs) (ht : ∀ b, v.ownBlock = some b → b < w.heap.size → w'.heap[b]? = w.heap[b]?) : w'.ownsRow base e size v n xs := by
  refine ⟨h.1, ?_⟩
  rcases h.2 with ⟨rfl, h0⟩ | ⟨g, cap, cur, rfl, hb, hg, h3⟩
  · exact .inl ⟨rfl, h0⟩
  · exact .inr ⟨g, cap, cur, rfl, hb, (ht g rfl (Array.getElem?_eq_some_iff.1 hg).1).trans hg, h3⟩
/-- What lies elsewhere is as it was. -/
structure Touched (S : Nat → Prop) (w w' : World) : Prop where
  os : w'.os = w.os
  tape : w'.tape = w.tape
  output : w'.output = w.output
  size : w.heap.size ≤ w'.heap.size
  block : ∀ i, i < w.heap.size → ¬ S i → w'.heap[i]? = w.heap[i]?
theorem Touched.refl (S : Nat → Prop) (w : World) : Touched S w w := ⟨rfl, rfl, rfl, Nat.le_refl _, fun _ _ _ => rfl⟩
theorem Touched.grown {S : Nat → Prop} {w w1 w2 : World} {row : Option Nat} (h : Touched S w w1) (hg : w1.grownBy w2 row) (hS : ∀ b, row = some b → S b) : Touched S w w2 :=
  ⟨hg.os.trans h.os, hg.tape.trans h.tape, hg.output.trans h.output, Nat.le_trans h.size hg.size, fun i hi hn => by
    rw [hg.block i (Nat.lt_of_lt_of_le hi h.size) (fun e => hn (hS i e.symm)), h.block i hi hn]⟩
theorem Touched.below {S : Nat → Prop} {lo : Nat} {w w' : World} (h : Touched S w w') (hl : lo ≤ w.heap.size) (hS : ∀ i, S i → lo ≤ i) : Below lo w w' :=
  ⟨h.os, h.tape, h.output, h.size, fun i hi => h.block i (by omega) fun hs => by have := hS i hs; omega⟩
theorem ownsRow_bel {w w' : World} {base : Nat} {e : TypeId} {size : Nat} {v : Value} {n : Nat} {xs : List Value} (h : w.ownsRow base e size v n xs) (hb : Below w.heap.size w w') : w'.ownsRow base e size v n xs :=
  ownsRow_touched h fun b _ hl => hb.block b hl
theorem ownsRow_lt {w : World} {base size : Nat} {e : TypeId} {v : Value} {n : Nat} {xs : List Value} (h : w.ownsRow base e size v n xs) : ∀ j, v.ownBlock = some j → base ≤ j ∧ j < w.heap.size := fun j e => by
  rcases h.2 with ⟨rfl, _⟩ | ⟨g, cap, cur, rfl, hb, hg, _⟩
  · cases e
  · simp [Value.ownBlock] at e
    subst e
    exact ⟨hb, (Array.getElem?_eq_some_iff.1 hg).1⟩
theorem Touched.trans {S : Nat → Prop} {w w1 w2 : World} (h : Touched S w w1) (k : Touched S w1 w2) : Touched S w w2 :=
  ⟨k.os.trans h.os, k.tape.trans h.tape, k.output.trans h.output, Nat.le_trans h.size k.size, fun i hi hn => (k.block i (Nat.lt_of_lt_of_le hi h.size) hn).trans (h.block i hi hn)⟩
theorem Touched.mono {S T : Nat → Prop} {w w' : World} (h : Touched S w w') (hS : ∀ b, S b → T b) : Touched T w w' :=
  ⟨h.os, h.tape, h.output, h.size, fun i hi hn => h.block i hi fun hs => hn (hS i hs)⟩
theorem Touched.of_below {S : Nat → Prop} {w w' : World} (h : Below w.heap.size w w') : Touched S w w' := ⟨h.os, h.tape, h.output, h.size, fun i hi _ => h.block i hi⟩

end Go.Proofs.Ytakfobihakbefaa

/- Lists of polynomials and lists of these in memory: what came in, and what is a call's own. -/

namespace Go.Proofs.Ytakfobihakbefaa
open Go.RowKit

abbrev PO : TypeId := 25
abbrev PR : TypeId := 38
theorem infoPoly : (Try.prog.info? PO).map (fun i => (i.zero, i.size, i.bytes)) = some (some (.agg #[.int .i64 0, .slice none 0 0]), 2, 32) := by kernel_rfl
theorem infoPolyS : (Try.prog.info? PR).map (fun i => (i.zero, i.size, i.bytes)) = some (some (.slice none 0 0), 1, 24) := by kernel_rfl

theorem addr_next2 (x : Addr) (i : Nat) : x.add (i * 2 + 1) = ⟨(x.add (i * 2)).block, (x.add (i * 2)).off + 1, none⟩ := by
  rw [← Go.Deep.add_add]
  unfold Addr.add
  simp

/-- A polynomial and the slice of its coefficients. -/
structure Pv where
  p : Pl
  v : Value
def cellsP (xs : List Pv) : List Value := (xs.map fun x => [Value.int .i64 x.p.low, x.v]).flatten
theorem cellsP_cons (x : Pv) (r : List Pv) : cellsP (x :: r) = .int .i64 x.p.low :: x.v :: cellsP r := rfl
theorem cellsP_append (a b : List Pv) : cellsP (a ++ b) = cellsP a ++ cellsP b := by simp [cellsP]
theorem cellsP_len (xs : List Pv) : (cellsP xs).length = xs.length * 2 := by
  induction xs with
  | nil => rfl
  | cons t r ih => rw [cellsP_cons, List.length_cons, List.length_cons, ih, List.length_cons]; omega
theorem cellsP_get (xs : List Pv) : ∀ (i : Nat) (h : i < xs.length), (cellsP xs)[i * 2]? = some (.int .i64 xs[i].p.low) ∧ (cellsP xs)[i * 2 + 1]? = some xs[i].v := by
  induction xs with
  | nil => intro i h; simp at h
  | cons t r ih =>
    intro i h
    cases i with
    | zero => exact ⟨rfl, rfl⟩
    | succ i =>
      obtain ⟨h1, h2⟩ := ih i (by simpa using h)
      rw [cellsP_cons, show (i + 1) * 2 = i * 2 + 1 + 1 by omega, show i * 2 + 1 + 1 + 1 = (i * 2 + 1) + 1 + 1 by omega]
      exact ⟨h1, h2⟩
theorem cellsP_set (xs : List Pv) (i : Nat) (t : Pv) (hi : i < xs.length) : ((cellsP xs).set (i * 2) (.int .i64 t.p.low)).set (i * 2 + 1) t.v = cellsP (xs.set i t) := by
  have e : xs = xs.take i ++ xs[i] :: xs.drop (i + 1) := by rw [List.getElem_cons_drop]; exact (List.take_append_drop i xs).symm
  have hl : (cellsP (xs.take i)).length = i * 2 := by rw [cellsP_len, List.length_take, Nat.min_eq_left (by omega)]
  have hset : xs.set i t = xs.take i ++ t :: xs.drop (i + 1) := by rw [List.set_eq_take_append_cons_drop, if_pos hi]
  rw [hset]
  have e2 : cellsP xs = cellsP (xs.take i) ++ .int .i64 xs[i].p.low :: xs[i].v :: cellsP (xs.drop (i + 1)) := by
    rw [← cellsP_cons, ← cellsP_append, ← e]
  rw [e2, cellsP_append, cellsP_cons, List.set_append_right _ _ (by omega), List.set_append_right _ _ (by omega), hl, Nat.sub_self, show i * 2 + 1 - i * 2 = 1 by omega]
  rfl

/-- A list of polynomials, anywhere. -/
structure IsPS (w : World) (a : Option Addr) (n : Nat) (ps : List Pl) : Prop where
  len : ps.length = n
  max : n ≤ maxLen
  at_ : 0 < n → ∃ x, a = some x ∧ x.block < w.heap.size ∧ ∀ i (h : i < ps.length), ∃ ai ci, w.cell? (x.add (i * 2)) = some (.int .i64 ps[i].low) ∧ w.cell? (x.add (i * 2 + 1)) = some (.slice ai ps[i].cs.length ci) ∧ Ints w ai ps[i].cs.length ps[i].cs ∧ ps[i].cs.length ≤ ci
  wf : ∀ p ∈ ps, -9223372036854775808 ≤ p.low ∧ p.low ≤ 9223372036854775807
theorem IsPS.below {w w' : World} {a : Option Addr} {n : Nat} {ps : List Pl} (h : IsPS w a n ps) (hb : Below w.heap.size w w') : IsPS w' a n ps :=
  ⟨h.len, h.max, fun h0 => by
    obtain ⟨x, e, hx, hc⟩ := h.at_ h0
    refine ⟨x, e, Nat.lt_of_lt_of_le hx hb.size, fun i hi => ?_⟩
    obtain ⟨ai, ci, h1, h2, h3, h4⟩ := hc i hi
    exact ⟨ai, ci, (hb.cell (p := x.add (i * 2)) (by rw [addr_add_block]; exact hx)).trans h1, (hb.cell (p := x.add (i * 2 + 1)) (by rw [addr_add_block]; exact hx)).trans h2, h3.below hb, h4⟩, h.wf⟩
theorem IsPS.none (w : World) (a : Option Addr) : IsPS w a 0 [] := ⟨rfl, Nat.zero_le _, fun h => absurd h (Nat.lt_irrefl _), fun _ h => by cases h⟩

/-- A list of lists of polynomials, anywhere. -/
structure IsPSS (w : World) (a : Option Addr) (n : Nat) (rows : List (List Pl)) : Prop where
  len : rows.length = n
  max : n ≤ maxLen
  at_ : 0 < n → ∃ x, a = some x ∧ x.block < w.heap.size ∧ ∀ i (h : i < rows.length), ∃ ai ci, w.cell? (x.add i) = some (.slice ai rows[i].length ci) ∧ IsPS w ai rows[i].length rows[i]
theorem IsPSS.below {w w' : World} {a : Option Addr} {n : Nat} {rows : List (List Pl)} (h : IsPSS w a n rows) (hb : Below w.heap.size w w') : IsPSS w' a n rows :=
  ⟨h.len, h.max, fun h0 => by
    obtain ⟨x, e, hx, hc⟩ := h.at_ h0
    refine ⟨x, e, Nat.lt_of_lt_of_le hx hb.size, fun i hi => ?_⟩
    obtain ⟨ai, ci, h1, h2⟩ := hc i hi
    exact ⟨ai, ci, (hb.cell (p := x.add i) (by rw [addr_add_block]; exact hx)).trans h1, h2.below hb⟩⟩
theorem IsPSS.none (w : World) (a : Option Addr) : IsPSS w a 0 [] := ⟨rfl, Nat.zero_le _, fun h => absurd h (Nat.lt_irrefl _)⟩

/-! ### What is a call's own -/
structure OwnR (lo : Nat) (w : World) (u : Value) (xs : List Pv) : Prop where
  row : w.ownsRow lo PO 2 u xs.length (cellsP xs)
  poly : ∀ i (h : i < xs.length), IntRow lo w xs[i].v xs[i].p.cs
  head : ∀ i (h : i < xs.length) (b : Nat), u.ownBlock = some b → xs[i].v.ownBlock = some b → False
  apart : ∀ i j (hi : i < xs.length) (hj : j < xs.length) (b : Nat), i ≠ j → xs[i].v.ownBlock = some b → xs[j].v.ownBlock = some b → False
/-- The blocks of a row. -/
def FootR (u : Value) (xs : List Pv) (b : Nat) : Prop := u.ownBlock = some b ∨ ∃ i, ∃ (h : i < xs.length), xs[i].v.ownBlock = some b
theorem OwnR.low {lo : Nat} {w : World} {u : Value} {xs : List Pv} (h : OwnR lo w u xs) {b : Nat} (hb : FootR u xs b) : lo ≤ b ∧ b < w.heap.size := by
  rcases hb with hb | ⟨i, hi, hb⟩
  · exact ownsRow_lt h.row b hb
  · exact ownsRow_lt (h.poly i hi) b hb
theorem OwnR.touched {lo : Nat} {w w' : World} {u : Value} {xs : List Pv} {S : Nat → Prop} (h : OwnR lo w u xs) (ht : Touched S w w') (hs : ∀ b, FootR u xs b → ¬ S b) : OwnR lo w' u xs :=
  ⟨ownsRow_touched h.row fun b hb hl => ht.block b hl (hs b (.inl hb)), fun i hi => ownsRow_touched (h.poly i hi) fun b hb hl => ht.block b hl (hs b (.inr ⟨i, hi, hb⟩)), h.head, h.apart⟩
theorem OwnR.below {lo : Nat} {w w' : World} {u : Value} {xs : List Pv} (h : OwnR lo w u xs) (hb : Below w.heap.size w w') : OwnR lo w' u xs :=
  h.touched (S := fun _ => False) (.of_below hb) (fun _ _ => id)
theorem OwnR.mono {lo lo2 : Nat} {w : World} {u : Value} {xs : List Pv} (h : OwnR lo w u xs) (hl : lo2 ≤ lo) : OwnR lo2 w u xs :=
  ⟨ownsRow_base h.row hl, fun i hi => ownsRow_base (h.poly i hi) hl, h.head, h.apart⟩
theorem heap_off (w : World) (p : Addr) (v : Value) {b : Nat} (h : b ≠ p.block) : (w.setCell p v).heap[b]? = w.heap[b]? := Below.heap_setCell w p v b h
theorem IntRow.off {lo : Nat} {w : World} {v : Value} {zs : List Int} (h : IntRow lo w v zs) (p : Addr) (x : Value) (hp : ∀ b, v.ownBlock = some b → b ≠ p.block) : IntRow lo (w.setCell p x) v zs :=
  ownsRow_touched h fun b hb _ => heap_off w p x (hp b hb)
/-- The i-th polynomial is stored: its coefficients lie behind all of before. -/
theorem OwnR.put {lo B n c : Nat} {w w2 : World} {xs : List Pv} {p : Pl} {v : Value} {k : Nat} (h : OwnR lo w (.slice (some ⟨B, 0, none⟩) n c) xs) (hk : k < xs.length) (hb : Below w.heap.size w w2) (hp : IntRow w.heap.size w2 v p.cs) (hlo : lo ≤ w.heap.size) :
    OwnR lo ((w2.setCell ⟨B, k * 2, none⟩ (.int .i64 p.low)).setCell ⟨B, k * 2 + 1, none⟩ v) (.slice (some ⟨B, 0, none⟩) n c) (xs.set k ⟨p, v⟩) := by
  have hBl : B < w.heap.size := (ownsRow_lt h.row B rfl).2
  have hv : ∀ b, v.ownBlock = some b → w.heap.size ≤ b := fun b e => (ownsRow_lt hp b e).1
  have hold : ∀ i (hi : i < xs.length) b, xs[i].v.ownBlock = some b → b < w.heap.size := fun i hi b e => (ownsRow_lt (h.poly i hi) b e).2
  have hn : xs.length = n := by
    have := h.row
    rcases this.2 with ⟨e, _⟩ | ⟨g, cap, cur, e, _⟩
    · cases e
    · simp only [Value.slice.injEq] at e; exact e.2.1.symm
  subst hn
  refine ⟨?_, fun i hi => ?_, fun i hi b hb1 hb2 => ?_, fun i j hi hj b hne h1 h2 => ?_⟩
  · rw [List.length_set, ← cellsP_set xs k ⟨p, v⟩ hk]
    exact ((((h.below hb).row.stored (k * 2) _).1).stored (k * 2 + 1) _).1
  · rw [List.length_set] at hi
    rw [List.getElem_set]
    split
    · exact ((hp.mono hlo).off ⟨B, k * 2, none⟩ _ fun b e => by have := hv b e; show b ≠ B; omega).off ⟨B, k * 2 + 1, none⟩ _ fun b e => by have := hv b e; show b ≠ B; omega
    · exact (((h.poly i hi).below hb).off ⟨B, k * 2, none⟩ _ fun b e => fun e2 => h.head i hi b (by rw [e2]; rfl) e).off ⟨B, k * 2 + 1, none⟩ _ fun b e => fun e2 => h.head i hi b (by rw [e2]; rfl) e
  · rw [List.length_set] at hi
    rw [List.getElem_set] at hb2
    split at hb2
    · have := hv b hb2
      simp only [Value.ownBlock, Option.some.injEq] at hb1
      omega
    · exact h.head i hi b hb1 hb2
  · rw [List.length_set] at hi hj
    rw [List.getElem_set] at h1 h2
    split at h1
    · split at h2
      · omega
      · have := hv b h1; have := hold j hj b h2; omega
    · split at h2
      · have := hv b h2; have := hold i hi b h1; omega
      · exact h.apart i j hi hj b hne h1 h2
theorem OwnR.isPS {lo : Nat} {w : World} {u : Value} {xs : List Pv} {ps : List Pl} (h : OwnR lo w u xs) (hp : xs.map (·.p) = ps) (hl : ∀ p ∈ ps, -9223372036854775808 ≤ p.low ∧ p.low ≤ 9223372036854775807) (hw : ∀ p ∈ ps, ∀ z ∈ p.cs, -9223372036854775808 ≤ z ∧ z ≤ 9223372036854775807) (hn : xs.length ≤ maxLen) : ∃ a cap, u = .slice a ps.length cap ∧ IsPS w a ps.length ps := by
  subst hp
  have hlen : (xs.map (·.p)).length = xs.length := List.length_map _
  rw [hlen]
  rcases h.row.2 with ⟨rfl, h0⟩ | ⟨g, cap, cur, rfl, hb, hg, h3⟩
  · exact ⟨none, 0, by rw [h0], hlen, hn, fun hp => absurd hp (by omega), hl⟩
  · refine ⟨_, cap, rfl, hlen, hn, fun _ => ⟨_, rfl, (Array.getElem?_eq_some_iff.1 hg).1, fun i hi => ?_⟩, hl⟩
    rw [hlen] at hi
    have hg2 := cellsP_get xs i hi
    rw [List.getElem_map]
    obtain ⟨ai, ci, e, h5, h6⟩ := (h.poly i hi).readc (hw xs[i].p (List.mem_map_of_mem (List.getElem_mem hi)))
    exact ⟨ai, ci, h.row.cells rfl _ _ hg2.1, by rw [← e]; exact h.row.cells rfl _ _ hg2.2, h6, h5⟩

structure Rv where
  u : Value
  xs : List Pv
structure OwnM (lo : Nat) (w : World) (v : Value) (rs : List Rv) : Prop where
  row : w.ownsRow lo PR 1 v rs.length (rs.map (·.u))
  each : ∀ i (h : i < rs.length), OwnR lo w rs[i].u rs[i].xs
  head : ∀ i (h : i < rs.length) (b : Nat), v.ownBlock = some b → FootR rs[i].u rs[i].xs b → False
  apart : ∀ i j (hi : i < rs.length) (hj : j < rs.length) (b : Nat), i ≠ j → FootR rs[i].u rs[i].xs b → FootR rs[j].u rs[j].xs b → False
def FootM (rs : List Rv) (b : Nat) : Prop := ∃ i, ∃ (h : i < rs.length), FootR rs[i].u rs[i].xs b
theorem OwnM.low {lo : Nat} {w : World} {v : Value} {rs : List Rv} (h : OwnM lo w v rs) {b : Nat} (hb : FootM rs b) : lo ≤ b ∧ b < w.heap.size := by
  obtain ⟨i, hi, hf⟩ := hb
  exact (h.each i hi).low hf
theorem OwnM.touched {lo : Nat} {w w' : World} {v : Value} {rs : List Rv} {S : Nat → Prop} (h : OwnM lo w v rs) (ht : Touched S w w') (hv : ∀ b, v.ownBlock = some b → ¬ S b) (hs : ∀ b, FootM rs b → ¬ S b) : OwnM lo w' v rs :=
  ⟨ownsRow_touched h.row fun b hb hl => ht.block b hl (hv b hb), fun i hi => (h.each i hi).touched ht fun b hb => hs b ⟨i, hi, hb⟩, h.head, h.apart⟩
theorem OwnM.below {lo : Nat} {w w' : World} {v : Value} {rs : List Rv} (h : OwnM lo w v rs) (hb : Below w.heap.size w w') : OwnM lo w' v rs :=
  h.touched (S := fun _ => False) (.of_below hb) (fun _ _ => id) (fun _ _ => id)
theorem OwnM.mono {lo lo2 : Nat} {w : World} {v : Value} {rs : List Rv} (h : OwnM lo w v rs) (hl : lo2 ≤ lo) : OwnM lo2 w v rs :=
  ⟨ownsRow_base h.row hl, fun i hi => (h.each i hi).mono hl, h.head, h.apart⟩
theorem OwnM.put {lo B n c : Nat} {w w2 : World} {rs : List Rv} {r : Rv} {k : Nat} (h : OwnM lo w (.slice (some ⟨B, 0, none⟩) n c) rs) (hb : Below w.heap.size w w2) (hr : OwnR w.heap.size w2 r.u r.xs) (hlo : lo ≤ w.heap.size) :
    OwnM lo (w2.setCell ⟨B, k, none⟩ r.u) (.slice (some ⟨B, 0, none⟩) n c) (rs.set k r) := by
  have hBl : B < w.heap.size := (ownsRow_lt h.row B rfl).2
  have hnew : ∀ b, FootR r.u r.xs b → w.heap.size ≤ b := fun b e => (hr.low e).1
  have hold : ∀ i (hi : i < rs.length) b, FootR rs[i].u rs[i].xs b → b < w.heap.size := fun i hi b e => ((h.each i hi).low e).2
  have hn : rs.length = n := by
    rcases h.row.2 with ⟨e, _⟩ | ⟨g, cap, cur, e, _⟩
    · cases e
    · simp only [Value.slice.injEq] at e; exact e.2.1.symm
  subst hn
  have hT : Touched (fun b => b = B) w2 (w2.setCell ⟨B, k, none⟩ r.u) := (Touched.refl _ w2).grown ((h.below hb).row.stored k r.u).2 (fun b e => by simpa [Value.ownBlock] using e.symm)
  refine ⟨?_, fun i hi => ?_, fun i hi b hb1 hb2 => ?_, fun i j hi hj b hne h1 h2 => ?_⟩
  · rw [List.length_set, List.map_set]
    exact ((h.below hb).row.stored k _).1
  · rw [List.length_set] at hi
    rw [List.getElem_set]
    split
    · exact (hr.mono hlo).touched hT fun b e => by have := hnew b e; show ¬ b = B; omega
    · exact ((h.each i hi).below hb).touched hT fun b e => fun e2 => h.head i hi b (by rw [e2]; rfl) e
  · rw [List.length_set] at hi
    rw [List.getElem_set] at hb2
    split at hb2
    · have := hnew b hb2
      simp only [Value.ownBlock, Option.some.injEq] at hb1
      omega
    · exact h.head i hi b hb1 hb2
  · rw [List.length_set] at hi hj
    rw [List.getElem_set] at h1 h2
    split at h1
    · split at h2
      · omega
      · have := hnew b h1; have := hold j hj b h2; omega
    · split at h2
      · have := hnew b h2; have := hold i hi b h1; omega
      · exact h.apart i j hi hj b hne h1 h2
/-- What a list of rows with their slices is. -/
def rowsOf (rs : List Rv) : List (List Pl) := rs.map fun r => r.xs.map (·.p)
theorem OwnM.isPSS {lo : Nat} {w : World} {v : Value} {rs : List Rv} {rows : List (List Pl)} (h : OwnM lo w v rs) (hp : rowsOf rs = rows) (hl : ∀ r ∈ rows, ∀ p ∈ r, -9223372036854775808 ≤ p.low ∧ p.low ≤ 9223372036854775807) (hw : ∀ r ∈ rows, ∀ p ∈ r, ∀ z ∈ p.cs, -9223372036854775808 ≤ z ∧ z ≤ 9223372036854775807) (hn : rows.length ≤ maxLen) (hm : ∀ r ∈ rows, r.length ≤ maxLen) : ∃ a cap, v = .slice a rows.length cap ∧ IsPSS w a rows.length rows := by
  subst hp
  have hlen : (rowsOf rs).length = rs.length := List.length_map _
  rw [hlen] at hn ⊢
  rcases h.row.2 with ⟨rfl, h0⟩ | ⟨g, cap, cur, rfl, hb, hg, h3⟩
  · exact ⟨none, 0, by rw [h0], hlen, hn, fun hp => absurd hp (by omega)⟩
  · refine ⟨_, cap, rfl, hlen, hn, fun _ => ⟨_, rfl, (Array.getElem?_eq_some_iff.1 hg).1, fun i hi => ?_⟩⟩
    rw [hlen] at hi
    have e : (rowsOf rs)[i]'(by rw [hlen]; exact hi) = rs[i].xs.map (·.p) := List.getElem_map _
    have hmem : (rowsOf rs)[i]'(by rw [hlen]; exact hi) ∈ rowsOf rs := List.getElem_mem _
    rw [e] at hmem ⊢
    have hm2 := hm _ hmem
    rw [List.length_map] at hm2
    obtain ⟨ai, ci, e2, h5⟩ := (h.each i hi).isPS rfl (hl _ hmem) (hw _ hmem) hm2
    refine ⟨ai, ci, ?_, h5⟩
    rw [← e2]
    exact h.row.cells rfl i _ (by rw [List.getElem?_map, List.getElem?_eq_getElem hi]; rfl)

end Go.Proofs.Ytakfobihakbefaa

/- The laws' 'szPolyS' and 'szPolySS'. -/

namespace Go.Proofs.Ytakfobihakbefaa
open Go.RowKit

/-- As many coefficients as a list of polynomials has. -/
def csum (ps : List Pl) : Nat := (ps.map fun p => p.cs.length).sum
theorem csum_succ (ps : List Pl) (k : Nat) (h : k < ps.length) : csum (ps.take (k + 1)) = csum (ps.take k) + ps[k].cs.length := by
  unfold csum; rw [List.take_succ_eq_append_getElem h, List.map_append, List.sum_append]; simp
theorem csum_take_le : ∀ (ps : List Pl) (k : Nat), csum (ps.take k) ≤ csum ps
  | [], k => by simp [csum]
  | r :: rs, 0 => by simp [csum]
  | r :: rs, k + 1 => by have := csum_take_le rs k; unfold csum at *; simp only [List.take_succ_cons, List.map_cons, List.sum_cons]; omega
theorem csum_get (ps : List Pl) (k : Nat) (h : k < ps.length) : csum (ps.take k) + ps[k].cs.length ≤ csum ps := by
  rw [← csum_succ ps k h]; exact csum_take_le ps (k + 1)
/-- Polynomials and coefficients. -/
def totR (ps : List Pl) : Nat := ps.length + csum ps
def totM (rows : List (List Pl)) : Nat := (rows.map totR).sum
theorem totM_succ (rows : List (List Pl)) (k : Nat) (h : k < rows.length) : totM (rows.take (k + 1)) = totM (rows.take k) + totR rows[k] := by
  unfold totM; rw [List.take_succ_eq_append_getElem h, List.map_append, List.sum_append]; simp
theorem totM_take_le : ∀ (rows : List (List Pl)) (k : Nat), totM (rows.take k) ≤ totM rows
  | [], k => by simp [totM]
  | r :: rs, 0 => by simp [totM]
  | r :: rs, k + 1 => by have := totM_take_le rs k; unfold totM at *; simp only [List.take_succ_cons, List.map_cons, List.sum_cons]; omega
theorem totM_get (rows : List (List Pl)) (k : Nat) (h : k < rows.length) : totM (rows.take k) + totR rows[k] ≤ totM rows := by
  rw [← totM_succ rows k h]; exact totM_take_le rows (k + 1)

set_option maxRecDepth 100000 in
set_option maxHeartbeats 1000000 in
theorem szPolyS_any (a : Option Addr) (cap n left : Nat) (ps : List Pl) (w : World) (hs : IsPS w a n ps) (hl : left ≤ 1048576) :
    Calls Try.prog 116 #[.slice a n cap, .int .i64 left] w fun e w' =>
      (∃ k : Int, e = .returned (.int .i64 k) ∧ (k < 0 ∨ (0 ≤ k ∧ k + totR ps ≤ left))) ∧ Below w.heap.size w w' := by
  have hm := hs.max
  have HN := Lib.hid hs.len
  have HS := Lib.hid hs
  clear hs
  unfold maxLen at hm
  by_cases h0 : left < n
  · go_enter Try.func116, Try.ntmps116
    go_wp2
    go_ret
    exact ⟨⟨-1, rfl, .inl (by omega)⟩, Below.refl _ _⟩
  · go_enter Try.func116, Try.ntmps116
    go_wp2
    go_loopw [1, 5] (fun q i wr => ∃ (k m : Nat), k ≤ n ∧ q = .int .i64 m ∧ i = .int .i64 k ∧ m + n + csum (ps.take k) ≤ left ∧ Below w.heap.size w wr) (fun _ i _ => n - (intOf i).toNat)
    case atStart => exact ⟨0, left - n, Nat.zero_le _, by go_num, rfl, by simp [csum]; omega, Below.refl _ _⟩
    case round =>
      obtain ⟨k, m, hk, rfl, rfl, hm1, hB⟩ := hrel
      by_cases hlt : k < n
      · have hkz : k < ps.length := by rw [HN.out]; exact hlt
        obtain ⟨x, rfl, hxb, hx⟩ := HS.out.at_ (by omega)
        obtain ⟨ai, ci, hc0, hc1, hI, _⟩ := hx k hkz
        have hd0 := (hB.cell (p := x.add (k * 2)) (by rw [addr_add_block]; exact hxb)).trans hc0
        have hd1 := (hB.cell (p := x.add (k * 2 + 1)) (by rw [addr_add_block]; exact hxb)).trans hc1
        rw [addr_next2] at hd1
        have hsucc := csum_succ ps k hkz
        have him := hI.max
        obtain ⟨p, hp⟩ : ∃ p, ps[k] = p := ⟨_, rfl⟩
        rw [hp] at hsucc hd0 hd1 him
        obtain ⟨r, hr⟩ : ∃ r, p.cs.length = r := ⟨_, rfl⟩
        rw [hr] at hsucc hd1 him
        obtain ⟨t0, ht0⟩ : ∃ t, csum (ps.take k) = t := ⟨_, rfl⟩
        rw [ht0] at hm1 hsucc
        have HT := Lib.hid hsucc
        clear hx hc0 hc1 hI hsucc hr ht0 hp
        go_wp2_with fail
        refine (szPoly_any p.low ai ci r m _ him (by omega)).mono ?_
        rintro e w2 ⟨⟨q, rfl, hq⟩, hb2⟩
        by_cases h2 : q < 0
        · clear hq
          go_wp2
          go_ret
          exact ⟨⟨_, rfl, .inl (by omega)⟩, hB.trans (hb2.mono hB.size)⟩
        · obtain ⟨y, rfl, hp⟩ : ∃ y : Nat, q = (y : Int) ∧ y + r ≤ m := by
            rcases hq with h | ⟨h3, h4⟩
            · omega
            · exact ⟨q.toNat, by omega, by omega⟩
          clear hq
          go_wp2
          go_roundw
          case rel => exact ⟨k + 1, y, by omega, rfl, by go_num, by rw [HT.out]; omega, hB.trans (hb2.mono hB.size)⟩
          case measure => simp [intOf]; omega
      · obtain rfl : k = n := by omega
        have ht : ps.take k = ps := List.take_of_length_le (by rw [HN.out]; exact Nat.le_refl _)
        rw [ht] at hm1
        go_wp2
        go_ret
        exact ⟨⟨_, rfl, .inr ⟨by omega, by unfold totR; rw [HN.out]; omega⟩⟩, hB⟩

set_option maxRecDepth 100000 in
set_option maxHeartbeats 1000000 in
theorem szPolySS_any (a : Option Addr) (cap n left : Nat) (rows : List (List Pl)) (w : World) (hs : IsPSS w a n rows) (hl : left ≤ 1048576) :
    Calls Try.prog 63 #[.slice a n cap, .int .i64 left] w fun e w' =>
      (∃ k : Int, e = .returned (.int .i64 k) ∧ (k < 0 ∨ (0 ≤ k ∧ k + n + totM rows ≤ left))) ∧ Below w.heap.size w w' := by
  have hm := hs.max
  have HN := Lib.hid hs.len
  have HS := Lib.hid hs
  clear hs
  unfold maxLen at hm
  by_cases h0 : left < n
  · go_enter Try.func63, Try.ntmps63
    go_wp2
    go_ret
    exact ⟨⟨-1, rfl, .inl (by omega)⟩, Below.refl _ _⟩
  · go_enter Try.func63, Try.ntmps63
    go_wp2
    go_loopw [1, 5] (fun q i wr => ∃ (k m : Nat), k ≤ n ∧ q = .int .i64 m ∧ i = .int .i64 k ∧ m + n + totM (rows.take k) ≤ left ∧ Below w.heap.size w wr) (fun _ i _ => n - (intOf i).toNat)
    case atStart => exact ⟨0, left - n, Nat.zero_le _, by go_num, rfl, by simp [totM]; omega, Below.refl _ _⟩
    case round =>
      obtain ⟨k, m, hk, rfl, rfl, hm1, hB⟩ := hrel
      by_cases hlt : k < n
      · have hkz : k < rows.length := by rw [HN.out]; exact hlt
        obtain ⟨x, rfl, hxb, hx⟩ := HS.out.at_ (by omega)
        obtain ⟨ai, ci, hc, hI⟩ := hx k hkz
        have hc0 := (hB.cell (p := x.add k) (by rw [addr_add_block]; exact hxb)).trans hc
        have HI := Lib.hid (hI.below hB)
        have hsucc := totM_succ rows k hkz
        obtain ⟨y, hy⟩ : ∃ y, totR rows[k] = y := ⟨_, rfl⟩
        obtain ⟨r, hr⟩ : ∃ r, rows[k].length = r := ⟨_, rfl⟩
        rw [hr] at hc0 HI
        rw [hy] at hsucc
        obtain ⟨t0, ht0⟩ : ∃ t, totM (rows.take k) = t := ⟨_, rfl⟩
        rw [ht0] at hm1 hsucc
        have HT := Lib.hid hsucc
        have HY := Lib.hid hy
        clear hx hc hI hsucc hr ht0 hy
        go_wp2_with fail
        refine (szPolyS_any ai ci r m _ _ HI.out (by omega)).mono ?_
        rintro e w2 ⟨⟨q, rfl, hq⟩, hb2⟩
        rw [HY.out] at hq
        by_cases h2 : q < 0
        · clear hq
          go_wp2
          go_ret
          exact ⟨⟨_, rfl, .inl (by omega)⟩, hB.trans (hb2.mono hB.size)⟩
        · obtain ⟨p, rfl, hp⟩ : ∃ p : Nat, q = (p : Int) ∧ p + y ≤ m := by
            rcases hq with h | ⟨h3, h4⟩
            · omega
            · exact ⟨q.toNat, by omega, by omega⟩
          clear hq
          go_wp2
          go_roundw
          case rel => exact ⟨k + 1, p, by omega, rfl, by go_num, by rw [HT.out]; omega, hB.trans (hb2.mono hB.size)⟩
          case measure => simp [intOf]; omega
      · obtain rfl : k = n := by omega
        have ht : rows.take k = rows := List.take_of_length_le (by rw [HN.out]; exact Nat.le_refl _)
        rw [ht] at hm1
        go_wp2
        go_ret
        exact ⟨⟨_, rfl, .inr ⟨by omega, by omega⟩⟩, hB⟩

end Go.Proofs.Ytakfobihakbefaa

/- The laws' 'toPolyS' and 'toPolySS'. -/

namespace Go.Proofs.Ytakfobihakbefaa
open Go.RowKit

def zeroPv : Pv := ⟨⟨0, []⟩, .slice none 0 0⟩
def zeroRv : Rv := ⟨.slice none 0 0, []⟩
theorem made_polys (n : Nat) : (madeCells (Value.cells (.agg #[.int .i64 0, .slice none 0 0])) (n * 2)).toList = cellsP (List.replicate n zeroPv) := by
  rw [show Value.cells (.agg #[.int .i64 0, .slice none 0 0]) = #[.int .i64 0, .slice none 0 0] from rfl]
  apply List.ext_getElem?
  intro j
  by_cases hj : j < n * 2
  · have hi : j / 2 < n := by omega
    have hg := cellsP_get (List.replicate n zeroPv) (j / 2) (by simpa using hi)
    rw [List.getElem_replicate] at hg
    have hm : (madeCells #[.int .i64 0, .slice none 0 0] (n * 2)).toList[j]? = some ((#[Value.int .i64 0, .slice none 0 0] : Array Value)[j % 2]?.getD default) := by
      simp [madeCells, hj]
    rcases Nat.mod_two_eq_zero_or_one j with h | h
    · rw [hm, h, show j = j / 2 * 2 by omega, hg.1]; rfl
    · rw [hm, h, show j = j / 2 * 2 + 1 by omega, hg.2]; rfl
  · rw [List.getElem?_eq_none (l := (madeCells #[.int .i64 0, .slice none 0 0] (n * 2)).toList) (by simp [madeCells]; omega), List.getElem?_eq_none (by rw [cellsP_len, List.length_replicate]; omega)]
theorem IntRow.nothing (lo : Nat) (w : World) : IntRow lo w (.slice none 0 0) [] := ⟨rfl, .inl ⟨rfl, rfl⟩⟩
theorem OwnR.zeros {lo : Nat} {w : World} {u : Value} {n : Nat} (h : w.ownsRow lo PO 2 u n (cellsP (List.replicate n zeroPv))) : OwnR lo w u (List.replicate n zeroPv) :=
  ⟨by rw [List.length_replicate]; exact h, fun i hi => by rw [List.getElem_replicate]; exact IntRow.nothing lo w, fun i hi b _ h2 => (by rw [List.getElem_replicate] at h2; cases h2), fun i j hi hj b _ h2 _ => by rw [List.getElem_replicate] at h2; cases h2⟩
theorem OwnR.nothing (lo : Nat) (w : World) : OwnR lo w (.slice none 0 0) [] := ⟨⟨rfl, .inl ⟨rfl, rfl⟩⟩, fun i hi => by simp at hi, fun i hi => by simp at hi, fun i j hi => by simp at hi⟩
theorem FootR.nothing {b : Nat} (h : FootR (.slice none 0 0) [] b) : False := by
  rcases h with h | ⟨i, hi, _⟩
  · cases h
  · simp at hi
theorem OwnM.zeros {lo : Nat} {w : World} {v : Value} {n : Nat} (h : w.ownsRow lo PR 1 v n (List.replicate n (.slice none 0 0))) : OwnM lo w v (List.replicate n zeroRv) :=
  ⟨by rw [List.length_replicate, List.map_replicate]; exact h, fun i hi => by rw [List.getElem_replicate]; exact OwnR.nothing lo w, fun i hi b _ h2 => (by rw [List.getElem_replicate] at h2; exact h2.nothing), fun i j hi hj b _ h2 _ => by rw [List.getElem_replicate] at h2; exact h2.nothing⟩
theorem map_take_set {α β : Type} (f : α → β) (xs : List α) (k : Nat) (x : α) (ps : List β) (h : (xs.map f).take k = ps.take k) (hk : k < ps.length) (hl : xs.length = ps.length) (hx : f x = ps[k]) : ((xs.set k x).map f).take (k + 1) = ps.take (k + 1) := by
  rw [List.map_set, List.take_succ_eq_append_getElem hk, List.take_succ_eq_append_getElem (by simp; omega), ← h, List.getElem_set_self, hx, List.take_set_of_le (Nat.le_refl _)]

set_option maxRecDepth 100000 in
set_option maxHeartbeats 2000000 in
theorem toPolyS_any (a : Option Addr) (cap n : Nat) (ps : List Pl) (w : World) (hs : IsPS w a n ps) (hm : totR ps ≤ 1048576) :
    Calls Try.prog 117 #[.slice a n cap] w fun e w' =>
      ∃ v xs, e = .returned v ∧ xs.map (·.p) = ps ∧ OwnR w.heap.size w' v xs ∧ Below w.heap.size w w' := by
  obtain ⟨i0, hi, hz0, hz1, hz2⟩ := info_parts infoPoly
  have HN := Lib.hid hs.len
  have HS := Lib.hid hs
  have hn : n ≤ 1048576 := by unfold totR at hm; rw [hs.len] at hm; omega
  have HM : Hid (csum ps ≤ 1048576) := Lib.hid (by unfold totR at hm; omega)
  clear hs hm
  go_enter Try.func117, Try.ntmps117
  go_wp2_with (at_make; refine wpList_make_full _ rfl _ _ PR rfl w.heap.size PO i0 (.agg #[.int .i64 0, .slice none 0 0]) 2 Try.underlying38 hi hz0 hz1 .i64 .i64 _ _ n rfl rfl rfl rfl (by rw [hz2]; omega) (by unfold maxLen; omega) (Nat.le_refl _) ?_; intro w1 hrow hgrow)
  rw [made_polys n] at hrow
  have hB1 : Below w.heap.size w w1 := (Below.refl _ _).grown hgrow (Nat.le_refl _) (fun k e => by cases e)
  have HR1 : Hid (OwnR w.heap.size w1 (.slice (some ⟨w.heap.size, 0, none⟩) n n) (List.replicate n zeroPv)) := Lib.hid (OwnR.zeros hrow)
  clear hrow hgrow
  go_loopw [4] (fun i wr => ∃ (k : Nat) (xs : List Pv), k ≤ n ∧ i = .int .i64 k ∧ Hid (xs.length = n) ∧ Hid ((xs.map (·.p)).take k = ps.take k) ∧ Hid (OwnR w.heap.size wr (.slice (some ⟨w.heap.size, 0, none⟩) n n) xs) ∧ Below w.heap.size w wr) (fun i _ => n - (intOf i).toNat)
  case atStart => exact ⟨0, _, Nat.zero_le _, rfl, Lib.hid List.length_replicate, Lib.hid rfl, HR1, hB1⟩
  case round =>
    obtain ⟨k, xs, hk, rfl, HL, HT, HR, hB⟩ := hrel
    by_cases hlt : k < n
    · have hkz : k < ps.length := by rw [HN.out]; exact hlt
      obtain ⟨x, rfl, hxb, hx⟩ := HS.out.at_ (by omega)
      obtain ⟨ai, ci, hc0, hc1, hI, _⟩ := hx k hkz
      have hd0 := (hB.cell (p := x.add (k * 2)) (by rw [addr_add_block]; exact hxb)).trans hc0
      have hd1 := (hB.cell (p := x.add (k * 2 + 1)) (by rw [addr_add_block]; exact hxb)).trans hc1
      rw [addr_next2] at hd1
      have hcs : ps[k].cs.length ≤ 1048576 := by have := csum_get ps k hkz; have := HM.out; omega
      have HI := Lib.hid (hI.below hB)
      obtain ⟨p, hp⟩ : ∃ p, ps[k] = p := ⟨_, rfl⟩
      rw [hp] at hd0 hd1 HI hcs
      obtain ⟨r, hr⟩ : ∃ r, p.cs.length = r := ⟨_, rfl⟩
      rw [hr] at hd1 HI hcs
      have HP := Lib.hid hp
      clear hx hc0 hc1 hI hr hp
      go_wp2_with fail
      refine (toPoly_any p.low ai ci r p.cs _ hcs HI.out).mono ?_
      rintro e w2 ⟨⟨g, rfl, hg, hrow⟩, hb2⟩
      have hr2 := (HR.out.below hb2).row
      rw [HL.out] at hr2
      have hl := hr2.1
      have hdd0 : ∃ u, w2.cell? ⟨w.heap.size, k * 2, none⟩ = some u := by rw [hr2.cellAt _ (by omega)]; exact ⟨_, List.getElem?_eq_getElem (by omega)⟩
      have hdd1 : ∃ u, w2.cell? ⟨w.heap.size, k * 2 + 1, none⟩ = some u := by rw [hr2.cellAt _ (by omega)]; exact ⟨_, List.getElem?_eq_getElem (by omega)⟩
      obtain ⟨u0, hu0⟩ := hdd0
      obtain ⟨u1, hu1⟩ := hdd1
      have hf0 := hr2.frozenAt (k * 2)
      have hf1 := hr2.frozenAt (k * 2 + 1)
      have HR2 := Lib.hid (HR.out.put (p := p) (by rw [HL.out]; exact hlt) hb2 hrow hB.size)
      have HB2 := Lib.hid (hB.trans (hb2.mono hB.size))
      clear hl hr2 hrow hg hb2
      go_wp2
      go_roundw
      case rel =>
        exact ⟨k + 1, _, by omega, by go_num, Lib.hid (by rw [List.length_set]; exact HL.out), Lib.hid (map_take_set _ xs k _ ps HT.out hkz (by rw [HL.out, HN.out]) (HP.out.symm)), HR2, (HB2.out.setCell (p := ⟨w.heap.size, k * 2, none⟩) (Nat.le_refl _) _).setCell (p := ⟨w.heap.size, k * 2 + 1, none⟩) (Nat.le_refl _) _⟩
      case measure => simp [intOf]; omega
    · obtain rfl : k = n := by omega
      go_wp2
      go_ret
      have ht := HT.out
      rw [List.take_of_length_le (by rw [List.length_map, HL.out]; exact Nat.le_refl _), List.take_of_length_le (by rw [HN.out]; exact Nat.le_refl _)] at ht
      exact ⟨_, xs, rfl, ht, HR.out, hB⟩

set_option maxRecDepth 100000 in
set_option maxHeartbeats 2000000 in
theorem toPolySS_any (a : Option Addr) (cap n : Nat) (rows : List (List Pl)) (w : World) (hs : IsPSS w a n rows) (hm : n + totM rows ≤ 1048576) :
    Calls Try.prog 64 #[.slice a n cap] w fun e w' =>
      ∃ v rs, e = .returned v ∧ rowsOf rs = rows ∧ OwnM w.heap.size w' v rs ∧ Below w.heap.size w w' := by
  obtain ⟨i0, hi, hz0, hz1, hz2⟩ := info_parts infoPolyS
  have HN := Lib.hid hs.len
  have HS := Lib.hid hs
  have hn : n ≤ 1048576 := by omega
  have HM : Hid (totM rows ≤ 1048576) := Lib.hid (by omega)
  clear hs hm
  go_enter Try.func64, Try.ntmps64
  go_wp2_with (at_make; refine wpList_make_full _ rfl _ _ 33 rfl w.heap.size PR i0 (.slice none 0 0) 1 Try.underlying33 hi hz0 hz1 .i64 .i64 _ _ n rfl rfl rfl rfl (by rw [hz2]; omega) (by unfold maxLen; omega) (Nat.le_refl _) ?_; intro w1 hrow hgrow)
  rw [show Value.cells (.slice none 0 0) = #[.slice none 0 0] from rfl, toList_madeCells_one, Nat.mul_one] at hrow
  have hB1 : Below w.heap.size w w1 := (Below.refl _ _).grown hgrow (Nat.le_refl _) (fun k e => by cases e)
  have HR1 : Hid (OwnM w.heap.size w1 (.slice (some ⟨w.heap.size, 0, none⟩) n n) (List.replicate n zeroRv)) := Lib.hid (OwnM.zeros hrow)
  clear hrow hgrow
  go_loopw [4] (fun i wr => ∃ (k : Nat) (rs : List Rv), k ≤ n ∧ i = .int .i64 k ∧ Hid (rs.length = n) ∧ Hid ((rowsOf rs).take k = rows.take k) ∧ Hid (OwnM w.heap.size wr (.slice (some ⟨w.heap.size, 0, none⟩) n n) rs) ∧ Below w.heap.size w wr) (fun i _ => n - (intOf i).toNat)
  case atStart => exact ⟨0, _, Nat.zero_le _, rfl, Lib.hid List.length_replicate, Lib.hid rfl, HR1, hB1⟩
  case round =>
    obtain ⟨k, rs, hk, rfl, HL, HT, HR, hB⟩ := hrel
    by_cases hlt : k < n
    · have hkz : k < rows.length := by rw [HN.out]; exact hlt
      obtain ⟨x, rfl, hxb, hx⟩ := HS.out.at_ (by omega)
      obtain ⟨ai, ci, hc, hI⟩ := hx k hkz
      have hd0 := (hB.cell (p := x.add k) (by rw [addr_add_block]; exact hxb)).trans hc
      have hcs : totR rows[k] ≤ 1048576 := by have := totM_get rows k hkz; have := HM.out; omega
      have HI := Lib.hid (hI.below hB)
      obtain ⟨ps, hp⟩ : ∃ ps, rows[k] = ps := ⟨_, rfl⟩
      rw [hp] at hd0 HI hcs
      obtain ⟨r, hr⟩ : ∃ r, ps.length = r := ⟨_, rfl⟩
      rw [hr] at hd0 HI
      have HP := Lib.hid hp
      clear hx hc hI hr hp
      go_wp2_with fail
      refine (toPolyS_any ai ci r ps _ HI.out hcs).mono ?_
      rintro e w2 ⟨u, ys, rfl, hys, hrow, hb2⟩
      obtain ⟨au, lu, cu, rfl⟩ : ∃ a n c, u = .slice a n c := by
        rcases hrow.row.2 with ⟨rfl, _⟩ | ⟨g, cap, cur, rfl, _⟩
        · exact ⟨_, _, _, rfl⟩
        · exact ⟨_, _, _, rfl⟩
      have hr2 := (HR.out.below hb2).row
      rw [HL.out] at hr2
      have hl := hr2.1
      have hdd0 : ∃ u, w2.cell? ⟨w.heap.size, k, none⟩ = some u := by rw [hr2.cellAt _ (by omega)]; exact ⟨_, List.getElem?_eq_getElem (by omega)⟩
      obtain ⟨u0, hu0⟩ := hdd0
      have hf0 := hr2.frozenAt k
      have HR2 := Lib.hid (HR.out.put (k := k) (r := ⟨.slice au lu cu, ys⟩) hb2 hrow hB.size)
      have HB2 := Lib.hid (hB.trans (hb2.mono hB.size))
      have HY := Lib.hid hys
      clear hl hr2 hrow hb2 hys
      go_wp2
      go_roundw
      case rel =>
        exact ⟨k + 1, _, by omega, by go_num, Lib.hid (by rw [List.length_set]; exact HL.out), Lib.hid (map_take_set _ rs k _ rows HT.out hkz (by rw [HL.out, HN.out]) (by rw [HP.out]; exact HY.out)), HR2, HB2.out.setCell (p := ⟨w.heap.size, k, none⟩) (Nat.le_refl _) _⟩
      case measure => simp [intOf]; omega
    · obtain rfl : k = n := by omega
      go_wp2
      go_ret
      have ht := HT.out
      rw [List.take_of_length_le (by unfold rowsOf; rw [List.length_map, HL.out]; exact Nat.le_refl _), List.take_of_length_le (by rw [HN.out]; exact Nat.le_refl _)] at ht
      exact ⟨_, rs, rfl, ht, HR.out, hB⟩

end Go.Proofs.Ytakfobihakbefaa

/- The laws' 'eqIntS' and 'eqPoly' at ints that lie anywhere; 'eqPolyS' and 'eqPolySS'. -/

namespace Go.Proofs.Ytakfobihakbefaa
open Go.RowKit

set_option maxHeartbeats 1000000 in
theorem eqIntSI_yes (a1 a2 : Option Addr) (c1 c2 n : Nat) (zs : List Int) (w : World) (h1 : Ints w a1 n zs) (h2 : Ints w a2 n zs) :
    Calls Try.prog 113 #[.slice a1 n c1, .slice a2 n c2] w fun e w' => e = .returned (.bool true) ∧ Below w.heap.size w w' := by
  have hm := h1.max
  unfold maxLen at hm
  have H1 := Lib.hid h1
  have H2 := Lib.hid h2
  clear h1 h2
  go_enter Try.func113, Try.ntmps113
  go_wp2
  go_loopw [5] (fun i wr => ∃ k : Nat, k ≤ n ∧ i = .int .i64 k ∧ Below w.heap.size w wr) (fun i _ => n - (intOf i).toNat)
  case atStart => exact ⟨0, Nat.zero_le _, rfl, Below.refl _ _⟩
  case round =>
    obtain ⟨k, hk, rfl, hB⟩ := hrel
    by_cases hlt : k < n
    · obtain ⟨z1, rfl, hb1, hc1⟩ := (H1.out.below hB).at_ (by omega)
      obtain ⟨z2, rfl, hb2, hc2⟩ := (H2.out.below hB).at_ (by omega)
      have hkz : k < zs.length := by rw [H1.out.len]; exact hlt
      obtain ⟨z, hz⟩ : ∃ z, zs[k] = z := ⟨_, rfl⟩
      have d1 := hc1 k hkz
      have d2 := hc2 k hkz
      rw [hz] at d1 d2
      clear hz hkz hc1 hc2
      go_wp2
      go_quiet (fail)
      go_wp2
      go_roundw
      case rel => exact ⟨k + 1, by omega, by go_num, below_drewN hB _⟩
      case measure => simp [intOf]; omega
    · go_wp2
      go_ret
      exact ⟨rfl, hB⟩

set_option maxRecDepth 100000 in
set_option maxHeartbeats 1000000 in
theorem eqPolyI_yes {W : World} {a a2 : Option Addr} {n c c2 : Nat} {l : Int} {zs : List Int} (h : Ints W a n zs) (h2 : Ints W a2 n zs) :
    Calls Try.prog 60 #[plV l (.slice a n c), plV l (.slice a2 n c2)] W fun e w' => e = .returned (.bool true) ∧ Below W.heap.size W w' := by
  obtain ⟨V, hV⟩ : ∃ V, (W.alloc (.cells #[.int .i64 l, .slice a n c] 25)).alloc (.cells #[.int .i64 l, .slice a2 n c2] 25) = V := ⟨_, rfl⟩
  have hbV : Below W.heap.size W V := by rw [← hV]; exact ((Below.refl _ W).alloc (Nat.le_refl _) _).alloc (by simp) _
  have hC := twoCells hV (Below.refl _ _)
  rw [← hV] at hC
  obtain ⟨q0, q1, q2, q3⟩ := hC
  have HS := Lib.hid (eqIntSI_yes a a2 c c2 n zs V (h.below hbV) (h2.below hbV))
  have HB := Lib.hid hbV
  have HV := Lib.hid hV
  clear hV hbV h h2
  go_enter Try.func60, Try.ntmps60
  go_wp2_with fail
  rw [HV.out]
  refine HS.out.mono ?_
  rintro e w1 ⟨rfl, hb1⟩
  have HB1 := Lib.hid (HB.out.trans (hb1.mono HB.out.size))
  clear hb1 q0 q1 q2 q3
  go_wp2
  go_ret
  exact ⟨rfl, HB1.out⟩

set_option maxRecDepth 100000 in
set_option maxHeartbeats 2000000 in
theorem eqPolyS_yes (a b : Option Addr) (c d n : Nat) (ps : List Pl) (w : World) (h1 : IsPS w a n ps) (h2 : IsPS w b n ps) :
    Calls Try.prog 118 #[.slice a n c, .slice b n d] w fun e w' => e = .returned (.bool true) ∧ Below w.heap.size w w' := by
  have hm := h1.max
  have HN := Lib.hid h1.len
  have H1 := Lib.hid h1
  have H2 := Lib.hid h2
  have hmx : Try.prog.follows .mixedOrders = true := by kernel_rfl
  clear h1 h2
  unfold maxLen at hm
  go_enter Try.func118, Try.ntmps118
  go_wp2
  go_loopw [5] (fun i wr => ∃ k : Nat, k ≤ n ∧ i = .int .i64 k ∧ Below w.heap.size w wr) (fun i _ => n - (intOf i).toNat)
  case atStart => exact ⟨0, Nat.zero_le _, rfl, Below.refl _ _⟩
  case round =>
    obtain ⟨k, hk, rfl, hB⟩ := hrel
    by_cases hlt : k < n
    · have hkz : k < ps.length := by rw [HN.out]; exact hlt
      obtain ⟨x, rfl, hxb, hx⟩ := H1.out.at_ (by omega)
      obtain ⟨y, rfl, hyb, hy⟩ := H2.out.at_ (by omega)
      obtain ⟨ai, ci, hc0, hc1, hI, _⟩ := hx k hkz
      obtain ⟨bi, di, he0, he1, hJ, _⟩ := hy k hkz
      have hxB := Nat.lt_of_lt_of_le hxb hB.size
      have hyB := Nat.lt_of_lt_of_le hyb hB.size
      have hc2 := (hB.cell (p := x.add (k * 2)) (by rw [addr_add_block]; exact hxb)).trans hc0
      have hc3 := (hB.cell (p := x.add (k * 2 + 1)) (by rw [addr_add_block]; exact hxb)).trans hc1
      have he2 := (hB.cell (p := y.add (k * 2)) (by rw [addr_add_block]; exact hyb)).trans he0
      have he3 := (hB.cell (p := y.add (k * 2 + 1)) (by rw [addr_add_block]; exact hyb)).trans he1
      rw [addr_next2] at hc3 he3
      have v0 := BelowBy.cell (w := wr) (by rw [addr_add_block]; exact hxB) hc2
      have v1 := BelowBy.cell (w := wr) (by show (x.add (k * 2)).block < _; rw [addr_add_block]; exact hxB) hc3
      have v2 := BelowBy.cell (w := wr) (by rw [addr_add_block]; exact hyB) he2
      have v3 := BelowBy.cell (w := wr) (by show (y.add (k * 2)).block < _; rw [addr_add_block]; exact hyB) he3
      obtain ⟨p, hp⟩ : ∃ p, ps[k] = p := ⟨_, rfl⟩
      rw [hp] at hI hJ v0 v1 v2 v3
      obtain ⟨r, hr⟩ : ∃ r, p.cs.length = r := ⟨_, rfl⟩
      rw [hr] at hI hJ v1 v3
      have HT : Hid (∀ q : BelowBy wr, Calls Try.prog 60 #[plV p.low (.slice ai r ci), plV p.low (.slice bi r di)] q.world fun e w' => e = .returned (.bool true) ∧ Below q.world.heap.size q.world w') :=
        Lib.hid fun q => eqPolyI_yes ((hI.below hB).below q.below) ((hJ.below hB).below q.below)
      clear hx hy hc0 hc1 he0 he1 hc2 hc3 he2 he3 hI hJ hr hp
      go_wp2
      refine wp_region_below hmx (by kernel_rfl) ?_
      repeat (((with_reducible refine wpQuiet_step (fun K hK => ?_)); go_simp; first | ((with_reducible refine hK _ ?_); clear hK K) | (refine (if_neg (by decide)).mpr ?_; (with_reducible refine hK _ ?_); clear hK K) | (apply Exists.intro; (with_reducible refine ⟨fun _ => ?_, hK _ ?_⟩); (go_at_call 60; exact Calls.bel (HT.out _)); clear hK K)))
      with_reducible refine wpQuiet_nil ?_
      rintro _ ⟨⟨W, hW⟩, rfl⟩
      clear v0 v1 v2 v3
      go_wp2
      go_roundw
      case rel => exact ⟨k + 1, by omega, by go_num, hB.trans (hW.mono hB.size)⟩
      case measure => simp [intOf]; omega
    · go_wp2
      go_ret
      exact ⟨rfl, hB⟩

set_option maxRecDepth 100000 in
set_option maxHeartbeats 2000000 in
theorem eqPolySS_yes (a b : Option Addr) (c d n : Nat) (rows : List (List Pl)) (w : World) (h1 : IsPSS w a n rows) (h2 : IsPSS w b n rows) :
    Calls Try.prog 65 #[.slice a n c, .slice b n d] w fun e w' => e = .returned (.bool true) ∧ Below w.heap.size w w' := by
  have hm := h1.max
  have HN := Lib.hid h1.len
  have H1 := Lib.hid h1
  have H2 := Lib.hid h2
  have hmx : Try.prog.follows .mixedOrders = true := by kernel_rfl
  clear h1 h2
  unfold maxLen at hm
  go_enter Try.func65, Try.ntmps65
  go_wp2
  go_loopw [5] (fun i wr => ∃ k : Nat, k ≤ n ∧ i = .int .i64 k ∧ Below w.heap.size w wr) (fun i _ => n - (intOf i).toNat)
  case atStart => exact ⟨0, Nat.zero_le _, rfl, Below.refl _ _⟩
  case round =>
    obtain ⟨k, hk, rfl, hB⟩ := hrel
    by_cases hlt : k < n
    · have hkz : k < rows.length := by rw [HN.out]; exact hlt
      obtain ⟨x, rfl, hxb, hx⟩ := H1.out.at_ (by omega)
      obtain ⟨y, rfl, hyb, hy⟩ := H2.out.at_ (by omega)
      obtain ⟨ai, ci, hc, hI⟩ := hx k hkz
      obtain ⟨bi, di, he, hJ⟩ := hy k hkz
      have hc0 := (hB.cell (p := x.add k) (by rw [addr_add_block]; exact hxb)).trans hc
      have he0 := (hB.cell (p := y.add k) (by rw [addr_add_block]; exact hyb)).trans he
      have v0 := BelowBy.cell (w := wr) (by rw [addr_add_block]; exact Nat.lt_of_lt_of_le hxb hB.size) hc0
      have v1 := BelowBy.cell (w := wr) (by rw [addr_add_block]; exact Nat.lt_of_lt_of_le hyb hB.size) he0
      obtain ⟨r, hr⟩ : ∃ r, rows[k].length = r := ⟨_, rfl⟩
      rw [hr] at hI hJ v0 v1
      have HT : Hid (∀ p : BelowBy wr, Calls Try.prog 118 #[.slice ai r ci, .slice bi r di] p.world fun e w' => e = .returned (.bool true) ∧ Below p.world.heap.size p.world w') :=
        Lib.hid fun p => eqPolyS_yes _ _ _ _ _ _ _ ((hI.below hB).below p.below) ((hJ.below hB).below p.below)
      clear hx hy hc he hc0 he0 hI hJ hr
      go_wp2
      refine wp_region_below hmx (by kernel_rfl) ?_
      repeat (((with_reducible refine wpQuiet_step (fun K hK => ?_)); go_simp; first | ((with_reducible refine hK _ ?_); clear hK K) | (refine (if_neg (by decide)).mpr ?_; (with_reducible refine hK _ ?_); clear hK K) | (apply Exists.intro; (with_reducible refine ⟨fun _ => ?_, hK _ ?_⟩); (go_at_call 118; exact Calls.bel (HT.out _)); clear hK K)))
      with_reducible refine wpQuiet_nil ?_
      rintro _ ⟨⟨W, hW⟩, rfl⟩
      clear v0 v1
      go_wp2
      go_roundw
      case rel => exact ⟨k + 1, by omega, by go_num, hB.trans (hW.mono hB.size)⟩
      case measure => simp [intOf]; omega
    · go_wp2
      go_ret
      exact ⟨rfl, hB⟩

end Go.Proofs.Ytakfobihakbefaa

/- Marks in lists of polynomials and lists of these: the laws' 'markPolyS', 'markPolySS', 'heldPolyS' and 'heldPolySS'. -/

namespace Go.Proofs.Ytakfobihakbefaa
open Go.RowKit

def offX (xs : List Pv) (i : Nat) : Nat := i + csum ((xs.map (·.p)).take i)
def totX (xs : List Pv) : Nat := totR (xs.map (·.p))
theorem offX_succ (xs : List Pv) (i : Nat) (h : i < xs.length) : offX xs (i + 1) = offX xs i + 1 + xs[i].p.cs.length := by
  unfold offX; rw [csum_succ _ i (by rw [List.length_map]; exact h), List.getElem_map]; omega
theorem offX_le (xs : List Pv) (i : Nat) (h : i ≤ xs.length) : offX xs i ≤ totX xs := by
  unfold offX totX totR; have := csum_take_le (xs.map (·.p)) i; rw [List.length_map]; omega
theorem offX_all (xs : List Pv) : offX xs xs.length = totX xs := by
  unfold offX totX totR; rw [List.take_of_length_le (by rw [List.length_map]; exact Nat.le_refl _), List.length_map]
def markX (k : Nat) (x : Pv) : Pv := ⟨⟨(k : Int), marks (k + 1) x.p.cs.length⟩, x.v⟩
/-- The first j polynomials are marked. -/
def halfX (k j : Nat) (xs : List Pv) : List Pv := xs.mapIdx fun i x => if i < j then markX (k + offX xs i) x else x
theorem halfX_len (k j : Nat) (xs : List Pv) : (halfX k j xs).length = xs.length := by simp [halfX]
theorem halfX_get (k j : Nat) (xs : List Pv) (i : Nat) (h : i < xs.length) : (halfX k j xs)[i]'(by rw [halfX_len]; exact h) = if i < j then markX (k + offX xs i) xs[i] else xs[i] := by
  simp [halfX]
theorem halfX_v (k j : Nat) (xs : List Pv) (i : Nat) (h : i < xs.length) : ((halfX k j xs)[i]'(by rw [halfX_len]; exact h)).v = xs[i].v := by
  rw [halfX_get k j xs i h]; split <;> rfl
theorem halfX_zero (k : Nat) (xs : List Pv) : halfX k 0 xs = xs := by
  apply List.ext_getElem (by rw [halfX_len])
  intro i h1 h2
  rw [halfX_get k 0 xs i h2, if_neg (Nat.not_lt_zero _)]
theorem halfX_succ (k j : Nat) (xs : List Pv) (hj : j < xs.length) : halfX k (j + 1) xs = (halfX k j xs).set j (markX (k + offX xs j) xs[j]) := by
  apply List.ext_getElem (by rw [List.length_set, halfX_len, halfX_len])
  intro i h1 h2
  rw [halfX_len] at h1
  rw [halfX_get k (j + 1) xs i h1, List.getElem_set]
  by_cases e : j = i
  · subst e; rw [if_pos (by omega), if_pos rfl]
  · rw [if_neg e, halfX_get k j xs i h1]
    by_cases hij : i < j
    · rw [if_pos hij, if_pos (by omega)]
    · rw [if_neg hij, if_neg (by omega)]
theorem FootR.half {k j : Nat} {u : Value} {xs : List Pv} {b : Nat} : FootR u (halfX k j xs) b ↔ FootR u xs b := by
  unfold FootR
  refine or_congr Iff.rfl ⟨?_, ?_⟩
  · rintro ⟨i, hi, h⟩
    have hi2 : i < xs.length := by rw [halfX_len] at hi; exact hi
    exact ⟨i, hi2, by rw [halfX_v k j xs i hi2] at h; exact h⟩
  · rintro ⟨i, hi, h⟩
    exact ⟨i, by rw [halfX_len]; exact hi, by rw [halfX_v k j xs i hi]; exact h⟩
theorem list_set_self {α : Type} (l : List α) (i : Nat) (x : α) (h : l[i]? = some x) : l.set i x = l := by
  obtain ⟨hi, rfl⟩ := List.getElem?_eq_some_iff.1 h
  exact List.set_getElem_self hi
/-- A polynomial whose Low and coefficients are turned in place. -/
theorem OwnR.turn {lo g n c : Nat} {w w2 : World} {xs : List Pv} {p : Pl} {k : Nat} (h : OwnR lo w (.slice (some ⟨g, 0, none⟩) n c) xs) (hk : k < xs.length) (hg : (w.setCell ⟨g, k * 2, none⟩ (.int .i64 p.low)).grownBy w2 xs[k].v.ownBlock) (hp : IntRow lo w2 xs[k].v p.cs) :
    OwnR lo w2 (.slice (some ⟨g, 0, none⟩) n c) (xs.set k ⟨p, xs[k].v⟩) := by
  have hn : xs.length = n := by
    rcases h.row.2 with ⟨e, _⟩ | ⟨g, cap, cur, e, _⟩
    · cases e
    · simp only [Value.slice.injEq] at e; exact e.2.1.symm
  subst hn
  have hst := (h.row.stored (k * 2) (.int .i64 p.low)).1
  have hc : (cellsP xs).set (k * 2) (.int .i64 p.low) = cellsP (xs.set k ⟨p, xs[k].v⟩) := by
    rw [← cellsP_set xs k ⟨p, xs[k].v⟩ hk]
    refine (list_set_self _ _ _ ?_).symm
    rw [List.getElem?_set_ne (by omega)]
    exact (cellsP_get xs k hk).2
  rw [hc] at hst
  refine ⟨?_, fun i hi => ?_, fun i hi b hb1 hb2 => ?_, fun i j hi hj b hne h1 h2 => ?_⟩
  · rw [List.length_set]
    exact ownsRow_touched hst fun b hb hl => hg.block b hl fun e => h.head k hk b hb e.symm
  · rw [List.length_set] at hi
    rw [List.getElem_set]
    split
    · exact hp
    · rename_i hne
      have h1 : IntRow lo (w.setCell ⟨g, k * 2, none⟩ (.int .i64 p.low)) xs[i].v xs[i].p.cs := (h.poly i hi).off ⟨g, k * 2, none⟩ _ fun b e => fun e2 => h.head i hi b (by rw [e2]; rfl) e
      exact ownsRow_touched h1 fun b hb hl => hg.block b hl fun e => h.apart k i hk hi b hne e.symm hb
  · rw [List.length_set] at hi
    rw [List.getElem_set] at hb2
    split at hb2
    · exact h.head k hk b hb1 hb2
    · exact h.head i hi b hb1 hb2
  · rw [List.length_set] at hi hj
    rw [List.getElem_set] at h1 h2
    split at h1
    · split at h2
      · omega
      · exact h.apart k j hk hj b (by omega) h1 h2
    · split at h2
      · exact h.apart i k hi hk b (by omega) h1 h2
      · exact h.apart i j hi hj b hne h1 h2

set_option maxRecDepth 100000 in
set_option maxHeartbeats 2000000 in
theorem markPolyS_any (lo k : Nat) (u : Value) (xs : List Pv) (w : World) (h : OwnR lo w u xs) (hn : totX xs ≤ 1048576) (hk : k ≤ 100000000) :
    Calls Try.prog 119 #[u, .int .i64 k] w fun e w' => e = .returned (.int .i64 ((k + totX xs : Nat) : Int)) ∧ OwnR lo w' u (halfX k xs.length xs) ∧ Touched (FootR u xs) w w' := by
  obtain ⟨n, hl⟩ : ∃ n, xs.length = n := ⟨_, rfl⟩
  obtain ⟨a, cap, rfl⟩ : ∃ a cap, u = .slice a n cap := by
    rcases h.row.2 with ⟨rfl, h0⟩ | ⟨g, cap, cur, rfl, _⟩
    · exact ⟨none, 0, by rw [← hl, h0]⟩
    · exact ⟨_, _, by rw [hl]⟩
  rw [hl]
  have HA := Lib.hid (offX_all xs)
  have HH := Lib.hid h
  have HL := Lib.hid hl
  have hnb : n ≤ 1048576 := by rw [← hl]; unfold totX totR at hn; rw [List.length_map] at hn; omega
  clear h hl
  go_enter Try.func119, Try.ntmps119
  go_wp2
  go_loopw [1, 5] (fun q i wr => ∃ j m : Nat, j ≤ n ∧ q = .int .i64 m ∧ i = .int .i64 j ∧ Hid (m = k + offX xs j) ∧ Hid (OwnR lo wr (.slice a n cap) (halfX k j xs)) ∧ Hid (Touched (FootR (.slice a n cap) xs) w wr)) (fun _ i _ => n - (intOf i).toNat)
  case atStart => exact ⟨0, k, Nat.zero_le _, rfl, rfl, Lib.hid (by simp [offX, csum]), Lib.hid (by rw [halfX_zero]; exact HH.out), Lib.hid (Touched.refl _ _)⟩
  case round =>
    obtain ⟨j, m, hj, rfl, rfl, HM, HR, HB⟩ := hrel
    have hmb : m ≤ 102000000 := by have := HM.out; have := offX_le xs j (by rw [HL.out]; exact hj); omega
    by_cases hlt : j < n
    · have hjr : j < xs.length := by rw [HL.out]; exact hlt
      obtain ⟨g, rfl, hg⟩ : ∃ g, a = some ⟨g, 0, none⟩ ∧ lo ≤ g := by
        rcases HR.out.row.2 with ⟨_, e1⟩ | ⟨g, cap1, cur, e0, hg, _⟩
        · rw [halfX_len, HL.out] at e1; omega
        · simp only [Value.slice.injEq] at e0; exact ⟨g, e0.1, hg⟩
      have hrow := HR.out.row
      have hxl := hrow.1
      rw [halfX_len, HL.out] at hrow hxl
      have hget := cellsP_get (halfX k j xs) j (by rw [halfX_len]; exact hjr)
      rw [halfX_get k j xs j hjr, if_neg (Nat.lt_irrefl _)] at hget
      have hd0 : wr.cell? ⟨g, j * 2, none⟩ = some (.int .i64 xs[j].p.low) := by rw [hrow.cellAt _ (by omega)]; exact hget.1
      have hd1 : wr.cell? ⟨g, j * 2 + 1, none⟩ = some xs[j].v := by rw [hrow.cellAt _ (by omega)]; exact hget.2
      have hf0 := hrow.frozenAt (j * 2)
      have hst := hrow.stored (j * 2) (.int .i64 (m : Int))
      have hpo := HR.out.poly j (by rw [halfX_len]; exact hjr)
      rw [halfX_get k j xs j hjr, if_neg (Nat.lt_irrefl _)] at hpo
      have hpo2 : IntRow lo (wr.setCell ⟨g, j * 2, none⟩ (.int .i64 (m : Int))) xs[j].v xs[j].p.cs := hpo.off ⟨g, j * 2, none⟩ _ fun b e => fun e2 => HR.out.head j (by rw [halfX_len]; exact hjr) b (by rw [e2]; rfl) (by rw [halfX_v k j xs j hjr]; exact e)
      have he1 : (wr.setCell ⟨g, j * 2, none⟩ (.int .i64 (m : Int))).cell? ⟨g, j * 2 + 1, none⟩ = some xs[j].v := by
        rw [hst.1.cellAt _ (by omega), List.getElem?_set_ne (by omega)]; exact hget.2
      have HTU := Lib.hid (fun w2 => HR.out.turn (w2 := w2) (p := ⟨(m : Int), marks (m + 1) xs[j].p.cs.length⟩) (k := j) (by rw [halfX_len]; exact hjr))
      have hsucc := offX_succ xs j hjr
      have hle := offX_le xs (j + 1) (by omega)
      obtain ⟨x, hx⟩ : ∃ x, xs[j] = x := ⟨_, rfl⟩
      have hvx : ((halfX k j xs)[j]'(by rw [halfX_len]; exact hjr)).v = x.v := by rw [halfX_v k j xs j hjr, hx]
      have HHS := halfX_succ k j xs hjr
      rw [hx] at hpo2 he1 hd0 hd1 hsucc HTU HHS
      rw [← HM.out] at HHS
      have hr3 : x.p.cs.length ≤ 1048576 := by omega
      have HC := Lib.hid (markIntS_any lo x.v x.p.cs (m + 1) _ hpo2 (by omega) (by omega))
      have HX := Lib.hid hx
      have HS := Lib.hid hsucc
      have HV := Lib.hid hvx
      have HHS2 := Lib.hid HHS
      have HFX : Hid (FootR (.slice (some ⟨g, 0, none⟩) n cap) xs g) := Lib.hid (.inl rfl)
      have HFY : Hid (∀ b, x.v.ownBlock = some b → FootR (.slice (some ⟨g, 0, none⟩) n cap) xs b) := Lib.hid fun b e => .inr ⟨j, hjr, by rw [hx]; exact e⟩
      have HG1 := Lib.hid hst.2
      clear hrow hxl hget hst hpo hpo2 hsucc hle hx hvx HHS
      go_wp2_with fail
      refine (show Calls Try.prog 114 #[x.v, .int .i64 ((m : Int) + 1)] _ _ from HC.out).mono ?_
      rintro e w4 ⟨rfl, hi4, hg4⟩
      obtain ⟨m2, hm2⟩ : ∃ m2, m + 1 + x.p.cs.length = m2 := ⟨_, rfl⟩
      rw [hm2]
      have HM2 := Lib.hid hm2
      have HR4 := Lib.hid (HTU.out w4 (by rw [HV.out]; exact hg4) (by rw [HV.out]; exact hi4))
      have HB4 := Lib.hid ((HB.out.grown HG1.out fun b e => by simp only [Option.some.injEq] at e; rw [← e]; exact HFX.out).grown hg4 fun b e => HFY.out b e)
      clear hi4 hg4 hm2 he1 hd0 hd1 hf0
      go_wp2
      go_roundw
      case rel =>
        refine ⟨j + 1, m2, by omega, rfl, by go_num, Lib.hid (by rw [HS.out, ← HM2.out, HM.out]; omega), Lib.hid ?_, HB4⟩
        have h5 := HR4.out
        rw [HV.out] at h5
        rw [HHS2.out]
        exact h5
      case measure => simp [intOf]; omega
    · obtain rfl : j = n := by omega
      have hm := HM.out
      have hx := HA.out
      rw [HL.out] at hx
      rw [hx] at hm
      have HM2 := Lib.hid hm
      clear hm hx
      go_wp2
      go_ret
      exact ⟨ret_int (by rw [HM2.out]), HR.out, HB.out⟩

set_option maxRecDepth 100000 in
set_option maxHeartbeats 2000000 in
theorem heldPolyS_any (lo k : Nat) (u : Value) (xs : List Pv) (w : World) (h : OwnR lo w u (halfX k xs.length xs)) (hn : totX xs ≤ 1048576) (hk : k ≤ 100000000) :
    Calls Try.prog 120 #[u, .int .i64 k] w fun e w' => e = .returned (.int .i64 ((k + totX xs : Nat) : Int)) ∧ Below w.heap.size w w' := by
  obtain ⟨n, hl⟩ : ∃ n, xs.length = n := ⟨_, rfl⟩
  obtain ⟨a, cap, rfl⟩ : ∃ a cap, u = .slice a n cap := by
    rcases h.row.2 with ⟨rfl, h0⟩ | ⟨g, cap, cur, rfl, _⟩
    · rw [halfX_len] at h0; exact ⟨none, 0, by rw [← hl, h0]⟩
    · exact ⟨_, _, by rw [halfX_len, hl]⟩
  rw [hl] at h
  have HA := Lib.hid (offX_all xs)
  have HH := Lib.hid h
  have HL := Lib.hid hl
  have hnb : n ≤ 1048576 := by rw [← hl]; unfold totX totR at hn; rw [List.length_map] at hn; omega
  clear h hl
  go_enter Try.func120, Try.ntmps120
  go_wp2
  go_loopw [1, 5] (fun q i wr => ∃ j m : Nat, j ≤ n ∧ q = .int .i64 m ∧ i = .int .i64 j ∧ Hid (m = k + offX xs j) ∧ Below w.heap.size w wr) (fun _ i _ => n - (intOf i).toNat)
  case atStart => exact ⟨0, k, Nat.zero_le _, rfl, rfl, Lib.hid (by simp [offX, csum]), Below.refl _ _⟩
  case round =>
    obtain ⟨j, m, hj, rfl, rfl, HM, hB⟩ := hrel
    have hmb : m ≤ 102000000 := by have := HM.out; have := offX_le xs j (by rw [HL.out]; exact hj); omega
    by_cases hlt : j < n
    · have hjr : j < xs.length := by rw [HL.out]; exact hlt
      obtain ⟨g, rfl, hg⟩ : ∃ g, a = some ⟨g, 0, none⟩ ∧ lo ≤ g := by
        rcases HH.out.row.2 with ⟨_, e1⟩ | ⟨g, cap1, cur, e0, hg, _⟩
        · rw [halfX_len, HL.out] at e1; omega
        · simp only [Value.slice.injEq] at e0; exact ⟨g, e0.1, hg⟩
      have hR := HH.out.below hB
      have hrow := hR.row
      rw [halfX_len, HL.out] at hrow
      have hget := cellsP_get (halfX k n xs) j (by rw [halfX_len]; exact hjr)
      rw [halfX_get k n xs j hjr, if_pos hlt, ← HM.out] at hget
      have hd0 : wr.cell? ⟨g, j * 2, none⟩ = some (.int .i64 (m : Int)) := by rw [hrow.cellAt _ (by omega)]; exact hget.1
      have hd1 : wr.cell? ⟨g, j * 2 + 1, none⟩ = some xs[j].v := by rw [hrow.cellAt _ (by omega)]; exact hget.2
      have hpo := hR.poly j (by rw [halfX_len]; exact hjr)
      rw [halfX_get k n xs j hjr, if_pos hlt, ← HM.out] at hpo
      have hsucc := offX_succ xs j hjr
      have hle := offX_le xs (j + 1) (by omega)
      have hpo2 : IntRow lo wr xs[j].v (marks (m + 1) xs[j].p.cs.length) := hpo
      obtain ⟨x, hx⟩ : ∃ x, xs[j] = x := ⟨_, rfl⟩
      rw [hx] at hpo2 hd1 hsucc
      have hr3 : x.p.cs.length ≤ 1048576 := by omega
      have HC := Lib.hid (heldIntS_any lo x.v x.p.cs.length (m + 1) _ hpo2 (by omega) (by omega))
      have HS := Lib.hid hsucc
      clear hrow hget hpo hpo2 hsucc hle hx hR
      go_wp2_with fail
      refine (show Calls Try.prog 115 #[x.v, .int .i64 ((m : Int) + 1)] _ _ from (HC.out)).mono ?_
      rintro e w4 ⟨rfl, rfl⟩
      have hnn : ¬ ((m + 1 + x.p.cs.length : Nat) : Int) < 0 := by omega
      obtain ⟨m2, hm2⟩ : ∃ m2, m + 1 + x.p.cs.length = m2 := ⟨_, rfl⟩
      rw [hm2] at hnn ⊢
      have hdn : decide ((m2 : Int) < 0) = false := decide_eq_false hnn
      have HM2 := Lib.hid hm2
      clear hm2 hd0 hd1
      go_wp2
      go_roundw
      case rel => exact ⟨j + 1, m2, by omega, rfl, by go_num, Lib.hid (by rw [HS.out, ← HM2.out, HM.out]; omega), hB⟩
      case measure => simp [intOf]; omega
    · obtain rfl : j = n := by omega
      have hm := HM.out
      have hx := HA.out
      rw [HL.out] at hx
      rw [hx] at hm
      have HM2 := Lib.hid hm
      clear hm hx
      go_wp2
      go_ret
      exact ⟨ret_int (by rw [HM2.out]), hB⟩

end Go.Proofs.Ytakfobihakbefaa

/- Marks in lists of lists of polynomials: the laws' 'markPolySS' and 'heldPolySS'. -/

namespace Go.Proofs.Ytakfobihakbefaa
open Go.RowKit

def offR (rs : List Rv) (i : Nat) : Nat := totM ((rowsOf rs).take i)
theorem rowsOf_len (rs : List Rv) : (rowsOf rs).length = rs.length := by simp [rowsOf]
theorem rowsOf_get (rs : List Rv) (i : Nat) (h : i < rs.length) : (rowsOf rs)[i]'(by rw [rowsOf_len]; exact h) = rs[i].xs.map (·.p) := by simp [rowsOf]
theorem offR_succ (rs : List Rv) (i : Nat) (h : i < rs.length) : offR rs (i + 1) = offR rs i + totX rs[i].xs := by
  unfold offR totX; rw [totM_succ _ i (by rw [rowsOf_len]; exact h), rowsOf_get rs i h]
theorem offR_le (rs : List Rv) (i : Nat) : offR rs i ≤ totM (rowsOf rs) := totM_take_le _ i
theorem offR_all (rs : List Rv) : offR rs rs.length = totM (rowsOf rs) := by
  unfold offR; rw [List.take_of_length_le (by rw [rowsOf_len]; exact Nat.le_refl _)]
def markRv (k : Nat) (r : Rv) : Rv := ⟨r.u, halfX k r.xs.length r.xs⟩
def halfM (k j : Nat) (rs : List Rv) : List Rv := rs.mapIdx fun i r => if i < j then markRv (k + offR rs i) r else r
theorem halfM_len (k j : Nat) (rs : List Rv) : (halfM k j rs).length = rs.length := by simp [halfM]
theorem halfM_get (k j : Nat) (rs : List Rv) (i : Nat) (h : i < rs.length) : (halfM k j rs)[i]'(by rw [halfM_len]; exact h) = if i < j then markRv (k + offR rs i) rs[i] else rs[i] := by
  simp [halfM]
theorem halfM_u (k j : Nat) (rs : List Rv) (i : Nat) (h : i < rs.length) : ((halfM k j rs)[i]'(by rw [halfM_len]; exact h)).u = rs[i].u := by
  rw [halfM_get k j rs i h]; split <;> rfl
theorem halfM_foot (k j : Nat) (rs : List Rv) (i : Nat) (h : i < rs.length) (b : Nat) : FootR ((halfM k j rs)[i]'(by rw [halfM_len]; exact h)).u ((halfM k j rs)[i]'(by rw [halfM_len]; exact h)).xs b ↔ FootR rs[i].u rs[i].xs b := by
  rw [halfM_get k j rs i h]
  split
  · exact FootR.half
  · exact Iff.rfl
theorem halfM_zero (k : Nat) (rs : List Rv) : halfM k 0 rs = rs := by
  apply List.ext_getElem (by rw [halfM_len])
  intro i h1 h2
  rw [halfM_get k 0 rs i h2, if_neg (Nat.not_lt_zero _)]
theorem halfM_succ (k j : Nat) (rs : List Rv) (hj : j < rs.length) : halfM k (j + 1) rs = (halfM k j rs).set j (markRv (k + offR rs j) rs[j]) := by
  apply List.ext_getElem (by rw [List.length_set, halfM_len, halfM_len])
  intro i h1 h2
  rw [halfM_len] at h1
  rw [halfM_get k (j + 1) rs i h1, List.getElem_set]
  by_cases e : j = i
  · subst e; rw [if_pos (by omega), if_pos rfl]
  · rw [if_neg e, halfM_get k j rs i h1]
    by_cases hij : i < j
    · rw [if_pos hij, if_pos (by omega)]
    · rw [if_neg hij, if_neg (by omega)]
theorem OwnM.turn {lo : Nat} {w w2 : World} {v : Value} {rs : List Rv} {r : Rv} {k : Nat} (h : OwnM lo w v rs) (hk : k < rs.length) (ht : Touched (FootR rs[k].u rs[k].xs) w w2) (hr : OwnR lo w2 r.u r.xs) (hu : r.u = rs[k].u) (hf : ∀ b, FootR r.u r.xs b → FootR rs[k].u rs[k].xs b) :
    OwnM lo w2 v (rs.set k r) := by
  refine ⟨?_, fun i hi => ?_, fun i hi b hb1 hb2 => ?_, fun i j hi hj b hne h1 h2 => ?_⟩
  · have e : (rs.set k r).map (·.u) = rs.map (·.u) := by
      rw [List.map_set, hu]
      exact list_set_self _ _ _ (by rw [List.getElem?_map, List.getElem?_eq_getElem hk]; rfl)
    rw [List.length_set, e]
    exact ownsRow_touched h.row fun b hb hl => ht.block b hl fun e => h.head k hk b hb e
  · rw [List.length_set] at hi
    rw [List.getElem_set]
    split
    · exact hr
    · rename_i hne
      exact (h.each i hi).touched ht fun b hb e => h.apart i k hi hk b (fun e => hne e.symm) hb e
  · rw [List.length_set] at hi
    rw [List.getElem_set] at hb2
    split at hb2
    · exact h.head k hk b hb1 (hf b hb2)
    · exact h.head i hi b hb1 hb2
  · rw [List.length_set] at hi hj
    rw [List.getElem_set] at h1 h2
    split at h1
    · split at h2
      · omega
      · exact h.apart k j hk hj b (by omega) (hf b h1) h2
    · split at h2
      · exact h.apart i k hi hk b (by omega) h1 (hf b h2)
      · exact h.apart i j hi hj b hne h1 h2

set_option maxRecDepth 100000 in
set_option maxHeartbeats 2000000 in
theorem markPolySS_any (lo k : Nat) (v : Value) (rs : List Rv) (w : World) (h : OwnM lo w v rs) (hn : rs.length + totM (rowsOf rs) ≤ 1048576) (hk : k ≤ 10000000) :
    Calls Try.prog 66 #[v, .int .i64 k] w fun e w' => e = .returned (.int .i64 ((k + totM (rowsOf rs) : Nat) : Int)) ∧ OwnM lo w' v (halfM k rs.length rs) ∧ Touched (FootM rs) w w' := by
  obtain ⟨n, hl⟩ : ∃ n, rs.length = n := ⟨_, rfl⟩
  obtain ⟨a, cap, rfl⟩ : ∃ a cap, v = .slice a n cap := by
    rcases h.row.2 with ⟨rfl, h0⟩ | ⟨g, cap, cur, rfl, _⟩
    · exact ⟨none, 0, by rw [← hl, h0]⟩
    · exact ⟨_, _, by rw [hl]⟩
  rw [hl]
  have HA := Lib.hid (offR_all rs)
  have HH := Lib.hid h
  have HL := Lib.hid hl
  have hnb : n ≤ 1048576 := by omega
  clear h hl
  go_enter Try.func66, Try.ntmps66
  go_wp2
  go_loopw [1, 5] (fun q i wr => ∃ j m : Nat, j ≤ n ∧ q = .int .i64 m ∧ i = .int .i64 j ∧ Hid (m = k + offR rs j) ∧ Hid (OwnM lo wr (.slice a n cap) (halfM k j rs)) ∧ Hid (Touched (FootM rs) w wr)) (fun _ i _ => n - (intOf i).toNat)
  case atStart => exact ⟨0, k, Nat.zero_le _, rfl, rfl, Lib.hid (by simp [offR, totM]), Lib.hid (by rw [halfM_zero]; exact HH.out), Lib.hid (Touched.refl _ _)⟩
  case round =>
    obtain ⟨j, m, hj, rfl, rfl, HM, HR, HB⟩ := hrel
    have hmb : m ≤ 12000000 := by have := HM.out; have := offR_le rs j; omega
    by_cases hlt : j < n
    · have hjr : j < rs.length := by rw [HL.out]; exact hlt
      obtain ⟨g, rfl, hg⟩ : ∃ g, a = some ⟨g, 0, none⟩ ∧ lo ≤ g := by
        rcases HR.out.row.2 with ⟨_, e1⟩ | ⟨g, cap1, cur, e0, hg, _⟩
        · rw [halfM_len, HL.out] at e1; omega
        · simp only [Value.slice.injEq] at e0; exact ⟨g, e0.1, hg⟩
      have hrow := HR.out.row
      have hget : ((halfM k j rs).map (·.u))[j]? = some rs[j].u := by
        rw [List.getElem?_map, List.getElem?_eq_getElem (by rw [halfM_len]; exact hjr), Option.map_some, halfM_u k j rs j hjr]
      have hcell := hrow.cells rfl j _ hget
      rw [show (⟨g, 0, none⟩ : Addr).add j = ⟨g, j, none⟩ by unfold Addr.add; split <;> simp_all] at hcell
      have hown := HR.out.each j (by rw [halfM_len]; exact hjr)
      rw [halfM_get k j rs j hjr, if_neg (Nat.lt_irrefl _)] at hown
      have hsucc := offR_succ rs j hjr
      have hle := offR_le rs (j + 1)
      have HTU := Lib.hid (fun w2 => HR.out.turn (w2 := w2) (r := markRv m rs[j]) (k := j) (by rw [halfM_len]; exact hjr))
      have HHS := Lib.hid (halfM_succ k j rs hjr)
      have HFJ : Hid (∀ b, FootR ((halfM k j rs)[j]'(by rw [halfM_len]; exact hjr)).u ((halfM k j rs)[j]'(by rw [halfM_len]; exact hjr)).xs b ↔ FootR rs[j].u rs[j].xs b) := Lib.hid (halfM_foot k j rs j hjr)
      have HUJ := Lib.hid (halfM_u k j rs j hjr)
      have htx : totX rs[j].xs ≤ 1048576 := by omega
      have HC := Lib.hid (markPolyS_any lo m rs[j].u rs[j].xs wr hown htx (by omega))
      have HSu := Lib.hid hsucc
      have HFM : Hid (∀ b, FootR rs[j].u rs[j].xs b → FootM rs b) := Lib.hid fun b hb => ⟨j, hjr, hb⟩
      have hmx : m + totX rs[j].xs ≤ 12000000 := by have := HM.out; omega
      obtain ⟨y, hy⟩ : ∃ y, totX rs[j].xs = y := ⟨_, rfl⟩
      obtain ⟨u, hu⟩ : ∃ u, rs[j].u = u := ⟨_, rfl⟩
      rw [hu] at hcell
      rw [hy] at hmx
      have HU := Lib.hid hu
      have HY := Lib.hid hy
      clear hrow hget hown hsucc hle htx hu hy
      go_wp2_with fail
      rw [← HU.out]
      refine HC.out.mono ?_
      rintro e w2 ⟨rfl, ho2, ht2⟩
      rw [HY.out]
      obtain ⟨m2, hm2⟩ : ∃ m2, m + y = m2 := ⟨_, rfl⟩
      rw [hm2] at hmx ⊢
      have HM2 := Lib.hid hm2
      have HO2 : Hid (OwnR lo w2 (markRv m rs[j]).u (markRv m rs[j]).xs) := Lib.hid ho2
      have HT2 := Lib.hid ht2
      clear ho2 ht2 hcell hm2
      go_wp2
      go_roundw
      case rel =>
        refine ⟨j + 1, m2, by omega, rfl, by go_num, Lib.hid (by rw [HSu.out, ← HM2.out, HM.out, HY.out]; omega), Lib.hid ?_, Lib.hid (HB.out.trans (HT2.out.mono HFM.out))⟩
        rw [HHS.out, ← HM.out]
        exact HTU.out w2 (HT2.out.mono fun b hb => (HFJ.out b).2 hb) HO2.out HUJ.out.symm fun b hb => (HFJ.out b).2 (FootR.half.1 hb)
      case measure => simp [intOf]; omega
    · obtain rfl : j = n := by omega
      have hm := HM.out
      have hx := HA.out
      rw [HL.out] at hx
      rw [hx] at hm
      have HM2 := Lib.hid hm
      clear hm hx
      go_wp2
      go_ret
      exact ⟨ret_int (by rw [HM2.out]), HR.out, HB.out⟩

set_option maxRecDepth 100000 in
set_option maxHeartbeats 2000000 in
theorem heldPolySS_any (lo k : Nat) (v : Value) (rs : List Rv) (w : World) (h : OwnM lo w v (halfM k rs.length rs)) (hn : rs.length + totM (rowsOf rs) ≤ 1048576) (hk : k ≤ 10000000) :
    Calls Try.prog 67 #[v, .int .i64 k] w fun e w' => e = .returned (.int .i64 ((k + totM (rowsOf rs) : Nat) : Int)) ∧ Below w.heap.size w w' := by
  obtain ⟨n, hl⟩ : ∃ n, rs.length = n := ⟨_, rfl⟩
  obtain ⟨a, cap, rfl⟩ : ∃ a cap, v = .slice a n cap := by
    rcases h.row.2 with ⟨rfl, h0⟩ | ⟨g, cap, cur, rfl, _⟩
    · rw [halfM_len] at h0; exact ⟨none, 0, by rw [← hl, h0]⟩
    · exact ⟨_, _, by rw [halfM_len, hl]⟩
  rw [hl] at h
  have HA := Lib.hid (offR_all rs)
  have HH := Lib.hid h
  have HL := Lib.hid hl
  have hnb : n ≤ 1048576 := by omega
  clear h hl
  go_enter Try.func67, Try.ntmps67
  go_wp2
  go_loopw [1, 5] (fun q i wr => ∃ j m : Nat, j ≤ n ∧ q = .int .i64 m ∧ i = .int .i64 j ∧ Hid (m = k + offR rs j) ∧ Below w.heap.size w wr) (fun _ i _ => n - (intOf i).toNat)
  case atStart => exact ⟨0, k, Nat.zero_le _, rfl, rfl, Lib.hid (by simp [offR, totM]), Below.refl _ _⟩
  case round =>
    obtain ⟨j, m, hj, rfl, rfl, HM, hB⟩ := hrel
    have hmb : m ≤ 12000000 := by have := HM.out; have := offR_le rs j; omega
    by_cases hlt : j < n
    · have hjr : j < rs.length := by rw [HL.out]; exact hlt
      obtain ⟨g, rfl, hg⟩ : ∃ g, a = some ⟨g, 0, none⟩ ∧ lo ≤ g := by
        rcases HH.out.row.2 with ⟨_, e1⟩ | ⟨g, cap1, cur, e0, hg, _⟩
        · rw [halfM_len, HL.out] at e1; omega
        · simp only [Value.slice.injEq] at e0; exact ⟨g, e0.1, hg⟩
      have hR := HH.out.below hB
      have hrow := hR.row
      have hget : ((halfM k n rs).map (·.u))[j]? = some rs[j].u := by
        rw [List.getElem?_map, List.getElem?_eq_getElem (by rw [halfM_len]; exact hjr), Option.map_some, halfM_u k n rs j hjr]
      have hcell := hrow.cells rfl j _ hget
      rw [show (⟨g, 0, none⟩ : Addr).add j = ⟨g, j, none⟩ by unfold Addr.add; split <;> simp_all] at hcell
      have hown := hR.each j (by rw [halfM_len]; exact hjr)
      rw [halfM_get k n rs j hjr, if_pos hlt, ← HM.out] at hown
      have hsucc := offR_succ rs j hjr
      have hle := offR_le rs (j + 1)
      have htx : totX rs[j].xs ≤ 1048576 := by omega
      have HC := Lib.hid (heldPolyS_any lo m rs[j].u rs[j].xs wr hown htx (by omega))
      have HSu := Lib.hid hsucc
      have hmx : m + totX rs[j].xs ≤ 12000000 := by have := HM.out; omega
      obtain ⟨y, hy⟩ : ∃ y, totX rs[j].xs = y := ⟨_, rfl⟩
      obtain ⟨u, hu⟩ : ∃ u, rs[j].u = u := ⟨_, rfl⟩
      rw [hu] at hcell
      rw [hy] at hmx
      have HU := Lib.hid hu
      have HY := Lib.hid hy
      clear hrow hget hown hsucc hle htx hu hy hR
      go_wp2_with fail
      rw [← HU.out]
      refine HC.out.mono ?_
      rintro e w2 ⟨rfl, hb2⟩
      rw [HY.out]
      have hnn : ¬ ((m + y : Nat) : Int) < 0 := by omega
      obtain ⟨m2, hm2⟩ : ∃ m2, m + y = m2 := ⟨_, rfl⟩
      rw [hm2] at hmx hnn ⊢
      have hdn : decide ((m2 : Int) < 0) = false := decide_eq_false hnn
      have HM2 := Lib.hid hm2
      clear hm2 hcell
      go_wp2
      go_roundw
      case rel => exact ⟨j + 1, m2, by omega, rfl, by go_num, Lib.hid (by rw [HSu.out, ← HM2.out, HM.out, HY.out]; omega), hB.trans (hb2.mono hB.size)⟩
      case measure => simp [intOf]; omega
    · obtain rfl : j = n := by omega
      have hm := HM.out
      have hx := HA.out
      rw [HL.out] at hx
      rw [hx] at hm
      have HM2 := Lib.hid hm
      clear hm hx
      go_wp2
      go_ret
      exact ⟨ret_int (by rw [HM2.out]), hB⟩

end Go.Proofs.Ytakfobihakbefaa

/- Lists of lists of polynomials that came in, opened. -/

namespace Go.Proofs.Ytakfobihakbefaa
open Go.RowKit Go.ChangeShapes Go.WideShapes

instance : Inhabited Pl := ⟨⟨0, []⟩⟩
theorem intsle_of {H : Type} {enc : TypeId × Value → H} {W : World} {base : Nat} {spare : Nat → Bool} {held : Bool} {fuel : Nat} {a : Option Addr} {len cap : Nat} {x : DataW H × List MemPlace}
    (h : DataW.trod enc Try.prog W base spare held fuel 23 [.slice a len cap] = some x) : ∃ zs, Ints W a len zs ∧ len ≤ cap := by
  obtain ⟨zs, hz⟩ := ints_of h
  refine ⟨zs, hz, ?_⟩
  rcases Go.ChangeShapes.open_ints Try.underlying23 Try.underlying3 (by kernel_rfl) h with ⟨hcs, _⟩ | ⟨y, l, c, zs, hcs, hb, hl, hm, hz, _, hx, hwf⟩
  · simp at hcs
    omega
  · simp at hcs
    obtain ⟨rfl, rfl, rfl⟩ := hcs
    exact hl
theorem isPS_of {H : Type} {enc : TypeId × Value → H} {W : World} {base : Nat} {spare : Nat → Bool} {held : Bool} {fuel : Nat} {a : Option Addr} {len cap : Nat} {x : DataW H × List MemPlace}
    (h : DataW.trod enc Try.prog W base spare held fuel 108 [.slice a len cap] = some x) : ∃ ps, IsPS W a len ps := by
  rcases Go.Deep.open_slice_pairs Try.underlying108 Try.underlying50 (by kernel_rfl) rfl rfl (by kernel_rfl) (by kernel_rfl) h with ⟨hcs, _⟩ | ⟨y, l, c, m, n, V0, V1, D0, D1, P0, P1, hcs, hb, hl, hm, hmm, _, hx⟩
  · simp at hcs
    obtain ⟨rfl, rfl, rfl⟩ := hcs
    exact ⟨[], IsPS.none _ _⟩
  · simp at hcs
    obtain ⟨rfl, rfl, rfl⟩ := hcs
    have hlm : len ≤ m := by rw [hmm]; split <;> omega
    have each : ∀ i, i < len → ∃ t : Pl × (Option Addr × Nat), W.cell? (y.add (i * 2)) = some (.int .i64 t.1.low) ∧ W.cell? (y.add (i * 2 + 1)) = some (.slice t.2.1 t.1.cs.length t.2.2) ∧ Ints W t.2.1 t.1.cs.length t.1.cs ∧ t.1.cs.length ≤ t.2.2 ∧ (-9223372036854775808 ≤ t.1.low ∧ t.1.low ≤ 9223372036854775807) := fun i hi => by
      obtain ⟨h0, h1, h2, h3⟩ := hx i (by omega)
      obtain ⟨k, hk, _, hwf⟩ := DataW.trod_int Try.underlying3 h2
      obtain ⟨ar, lr, cr, hV⟩ : ∃ ar lr cr, V1 i = .slice ar lr cr := by
        rcases Go.ChangeShapes.open_ints Try.underlying23 Try.underlying3 (by kernel_rfl) h3 with ⟨hcs, _⟩ | ⟨y, l, c, zs, hcs, _⟩
        · exact ⟨none, 0, 0, by simpa using hcs⟩
        · exact ⟨some y, l, c, by simpa using hcs⟩
      rw [hV] at h1 h3
      obtain ⟨zs, hz, hle⟩ := intsle_of h3
      have hzl := hz.len
      subst hzl
      simp at hk
      simp only [Lit.wf, Bool.and_eq_true, decide_eq_true_eq] at hwf
      exact ⟨(⟨k, zs⟩, (ar, cr)), by rw [h0, hk], h1, hz, hle, hwf.1, hwf.2⟩
    obtain ⟨q, hq⟩ := Go.Deep.choose_lt each
    refine ⟨(List.range len).map fun i => (q i).1, by simp, by omega, fun h0 => ⟨y, rfl, ?_, fun i hi => ?_⟩, fun t ht => ?_⟩
    · have h := World.block_lt_of_cell? _ _ (hq 0 h0).1
      rw [addr_add_block] at h
      exact h
    · simp only [List.length_map, List.length_range] at hi
      simp only [List.getElem_map, List.getElem_range]
      exact ⟨_, _, (hq i hi).1, (hq i hi).2.1, (hq i hi).2.2.1, (hq i hi).2.2.2.1⟩
    · obtain ⟨i, hi, rfl⟩ := List.mem_map.1 ht
      exact (hq i (List.mem_range.1 hi)).2.2.2.2
theorem isPSS_of {H : Type} {enc : TypeId × Value → H} {W : World} {base : Nat} {spare : Nat → Bool} {held : Bool} {fuel : Nat} {a : Option Addr} {len cap : Nat} {x : DataW H × List MemPlace}
    (h : DataW.trod enc Try.prog W base spare held fuel 56 [.slice a len cap] = some x) : ∃ rows, IsPSS W a len rows := by
  rcases Go.Deep.open_slice1 Try.underlying56 (by kernel_rfl) h with ⟨hcs, _⟩ | ⟨y, l, c, m, n, V, D, P, hcs, hb, hl, hm, hmm, _, hx⟩
  · simp at hcs
    obtain ⟨rfl, rfl, rfl⟩ := hcs
    exact ⟨[], IsPSS.none _ _⟩
  · simp at hcs
    obtain ⟨rfl, rfl, rfl⟩ := hcs
    have hlm : len ≤ m := by rw [hmm]; split <;> omega
    have each : ∀ i, i < len → ∃ q : (Option Addr × Nat) × List Pl, W.cell? (y.add i) = some (.slice q.1.1 q.2.length q.1.2) ∧ IsPS W q.1.1 q.2.length q.2 := fun i hi => by
      obtain ⟨h0, h1⟩ := hx i (by omega)
      obtain ⟨ar, lr, cr, hV⟩ : ∃ ar lr cr, V i = .slice ar lr cr := by
        rcases Go.Deep.open_slice Try.underlying108 h1 with ⟨hcs, _⟩ | ⟨ar, lr, cr, _, _, _, _, hcs, _⟩
        · exact ⟨none, 0, 0, by simpa using hcs⟩
        · exact ⟨some ar, lr, cr, by simpa using hcs⟩
      rw [hV] at h0 h1
      obtain ⟨ts, hts⟩ := isPS_of h1
      have hl := hts.len
      subst hl
      exact ⟨((ar, cr), ts), h0, hts⟩
    obtain ⟨q, hq⟩ := Go.Deep.choose_lt each
    refine ⟨(List.range len).map fun i => (q i).2, by simp, by omega, fun h0 => ⟨y, rfl, ?_, fun i hi => ?_⟩⟩
    · have := World.block_lt_of_cell? _ _ (hq 0 h0).1
      rw [addr_add_block] at this
      exact this
    · simp only [List.length_map, List.length_range] at hi
      simp only [List.getElem_map, List.getElem_range]
      exact ⟨_, _, (hq i hi).1, (hq i hi).2⟩

end Go.Proofs.Ytakfobihakbefaa

/- The program's matrices: arrays of pointers; as many rows, as many columns. -/

namespace Go.Proofs.Ytakfobihakbefaa
open Go.RowKit

abbrev MA : TypeId := 82
abbrev RA : TypeId := 80
/-- The cells of a matrix: row by row. -/
def mC (g : Nat → Option Addr) : Array Value := #[.pointer (g 0), .pointer (g 1), .pointer (g 2), .pointer (g 3), .pointer (g 4), .pointer (g 5), .pointer (g 6), .pointer (g 7), .pointer (g 8), .pointer (g 9), .pointer (g 10), .pointer (g 11), .pointer (g 12), .pointer (g 13), .pointer (g 14), .pointer (g 15)]
/-- It has n rows and m columns. -/
structure ShapeM (g : Nat → Option Addr) (n m : Nat) : Prop where
  n4 : n ≤ 4
  m4 : m ≤ 4
  both : n = 0 ↔ m = 0
  yes : ∀ i k, i < n → k < m → ∃ p, g (i * 4 + k) = some p
  no : ∀ i k, i < 4 → k < 4 → (n ≤ i ∨ m ≤ k) → g (i * 4 + k) = none

/-! ### Arrays compared with the empty one -/
theorem arr_eq (d n : Nat) (w : World) {t e : TypeId} {P : Program} (hu : P.underlying t = some (.array n e)) {sz : Nat} (hs : ∀ w, (sizeOf e).run P w = .ok sz w) (xs ys : Array Value) (f : Nat → Value) (z : Nat → Value) (r : Nat → Bool)
    (hx : ∀ i w, i < n → (part e xs (i * sz)).run P w = .ok (f i) w) (hy : ∀ i w, i < n → (part e ys (i * sz)).run P w = .ok (z i) w) (hr : ∀ i w, i < n → (Op.equalIn d e (f i) (z i)).run P w = .ok (r i) w) :
    (Op.equalIn (d + 1) t (.agg xs) (.agg ys)).run P w = .ok ((List.range n).all r) w := by
  simp only [Op.equalIn, Sem.run_bind, run_underlying hu, Result.andThen_ok, hs]
  rw [Std.Legacy.Range.forIn_eq_forIn_range']
  simp only [Std.Legacy.Range.size, Nat.sub_zero, Nat.add_sub_cancel, Nat.div_one]
  have key : ∀ (l : List Nat) (w : World), (∀ i ∈ l, i < n) → Sem.run P (forIn l ((none : Option Bool), ()) fun i _ => do
            let a ← part e xs (i * sz)
            let b ← part e ys (i * sz)
            let c ← Op.equalIn d e a b
            if (!c) = true then pure (ForInStep.done (some false, ())) else pure (ForInStep.yield (none, ()))) w = .ok (if l.all r then (none, ()) else (some false, ())) w := by
    intro l
    induction l with
    | nil => intro w _; rfl
    | cons i l ih =>
      intro w h
      have hi := h i (List.mem_cons_self)
      simp only [List.forIn_cons, Sem.run_bind, hx i _ hi, hy i _ hi, hr i _ hi, Result.andThen_ok, List.all_cons]
      have hb : r i = false ∨ r i = true := by cases r i <;> simp
      rcases hb with e | e
      · simp [e]
      · simp only [e, Bool.not_true, Bool.false_eq_true, if_false, Sem.run_pure, Result.andThen_ok, Bool.true_and]
        exact ih w fun j hj => h j (List.mem_cons_of_mem _ hj)
  rw [key _ w (fun i hi => by rw [List.mem_range'_1] at hi; omega)]
  simp only [Result.andThen_ok, List.range_eq_range']
  cases (List.range' 0 n).all r <;> rfl

/-- A row of pointers against the empty one; a matrix against the empty one. -/
theorem row_eq (d : Nat) (w : World) (p0 p1 p2 p3 : Option Addr) :
    (Op.equalIn (d + 2) RA (.agg #[.pointer p0, .pointer p1, .pointer p2, .pointer p3]) (.agg #[.pointer none, .pointer none, .pointer none, .pointer none])).run Try.prog w = .ok (p0.isNone && (p1.isNone && (p2.isNone && p3.isNone))) w := by
  have hu : Try.prog.underlying RA = some (.array 4 78) := by kernel_rfl
  have hp : Try.prog.underlying 78 = some (.pointer (Try.prog.pointee 78)) := by kernel_rfl
  have hz : ∀ w, (sizeOf 78).run Try.prog w = .ok 1 w := fun w => by kernel_rfl
  have ha : ∀ w, (isAgg 78).run Try.prog w = .ok false w := fun w => by kernel_rfl
  have h4 : ∀ i, i < 4 → i = 0 ∨ i = 1 ∨ i = 2 ∨ i = 3 := fun i h => by omega
  rw [arr_eq (d + 1) 4 w hu hz _ _ (fun i => .pointer (if i = 0 then p0 else if i = 1 then p1 else if i = 2 then p2 else p3)) (fun _ => .pointer none) (fun i => (if i = 0 then p0 else if i = 1 then p1 else if i = 2 then p2 else p3).isNone)
    (fun i w h => by rcases h4 i h with rfl | rfl | rfl | rfl <;> simp [part, ha])
    (fun i w h => by rcases h4 i h with rfl | rfl | rfl | rfl <;> simp [part, ha])
    (fun i w _ => run_equalIn_pointer_nil w d _ _ hp)]
  simp [List.range_succ]
theorem mat_eq (d : Nat) (w : World) (g : Nat → Option Addr) :
    (Op.equalIn (d + 3) MA (.agg (mC g)) (.agg (mC fun _ => none))).run Try.prog w = .ok ((List.range 16).all fun i => (g i).isNone) w := by
  have hu : Try.prog.underlying MA = some (.array 4 RA) := by kernel_rfl
  have hz : ∀ w, (sizeOf RA).run Try.prog w = .ok 4 w := fun w => by kernel_rfl
  have ha : ∀ w, (isAgg RA).run Try.prog w = .ok true w := fun w => by kernel_rfl
  have h4 : ∀ i, i < 4 → i = 0 ∨ i = 1 ∨ i = 2 ∨ i = 3 := fun i h => by omega
  rw [arr_eq (d + 2) 4 w hu hz _ _ (fun i => .agg #[.pointer (g (i * 4)), .pointer (g (i * 4 + 1)), .pointer (g (i * 4 + 2)), .pointer (g (i * 4 + 3))]) (fun _ => .agg #[.pointer none, .pointer none, .pointer none, .pointer none]) (fun i => (g (i * 4)).isNone && ((g (i * 4 + 1)).isNone && ((g (i * 4 + 2)).isNone && (g (i * 4 + 3)).isNone)))
    (fun i w h => by rcases h4 i h with rfl | rfl | rfl | rfl <;> simp [part, ha, hz, mC])
    (fun i w h => by rcases h4 i h with rfl | rfl | rfl | rfl <;> simp [part, ha, hz, mC])
    (fun i w _ => row_eq d w _ _ _ _)]
  simp [List.range_succ, Bool.and_assoc]

set_option maxRecDepth 100000 in
set_option maxHeartbeats 2000000 in
theorem rows_any (g : Nat → Option Addr) (n m : Nat) (hs : ShapeM g n m) (w : World) :
    Calls Try.prog 89 #[.agg (mC g)] w fun e w' => e = .returned (.int .i64 n) ∧ Below w.heap.size w w' := by
  have HS := Lib.hid hs
  have hn4 := hs.n4
  have heq : ∀ (w : World) (p0 p1 p2 p3 : Option Addr), (Op.equalIn 10000 80 (.agg #[.pointer p0, .pointer p1, .pointer p2, .pointer p3]) (.agg #[.pointer none, .pointer none, .pointer none, .pointer none])).run Try.prog w = .ok (p0.isNone && (p1.isNone && (p2.isNone && p3.isNone))) w := fun w => row_eq 9998 w
  clear hs
  unfold mC
  go_enter Try.func89, Try.ntmps89
  go_wp2
  go_loop [3] (fun i => ∃ k : Nat, k ≤ n ∧ i = .int .i64 k) (fun i => n - (intOf i).toNat)
  case atStart => exact ⟨0, Nat.zero_le _, rfl⟩
  case round =>
    obtain ⟨k, hk, rfl⟩ := hrel
    by_cases hlt : k < n
    · have hm0 : 0 < m := by have := HS.out.both; omega
      have hk4 : k = 0 ∨ k = 1 ∨ k = 2 ∨ k = 3 := by omega
      rcases hk4 with rfl | rfl | rfl | rfl
      · obtain ⟨p, hp⟩ := HS.out.yes 0 0 hlt hm0
        go_wp2
        go_round
        case rel => exact ⟨1, by omega, by go_num⟩
        case measure => simp [intOf]; omega
      · obtain ⟨p, hp⟩ := HS.out.yes 1 0 hlt hm0
        go_wp2
        go_round
        case rel => exact ⟨2, by omega, by go_num⟩
        case measure => simp [intOf]; omega
      · obtain ⟨p, hp⟩ := HS.out.yes 2 0 hlt hm0
        go_wp2
        go_round
        case rel => exact ⟨3, by omega, by go_num⟩
        case measure => simp [intOf]; omega
      · obtain ⟨p, hp⟩ := HS.out.yes 3 0 hlt hm0
        go_wp2
        go_round
        case rel => exact ⟨4, by omega, by go_num⟩
        case measure => simp [intOf]; omega
    · obtain rfl : k = n := by omega
      have hk4 : k = 0 ∨ k = 1 ∨ k = 2 ∨ k = 3 ∨ k = 4 := by omega
      rcases hk4 with rfl | rfl | rfl | rfl | rfl
      · have q0 : g 0 = none := HS.out.no 0 0 (by omega) (by omega) (.inl (by omega))
        have q1 : g 1 = none := HS.out.no 0 1 (by omega) (by omega) (.inl (by omega))
        have q2 : g 2 = none := HS.out.no 0 2 (by omega) (by omega) (.inl (by omega))
        have q3 : g 3 = none := HS.out.no 0 3 (by omega) (by omega) (.inl (by omega))
        go_wp2
        go_ret
        exact ⟨rfl, (Below.refl _ w).alloc (Nat.le_refl _) _⟩
      · have q0 : g 4 = none := HS.out.no 1 0 (by omega) (by omega) (.inl (by omega))
        have q1 : g 5 = none := HS.out.no 1 1 (by omega) (by omega) (.inl (by omega))
        have q2 : g 6 = none := HS.out.no 1 2 (by omega) (by omega) (.inl (by omega))
        have q3 : g 7 = none := HS.out.no 1 3 (by omega) (by omega) (.inl (by omega))
        go_wp2
        go_ret
        exact ⟨rfl, (Below.refl _ w).alloc (Nat.le_refl _) _⟩
      · have q0 : g 8 = none := HS.out.no 2 0 (by omega) (by omega) (.inl (by omega))
        have q1 : g 9 = none := HS.out.no 2 1 (by omega) (by omega) (.inl (by omega))
        have q2 : g 10 = none := HS.out.no 2 2 (by omega) (by omega) (.inl (by omega))
        have q3 : g 11 = none := HS.out.no 2 3 (by omega) (by omega) (.inl (by omega))
        go_wp2
        go_ret
        exact ⟨rfl, (Below.refl _ w).alloc (Nat.le_refl _) _⟩
      · have q0 : g 12 = none := HS.out.no 3 0 (by omega) (by omega) (.inl (by omega))
        have q1 : g 13 = none := HS.out.no 3 1 (by omega) (by omega) (.inl (by omega))
        have q2 : g 14 = none := HS.out.no 3 2 (by omega) (by omega) (.inl (by omega))
        have q3 : g 15 = none := HS.out.no 3 3 (by omega) (by omega) (.inl (by omega))
        go_wp2
        go_ret
        exact ⟨rfl, (Below.refl _ w).alloc (Nat.le_refl _) _⟩
      · go_wp2
        go_ret
        exact ⟨rfl, (Below.refl _ w).alloc (Nat.le_refl _) _⟩

end Go.Proofs.Ytakfobihakbefaa

/- The program's matrices: flipped. -/

namespace Go.Proofs.Ytakfobihakbefaa
open Go.RowKit

/-- The cells of a block that holds a matrix. -/
theorem cells16 {w : World} {B : Nat} {g : Nat → Option Addr} (h : w.heap[B]? = some (.cells (mC g) MA (0, 0))) : w.cell? ⟨B, 0, none⟩ = some (.pointer (g 0)) ∧ w.cell? ⟨B, 1, none⟩ = some (.pointer (g 1)) ∧ w.cell? ⟨B, 2, none⟩ = some (.pointer (g 2)) ∧ w.cell? ⟨B, 3, none⟩ = some (.pointer (g 3)) ∧ w.cell? ⟨B, 4, none⟩ = some (.pointer (g 4)) ∧ w.cell? ⟨B, 5, none⟩ = some (.pointer (g 5)) ∧ w.cell? ⟨B, 6, none⟩ = some (.pointer (g 6)) ∧ w.cell? ⟨B, 7, none⟩ = some (.pointer (g 7)) ∧ w.cell? ⟨B, 8, none⟩ = some (.pointer (g 8)) ∧ w.cell? ⟨B, 9, none⟩ = some (.pointer (g 9)) ∧ w.cell? ⟨B, 10, none⟩ = some (.pointer (g 10)) ∧ w.cell? ⟨B, 11, none⟩ = some (.pointer (g 11)) ∧ w.cell? ⟨B, 12, none⟩ = some (.pointer (g 12)) ∧ w.cell? ⟨B, 13, none⟩ = some (.pointer (g 13)) ∧ w.cell? ⟨B, 14, none⟩ = some (.pointer (g 14)) ∧ w.cell? ⟨B, 15, none⟩ = some (.pointer (g 15)) ∧ ∀ j, w.frozen? ⟨B, j, none⟩ = false := by
  refine ⟨?_, ?_, ?_, ?_, ?_, ?_, ?_, ?_, ?_, ?_, ?_, ?_, ?_, ?_, ?_, ?_, fun j => ?_⟩ <;> simp [World.cell?, World.frozen?, h, mC]
def flipG (g : Nat → Option Addr) (j : Nat) : Option Addr := g (j % 4 * 4 + j / 4)
/-- The first i columns are filled in, and k places of the next one. -/
def partG (g : Nat → Option Addr) (i k j : Nat) : Option Addr := if j % 4 < i ∨ (j % 4 = i ∧ j / 4 < k) then g (j % 4 * 4 + j / 4) else none
structure FlipAt (w : World) (g : Nat → Option Addr) (i k : Nat) (wr : World) : Prop where
  below : Below w.heap.size w wr
  size : w.heap.size + 3 ≤ wr.heap.size
  res : wr.heap[w.heap.size + 1]? = some (.cells (mC fun _ => none) MA (0, 0))
  fill : wr.heap[w.heap.size + 1 + 1]? = some (.cells (mC (partG g i k)) MA (0, 0))
theorem FlipAt.alloc {w wr : World} {g : Nat → Option Addr} {i k : Nat} (h : FlipAt w g i k wr) (o : Obj) : FlipAt w g i k (wr.alloc o) := by
  have hs := h.size
  exact ⟨h.below.alloc (by omega) o, by simp; omega, (Below.heap_alloc _ _ _ (by omega)).trans h.res, (Below.heap_alloc _ _ _ (by omega)).trans h.fill⟩
theorem FlipAt.next {w wr : World} {g : Nat → Option Addr} {i k : Nat} (h : FlipAt w g i k wr) (hi : i < 4) (hk : k < 4) {p : Option Addr} (hp : g (i * 4 + k) = p) : FlipAt w g i (k + 1) (wr.setCell ⟨w.heap.size + 1 + 1, k * 4 + i, none⟩ (.pointer p)) := by
  have hs := h.size
  refine ⟨h.below.setCell (p := ⟨w.heap.size + 1 + 1, k * 4 + i, none⟩) (by show w.heap.size ≤ w.heap.size + 1 + 1; omega) _, by simp; omega, (heap_off wr _ _ (by show w.heap.size + 1 ≠ w.heap.size + 1 + 1; omega)).trans h.res, ?_⟩
  rw [heap_setCell_same wr (w.heap.size + 1 + 1) (k * 4 + i) _ _ _ h.fill]
  have e : (mC (partG g i k)).setIfInBounds (k * 4 + i) (.pointer p) = mC (partG g i (k + 1)) := by
    subst hp
    have h4 : i = 0 ∨ i = 1 ∨ i = 2 ∨ i = 3 := by omega
    have h5 : k = 0 ∨ k = 1 ∨ k = 2 ∨ k = 3 := by omega
    rcases h4 with rfl | rfl | rfl | rfl <;> rcases h5 with rfl | rfl | rfl | rfl <;> simp [mC, partG]
  rw [e]
theorem FlipAt.row {w wr : World} {g : Nat → Option Addr} {i : Nat} (h : FlipAt w g i 4 wr) (hi : i < 4) : FlipAt w g (i + 1) 0 wr := by
  refine ⟨h.below, h.size, h.res, ?_⟩
  have e : mC (partG g i 4) = mC (partG g (i + 1) 0) := by
    have h4 : i = 0 ∨ i = 1 ∨ i = 2 ∨ i = 3 := by omega
    rcases h4 with rfl | rfl | rfl | rfl <;> simp [mC, partG]
  rw [← e]
  exact h.fill
theorem FlipAt.start (w : World) (g : Nat → Option Addr) : FlipAt w g 0 0 (((w.alloc (.cells (mC g) MA)).alloc (.cells (mC fun _ => none) MA)).alloc (.cells (mC fun _ => none) MA)) := by
  refine ⟨(((Below.refl _ w).alloc (Nat.le_refl _) _).alloc (by simp) _).alloc (by simp; omega) _, by simp, ?_, ?_⟩
  · rw [Below.heap_alloc _ _ _ (by simp)]
    have h := World.alloc_heap_new (w.alloc (.cells (mC g) MA)) (.cells (mC fun _ => none) MA)
    rwa [World.size_alloc] at h
  · have h := World.alloc_heap_new ((w.alloc (.cells (mC g) MA)).alloc (.cells (mC fun _ => none) MA)) (.cells (mC fun _ => none) MA)
    rw [World.size_alloc, World.size_alloc] at h
    rw [h]
    have e : mC (partG g 0 0) = mC fun _ => none := by simp [mC, partG]
    rw [e]

/-- A matrix is stored whole. -/
def put16 (w : World) (B : Nat) (g : Nat → Option Addr) : World := ((((((((((((((((w.setCell ⟨B, 0, none⟩ (.pointer (g 0))).setCell ⟨B, 1, none⟩ (.pointer (g 1))).setCell ⟨B, 2, none⟩ (.pointer (g 2))).setCell ⟨B, 3, none⟩ (.pointer (g 3))).setCell ⟨B, 4, none⟩ (.pointer (g 4))).setCell ⟨B, 5, none⟩ (.pointer (g 5))).setCell ⟨B, 6, none⟩ (.pointer (g 6))).setCell ⟨B, 7, none⟩ (.pointer (g 7))).setCell ⟨B, 8, none⟩ (.pointer (g 8))).setCell ⟨B, 9, none⟩ (.pointer (g 9))).setCell ⟨B, 10, none⟩ (.pointer (g 10))).setCell ⟨B, 11, none⟩ (.pointer (g 11))).setCell ⟨B, 12, none⟩ (.pointer (g 12))).setCell ⟨B, 13, none⟩ (.pointer (g 13))).setCell ⟨B, 14, none⟩ (.pointer (g 14))).setCell ⟨B, 15, none⟩ (.pointer (g 15)))
theorem put16_heap {w : World} {B : Nat} {k : Nat → Option Addr} (h : w.heap[B]? = some (.cells (mC k) MA (0, 0))) (g : Nat → Option Addr) : (put16 w B g).heap[B]? = some (.cells (mC g) MA (0, 0)) := by
  unfold put16
  rw [heap_setCell_same _ B 15 _ _ _ (heap_setCell_same _ B 14 _ _ _ (heap_setCell_same _ B 13 _ _ _ (heap_setCell_same _ B 12 _ _ _ (heap_setCell_same _ B 11 _ _ _ (heap_setCell_same _ B 10 _ _ _ (heap_setCell_same _ B 9 _ _ _ (heap_setCell_same _ B 8 _ _ _ (heap_setCell_same _ B 7 _ _ _ (heap_setCell_same _ B 6 _ _ _ (heap_setCell_same _ B 5 _ _ _ (heap_setCell_same _ B 4 _ _ _ (heap_setCell_same _ B 3 _ _ _ (heap_setCell_same _ B 2 _ _ _ (heap_setCell_same _ B 1 _ _ _ (heap_setCell_same _ B 0 _ _ _ h)))))))))))))))]
  simp [mC]
theorem put16_off (w : World) {B b : Nat} (hb : b ≠ B) (g : Nat → Option Addr) : (put16 w B g).heap[b]? = w.heap[b]? := by
  unfold put16
  repeat rw [heap_off _ _ _ hb]
theorem put16_below {w w0 : World} {lo B : Nat} (h : Below lo w0 w) (hB : lo ≤ B) (g : Nat → Option Addr) : Below lo w0 (put16 w B g) :=
  ((((((((((((((((h.setCell (p := ⟨B, 0, none⟩) hB _).setCell (p := ⟨B, 1, none⟩) hB _).setCell (p := ⟨B, 2, none⟩) hB _).setCell (p := ⟨B, 3, none⟩) hB _).setCell (p := ⟨B, 4, none⟩) hB _).setCell (p := ⟨B, 5, none⟩) hB _).setCell (p := ⟨B, 6, none⟩) hB _).setCell (p := ⟨B, 7, none⟩) hB _).setCell (p := ⟨B, 8, none⟩) hB _).setCell (p := ⟨B, 9, none⟩) hB _).setCell (p := ⟨B, 10, none⟩) hB _).setCell (p := ⟨B, 11, none⟩) hB _).setCell (p := ⟨B, 12, none⟩) hB _).setCell (p := ⟨B, 13, none⟩) hB _).setCell (p := ⟨B, 14, none⟩) hB _).setCell (p := ⟨B, 15, none⟩) hB _)
theorem put16_size (w : World) (B : Nat) (g : Nat → Option Addr) : (put16 w B g).heap.size = w.heap.size := by simp [put16]
/-- A row of a matrix; a place of a row. -/
theorem idxM (g : Nat → Option Addr) :
    (∀ w, (Instr.index MA (.agg (mC g)) (.int .i64 0)).run Try.prog w = .ok (.agg #[.pointer (g 0), .pointer (g 1), .pointer (g 2), .pointer (g 3)]) w) ∧
    (∀ w, (Instr.index MA (.agg (mC g)) (.int .i64 1)).run Try.prog w = .ok (.agg #[.pointer (g 4), .pointer (g 5), .pointer (g 6), .pointer (g 7)]) w) ∧
    (∀ w, (Instr.index MA (.agg (mC g)) (.int .i64 2)).run Try.prog w = .ok (.agg #[.pointer (g 8), .pointer (g 9), .pointer (g 10), .pointer (g 11)]) w) ∧
    (∀ w, (Instr.index MA (.agg (mC g)) (.int .i64 3)).run Try.prog w = .ok (.agg #[.pointer (g 12), .pointer (g 13), .pointer (g 14), .pointer (g 15)]) w) := by
  have hu : Try.prog.underlying MA = some (.array 4 RA) := by kernel_rfl
  have hz : ∀ w, (sizeOf RA).run Try.prog w = .ok 4 w := fun w => by kernel_rfl
  have ha : ∀ w, (isAgg RA).run Try.prog w = .ok true w := fun w => by kernel_rfl
  refine ⟨fun w => ?_, fun w => ?_, fun w => ?_, fun w => ?_⟩ <;> simp [Instr.index, asIntOf, run_underlying hu, part, ha, hz, mC]
theorem idxR (p0 p1 p2 p3 : Option Addr) :
    (∀ w, (Instr.index RA (.agg #[.pointer p0, .pointer p1, .pointer p2, .pointer p3]) (.int .i64 0)).run Try.prog w = .ok (.pointer p0) w) ∧
    (∀ w, (Instr.index RA (.agg #[.pointer p0, .pointer p1, .pointer p2, .pointer p3]) (.int .i64 1)).run Try.prog w = .ok (.pointer p1) w) ∧
    (∀ w, (Instr.index RA (.agg #[.pointer p0, .pointer p1, .pointer p2, .pointer p3]) (.int .i64 2)).run Try.prog w = .ok (.pointer p2) w) ∧
    (∀ w, (Instr.index RA (.agg #[.pointer p0, .pointer p1, .pointer p2, .pointer p3]) (.int .i64 3)).run Try.prog w = .ok (.pointer p3) w) := by
  have hu : Try.prog.underlying RA = some (.array 4 78) := by kernel_rfl
  have hz : ∀ w, (sizeOf 78).run Try.prog w = .ok 1 w := fun w => by kernel_rfl
  have ha : ∀ w, (isAgg 78).run Try.prog w = .ok false w := fun w => by kernel_rfl
  refine ⟨fun w => ?_, fun w => ?_, fun w => ?_, fun w => ?_⟩ <;> simp [Instr.index, asIntOf, run_underlying hu, part, ha, hz]

set_option maxRecDepth 100000 in
set_option maxHeartbeats 4000000 in
theorem flipped_any (g : Nat → Option Addr) (w : World) :
    Calls Try.prog 98 #[.agg (mC g)] w fun e w' => e = .returned (.agg (mC (flipG g))) ∧ Below w.heap.size w w' := by
  have HST := Lib.hid (FlipAt.start w g)
  obtain ⟨i0, i1, i2, i3⟩ := idxM g
  obtain ⟨r0, r1, r2, r3⟩ := idxR (g 0) (g 1) (g 2) (g 3)
  obtain ⟨r4, r5, r6, r7⟩ := idxR (g 4) (g 5) (g 6) (g 7)
  obtain ⟨r8, r9, r10, r11⟩ := idxR (g 8) (g 9) (g 10) (g 11)
  obtain ⟨r12, r13, r14, r15⟩ := idxR (g 12) (g 13) (g 14) (g 15)
  unfold mC at i0 i1 i2 i3
  unfold mC at HST
  unfold mC
  go_enter Try.func98, Try.ntmps98
  go_wp2
  go_loopw [9] (fun i wr => ∃ k : Nat, k ≤ 4 ∧ i = .int .i64 k ∧ Hid (FlipAt w g k 0 wr)) (fun i _ => 4 - (intOf i).toNat)
  case atStart => exact ⟨0, by omega, rfl, HST⟩
  case round =>
    obtain ⟨i, hi, rfl, HF⟩ := hrel
    by_cases hlt : i < 4
    · have h4 : i = 0 ∨ i = 1 ∨ i = 2 ∨ i = 3 := by omega
      rcases h4 with rfl | rfl | rfl | rfl
      · go_wp2
        go_loopw [14] (fun x wr => ∃ k : Nat, k ≤ 4 ∧ x = .int .i64 k ∧ Hid (FlipAt w g 0 k wr)) (fun x _ => 4 - (intOf x).toNat)
        case atStart => exact ⟨0, by omega, rfl, Lib.hid (HF.out.alloc _)⟩
        case round =>
          obtain ⟨k, hk, rfl, HI⟩ := hrel
          by_cases hkt : k < 4
          · have h5 : k = 0 ∨ k = 1 ∨ k = 2 ∨ k = 3 := by omega
            rcases h5 with rfl | rfl | rfl | rfl
            · have hq : wr.cell? ⟨w.heap.size + 1 + 1, 0, none⟩ = some (.pointer (partG g 0 0 0)) := by obtain ⟨h, _⟩ := cells16 HI.out.fill; exact h
              have hf : wr.frozen? ⟨w.heap.size + 1 + 1, 0, none⟩ = false := (cells16 HI.out.fill).2.2.2.2.2.2.2.2.2.2.2.2.2.2.2.2 0
              go_wp2
              go_roundw
              case rel => exact ⟨1, by omega, by go_num, Lib.hid (HI.out.next (by omega) (by omega) rfl)⟩
              case measure => simp [intOf]
            · have hq : wr.cell? ⟨w.heap.size + 1 + 1, 4, none⟩ = some (.pointer (partG g 0 1 4)) := by obtain ⟨_, _, _, _, h, _⟩ := cells16 HI.out.fill; exact h
              have hf : wr.frozen? ⟨w.heap.size + 1 + 1, 4, none⟩ = false := (cells16 HI.out.fill).2.2.2.2.2.2.2.2.2.2.2.2.2.2.2.2 4
              go_wp2
              go_roundw
              case rel => exact ⟨2, by omega, by go_num, Lib.hid (HI.out.next (by omega) (by omega) rfl)⟩
              case measure => simp [intOf]
            · have hq : wr.cell? ⟨w.heap.size + 1 + 1, 8, none⟩ = some (.pointer (partG g 0 2 8)) := by obtain ⟨_, _, _, _, _, _, _, _, h, _⟩ := cells16 HI.out.fill; exact h
              have hf : wr.frozen? ⟨w.heap.size + 1 + 1, 8, none⟩ = false := (cells16 HI.out.fill).2.2.2.2.2.2.2.2.2.2.2.2.2.2.2.2 8
              go_wp2
              go_roundw
              case rel => exact ⟨3, by omega, by go_num, Lib.hid (HI.out.next (by omega) (by omega) rfl)⟩
              case measure => simp [intOf]
            · have hq : wr.cell? ⟨w.heap.size + 1 + 1, 12, none⟩ = some (.pointer (partG g 0 3 12)) := by obtain ⟨_, _, _, _, _, _, _, _, _, _, _, _, h, _⟩ := cells16 HI.out.fill; exact h
              have hf : wr.frozen? ⟨w.heap.size + 1 + 1, 12, none⟩ = false := (cells16 HI.out.fill).2.2.2.2.2.2.2.2.2.2.2.2.2.2.2.2 12
              go_wp2
              go_roundw
              case rel => exact ⟨4, by omega, by go_num, Lib.hid (HI.out.next (by omega) (by omega) rfl)⟩
              case measure => simp [intOf]
          · obtain rfl : k = 4 := by omega
            go_wp2
            go_roundw
            case rel => exact ⟨1, by omega, by go_num, Lib.hid (HI.out.row (by omega))⟩
            case measure => simp [intOf]
      · go_wp2
        go_loopw [14] (fun x wr => ∃ k : Nat, k ≤ 4 ∧ x = .int .i64 k ∧ Hid (FlipAt w g 1 k wr)) (fun x _ => 4 - (intOf x).toNat)
        case atStart => exact ⟨0, by omega, rfl, Lib.hid (HF.out.alloc _)⟩
        case round =>
          obtain ⟨k, hk, rfl, HI⟩ := hrel
          by_cases hkt : k < 4
          · have h5 : k = 0 ∨ k = 1 ∨ k = 2 ∨ k = 3 := by omega
            rcases h5 with rfl | rfl | rfl | rfl
            · have hq : wr.cell? ⟨w.heap.size + 1 + 1, 1, none⟩ = some (.pointer (partG g 1 0 1)) := by obtain ⟨_, h, _⟩ := cells16 HI.out.fill; exact h
              have hf : wr.frozen? ⟨w.heap.size + 1 + 1, 1, none⟩ = false := (cells16 HI.out.fill).2.2.2.2.2.2.2.2.2.2.2.2.2.2.2.2 1
              go_wp2
              go_roundw
              case rel => exact ⟨1, by omega, by go_num, Lib.hid (HI.out.next (by omega) (by omega) rfl)⟩
              case measure => simp [intOf]
            · have hq : wr.cell? ⟨w.heap.size + 1 + 1, 5, none⟩ = some (.pointer (partG g 1 1 5)) := by obtain ⟨_, _, _, _, _, h, _⟩ := cells16 HI.out.fill; exact h
              have hf : wr.frozen? ⟨w.heap.size + 1 + 1, 5, none⟩ = false := (cells16 HI.out.fill).2.2.2.2.2.2.2.2.2.2.2.2.2.2.2.2 5
              go_wp2
              go_roundw
              case rel => exact ⟨2, by omega, by go_num, Lib.hid (HI.out.next (by omega) (by omega) rfl)⟩
              case measure => simp [intOf]
            · have hq : wr.cell? ⟨w.heap.size + 1 + 1, 9, none⟩ = some (.pointer (partG g 1 2 9)) := by obtain ⟨_, _, _, _, _, _, _, _, _, h, _⟩ := cells16 HI.out.fill; exact h
              have hf : wr.frozen? ⟨w.heap.size + 1 + 1, 9, none⟩ = false := (cells16 HI.out.fill).2.2.2.2.2.2.2.2.2.2.2.2.2.2.2.2 9
              go_wp2
              go_roundw
              case rel => exact ⟨3, by omega, by go_num, Lib.hid (HI.out.next (by omega) (by omega) rfl)⟩
              case measure => simp [intOf]
            · have hq : wr.cell? ⟨w.heap.size + 1 + 1, 13, none⟩ = some (.pointer (partG g 1 3 13)) := by obtain ⟨_, _, _, _, _, _, _, _, _, _, _, _, _, h, _⟩ := cells16 HI.out.fill; exact h
              have hf : wr.frozen? ⟨w.heap.size + 1 + 1, 13, none⟩ = false := (cells16 HI.out.fill).2.2.2.2.2.2.2.2.2.2.2.2.2.2.2.2 13
              go_wp2
              go_roundw
              case rel => exact ⟨4, by omega, by go_num, Lib.hid (HI.out.next (by omega) (by omega) rfl)⟩
              case measure => simp [intOf]
          · obtain rfl : k = 4 := by omega
            go_wp2
            go_roundw
            case rel => exact ⟨2, by omega, by go_num, Lib.hid (HI.out.row (by omega))⟩
            case measure => simp [intOf]
      · go_wp2
        go_loopw [14] (fun x wr => ∃ k : Nat, k ≤ 4 ∧ x = .int .i64 k ∧ Hid (FlipAt w g 2 k wr)) (fun x _ => 4 - (intOf x).toNat)
        case atStart => exact ⟨0, by omega, rfl, Lib.hid (HF.out.alloc _)⟩
        case round =>
          obtain ⟨k, hk, rfl, HI⟩ := hrel
          by_cases hkt : k < 4
          · have h5 : k = 0 ∨ k = 1 ∨ k = 2 ∨ k = 3 := by omega
            rcases h5 with rfl | rfl | rfl | rfl
            · have hq : wr.cell? ⟨w.heap.size + 1 + 1, 2, none⟩ = some (.pointer (partG g 2 0 2)) := by obtain ⟨_, _, h, _⟩ := cells16 HI.out.fill; exact h
              have hf : wr.frozen? ⟨w.heap.size + 1 + 1, 2, none⟩ = false := (cells16 HI.out.fill).2.2.2.2.2.2.2.2.2.2.2.2.2.2.2.2 2
              go_wp2
              go_roundw
              case rel => exact ⟨1, by omega, by go_num, Lib.hid (HI.out.next (by omega) (by omega) rfl)⟩
              case measure => simp [intOf]
            · have hq : wr.cell? ⟨w.heap.size + 1 + 1, 6, none⟩ = some (.pointer (partG g 2 1 6)) := by obtain ⟨_, _, _, _, _, _, h, _⟩ := cells16 HI.out.fill; exact h
              have hf : wr.frozen? ⟨w.heap.size + 1 + 1, 6, none⟩ = false := (cells16 HI.out.fill).2.2.2.2.2.2.2.2.2.2.2.2.2.2.2.2 6
              go_wp2
              go_roundw
              case rel => exact ⟨2, by omega, by go_num, Lib.hid (HI.out.next (by omega) (by omega) rfl)⟩
              case measure => simp [intOf]
            · have hq : wr.cell? ⟨w.heap.size + 1 + 1, 10, none⟩ = some (.pointer (partG g 2 2 10)) := by obtain ⟨_, _, _, _, _, _, _, _, _, _, h, _⟩ := cells16 HI.out.fill; exact h
              have hf : wr.frozen? ⟨w.heap.size + 1 + 1, 10, none⟩ = false := (cells16 HI.out.fill).2.2.2.2.2.2.2.2.2.2.2.2.2.2.2.2 10
              go_wp2
              go_roundw
              case rel => exact ⟨3, by omega, by go_num, Lib.hid (HI.out.next (by omega) (by omega) rfl)⟩
              case measure => simp [intOf]
            · have hq : wr.cell? ⟨w.heap.size + 1 + 1, 14, none⟩ = some (.pointer (partG g 2 3 14)) := by obtain ⟨_, _, _, _, _, _, _, _, _, _, _, _, _, _, h, _⟩ := cells16 HI.out.fill; exact h
              have hf : wr.frozen? ⟨w.heap.size + 1 + 1, 14, none⟩ = false := (cells16 HI.out.fill).2.2.2.2.2.2.2.2.2.2.2.2.2.2.2.2 14
              go_wp2
              go_roundw
              case rel => exact ⟨4, by omega, by go_num, Lib.hid (HI.out.next (by omega) (by omega) rfl)⟩
              case measure => simp [intOf]
          · obtain rfl : k = 4 := by omega
            go_wp2
            go_roundw
            case rel => exact ⟨3, by omega, by go_num, Lib.hid (HI.out.row (by omega))⟩
            case measure => simp [intOf]
      · go_wp2
        go_loopw [14] (fun x wr => ∃ k : Nat, k ≤ 4 ∧ x = .int .i64 k ∧ Hid (FlipAt w g 3 k wr)) (fun x _ => 4 - (intOf x).toNat)
        case atStart => exact ⟨0, by omega, rfl, Lib.hid (HF.out.alloc _)⟩
        case round =>
          obtain ⟨k, hk, rfl, HI⟩ := hrel
          by_cases hkt : k < 4
          · have h5 : k = 0 ∨ k = 1 ∨ k = 2 ∨ k = 3 := by omega
            rcases h5 with rfl | rfl | rfl | rfl
            · have hq : wr.cell? ⟨w.heap.size + 1 + 1, 3, none⟩ = some (.pointer (partG g 3 0 3)) := by obtain ⟨_, _, _, h, _⟩ := cells16 HI.out.fill; exact h
              have hf : wr.frozen? ⟨w.heap.size + 1 + 1, 3, none⟩ = false := (cells16 HI.out.fill).2.2.2.2.2.2.2.2.2.2.2.2.2.2.2.2 3
              go_wp2
              go_roundw
              case rel => exact ⟨1, by omega, by go_num, Lib.hid (HI.out.next (by omega) (by omega) rfl)⟩
              case measure => simp [intOf]
            · have hq : wr.cell? ⟨w.heap.size + 1 + 1, 7, none⟩ = some (.pointer (partG g 3 1 7)) := by obtain ⟨_, _, _, _, _, _, _, h, _⟩ := cells16 HI.out.fill; exact h
              have hf : wr.frozen? ⟨w.heap.size + 1 + 1, 7, none⟩ = false := (cells16 HI.out.fill).2.2.2.2.2.2.2.2.2.2.2.2.2.2.2.2 7
              go_wp2
              go_roundw
              case rel => exact ⟨2, by omega, by go_num, Lib.hid (HI.out.next (by omega) (by omega) rfl)⟩
              case measure => simp [intOf]
            · have hq : wr.cell? ⟨w.heap.size + 1 + 1, 11, none⟩ = some (.pointer (partG g 3 2 11)) := by obtain ⟨_, _, _, _, _, _, _, _, _, _, _, h, _⟩ := cells16 HI.out.fill; exact h
              have hf : wr.frozen? ⟨w.heap.size + 1 + 1, 11, none⟩ = false := (cells16 HI.out.fill).2.2.2.2.2.2.2.2.2.2.2.2.2.2.2.2 11
              go_wp2
              go_roundw
              case rel => exact ⟨3, by omega, by go_num, Lib.hid (HI.out.next (by omega) (by omega) rfl)⟩
              case measure => simp [intOf]
            · have hq : wr.cell? ⟨w.heap.size + 1 + 1, 15, none⟩ = some (.pointer (partG g 3 3 15)) := by obtain ⟨_, _, _, _, _, _, _, _, _, _, _, _, _, _, _, h, _⟩ := cells16 HI.out.fill; exact h
              have hf : wr.frozen? ⟨w.heap.size + 1 + 1, 15, none⟩ = false := (cells16 HI.out.fill).2.2.2.2.2.2.2.2.2.2.2.2.2.2.2.2 15
              go_wp2
              go_roundw
              case rel => exact ⟨4, by omega, by go_num, Lib.hid (HI.out.next (by omega) (by omega) rfl)⟩
              case measure => simp [intOf]
          · obtain rfl : k = 4 := by omega
            go_wp2
            go_roundw
            case rel => exact ⟨4, by omega, by go_num, Lib.hid (HI.out.row (by omega))⟩
            case measure => simp [intOf]
    · obtain rfl : i = 4 := by omega
      have eP : mC (partG g 4 0) = mC (flipG g) := by simp [mC, partG, flipG]
      have hfill := HF.out.fill
      rw [eP] at hfill
      obtain ⟨c0, c1, c2, c3, c4, c5, c6, c7, c8, c9, c10, c11, c12, c13, c14, c15, c16⟩ := cells16 hfill
      obtain ⟨d0, d1, d2, d3, d4, d5, d6, d7, d8, d9, d10, d11, d12, d13, d14, d15, d16⟩ := cells16 HF.out.res
      have HFF := Lib.hid HF.out.res
      clear hfill eP
      go_wp2
      have hP := put16_heap HFF.out (flipG g)
      have hB := put16_below HF.out.below (B := w.heap.size + 1) (by omega) (flipG g)
      obtain ⟨e0, e1, e2, e3, e4, e5, e6, e7, e8, e9, e10, e11, e12, e13, e14, e15, e16⟩ := cells16 hP
      refine bodyPost_ret (w := put16 wr (w.heap.size + 1) (flipG g)) (v := .agg (mC (flipG g))) ?_ rfl ⟨rfl, hB⟩
      simp [results, Try.results98, go_sem, mC, e0, e1, e2, e3, e4, e5, e6, e7, e8, e9, e10, e11, e12, e13, e14, e15]

end Go.Proofs.Ytakfobihakbefaa

/- Matrices of polynomials as lists: which are matrices, and what is made of them. -/

namespace Go.Proofs.Ytakfobihakbefaa
open Go.RowKit

abbrev Mx := List (List Pl)
def zeroP : Pl := ⟨0, []⟩
def colsM (M : Mx) : Nat := (M.getD 0 []).length
/-- The polynomial in row i and column k. -/
def at2 (M : Mx) (i k : Nat) : Pl := (M.getD i []).getD k zeroP
def matB (M : Mx) : Bool := decide (1 ≤ M.length ∧ M.length ≤ 4) && (decide (1 ≤ colsM M ∧ colsM M ≤ 4) && M.all fun r => decide (r.length = colsM M) && r.all polyB)
theorem matB_iff {M : Mx} : matB M = true ↔ (1 ≤ M.length ∧ M.length ≤ 4) ∧ (1 ≤ colsM M ∧ colsM M ≤ 4) ∧ ∀ r ∈ M, r.length = colsM M ∧ ∀ p ∈ r, polyB p = true := by
  unfold matB
  simp only [Bool.and_eq_true, decide_eq_true_eq, List.all_eq_true]
theorem matB_row {M : Mx} (h : matB M = true) {i : Nat} (hi : i < M.length) : (M[i]).length = colsM M := ((matB_iff.1 h).2.2 _ (List.getElem_mem hi)).1
theorem at2_eq {M : Mx} {i k : Nat} (hi : i < M.length) (hk : k < (M[i]).length) : at2 M i k = M[i][k] := by
  unfold at2
  simp [List.getD_eq_getElem?_getD, hi, hk]
theorem matB_at {M : Mx} (h : matB M = true) {i k : Nat} (hi : i < M.length) (hk : k < colsM M) : polyB (at2 M i k) = true := by
  have hr := matB_row h hi
  rw [at2_eq hi (by rw [hr]; exact hk)]
  exact ((matB_iff.1 h).2.2 _ (List.getElem_mem hi)).2 _ (List.getElem_mem _)
/-- Two matrices of one shape with the same polynomials are one. -/
theorem mx_ext {M R : Mx} {n m : Nat} (hM : M.length = n) (hR : R.length = n) (h1 : ∀ i (h : i < M.length), (M[i]).length = m) (h2 : ∀ i (h : i < R.length), (R[i]).length = m) (h : ∀ i k, i < n → k < m → at2 M i k = at2 R i k) : M = R := by
  apply List.ext_getElem (by omega)
  intro i hi hj
  apply List.ext_getElem (by rw [h1 i hi, h2 i hj])
  intro k hk hl
  rw [← at2_eq hi hk, ← at2_eq hj hl]
  exact h i k (by omega) (by rw [h1 i hi] at hk; exact hk)

/-! ### Lists that are made place by place -/
def rowO (f : Nat → Option Pl) : Nat → Option (List Pl)
  | 0 => some []
  | k + 1 => match rowO f k with
    | none => none
    | some r => match f k with
      | none => none
      | some p => some (r ++ [p])
def gridO (f : Nat → Nat → Option Pl) (m : Nat) : Nat → Option Mx
  | 0 => some []
  | i + 1 => match gridO f m i with
    | none => none
    | some R => match rowO (f i) m with
      | none => none
      | some r => some (R ++ [r])
theorem rowO_some {f : Nat → Option Pl} : ∀ {k : Nat} {r : List Pl}, rowO f k = some r → r.length = k ∧ ∀ i (h : i < r.length), f i = some r[i]
  | 0, r, h => by
    simp only [rowO, Option.some.injEq] at h
    subst h
    exact ⟨rfl, fun i h => by simp at h⟩
  | k + 1, r, h => by
    unfold rowO at h
    cases h1 : rowO f k with
    | none => rw [h1] at h; cases h
    | some q =>
      rw [h1] at h
      cases h2 : f k with
      | none => rw [h2] at h; cases h
      | some p =>
        rw [h2] at h
        simp only [Option.some.injEq] at h
        subst h
        obtain ⟨h3, h4⟩ := rowO_some h1
        refine ⟨by rw [List.length_append, h3]; rfl, fun i hi => ?_⟩
        by_cases e : i < q.length
        · rw [List.getElem_append_left e]; exact h4 i e
        · rw [List.length_append, List.length_singleton] at hi
          obtain rfl : i = k := by omega
          rw [List.getElem_append_right (by omega), h2]
          simp
theorem rowO_none {f : Nat → Option Pl} {k : Nat} : rowO f k = none ↔ ∃ i, i < k ∧ f i = none := by
  induction k with
  | zero => simp [rowO]
  | succ k ih =>
    unfold rowO
    cases h1 : rowO f k with
    | none =>
      obtain ⟨i, hi, h⟩ := ih.1 h1
      simp only [true_iff]
      exact ⟨i, by omega, h⟩
    | some q =>
      cases h2 : f k with
      | none => simp only [true_iff]; exact ⟨k, by omega, h2⟩
      | some p =>
        simp only [reduceCtorEq, false_iff]
        rintro ⟨i, hi, h⟩
        by_cases e : i = k
        · subst e; rw [h2] at h; cases h
        · have := ih.2 ⟨i, by omega, h⟩
          rw [h1] at this; cases this
theorem rowO_all {f : Nat → Option Pl} {k : Nat} (g : Nat → Pl) (h : ∀ i, i < k → f i = some (g i)) : rowO f k = some ((List.range k).map g) := by
  induction k with
  | zero => rfl
  | succ k ih =>
    unfold rowO
    rw [ih fun i hi => h i (by omega), h k (by omega)]
    simp [List.range_succ]
theorem gridO_some {f : Nat → Nat → Option Pl} {m : Nat} : ∀ {n : Nat} {R : Mx}, gridO f m n = some R → R.length = n ∧ (∀ i (h : i < R.length), (R[i]).length = m) ∧ ∀ i k, i < n → k < m → f i k = some (at2 R i k)
  | 0, R, h => by
    simp only [gridO, Option.some.injEq] at h
    subst h
    exact ⟨rfl, fun i h => by simp at h, fun i k h => by omega⟩
  | n + 1, R, h => by
    unfold gridO at h
    cases h1 : gridO f m n with
    | none => rw [h1] at h; cases h
    | some Q =>
      rw [h1] at h
      cases h2 : rowO (f n) m with
      | none => rw [h2] at h; cases h
      | some r =>
        rw [h2] at h
        simp only [Option.some.injEq] at h
        subst h
        obtain ⟨h3, h4, h5⟩ := gridO_some h1
        obtain ⟨h6, h7⟩ := rowO_some h2
        refine ⟨by rw [List.length_append, h3]; rfl, fun i hi => ?_, fun i k hi hk => ?_⟩
        · by_cases e : i < Q.length
          · rw [List.getElem_append_left e]; exact h4 i e
          · rw [List.length_append, List.length_singleton] at hi
            rw [List.getElem_append_right (by omega)]
            simp [h6]
        · by_cases e : i < Q.length
          · rw [h5 i k (by omega) hk]
            unfold at2
            simp [List.getD_eq_getElem?_getD, List.getElem?_append_left e]
          · obtain rfl : i = n := by omega
            have hkr : k < r.length := by omega
            rw [h7 k hkr]
            unfold at2
            simp [List.getD_eq_getElem?_getD, h3, hkr]
theorem gridO_all {f : Nat → Nat → Option Pl} {m n : Nat} (g : Nat → Nat → Pl) (h : ∀ i k, i < n → k < m → f i k = some (g i k)) : gridO f m n = some ((List.range n).map fun i => (List.range m).map (g i)) := by
  induction n with
  | zero => rfl
  | succ n ih =>
    unfold gridO
    rw [ih fun i k hi hk => h i k (by omega) hk, rowO_all (g n) fun k hk => h n k (by omega) hk]
    simp [List.range_succ]
theorem gridO_none {f : Nat → Nat → Option Pl} {m n : Nat} : gridO f m n = none ↔ ∃ i k, i < n ∧ k < m ∧ f i k = none := by
  induction n with
  | zero => simp [gridO]
  | succ n ih =>
    unfold gridO
    cases h1 : gridO f m n with
    | none =>
      obtain ⟨i, k, hi, hk, h⟩ := ih.1 h1
      simp only [true_iff]
      exact ⟨i, k, by omega, hk, h⟩
    | some Q =>
      cases h2 : rowO (f n) m with
      | none =>
        obtain ⟨k, hk, h⟩ := rowO_none.1 h2
        simp only [true_iff]; exact ⟨n, k, by omega, hk, h⟩
      | some p =>
        simp only [reduceCtorEq, false_iff]
        rintro ⟨i, k, hi, hk, h⟩
        by_cases e : i = n
        · subst e
          have := rowO_none.2 ⟨k, hk, h⟩
          rw [h2] at this; cases this
        · have := ih.2 ⟨i, k, by omega, hk, h⟩
          rw [h1] at this; cases this

/-! ### What the functions make -/
def addO (a b : Pl) : Option Pl := if addPB a b then some (addP a b) else none
def timesO (a b : Pl) : Option Pl := if timesPB a b then some (timesP a b) else none
/-- The sum a - b, if it is a polynomial. -/
def lessO (a b : Pl) : Option Pl := if polyB (sumP a (-1) b) then some (sumP a (-1) b) else none
def dotO (A B : Mx) (i k : Nat) : Nat → Option Pl
  | 0 => some zeroP
  | j + 1 => match dotO A B i k j with
    | none => none
    | some s => match timesO (at2 A i j) (at2 B j k) with
      | none => none
      | some p => addO s p
def oneO (n : Nat) : Option Mx := if 1 ≤ n ∧ n ≤ 4 then gridO (fun i k => some (if i = k then ⟨0, [1]⟩ else zeroP)) n n else none
def timesM (A B : Mx) : Option Mx := if matB A && (matB B && decide (colsM A = B.length)) then gridO (fun i k => dotO A B i k B.length) (colsM B) A.length else none
def lessM (A B : Mx) : Option Mx := if matB A && (matB B && (decide (A.length = B.length) && decide (colsM A = colsM B))) then gridO (fun i k => lessO (at2 A i k) (at2 B i k)) (colsM A) A.length else none
def flipM (M : Mx) : Option Mx := if matB M then gridO (fun k i => some (at2 M i k)) M.length (colsM M) else none
/-- Without the row i and the column k. -/
def skip (i r : Nat) : Nat := if r < i then r else r + 1
def cutL (M : Mx) (i k : Nat) : Mx := (List.range (M.length - 1)).map fun r => (List.range (colsM M - 1)).map fun c => at2 M (skip i r) (skip k c)
def cutM (M : Mx) (i k : Int) : Option Mx := if matB M && (decide (2 ≤ M.length) && (decide (2 ≤ colsM M) && (decide (0 ≤ i ∧ i < M.length) && decide (0 ≤ k ∧ k < colsM M)))) then some (cutL M i.toNat k.toNat) else none
/-- The determinant, all its columns up to k. -/
def signed (k : Nat) : Int := 1 - 2 * ((k : Int) % 2)
def stepO (s : Option Pl) (sign : Int) (p : Option Pl) : Option Pl := match s with
  | none => none
  | some s => match p with
    | none => none
    | some p => if polyB (sumP s sign p) then some (sumP s sign p) else none
def detS (d : Mx → Option Pl) (M : Mx) : Nat → Option Pl
  | 0 => some zeroP
  | k + 1 => stepO (detS d M k) (signed k) (match d (cutL M 0 k) with
    | none => none
    | some d => timesO (at2 M 0 k) d)
def detO : Nat → Mx → Option Pl
  | 0, _ => none
  | n + 1, M => if M.length = 1 then some (at2 M 0 0) else detS (detO n) M M.length
def detM (M : Mx) : Option Pl := if matB M && decide (M.length = colsM M) then detO M.length M else none
def traceS (M : Mx) : Nat → Option Pl
  | 0 => some zeroP
  | k + 1 => match traceS M k with
    | none => none
    | some s => addO s (at2 M k k)
def traceM (M : Mx) : Option Pl := if matB M && decide (M.length = colsM M) then traceS M M.length else none

end Go.Proofs.Ytakfobihakbefaa

/- The program's matrixBy. -/

namespace Go.Proofs.Ytakfobihakbefaa
open Go.RowKit

/-- A matrix behind pointers, all of a call's own. -/
structure MatW (lo : Nat) (w : World) (g : Nat → Option Addr) (n m : Nat) (P : Nat → Nat → Pl) (pv : Nat → Nat → Value) : Prop where
  shp : ShapeM g n m
  at_ : ∀ i k, i < n → k < m → ∃ j, g (i * 4 + k) = some ⟨j, 0, none⟩ ∧ lo ≤ j ∧ j < w.heap.size ∧ w.cell? ⟨j, 0, none⟩ = some (.int .i64 (P i k).low) ∧ w.cell? ⟨j, 1, none⟩ = some (pv i k) ∧ IntRow lo w (pv i k) (P i k).cs
  apart : ∀ i k i2 k2 b, i < n → k < m → i2 < n → k2 < m → ¬ (i = i2 ∧ k = k2) → (pv i k).ownBlock = some b → (pv i2 k2).ownBlock = some b → False
theorem MatW.below {lo : Nat} {w w' : World} {g : Nat → Option Addr} {n m : Nat} {P : Nat → Nat → Pl} {pv : Nat → Nat → Value} (h : MatW lo w g n m P pv) (hb : Below w.heap.size w w') : MatW lo w' g n m P pv :=
  ⟨h.shp, fun i k hi hk => by
    obtain ⟨j, h1, h2, h3, h4, h5, h6⟩ := h.at_ i k hi hk
    exact ⟨j, h1, h2, Nat.lt_of_lt_of_le h3 hb.size, (hb.cell (p := ⟨j, 0, none⟩) h3).trans h4, (hb.cell (p := ⟨j, 1, none⟩) h3).trans h5, h6.below hb⟩, h.apart⟩
theorem MatW.mono {lo lo2 : Nat} {w : World} {g : Nat → Option Addr} {n m : Nat} {P : Nat → Nat → Pl} {pv : Nat → Nat → Value} (h : MatW lo w g n m P pv) (hl : lo2 ≤ lo) : MatW lo2 w g n m P pv :=
  ⟨h.shp, fun i k hi hk => by
    obtain ⟨j, h1, h2, h3, h4, h5, h6⟩ := h.at_ i k hi hk
    exact ⟨j, h1, by omega, h3, h4, h5, h6.mono hl⟩, h.apart⟩
/-- What a function that makes a polynomial for a place comes to. -/
def AtE (W : World) (o : Option Pl) (e : Ending) (w' : World) : Prop :=
  ((∃ l a n c, o = none ∧ e = .returned (.tuple #[plV l (.slice a n c), .bool false])) ∨ (∃ p a n c, o = some p ∧ e = .returned (.tuple #[plV p.low (.slice a n c), .bool true]) ∧ IntRow W.heap.size w' (.slice a n c) p.cs)) ∧ Below W.heap.size W w'
def Done (m i k a b : Nat) : Prop := (a < i ∧ b < m) ∨ (a = i ∧ b < k)
structure ByAt (w : World) (m : Nat) (f : Nat → Nat → Option Pl) (i k : Nat) (g : Nat → Option Addr) (P : Nat → Nat → Pl) (pv : Nat → Nat → Value) (wr : World) : Prop where
  below : Below w.heap.size w wr
  size : w.heap.size + 2 ≤ wr.heap.size
  res : wr.heap[w.heap.size]? = some (.cells (mC fun _ => none) MA (0, 0))
  fill : wr.heap[w.heap.size + 1]? = some (.cells (mC g) MA (0, 0))
  at_ : ∀ a b, Done m i k a b → f a b = some (P a b) ∧ ∃ j, g (a * 4 + b) = some ⟨j, 0, none⟩ ∧ w.heap.size + 2 ≤ j ∧ j < wr.heap.size ∧ wr.cell? ⟨j, 0, none⟩ = some (.int .i64 (P a b).low) ∧ wr.cell? ⟨j, 1, none⟩ = some (pv a b) ∧ IntRow (w.heap.size + 2) wr (pv a b) (P a b).cs
  apart : ∀ a b a2 b2 x, Done m i k a b → Done m i k a2 b2 → ¬ (a = a2 ∧ b = b2) → (pv a b).ownBlock = some x → (pv a2 b2).ownBlock = some x → False
  no : ∀ a b, a < 4 → b < 4 → ¬ Done m i k a b → g (a * 4 + b) = none
theorem ByAt.start (w : World) (m : Nat) (f : Nat → Nat → Option Pl) : ByAt w m f 0 0 (fun _ => none) (fun _ _ => zeroP) (fun _ _ => .slice none 0 0) ((w.alloc (.cells (mC fun _ => none) MA)).alloc (.cells (mC fun _ => none) MA)) := by
  have hd : ∀ a b, ¬ Done m 0 0 a b := fun a b h => by unfold Done at h; omega
  refine ⟨((Below.refl _ w).alloc (Nat.le_refl _) _).alloc (by simp) _, by simp, ?_, ?_, fun a b h => absurd h (hd a b), fun a b _ _ _ h => absurd h (hd a b), fun _ _ _ _ _ => rfl⟩
  · rw [Below.heap_alloc _ _ _ (by simp)]
    exact World.alloc_heap_new w _
  · have h := World.alloc_heap_new (w.alloc (.cells (mC fun _ => none) MA)) (.cells (mC fun _ => none) MA)
    rwa [World.size_alloc] at h
theorem ByAt.row {w wr : World} {m i : Nat} {f : Nat → Nat → Option Pl} {g : Nat → Option Addr} {P : Nat → Nat → Pl} {pv : Nat → Nat → Value} (h : ByAt w m f i m g P pv wr) : ByAt w m f (i + 1) 0 g P pv wr := by
  have hd : ∀ a b, Done m (i + 1) 0 a b ↔ Done m i m a b := fun a b => by unfold Done; omega
  exact ⟨h.below, h.size, h.res, h.fill, fun a b hab => h.at_ a b ((hd a b).1 hab), fun a b a2 b2 x h1 h2 => h.apart a b a2 b2 x ((hd a b).1 h1) ((hd a2 b2).1 h2), fun a b ha hb hn => h.no a b ha hb fun e => hn ((hd a b).2 e)⟩
theorem mC_set (g : Nat → Option Addr) (i k : Nat) (hi : i < 4) (hk : k < 4) (q : Option Addr) : (mC g).setIfInBounds (i * 4 + k) (.pointer q) = mC fun j => if j = i * 4 + k then q else g j := by
  have h4 : i = 0 ∨ i = 1 ∨ i = 2 ∨ i = 3 := by omega
  have h5 : k = 0 ∨ k = 1 ∨ k = 2 ∨ k = 3 := by omega
  rcases h4 with rfl | rfl | rfl | rfl <;> rcases h5 with rfl | rfl | rfl | rfl <;> simp [mC]
/-- One place more. -/
theorem ByAt.next {w wr w2 : World} {m i k : Nat} {f : Nat → Nat → Option Pl} {g : Nat → Option Addr} {P : Nat → Nat → Pl} {pv : Nat → Nat → Value} {p : Pl} {v : Value} (h : ByAt w m f i k g P pv wr) (hi : i < 4) (hk : k < m) (hm : m ≤ 4) (hf : f i k = some p) (hb : Below wr.heap.size wr w2) (hv : IntRow wr.heap.size w2 v p.cs) :
    ByAt w m f i (k + 1) (fun j => if j = i * 4 + k then some ⟨w2.heap.size, 0, none⟩ else g j) (fun a b => if a = i ∧ b = k then p else P a b) (fun a b => if a = i ∧ b = k then v else pv a b) ((w2.alloc (.cells #[.int .i64 p.low, v] PO)).setCell ⟨w.heap.size + 1, i * 4 + k, none⟩ (.pointer (some ⟨w2.heap.size, 0, none⟩))) := by
  have hs := h.size
  have hs2 := hb.size
  obtain ⟨V, hV⟩ : ∃ V, w2.alloc (.cells #[.int .i64 p.low, v] PO) = V := ⟨_, rfl⟩
  have hbV : Below w2.heap.size w2 V := by rw [← hV]; exact (Below.refl _ _).alloc (Nat.le_refl _) _
  have hsV : V.heap.size = w2.heap.size + 1 := by rw [← hV]; simp
  have hnewV : V.heap[w2.heap.size]? = some (.cells #[.int .i64 p.low, v] PO (0, 0)) := by rw [← hV]; exact World.alloc_heap_new w2 _
  rw [hV]
  have hb3 : Below wr.heap.size wr V := hb.trans (hbV.mono hs2)
  have hoff : ∀ b, b ≠ w.heap.size + 1 → (V.setCell ⟨w.heap.size + 1, i * 4 + k, none⟩ (.pointer (some ⟨w2.heap.size, 0, none⟩))).heap[b]? = V.heap[b]? := fun b hne => heap_off V _ _ hne
  have hcell : ∀ j o, j ≠ w.heap.size + 1 → (V.setCell ⟨w.heap.size + 1, i * 4 + k, none⟩ (.pointer (some ⟨w2.heap.size, 0, none⟩))).cell? ⟨j, o, none⟩ = V.cell? ⟨j, o, none⟩ := fun j o hne => by simp only [World.cell?]; rw [hoff j hne]
  have hint : ∀ lo v zs, w.heap.size + 2 ≤ lo → IntRow lo V v zs → IntRow lo (V.setCell ⟨w.heap.size + 1, i * 4 + k, none⟩ (.pointer (some ⟨w2.heap.size, 0, none⟩))) v zs := fun lo v zs hl hr => ownsRow_setCell_below hr (a := ⟨w.heap.size + 1, i * 4 + k, none⟩) (by show w.heap.size + 1 < lo; omega) _
  have hnd : ∀ a b, Done m i (k + 1) a b → ¬ (a = i ∧ b = k) → Done m i k a b := fun a b hd hne => by unfold Done at *; omega
  refine ⟨((h.below.trans (hb3.mono (by omega))).setCell (p := ⟨w.heap.size + 1, i * 4 + k, none⟩) (by show w.heap.size ≤ w.heap.size + 1; omega) _), by simp; omega, ?_, ?_, fun a b hd => ?_, fun a b a2 b2 x h1 h2 hne e1 e2 => ?_, fun a b ha hb2 hn => ?_⟩
  · rw [hoff _ (by omega), hb3.block _ (by omega)]
    exact h.res
  · rw [heap_setCell_same V (w.heap.size + 1) (i * 4 + k) _ _ _ ((hb3.block _ (by omega)).trans h.fill), mC_set g i k hi (by omega)]
  · by_cases e : a = i ∧ b = k
    · obtain ⟨rfl, rfl⟩ := e
      simp only [and_self, if_true]
      refine ⟨hf, w2.heap.size, rfl, by omega, by simp; omega, ?_, ?_, hint _ _ _ (Nat.le_refl _) ((hv.below hbV).mono hs)⟩
      · rw [hcell _ _ (by omega)]; simp [World.cell?, hnewV]
      · rw [hcell _ _ (by omega)]; simp [World.cell?, hnewV]
    · obtain ⟨hfa, j, q1, q2, q3, q4, q5, q6⟩ := h.at_ a b (hnd a b hd e)
      have hpl : ¬ a * 4 + b = i * 4 + k := by unfold Done at hd; omega
      simp only [if_neg e, if_neg hpl]
      refine ⟨hfa, j, q1, q2, by simp; omega, ?_, ?_, hint _ _ _ (Nat.le_refl _) (q6.below hb3)⟩
      · rw [hcell _ _ (by omega), hb3.cell (p := ⟨j, 0, none⟩) q3]; exact q4
      · rw [hcell _ _ (by omega), hb3.cell (p := ⟨j, 1, none⟩) q3]; exact q5
  · have hold : ∀ a b x, Done m i k a b → (pv a b).ownBlock = some x → x < wr.heap.size := fun a b x hd he => by
      obtain ⟨_, j, _, _, _, _, _, q6⟩ := h.at_ a b hd
      exact (ownsRow_lt q6 x he).2
    have hnew : ∀ x, v.ownBlock = some x → wr.heap.size ≤ x := fun x he => (ownsRow_lt hv x he).1
    by_cases ea : a = i ∧ b = k
    · by_cases eb : a2 = i ∧ b2 = k
      · omega
      · rw [if_pos ea] at e1; rw [if_neg eb] at e2
        have := hnew x e1; have := hold a2 b2 x (hnd _ _ h2 eb) e2; omega
    · by_cases eb : a2 = i ∧ b2 = k
      · rw [if_neg ea] at e1; rw [if_pos eb] at e2
        have := hnew x e2; have := hold a b x (hnd _ _ h1 ea) e1; omega
      · rw [if_neg ea] at e1; rw [if_neg eb] at e2
        exact h.apart a b a2 b2 x (hnd _ _ h1 ea) (hnd _ _ h2 eb) hne e1 e2
  · have hn2 : ¬ (a = i ∧ b = k) := fun e => hn (by unfold Done; omega)
    rw [if_neg (by omega)]
    exact h.no a b ha hb2 fun e => hn (by unfold Done at *; omega)

end Go.Proofs.Ytakfobihakbefaa

/- Matrices loaded and stored whole, in one step of a walk. -/

namespace Go.Proofs.Ytakfobihakbefaa
open Go.RowKit

theorem infoMA : (Try.prog.info? MA).map (·.size) = some 16 := by kernel_rfl
theorem loadM {w : World} {B : Nat} {g : Nat → Option Addr} (h : w.heap[B]? = some (.cells (mC g) MA (0, 0))) : (loadVar MA ⟨B, 0, none⟩).run Try.prog w = .ok (.agg (mC g)) w :=
  run_loadVar_row w B MA MA (mC g) (0, 0) (.array 4 RA) h (by kernel_rfl) rfl (by rw [infoMA]; rfl)
/-- A world in which a matrix was stored whole into the block B. -/
structure PutM (w w' : World) (B : Nat) (g : Nat → Option Addr) : Prop where
  os : w'.os = w.os
  tape : w'.tape = w.tape
  output : w'.output = w.output
  size : w'.heap.size = w.heap.size
  heap : w'.heap[B]? = some (.cells (mC g) MA (0, 0))
  off : ∀ b, b ≠ B → w'.heap[b]? = w.heap[b]?
theorem storeM {w : World} {B : Nat} {g : Nat → Option Addr} (h : w.heap[B]? = some (.cells (mC g) MA (0, 0))) (k : Nat → Option Addr) : ∃ w', (storeVar MA ⟨B, 0, none⟩ (.agg (mC k))).run Try.prog w = .ok () w' ∧ PutM w w' B k := by
  refine ⟨_, run_storeVar_row w B MA MA (mC g) (mC k) h (by rw [infoMA]; rfl) rfl (by simp [mC, Value.oneCell']), rfl, rfl, rfl, by simp [World.setRow], ?_, fun b hb => ?_⟩
  · simp only [World.setRow, Array.getElem?_modify, if_true, h]
    rfl
  · simp only [World.setRow, Array.getElem?_modify]
    rw [if_neg (fun e => hb e.symm)]
theorem PutM.below {w0 w w' : World} {B lo : Nat} {g : Nat → Option Addr} (h : PutM w w' B g) (hb : Below lo w0 w) (hl : lo ≤ B) : Below lo w0 w' :=
  ⟨h.os.trans hb.os, h.tape.trans hb.tape, h.output.trans hb.output, by rw [h.size]; exact hb.size, fun i hi => (h.off i (by omega)).trans (hb.block i hi)⟩
theorem PutM.grown {w w' : World} {B : Nat} {g : Nat → Option Addr} (h : PutM w w' B g) : w.grownBy w' (some B) := ⟨h.os, h.tape, h.output, Nat.le_of_eq h.size.symm, fun i _ hne => h.off i fun e => hne (by rw [e])⟩
section
variable {ops : Array Oper} {rest : List Oper} {o : Oper} {a : Act} {w : World} {Q : Exit → Act → World → Prop}
theorem wpList_load_mat (hg : o.guard = none) (x : Operand) (ho : o.op = .load MA x) (B : Nat) (g : Nat → Option Addr) (hx : a.eval x = .pointer (some ⟨B, 0, none⟩)) (hh : w.heap[B]? = some (.cells (mC g) MA (0, 0)))
    (h : wpList Try.prog ops Q rest (a.put o.dst (.agg (mC g))) w) : wpList Try.prog ops Q (o :: rest) a w := by
  refine wpList_plain hg fun K hK => ?_
  have hl := loadM hh
  unfold Oper.wp
  simp [execOp, ho, hx, Instr.loadAt, Instr.sureAddr, hl, Result.andThen]
  exact hK _ _ h
theorem wpList_load_mat_g (hw : Region.wanted o (yielded ops a.tmps) = true) (x : Operand) (ho : o.op = .load MA x) (B : Nat) (g : Nat → Option Addr) (hx : a.eval x = .pointer (some ⟨B, 0, none⟩)) (hh : w.heap[B]? = some (.cells (mC g) MA (0, 0)))
    (h : wpList Try.prog ops Q rest (a.put o.dst (.agg (mC g))) w) : wpList Try.prog ops Q (o :: rest) a w := by
  refine wpList_step fun K hK => ?_
  rw [if_pos hw]
  have hl := loadM hh
  unfold Oper.wp
  simp [execOp, ho, hx, Instr.loadAt, Instr.sureAddr, hl, Result.andThen]
  exact hK _ _ h
theorem wpList_store_mat (hg : o.guard = none) (x y : Operand) (ho : o.op = .store MA x y) (B : Nat) (g k : Nat → Option Addr) (hx : a.eval x = .pointer (some ⟨B, 0, none⟩)) (hy : a.eval y = .agg (mC k)) (hh : w.heap[B]? = some (.cells (mC g) MA (0, 0)))
    (h : ∀ w', PutM w w' B k → wpList Try.prog ops Q rest (a.put o.dst undef) w') : wpList Try.prog ops Q (o :: rest) a w := by
  refine wpList_plain hg fun K hK => ?_
  obtain ⟨w', hl, hp⟩ := storeM hh k
  unfold Oper.wp
  simp [execOp, ho, hx, hy, Instr.storeAt, Instr.sureAddr, hl, Result.andThen]
  exact hK _ _ (h w' hp)
end

/-- A matrix loaded whole in a region that draws its order. -/
theorem wpQuiet_load_mat {ops : Array Oper} {rest : List Oper} {o : Oper} {a : Act} {w : World} {Q : Act → Prop} (hg : o.guard = none) (x : Operand) (ho : o.op = .load MA x) (B : Nat) (g : Nat → Option Addr) (hx : a.eval x = .pointer (some ⟨B, 0, none⟩)) (hh : w.heap[B]? = some (.cells (mC g) MA (0, 0)))
    (h : wpQuiet Try.prog ops (fun w' => ∃ p : BelowBy w, w' = p.world) Q rest (a.put o.dst (.agg (mC g)))) : wpQuiet Try.prog ops (fun w' => ∃ p : BelowBy w, w' = p.world) Q (o :: rest) a := by
  refine wpQuiet_step fun K hK => ?_
  rw [if_pos (by simp [Region.wanted, hg])]
  refine ⟨.agg (mC g), ?_, hK _ h⟩
  rintro _ ⟨p, rfl⟩
  have hl := loadM ((p.below.block B (Array.getElem?_eq_some_iff.1 hh).1).trans hh)
  simp [Oper.quietAt, execOp, ho, hx, Instr.loadAt, Instr.sureAddr, hl, Result.andThen, Oper.quietUpon]

end Go.Proofs.Ytakfobihakbefaa

/- The program's matrixBy: its contract. -/

namespace Go.Proofs.Ytakfobihakbefaa
open Go.RowKit

theorem cell_of16 {w : World} {B : Nat} {g : Nat → Option Addr} (h : w.heap[B]? = some (.cells (mC g) MA (0, 0))) {i k : Nat} (hi : i < 4) (hk : k < 4) : w.cell? ⟨B, i * 4 + k, none⟩ = some (.pointer (g (i * 4 + k))) ∧ w.frozen? ⟨B, i * 4 + k, none⟩ = false := by
  have h4 : i = 0 ∨ i = 1 ∨ i = 2 ∨ i = 3 := by omega
  have h5 : k = 0 ∨ k = 1 ∨ k = 2 ∨ k = 3 := by omega
  rcases h4 with rfl | rfl | rfl | rfl <;> rcases h5 with rfl | rfl | rfl | rfl <;> simp [World.cell?, World.frozen?, h, mC]
theorem ByAt.done {w wr w2 : World} {n m : Nat} {f : Nat → Nat → Option Pl} {g : Nat → Option Addr} {P : Nat → Nat → Pl} {pv : Nat → Nat → Value} (h : ByAt w m f n 0 g P pv wr) (hn : n ≤ 4) (hm : m ≤ 4) (hp : PutM wr w2 w.heap.size g) : (∀ i k, i < n → k < m → f i k = some (P i k)) ∧ MatW w.heap.size w2 g (if m = 0 then 0 else n) (if n = 0 then 0 else m) P pv := by
  have hd : ∀ a b, Done m n 0 a b ↔ a < n ∧ b < m := fun a b => by unfold Done; omega
  have hs := h.size
  have hlt1 : ∀ {i}, i < (if m = 0 then 0 else n) → i < n := fun {i} h => by split at h <;> omega
  have hlt2 : ∀ {i}, i < (if n = 0 then 0 else m) → i < m := fun {i} h => by split at h <;> omega
  refine ⟨fun i k hi hk => (h.at_ i k ((hd i k).2 ⟨hi, hk⟩)).1, ⟨by split <;> omega, by split <;> omega, by split <;> split <;> omega, fun i k hi hk => ?_, fun i k hi hk hno => h.no i k hi hk fun e => by have := (hd i k).1 e; (split at hno <;> split at hno <;> omega)⟩, fun i k hi hk => ?_, fun i k i2 k2 b h1 h2 h3 h4 => h.apart i k i2 k2 b ((hd i k).2 ⟨hlt1 h1, hlt2 h2⟩) ((hd i2 k2).2 ⟨hlt1 h3, hlt2 h4⟩)⟩
  · obtain ⟨_, j, q1, _⟩ := h.at_ i k ((hd i k).2 ⟨hlt1 hi, hlt2 hk⟩)
    exact ⟨_, q1⟩
  · obtain ⟨_, j, q1, q2, q3, q4, q5, q6⟩ := h.at_ i k ((hd i k).2 ⟨hlt1 hi, hlt2 hk⟩)
    have hc : ∀ o, w2.cell? ⟨j, o, none⟩ = wr.cell? ⟨j, o, none⟩ := fun o => by simp only [World.cell?]; rw [hp.off _ (by omega)]
    refine ⟨j, q1, by omega, by rw [hp.size]; exact q3, (hc 0).trans q4, (hc 1).trans q5, ?_⟩
    exact IntRow.mono (ownsRow_touched q6 fun b hb _ => hp.off _ (by have := (ownsRow_lt q6 b hb).1; omega)) (by omega)

def ByR (w : World) (n m : Nat) (f : Nat → Nat → Option Pl) (e : Ending) (w' : World) : Prop :=
  ((∃ i k, i < n ∧ k < m ∧ f i k = none) ∧ e = .returned (.agg (mC fun _ => none)) ∨ ∃ g P pv, (∀ i k, i < n → k < m → f i k = some (P i k)) ∧ e = .returned (.agg (mC g)) ∧ MatW w.heap.size w' g (if m = 0 then 0 else n) (if n = 0 then 0 else m) P pv) ∧ Below w.heap.size w w'

set_option maxRecDepth 100000 in
set_option maxHeartbeats 4000000 in
theorem matrixBy_gen (F : Nat) (lb : Array Value) (n m : Nat) (f : Nat → Nat → Option Pl) (w : World) (hn : n ≤ 4) (hm : m ≤ 4) (eg : ∀ args w, (callFunc F args).run Try.prog w = .ok (.enter F args) w)
    (hat : ∀ (i k : Nat) (W : World), i < n → k < m → Below w.heap.size w W → Calls Try.prog F (#[.int .i64 (i : Int), .int .i64 (k : Int)] ++ lb) W (AtE W (f i k))) :
    Calls Try.prog 85 #[.int .i64 n, .int .i64 m, .func (.func F) #[] lb] w (ByR w n m f) := by
  have HST := Lib.hid (ByAt.start w m f)
  unfold mC at HST
  have HAT := Lib.hid hat
  clear hat
  go_enter Try.func85, Try.ntmps85
  go_wp2
  go_loopw [13] (fun x wr => ∃ (i : Nat) (g : Nat → Option Addr) (P : Nat → Nat → Pl) (pv : Nat → Nat → Value), i ≤ n ∧ x = .int .i64 i ∧ Hid (ByAt w m f i 0 g P pv wr)) (fun x _ => n - (intOf x).toNat)
  case atStart => exact ⟨0, _, _, _, Nat.zero_le _, rfl, HST⟩
  case round =>
    obtain ⟨i, g, P, pv, hi, rfl, HF⟩ := hrel
    obtain ⟨wo, rfl⟩ : ∃ wo, wr = wo := ⟨_, rfl⟩
    by_cases hlt : i < n
    · go_wp2
      go_loopw [17] (fun x wr => ∃ (k : Nat) (g : Nat → Option Addr) (P : Nat → Nat → Pl) (pv : Nat → Nat → Value), k ≤ m ∧ x = .int .i64 k ∧ Hid (ByAt w m f i k g P pv wr)) (fun x _ => m - (intOf x).toNat)
      case atStart => exact ⟨0, _, _, _, Nat.zero_le _, rfl, HF⟩
      case round =>
        obtain ⟨k, g, P, pv, hk, rfl, HI⟩ := hrel
        by_cases hkt : k < m
        · go_wp2_with fail
          refine (HAT.out i k wr hlt hkt HI.out.below).mono ?_
          rintro e w2 ⟨⟨l, a, c, d, hf, rfl⟩ | ⟨p, a, c, d, hf, rfl, hr⟩, hb2⟩
          · have hres : (w2.alloc (.cells #[.int .i64 l, .slice a c d] 25)).heap[w.heap.size]? = some (.cells (mC fun _ => none) MA (0, 0)) := by
              have hs := HI.out.size
              have hs2 := hb2.size
              rw [Below.heap_alloc _ _ _ (by omega), hb2.block _ (by omega)]
              exact HI.out.res
            have HB := Lib.hid ((HI.out.below.trans (hb2.mono HI.out.below.size)).alloc (Nat.le_trans HI.out.below.size hb2.size) (.cells #[.int .i64 l, .slice a c d] 25))
            have HF2 := Lib.hid hf
            have HRS := Lib.hid hres
            clear hres hb2 hf
            go_wp2_with (refine wpList_store_mat rfl _ _ rfl w.heap.size _ (fun _ => none) rfl rfl HRS.out ?_; intro w3 hp3)
            have hB := hp3.below HB.out (Nat.le_refl _)
            have hld := loadM hp3.heap
            have hR : ByR w n m f (.returned (.agg (mC fun _ => none))) w3 := by unfold ByR; exact ⟨.inl ⟨⟨i, k, hlt, hkt, HF2.out⟩, rfl⟩, hB⟩
            refine bodyPost_ret (v := .agg (mC fun _ => none)) ?_ rfl hR
            simp [results, Try.results85, Act.put, asAddr, hld]
          · have HN := Lib.hid (HI.out.next (by omega) hkt hm hf hb2 hr)
            have hfil : (w2.alloc (.cells #[.int .i64 p.low, .slice a c d] 25)).heap[w.heap.size + 1]? = some (.cells (mC g) MA (0, 0)) := by
              have hs := HI.out.size
              have hs2 := hb2.size
              rw [Below.heap_alloc _ _ _ (by omega), hb2.block _ (by omega)]
              exact HI.out.fill
            obtain ⟨hq, hz⟩ := cell_of16 hfil (i := i) (k := k) (by omega) (by omega)
            clear hfil hb2 hr hf
            go_wp2
            go_roundw
            case rel => exact ⟨k + 1, _, _, _, by omega, by go_num, HN⟩
            case measure => simp [intOf]; omega
        · obtain rfl : k = m := by omega
          go_wp2
          go_roundw
          case rel => exact ⟨i + 1, g, P, pv, by omega, by go_num, Lib.hid HI.out.row⟩
          case measure => simp [intOf]; omega
    · obtain rfl : i = n := by omega
      go_wp2_with (first | (refine wpList_load_mat rfl _ rfl (w.heap.size + 1) g rfl HF.out.fill ?_) | (refine wpList_store_mat rfl _ _ rfl w.heap.size _ g rfl rfl HF.out.res ?_; intro w3 hp3))
      obtain ⟨hD, hM⟩ := HF.out.done hn hm hp3
      have hB := hp3.below HF.out.below (Nat.le_refl _)
      have hld := loadM hp3.heap
      have hR : ByR w i m f (.returned (.agg (mC g))) w3 := by unfold ByR; exact ⟨.inr ⟨g, P, pv, hD, rfl, hM⟩, hB⟩
      refine bodyPost_ret (v := .agg (mC g)) ?_ rfl hR
      simp [results, Try.results85, Act.put, asAddr, hld]

theorem matrixBy_any (F : Nat) (lb : Array Value) (n m : Nat) (f : Nat → Nat → Option Pl) (w : World) (hn : n ≤ 4) (hm : m ≤ 4) (hnm : n = 0 ↔ m = 0) (eg : ∀ args w, (callFunc F args).run Try.prog w = .ok (.enter F args) w)
    (hat : ∀ (i k : Nat) (W : World), i < n → k < m → Below w.heap.size w W → Calls Try.prog F (#[.int .i64 (i : Int), .int .i64 (k : Int)] ++ lb) W (AtE W (f i k))) :
    Calls Try.prog 85 #[.int .i64 n, .int .i64 m, .func (.func F) #[] lb] w fun e w' =>
      ((∃ i k, i < n ∧ k < m ∧ f i k = none) ∧ e = .returned (.agg (mC fun _ => none)) ∨ ∃ g P pv, (∀ i k, i < n → k < m → f i k = some (P i k)) ∧ e = .returned (.agg (mC g)) ∧ MatW w.heap.size w' g n m P pv) ∧ Below w.heap.size w w' := by
  have h := matrixBy_gen F lb n m f w hn hm eg hat
  unfold ByR at h
  rw [show (if m = 0 then 0 else n) = n by split <;> omega, show (if n = 0 then 0 else m) = m by split <;> omega] at h
  exact h
theorem mC_none {g : Nat → Option Addr} (h : ShapeM g 0 0) : mC g = mC fun _ => none := by
  have e : ∀ i k, i < 4 → k < 4 → g (i * 4 + k) = none := fun i k hi hk => h.no i k hi hk (.inl (Nat.zero_le _))
  have e0 := e 0 0 (by omega) (by omega)
  have e1 := e 0 1 (by omega) (by omega)
  have e2 := e 0 2 (by omega) (by omega)
  have e3 := e 0 3 (by omega) (by omega)
  have e4 := e 1 0 (by omega) (by omega)
  have e5 := e 1 1 (by omega) (by omega)
  have e6 := e 1 2 (by omega) (by omega)
  have e7 := e 1 3 (by omega) (by omega)
  have e8 := e 2 0 (by omega) (by omega)
  have e9 := e 2 1 (by omega) (by omega)
  have e10 := e 2 2 (by omega) (by omega)
  have e11 := e 2 3 (by omega) (by omega)
  have e12 := e 3 0 (by omega) (by omega)
  have e13 := e 3 1 (by omega) (by omega)
  have e14 := e 3 2 (by omega) (by omega)
  have e15 := e 3 3 (by omega) (by omega)
  simp only [Nat.zero_mul, Nat.one_mul, Nat.zero_add, Nat.add_zero] at e0 e1 e2 e3 e4 e5 e6 e7
  simp [mC, e0, e1, e2, e3, e4, e5, e6, e7, e8, e9, e10, e11, e12, e13, e14, e15]
/-- No columns: the empty matrix. -/
theorem matrixBy_bare (F : Nat) (lb : Array Value) (n : Nat) (w : World) (hn : n ≤ 4) (eg : ∀ args w, (callFunc F args).run Try.prog w = .ok (.enter F args) w) :
    Calls Try.prog 85 #[.int .i64 n, .int .i64 ((0 : Nat) : Int), .func (.func F) #[] lb] w fun e w' => e = .returned (.agg (mC fun _ => none)) ∧ Below w.heap.size w w' := by
  refine (matrixBy_gen F lb n 0 (fun _ _ => none) w hn (by omega) eg fun i k _ _ hk => absurd hk (by omega)).mono ?_
  rintro e w' ⟨⟨⟨i, k, _, hk, _⟩, rfl⟩ | ⟨g, P, pv, _, rfl, hM⟩, hB⟩
  · exact absurd hk (by omega)
  · have hs := hM.shp
    simp only [if_true, ite_self] at hs
    exact ⟨by rw [mC_none hs], hB⟩

end Go.Proofs.Ytakfobihakbefaa

/- The program's matrixOf. -/

namespace Go.Proofs.Ytakfobihakbefaa
open Go.RowKit

/-- A result's block behind which a block with two cells lies. -/
theorem resBoxM {w w1 W : World} {x y : Value} (hW : (w.alloc (.cells #[.int .i64 0, .slice none 0 0] 25)).alloc (.cells #[x, y] 25) = W) (hg : Below W.heap.size W w1) :
    w1.cell? ⟨w.heap.size, 0, none⟩ = some (.int .i64 0) ∧ w1.cell? ⟨w.heap.size, 1, none⟩ = some (.slice none 0 0) ∧ w1.cell? ⟨w.heap.size + 1, 0, none⟩ = some x ∧ w1.cell? ⟨w.heap.size + 1, 1, none⟩ = some y ∧ w1.frozen? ⟨w.heap.size, 0, none⟩ = false ∧ w1.frozen? ⟨w.heap.size, 1, none⟩ = false := by
  have hsz : W.heap.size = w.heap.size + 2 := by rw [← hW]; simp
  have k0 : W.heap[w.heap.size]? = some (.cells #[.int .i64 0, .slice none 0 0] 25 (0, 0)) := by
    rw [← hW, Below.heap_alloc _ _ _ (by simp)]
    exact World.alloc_heap_new w _
  have k1 : W.heap[w.heap.size + 1]? = some (.cells #[x, y] 25 (0, 0)) := by
    rw [← hW]
    have h := World.alloc_heap_new (w.alloc (.cells #[.int .i64 0, .slice none 0 0] 25)) (.cells #[x, y] 25)
    rwa [World.size_alloc] at h
  have e0 := (hg.block w.heap.size (by omega)).trans k0
  have e1 := (hg.block (w.heap.size + 1) (by omega)).trans k1
  refine ⟨?_, ?_, ?_, ?_, ?_, ?_⟩ <;> simp [World.cell?, World.frozen?, e0, e1]
def ofO (rows : Mx) (i k : Nat) : Option Pl := if polyB (at2 rows i k) then some (at2 rows i k) else none

set_option maxRecDepth 100000 in
set_option maxHeartbeats 4000000 in
theorem matrixOf1_any (L : Nat) (a : Option Addr) (c n : Nat) (rows : Mx) (i k : Nat) (w : World) (hl : w.cell? ⟨L, 0, none⟩ = some (.slice a n c)) (hL : L < w.heap.size) (hs : IsPSS w a n rows) (hi : i < n) (hk : ∀ h : i < rows.length, k < rows[i].length) :
    Calls Try.prog 126 #[.int .i64 (i : Int), .int .i64 (k : Int), .pointer (some ⟨L, 0, none⟩)] w (AtE w (ofO rows i k)) := by
  have hir : i < rows.length := by rw [hs.len]; exact hi
  have hkr := hk hir
  obtain ⟨x, rfl, hxb, hx⟩ := hs.at_ (by omega)
  obtain ⟨ai, ci, hc, hI⟩ := hx i hir
  obtain ⟨y, rfl, hyb, hy⟩ := hI.at_ (by omega)
  obtain ⟨ak, ck, hd0, hd1, hJ, hle⟩ := hy k hkr
  have hmax := hs.max
  have hmax2 := hI.max
  have hat : at2 rows i k = rows[i][k] := at2_eq hir hkr
  unfold maxLen at hmax hmax2
  obtain ⟨p, hp⟩ : ∃ p, rows[i][k] = p := ⟨_, rfl⟩
  rw [hp] at hd0 hd1 hJ hle hat
  obtain ⟨r, hr⟩ : ∃ r, rows[i].length = r := ⟨_, rfl⟩
  rw [hr] at hc hkr hmax2
  obtain ⟨b, hb⟩ : ∃ b, polyB p = b := ⟨_, rfl⟩
  have HO : Hid (ofO rows i k = if b then some p else none) := Lib.hid (by unfold ofO; rw [hat, hb])
  obtain ⟨zl, zs⟩ := p
  dsimp only at hd0 hd1 hJ hle
  obtain ⟨m, hm⟩ : ∃ m, zs.length = m := ⟨_, rfl⟩
  have HZL := Lib.hid hm
  rw [hm] at hd1 hJ hle
  rw [addr_next2] at hd1
  obtain ⟨V, hV⟩ : ∃ V, w.alloc (.cells #[.int .i64 0, .slice none 0 0] 25) = V := ⟨_, rfl⟩
  have hbV : Below w.heap.size w V := by rw [← hV]; exact (Below.refl _ _).alloc (Nat.le_refl _) _
  have q0 : V.cell? ⟨L, 0, none⟩ = some (.slice (some x) n c) := (hbV.cell (p := ⟨L, 0, none⟩) hL).trans hl
  have q1 : V.cell? (x.add i) = some (.slice (some y) r ci) := (hbV.cell (p := x.add i) (by rw [addr_add_block]; exact hxb)).trans hc
  have q2 : V.cell? (y.add (k * 2)) = some (.int .i64 zl) := (hbV.cell (p := y.add (k * 2)) (by rw [addr_add_block]; exact hyb)).trans hd0
  have q3 : V.cell? ⟨(y.add (k * 2)).block, (y.add (k * 2)).off + 1, none⟩ = some (.slice ak m ck) := (hbV.cell (p := ⟨(y.add (k * 2)).block, (y.add (k * 2)).off + 1, none⟩) (by show (y.add (k * 2)).block < _; rw [addr_add_block]; exact hyb)).trans hd1
  rw [← hV] at q0 q1 q2 q3
  obtain ⟨W, hW⟩ : ∃ W, (w.alloc (.cells #[.int .i64 0, .slice none 0 0] 25)).alloc (.cells #[.int .i64 zl, .slice ak m ck] 25) = W := ⟨_, rfl⟩
  have hsz : W.heap.size = w.heap.size + 2 := by rw [← hW]; simp
  have hbW : Below w.heap.size w W := by rw [← hW]; exact ((Below.refl _ w).alloc (Nat.le_refl _) _).alloc (by simp) _
  have HC : Hid (∀ w1, Below W.heap.size W w1 → _) := Lib.hid fun w1 (hg : Below W.heap.size W w1) => resBoxM hW hg
  have HS := Lib.hid (hJ.below hbW)
  have HP := Lib.hid (iPolyIn_any zl zs ak ck m b W (hJ.below hbW) hle hb)
  have HB := Lib.hid hb
  have HBW := Lib.hid hbW
  have HW := Lib.hid hW
  have hkI : (k : Int) < (r : Int) := by omega
  have hiI : (i : Int) < (n : Int) := by omega
  clear hW hbW hb hV hbV hl hL hs hx hc hI hy hd0 hd1 hJ hk hat hp hr hm hxb hyb
  go_enter Try.func126, Try.ntmps126
  go_wp2_with fail
  rw [HW.out]
  refine HP.out.mono ?_
  rintro e w1 ⟨rfl, hb1⟩
  obtain ⟨d0, d1, k0, k1, f0, f1⟩ := HC.out w1 hb1
  have hs1 := hb1.size
  have HB1 := Lib.hid hb1
  clear hb1 q0 q1 q2 q3
  cases b with
  | false =>
    go_wp2
    refine bodyPost_ret (v := .tuple #[plV 0 (.slice none 0 0), .bool false]) ?_ rfl ⟨.inl ⟨0, none, 0, 0, HO.out, rfl⟩, resBelow (.int .i64 0) (.slice none 0 0) (HBW.out.trans (HB1.out.mono HBW.out.size))⟩
    simp [results, Try.results126, go_sem, d0, d1, plV]
  | true =>
    have hn2 : m ≤ 1048576 := by
      obtain ⟨_, hl, _⟩ := polyB_trim HB.out
      have := HZL.out
      dsimp only at hl
      omega
    have HCL : Hid (∀ w2, Below W.heap.size W w2 → _) := Lib.hid fun w2 (hg : Below W.heap.size W w2) => cloneI_any ak ck m zs w2 (HS.out.below hg) hn2
    go_wp2
    go_region_held3 (fun w' : World => w'.cell? ⟨w.heap.size + 1, 0, none⟩ = some (.int .i64 zl) ∧ w'.cell? ⟨w.heap.size + 1, 1, none⟩ = some (.slice ak m ck)) (first | go_keep | exact ⟨k0, k1⟩)
      (first
        | (go_at_call 125
           refine (HCL.out _ HB1.out.drew).mono ?_
           rintro e w2 ⟨⟨v, rfl, hr⟩, hb2⟩
           have HR := Lib.hid hr
           have HB2 := Lib.hid (HB1.out.drew.trans (hb2.mono hs1))
           obtain ⟨d0, d1, k0, k1, f0, f1⟩ := HC.out w2 HB2.out
           obtain ⟨g1, gg, cap1, rfl, _⟩ := hr.shape
           clear hr hb2))
    go_wp2
    have hR : IntRow (w.heap.size + 2) w2 (.slice g1 zs.length cap1) zs := HR.out.mono (by show w.heap.size + 2 ≤ w1.heap.size; omega)
    have hA : AtE w (ofO rows i k) (.returned (.tuple #[plV zl (.slice g1 zs.length cap1), .bool true])) ((w2.setCell ⟨w.heap.size, 0, none⟩ (.int .i64 zl)).setCell ⟨w.heap.size, 1, none⟩ (.slice g1 zs.length cap1)) :=
      ⟨.inr ⟨⟨zl, zs⟩, g1, zs.length, cap1, HO.out, rfl, resRow (.int .i64 zl) (.slice g1 zs.length cap1) hR (by omega)⟩, resBelow (.int .i64 zl) (.slice g1 zs.length cap1) (HBW.out.trans (HB2.out.mono HBW.out.size))⟩
    refine bodyPost_ret (v := .tuple #[plV zl (.slice g1 zs.length cap1), .bool true]) ?_ rfl hA
    simp [results, Try.results126, go_sem, d0, d1, plV]

end Go.Proofs.Ytakfobihakbefaa

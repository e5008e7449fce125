/- What the laws' proofs stand on, part 3 of 6. -/
import Derived.Shelf.RegionOpenPlain
import Derived.StillTailTactics
import Derived.Deep.DeepCutAuto
import Derived.StillTail
import Derived.Deep.AppendLies
import Derived.Deep.RegionHeld3
import Derived.Deep.RegionLaw
import Derived.Test.YtbbkpaledlbcmaaBa
import Derived.Test.YtbbkpaledlbcmaaBb

/- slices.Reverse at ints; the program's end and PolyTurned. -/

namespace Go.Proofs.Ytbbkpaledlbcmaa
open Go.RowKit Go.Shelf

theorem rowPast {w w' : World} {base : Nat} {e : TypeId} {size : Nat} {v : Value} {n : Nat} {xs : List Value} (h : w.ownsRow base e size v n xs) (hb : Below w.heap.size w w') : w'.ownsRow base e size v n xs :=
  h.kept ⟨hb.os, hb.tape, hb.output, hb.size, fun j hj _ => hb.block j hj⟩ (row := none) (by
    rcases h.2 with ⟨rfl, _⟩ | ⟨g, cap, cur, rfl, _⟩
    · exact .inl rfl
    · exact .inr (by simp [Value.ownBlock]))
theorem grownTrans {a b c : World} {row : Option Nat} (h : a.grownBy b row) (k : b.grownBy c row) : a.grownBy c row :=
  ⟨k.os.trans h.os, k.tape.trans h.tape, k.output.trans h.output, Nat.le_trans h.size k.size, fun i hi hne => (k.block i (Nat.lt_of_lt_of_le hi h.size) hne).trans (h.block i hi hne)⟩
theorem grownRefl (a : World) (row : Option Nat) : a.grownBy a row := ⟨rfl, rfl, rfl, Nat.le_refl _, fun _ _ _ => rfl⟩
theorem grownBelow {a b : World} (row : Option Nat) (h : Below a.heap.size a b) : a.grownBy b row := ⟨h.os, h.tape, h.output, h.size, fun i hi _ => h.block i hi⟩

/-- The list with its first i and last i texts exchanged. -/
def SwappedI (zs ys : List Int) (i : Nat) : Prop := ys.length = zs.length ∧ ∀ p, p < zs.length → ys[p]? = if p < i ∨ zs.length - 1 - p < i then zs[zs.length - 1 - p]? else zs[p]?
theorem SwappedI.all {zs ys : List Int} {i : Nat} (h : SwappedI zs ys i) (hi : zs.length ≤ 2 * i + 1) : ys = zs.reverse := by
  refine List.ext_getElem? fun p => ?_
  by_cases hp : p < zs.length
  · rw [h.2 p hp, List.getElem?_reverse hp]
    by_cases hc : p < i ∨ zs.length - 1 - p < i
    · rw [if_pos hc]
    · rw [if_neg hc, show zs.length - 1 - p = p by omega]
  · rw [List.getElem?_eq_none (by rw [h.1]; omega), List.getElem?_eq_none (by rw [List.length_reverse]; omega)]
theorem SwappedI.step {zs ys : List Int} {i j : Nat} (h : SwappedI zs ys i) (hj : j + i + 1 = zs.length) (hij : i < j) {a b : Int} (ha : ys[i]? = some a) (hb : ys[j]? = some b) : SwappedI zs ((ys.set i b).set j a) (i + 1) := by
  have h1 := h.2 i (by omega)
  have h2 := h.2 j (by omega)
  rw [if_neg (by omega)] at h1 h2
  rw [ha] at h1
  rw [hb] at h2
  refine ⟨by rw [List.length_set, List.length_set]; exact h.1, fun p hp => ?_⟩
  by_cases ej : p = j
  · subst ej
    rw [List.getElem?_set_self (by rw [List.length_set, h.1]; exact hp), if_pos (by omega), show zs.length - 1 - p = i by omega]
    exact h1
  · rw [List.getElem?_set_ne (Ne.symm ej)]
    by_cases ei : p = i
    · subst ei
      rw [List.getElem?_set_self (by rw [h.1]; exact hp), if_pos (by omega), show zs.length - 1 - p = j by omega]
      exact h2
    · rw [List.getElem?_set_ne (Ne.symm ei), h.2 p hp]
      by_cases hc : p < i ∨ zs.length - 1 - p < i
      · rw [if_pos hc, if_pos (by omega)]
      · rw [if_neg hc, if_neg (by omega)]

theorem end_any (low : Int) (a : Option Addr) (cap n : Nat) (w : World) (h1 : -1000000000 ≤ low) (h2 : low ≤ 1000000000) (hn : n ≤ 1048576) :
    Calls Try.prog 116 #[plV low (.slice a n cap)] w fun e w' => e = .returned (.int .i64 (low + (n : Int))) ∧ Below w.heap.size w w' := by
  have hwr : IntKind.i64.wrap (low + (n : Int)) = low + (n : Int) := IntWalk.i64_in _ (by omega)
  go_enter Try.func116, Try.ntmps116
  go_wp2
  go_ret
  exact ⟨rfl, (Below.refl _ w).alloc (Nat.le_refl _) _⟩

def turnedPB (p : Pl) : Bool := polyB p && polyB (turnP p)
def turnedP (p : Pl) : Pl := doneP (turnedPB p) (turnP p)

theorem turned_fit {w : World} {low : Int} {zs : List Int} {a : Option Addr} {n : Nat} {b : Bool} {p : Pl} (_ : Ints w a n zs) (_ : turnedPB ⟨low, zs⟩ = b) (hp : turnedP ⟨low, zs⟩ = p) : p.cs.length ≤ 200 := by
  unfold turnedP at hp
  refine doneP_len (fun h => ?_) hp
  unfold turnedPB at h
  simp only [Bool.and_eq_true] at h
  exact h.2
end Go.Proofs.Ytbbkpaledlbcmaa

/- Division from the first coefficient on (mathematics). -/

namespace Go.Proofs.Ytbbkpaledlbcmaa
open Go.RowKit

def listN (f : Nat → Int) (n : Nat) : List Int := (List.range n).map f
theorem listN_len (f : Nat → Int) (n : Nat) : (listN f n).length = n := by simp [listN]
theorem listN_get {f : Nat → Int} {n i : Nat} (h : i < n) : (listN f n).getD i 0 = f i := by simp [listN, h]
theorem listN_elem {f : Nat → Int} {n i : Nat} (h : i < (listN f n).length) : (listN f n)[i] = f i := by simp [listN]
theorem listN_set {f g : Nat → Int} {x : Int} {n j : Nat} (hg : ∀ k, k ≠ j → g k = f k) (hx : g j = x) : (intsV (listN f n)).set j (.int .i64 x) = intsV (listN g n) := by
  unfold intsV listN
  refine List.ext_getElem (by simp) fun i h1 h2 => ?_
  by_cases e : j = i
  · subst e
    simp [hx]
  · simp [List.getElem_set_ne e, hg i (by omega)]
theorem listN_congr {f g : Nat → Int} {n : Nat} (h : ∀ i, i < n → f i = g i) : listN f n = listN g n :=
  List.map_congr_left fun i hi => h i (List.mem_range.1 hi)
theorem listN_self (l : List Int) : listN (fun i => l.getD i 0) l.length = l :=
  eq_getD (listN_len _ _) fun i hi => listN_get (by rwa [listN_len] at hi)
theorem listN_cell {f : Nat → Int} {n j : Nat} (h : j < n) : (intsV (listN f n))[j]? = some (.int .i64 (f j)) := by
  simp [intsV, listN, h]

/-- What is left when a polynomial has been taken out so many times. -/
def subQ (q : Int) (bs left : List Int) : List Int := listN (fun i => left.getD i 0 - q * bs.getD i 0) left.length
theorem subQ_len (q : Int) (bs left : List Int) : (subQ q bs left).length = left.length := listN_len _ _
theorem subQ_get (q : Int) (bs left : List Int) (i : Nat) (hb : bs.length ≤ left.length) : (subQ q bs left).getD i 0 = left.getD i 0 - q * bs.getD i 0 := by
  by_cases h : i < left.length
  · exact listN_get h
  · rw [getD_far (by rw [subQ_len]; omega), getD_far (l := left) (by omega), getD_far (l := bs) (by omega), Int.mul_zero]; rfl
def leftIn (z : Int) : Bool := inR (-4000000000000000000) 4000000000000000000 z
/-- A step succeeds: how many times, and that it may be so. -/
def stepB (bs left : List Int) : Bool :=
  decide ((left.getD 0 0).tmod (bs.getD 0 0) = 0) && (coefIn ((left.getD 0 0).tdiv (bs.getD 0 0)) && (List.range bs.length).all fun i => leftIn (left.getD i 0 - (left.getD 0 0).tdiv (bs.getD 0 0) * bs.getD i 0))
def stepQ (bs left : List Int) : Int := (left.getD 0 0).tdiv (bs.getD 0 0)
/-- The quotient's coefficients from the first one on, and what is left. -/
def divGo (bs : List Int) : Nat → List Int → Option (List Int × List Int)
  | 0, left => some ([], left)
  | n + 1, left => if stepB bs left then (divGo bs n (subQ (stepQ bs left) bs left).tail).map fun p => (stepQ bs left :: p.1, p.2) else none
def zeroL (l : List Int) : Bool := l.all fun z => decide (z = 0)
def overQ (a b : Pl) : Option Pl :=
  if a.cs.length = 0 then some a else
  match divGo b.cs (a.cs.length + 1 - b.cs.length) a.cs with
  | some p => if zeroL p.2 then some (tidyP (a.low - b.low) p.1) else none
  | none => none
/-- Whether the second one divides the first one, and what comes out. -/
def overB (a b : Pl) : Bool := match overQ a b with
  | some p => polyB p
  | none => false
def overP (a b : Pl) : Pl := match overQ a b with
  | some p => doneP (polyB p) p
  | none => ⟨0, []⟩
theorem tail_get (l : List Int) (i : Nat) : l.tail.getD i 0 = l.getD (i + 1) 0 := by
  cases l with
  | nil => rfl
  | cons x r => simp

end Go.Proofs.Ytbbkpaledlbcmaa

/- The program's opposite and plain. -/

namespace Go.Proofs.Ytbbkpaledlbcmaa
open Go.RowKit

theorem getD_map {f : Int → Int} (hf : f 0 = 0) (l : List Int) (i : Nat) : (l.map f).getD i 0 = f (l.getD i 0) := by
  rw [List.getD_eq_getElem?_getD, List.getD_eq_getElem?_getD, List.getElem?_map]
  cases l[i]? with
  | none => exact hf.symm
  | some z => rfl
theorem polyB_yes {p : Pl} (h0 : 0 < p.cs.length) (hc : ∀ z ∈ p.cs, coefIn z = true) (hl : p.cs.length ≤ 200) (h1 : -300 ≤ p.low) (h2 : p.low ≤ 300) (hf : p.cs.getD 0 0 ≠ 0) (he : p.cs.getD (p.cs.length - 1) 0 ≠ 0) : polyB p = true := by
  unfold polyB inR
  rw [List.all_eq_true.2 hc, if_neg (by omega), decide_eq_true hl, decide_eq_true h1, decide_eq_true h2, decide_eq_false hf, decide_eq_false he]
  rfl
theorem polyB_coef {p : Pl} (h : polyB p = true) : ∀ z ∈ p.cs, coefIn z = true := by
  unfold polyB at h
  rw [Bool.and_eq_true] at h
  exact List.all_eq_true.1 h.1
theorem plain_polyB {p : Pl} (h : polyB p = true) : polyB (plainP p) = true := by
  obtain ⟨hT, hl, h1, h2, hc⟩ := polyB_trim h
  unfold plainP
  by_cases h0 : p.cs.length = 0
  · rw [if_pos h0]; exact h
  · rw [if_neg h0]
    rcases hT with ⟨h3, _⟩ | ⟨_, hf, he⟩
    · rw [h3] at h0; exact absurd rfl h0
    · refine polyB_yes (by show 0 < (List.map _ p.cs).length; rw [List.length_map]; omega) (fun z hz => ?_) (by show (List.map _ p.cs).length ≤ 200; rw [List.length_map]; exact hl) (by show (-300 : Int) ≤ 0; omega) (by show (0 : Int) ≤ 300; omega) ?_ ?_
      · obtain ⟨y, hy, rfl⟩ := List.mem_map.1 hz
        have := coefIn_yes (polyB_coef h y hy)
        unfold coefIn inR
        split <;> simp <;> omega
      · show (List.map _ p.cs).getD 0 0 ≠ 0
        rw [getD_map (by simp)]
        split <;> omega
      · show (List.map _ p.cs).getD ((List.map _ p.cs).length - 1) 0 ≠ 0
        rw [getD_map (by simp), List.length_map]
        split <;> omega
theorem listN_map (f : Int → Int) (zs : List Int) : listN (fun i => f (zs.getD i 0)) zs.length = zs.map f := by
  refine eq_getD (by rw [listN_len, List.length_map]) fun i hi => ?_
  rw [listN_len] at hi
  rw [listN_get hi, List.getD_eq_getElem?_getD, List.getD_eq_getElem?_getD, List.getElem?_map, List.getElem?_eq_getElem hi]
  rfl

/-- The coefficients turned to their opposites. -/
def oppL (zs : List Int) : List Int := zs.map fun z => -1 * z
theorem oppL_len (zs : List Int) : (oppL zs).length = zs.length := by simp [oppL]

set_option maxRecDepth 100000 in
set_option maxHeartbeats 4000000 in
theorem opposite_any (low : Int) (zs : List Int) (a : Option Addr) (cap n : Nat) (w : World) (hs : Ints w a n zs) (hn : n ≤ 1048576) (hcs : ∀ i, -1000000000 ≤ zs.getD i 0 ∧ zs.getD i 0 ≤ 1000000000) :
    Calls Try.prog 113 #[plV low (.slice a n cap)] w fun e w' => (∃ v, e = .returned (plV low v) ∧ IntRow w.heap.size w' v (oppL zs)) ∧ Below w.heap.size w w' := by
  obtain ⟨W, hW⟩ : ∃ W, (w.alloc (.cells #[.int .i64 low, .slice a n cap] 35)).alloc (.cells #[.int .i64 0, .slice none 0 0] 35) = W := ⟨_, rfl⟩
  obtain ⟨hbW, hsz⟩ := boxResBelow hW
  have HC : Hid (∀ w1, Below W.heap.size W w1 → _) := Lib.hid fun w1 (hg : Below W.heap.size W w1) => boxResCells hW hg
  have HCL := Lib.hid (cloneI_any a cap n zs W (hs.below hbW) hn)
  have HL := Lib.hid hs.len
  have HCS := Lib.hid hcs
  have HBW := Lib.hid hbW
  have HW := Lib.hid hW
  clear hW hbW hs hcs
  go_enter Try.func113, Try.ntmps113
  go_wp2_with fail
  rw [HW.out]
  refine HCL.out.mono ?_
  rintro e w1 ⟨⟨v, rfl, hr⟩, hb1⟩
  have hs1 := hb1.size
  have HB1 := Lib.hid hb1
  obtain ⟨a1, g1, cap1, rfl, _, _, _⟩ := hr.shape
  unfold IntRow at hr
  rw [HL.out] at hr
  rw [HL.out]
  have HR0 : Hid (w1.ownsRow W.heap.size 3 1 (.slice a1 n cap1) n (intsV (listN (fun i => if i < 0 then -zs.getD i 0 else zs.getD i 0) n))) := Lib.hid (by
    have e : listN (fun i => if i < 0 then -zs.getD i 0 else zs.getD i 0) n = zs := by
      rw [← HL.out]
      exact (listN_congr fun i _ => if_neg (Nat.not_lt_zero _)).trans (listN_self zs)
    rw [e]
    exact hr)
  clear hb1 hr
  go_wp2
  go_loopw [10] (fun i wr => ∃ k : Nat, k ≤ n ∧ i = .int .i64 (k : Int) ∧ Hid (wr.ownsRow W.heap.size 3 1 (.slice a1 n cap1) n (intsV (listN (fun i => if i < k then -zs.getD i 0 else zs.getD i 0) n))) ∧ Hid (Below W.heap.size W wr)) (fun i _ => n - (intOf i).toNat)
  case atStart => exact ⟨0, Nat.zero_le _, rfl, HR0, HB1⟩
  case round =>
    obtain ⟨k, hk, rfl, HR, HB⟩ := hrel
    by_cases hlt : k < n
    · obtain ⟨g, rfl, hg⟩ : ∃ g, a1 = some ⟨g, 0, none⟩ ∧ W.heap.size ≤ g := by
        rcases HR.out.2 with ⟨_, e1⟩ | ⟨g, cap1, cur, e0, hg, _⟩
        · omega
        · simp only [Value.slice.injEq] at e0; exact ⟨g, e0.1, hg⟩
      obtain ⟨z, hz⟩ : ∃ z, zs.getD k 0 = z := ⟨_, rfl⟩
      have hb := HCS.out k
      rw [hz] at hb
      obtain ⟨hb1, hb2⟩ := hb
      have hck : wr.cell? ⟨g, k, none⟩ = some (.int .i64 z) := by
        rw [HR.out.cellAt _ (by omega), listN_cell hlt, if_neg (Nat.lt_irrefl _), hz]
      have hfk := HR.out.frozenAt k
      have hwr : IntKind.i64.wrap (-z) = -z := IntWalk.i64_in _ (by omega)
      have HST : Hid ((intsV (listN (fun i => if i < k then -zs.getD i 0 else zs.getD i 0) n)).set k (.int .i64 (-z)) = intsV (listN (fun i => if i < k + 1 then -zs.getD i 0 else zs.getD i 0) n)) := Lib.hid (listN_set (fun i hi => by
        by_cases h : i < k
        · rw [if_pos h, if_pos (by omega)]
        · rw [if_neg h, if_neg (by omega)]) (by rw [if_pos (Nat.lt_succ_self k), hz]))
      clear hz
      go_wp2
      go_roundw
      case rel =>
        have h1 := HR.out.stored k (.int .i64 (-z))
        refine ⟨k + 1, by omega, by go_num, Lib.hid ?_, Lib.hid (HB.out.setCell (p := ⟨g, k, none⟩) hg _)⟩
        rw [← HST.out]
        exact h1.1
      case measure => simp [intOf]; omega
    · obtain rfl : k = n := by omega
      have hr := HR.out
      have HP : Hid (listN (fun i => if i < k then -zs.getD i 0 else zs.getD i 0) k = oppL zs) := Lib.hid (by
        unfold oppL
        rw [← listN_map, HL.out]
        exact listN_congr fun i hi => by rw [if_pos hi]; omega)
      have hR : IntRow W.heap.size wr (.slice a1 k cap1) (oppL zs) := by
        rw [HP.out] at hr
        exact rowI hr (by rw [oppL_len]; exact HL.out)
      have HRR := Lib.hid hR
      obtain ⟨q0, q1, d0, d1, f0, f1⟩ := HC.out _ HB.out
      clear hr hR
      go_wp2
      refine bodyPost_ret (v := plV low (.slice a1 k cap1)) ?_ rfl ⟨⟨_, rfl, ?_⟩, ?_⟩
      · simp [results, Try.results113, go_sem, d0, d1, plV]
      · exact resRow1 (.int .i64 low) (.slice a1 k cap1) HRR.out (by omega)
      · exact resBelow1 (.int .i64 low) (.slice a1 k cap1) (HBW.out.trans (HB.out.mono HBW.out.size))

end Go.Proofs.Ytbbkpaledlbcmaa

/- The program's PolyPlain and PolyOne. -/

namespace Go.Proofs.Ytbbkpaledlbcmaa
open Go.RowKit

theorem plain_low {p : Pl} (h : 0 < p.cs.length) : (plainP p).low = 0 := by unfold plainP; rw [if_neg (by omega)]
theorem plain_len (p : Pl) : (plainP p).cs.length = p.cs.length := by
  unfold plainP
  split
  · rfl
  · exact List.length_map _

def plainedP (p : Pl) : Pl := doneP (polyB p) (plainP p)
theorem plained_fit {w : World} {low : Int} {zs : List Int} {a : Option Addr} {n : Nat} {b : Bool} {p : Pl} (_ : Ints w a n zs) (_ : polyB ⟨low, zs⟩ = b) (hp : plainedP ⟨low, zs⟩ = p) : p.cs.length ≤ 200 :=
  doneP_len plain_polyB hp
end Go.Proofs.Ytbbkpaledlbcmaa

/- min and max of ints; the model's l6pSum. -/

namespace Go.Proofs.Ytbbkpaledlbcmaa
open Go.RowKit

theorem min_int (x y : Int) (W : World) : (Builtin.min_ #[3, 3] 3 #[.int .i64 x, .int .i64 y]).run Try.prog W = .ok (.int .i64 (if x ≤ y then x else y)) W := by
  by_cases h : x ≤ y
  · rw [if_pos h]; simp [Builtin.min_, Builtin.min2, go_sem]; omega
  · rw [if_neg h]; simp [Builtin.min_, Builtin.min2, go_sem]; omega
theorem max_int (x y : Int) (W : World) : (Builtin.max_ #[3, 3] 3 #[.int .i64 x, .int .i64 y]).run Try.prog W = .ok (.int .i64 (if y ≤ x then x else y)) W := by
  by_cases h : y ≤ x
  · rw [if_pos h]; simp [Builtin.max_, Builtin.max2, go_sem]; omega
  · rw [if_neg h]; simp [Builtin.max_, Builtin.max2, go_sem]; omega

/-- Two boxes and the answer's cells behind them. -/
theorem boxes3 {w w1 W : World} {t1 t2 t3 : TypeId} {x y u v : Value} (hW : ((w.alloc (.cells #[x, y] t1)).alloc (.cells #[u, v] t2)).alloc (.cells #[.int .i64 0, .slice none 0 0] t3) = W) (hg : Below W.heap.size W w1) :
    (w1.cell? ⟨w.heap.size, 0, none⟩ = some x ∧ w1.cell? ⟨w.heap.size, 1, none⟩ = some y) ∧ (w1.cell? ⟨w.heap.size + 1, 0, none⟩ = some u ∧ w1.cell? ⟨w.heap.size + 1, 1, none⟩ = some v) ∧ (w1.cell? ⟨w.heap.size + 2, 0, none⟩ = some (.int .i64 0) ∧ w1.cell? ⟨w.heap.size + 2, 1, none⟩ = some (.slice none 0 0) ∧ w1.frozen? ⟨w.heap.size + 2, 0, none⟩ = false ∧ w1.frozen? ⟨w.heap.size + 2, 1, none⟩ = false) := by
  have hsz : W.heap.size = w.heap.size + 3 := by rw [← hW]; simp
  have e0 := hg.block w.heap.size (by omega)
  have e1 := hg.block (w.heap.size + 1) (by omega)
  have e2 := hg.block (w.heap.size + 2) (by omega)
  have c0 : W.heap[w.heap.size]? = some (.cells #[x, y] t1 (0, 0)) := by
    rw [← hW, Below.heap_alloc _ _ _ (by simp; omega), Below.heap_alloc _ _ _ (by simp)]
    exact World.alloc_heap_new w _
  have c1 : W.heap[w.heap.size + 1]? = some (.cells #[u, v] t2 (0, 0)) := by
    rw [← hW, Below.heap_alloc _ _ _ (by simp)]
    have h := World.alloc_heap_new (w.alloc (.cells #[x, y] t1)) (.cells #[u, v] t2)
    rwa [World.size_alloc] at h
  have c2 : W.heap[w.heap.size + 2]? = some (.cells #[.int .i64 0, .slice none 0 0] t3 (0, 0)) := by
    rw [← hW]
    have h := World.alloc_heap_new ((w.alloc (.cells #[x, y] t1)).alloc (.cells #[u, v] t2)) (.cells #[.int .i64 0, .slice none 0 0] t3)
    rwa [World.size_alloc, World.size_alloc] at h
  rw [c0] at e0
  rw [c1] at e1
  rw [c2] at e2
  refine ⟨⟨?_, ?_⟩, ⟨?_, ?_⟩, ?_, ?_, ?_, ?_⟩ <;> simp [World.cell?, World.frozen?, e0, e1, e2]
theorem boxes3Below {w W : World} {t1 t2 t3 : TypeId} {x y u v : Value} (hW : ((w.alloc (.cells #[x, y] t1)).alloc (.cells #[u, v] t2)).alloc (.cells #[.int .i64 0, .slice none 0 0] t3) = W) : Below w.heap.size w W ∧ W.heap.size = w.heap.size + 3 := by
  subst hW
  exact ⟨(((Below.refl _ w).alloc (Nat.le_refl _) _).alloc (by simp) _).alloc (by simp; omega) _, by simp⟩
theorem resRow2 {w2 : World} {r base : Nat} {v : Value} {zs : List Int} (x y : Value) (h : IntRow base w2 v zs) (hb : r + 2 < base) : IntRow r ((w2.setCell ⟨r + 2, 0, none⟩ x).setCell ⟨r + 2, 1, none⟩ y) v zs :=
  IntRow.mono (resRow (r := r + 2) x y h hb) (by omega)
theorem resBelow2 {w w2 : World} {r : Nat} (x y : Value) (h : Below r w w2) : Below r w ((w2.setCell ⟨r + 2, 0, none⟩ x).setCell ⟨r + 2, 1, none⟩ y) :=
  (h.setCell (p := ⟨r + 2, 0, none⟩) (Nat.le_add_right _ _) x).setCell (p := ⟨r + 2, 1, none⟩) (Nat.le_add_right _ _) y

set_option maxRecDepth 100000 in
set_option maxHeartbeats 8000000 in
theorem l6pSum_some (l1 l2 m : Int) (x y : List Int) (a1 a2 : Option Addr) (c1 c2 n1 n2 : Nat) (w : World) (h1 : Ints w a1 n1 x) (h2 : Ints w a2 n2 y) (h0 : 0 < n2)
    (hl1 : -100000 ≤ l1 ∧ l1 ≤ 100000) (hl2 : -100000 ≤ l2 ∧ l2 ≤ 100000) (hn1 : n1 ≤ 100000) (hn2 : n2 ≤ 100000)
    (hx : ∀ i, -4000000000000000000 ≤ x.getD i 0 ∧ x.getD i 0 ≤ 4000000000000000000) (hy : ∀ i, -4000000000000000000 ≤ m * y.getD i 0 ∧ m * y.getD i 0 ≤ 4000000000000000000) :
    Calls Try.prog 115 #[plV l1 (.slice a1 n1 c1), .int .i64 m, plV l2 (.slice a2 n2 c2)] w fun e w' => (∃ v, e = .returned (plV (sumP ⟨l1, x⟩ m ⟨l2, y⟩).low v) ∧ IntRow w.heap.size w' v (sumP ⟨l1, x⟩ m ⟨l2, y⟩).cs) ∧ Below w.heap.size w w' := by
  obtain ⟨i0, hi, hz0, hz1, hz2⟩ := info_parts infoInt
  have hmx : Try.prog.follows .mixedOrders = true := by kernel_rfl
  obtain ⟨W, hW⟩ : ∃ W, ((w.alloc (.cells #[.int .i64 l1, .slice a1 n1 c1] 35)).alloc (.cells #[.int .i64 l2, .slice a2 n2 c2] 35)).alloc (.cells #[.int .i64 0, .slice none 0 0] 35) = W := ⟨_, rfl⟩
  obtain ⟨hbW, hsz⟩ := boxes3Below hW
  have HC : Hid (∀ w1, Below W.heap.size W w1 → _) := Lib.hid fun w1 (hg : Below W.heap.size W w1) => boxes3 hW hg
  have hC := boxes3 hW (Below.refl _ _)
  rw [← hW] at hC
  obtain ⟨⟨p0, p1⟩, ⟨q0, q1⟩, _⟩ := hC
  obtain ⟨LO, hLO⟩ : ∃ LO, sumLow ⟨l1, x⟩ ⟨l2, y⟩ = LO := ⟨_, rfl⟩
  obtain ⟨HI, hHI⟩ : ∃ HI, sumHigh ⟨l1, x⟩ ⟨l2, y⟩ = HI := ⟨_, rfl⟩
  have hx1 := h1.len
  have hx2 := h2.len
  have hLO2 : LO = if n1 = 0 then l2 else (if l2 ≤ l1 then l2 else l1) := by rw [← hLO]; unfold sumLow; show (if x.length = 0 then _ else _) = _; rw [hx1]
  have hHI2 : HI = if n1 = 0 then l2 + n2 else (if l1 + n1 ≤ l2 + n2 then l2 + n2 else l1 + n1) := by rw [← hHI]; unfold sumHigh; show (if x.length = 0 then l2 + (y.length : Int) else if l1 + (x.length : Int) ≤ l2 + (y.length : Int) then l2 + (y.length : Int) else l1 + (x.length : Int)) = _; rw [hx1, hx2]
  have hLr : LO ≤ l2 ∧ (n1 = 0 ∨ LO ≤ l1) ∧ l2 + n2 ≤ HI ∧ (n1 = 0 ∨ l1 + n1 ≤ HI) ∧ -100000 ≤ LO ∧ HI ≤ 200000 := by
    rw [hLO2, hHI2]
    by_cases e : n1 = 0
    · rw [if_pos e, if_pos e]; omega
    · rw [if_neg e, if_neg e]
      refine ⟨?_, ?_, ?_, ?_, ?_, ?_⟩ <;> split <;> omega
  have HLO := Lib.hid hLO2
  have HHI := Lib.hid hHI2
  have HLO1 := Lib.hid hLO
  have HHI1 := Lib.hid hHI
  have H1 := Lib.hid (h1.below hbW)
  have H2 := Lib.hid (h2.below hbW)
  have HN1 := Lib.hid hx1
  have HN2 := Lib.hid hx2
  have HX := Lib.hid hx
  have HY := Lib.hid hy
  have HBW := Lib.hid hbW
  have HW := Lib.hid hW
  have h0i : ¬ (n2 : Int) = 0 := by omega
  have h0b : ((n2 : Int) == 0) = false := by simpa using h0i
  have hwe : IntKind.i64.wrap (l2 + (n2 : Int)) = l2 + (n2 : Int) := IntWalk.i64_in _ (by omega)
  have hwe1 : IntKind.i64.wrap (l1 + (n1 : Int)) = l1 + (n1 : Int) := IntWalk.i64_in _ (by omega)
  obtain ⟨hr1, hr2, hr3, hr4, hr5, hr6⟩ := hLr
  have hwN : IntKind.i64.wrap (HI - LO) = ((HI - LO).toNat : Int) := by rw [IntWalk.i64_in _ (by omega)]; omega
  obtain ⟨N, hN⟩ : ∃ N, (HI - LO).toNat = N := ⟨_, rfl⟩
  rw [hN] at hwN
  have hNb : N ≤ 300000 := by omega
  have hNI : (N : Int) = HI - LO := by omega
  have HNI := Lib.hid hNI
  have HNN := Lib.hid hN
  have HSZ := Lib.hid hsz
  clear hW hbW h1 h2 hx hy hLO hHI hLO2 hHI2 hx1 hx2 hN hNI hsz
  go_enter Try.func115, Try.ntmps115
  go_upto_if 28 with fail
  rw [HW.out]
  go_cut [7, 8] (fun s7 s8 wx => s7 = .int .i64 LO ∧ s8 = .int .i64 HI ∧ wx = W)
  case first =>
    obtain ⟨⟨p0, p1⟩, ⟨q0, q1⟩, _⟩ := HC.out W (Below.refl _ _)
    by_cases hn0 : n1 = 0
    · have hd : decide ((0 : Int) < (n1 : Int)) = false := decide_eq_false (by omega)
      go_wp2_with fail
      go_meet
      exact ⟨by rw [HLO.out, if_pos hn0], by rw [HHI.out, if_pos hn0], rfl⟩
    · have hd : decide ((0 : Int) < (n1 : Int)) = true := decide_eq_true (by omega)
      have hdi : (0 : Int) < (n1 : Int) := by omega
      have hmin : ∀ V : World, (Builtin.min_ #[3, 3] 3 #[.int .i64 l2, .int .i64 l1]).run Try.prog V = .ok (.int .i64 LO) V := fun V => by rw [min_int, HLO.out, if_neg hn0]
      have hmax : ∀ V : World, (Builtin.max_ #[3, 3] 3 #[.int .i64 (l2 + (n2 : Int)), .int .i64 (l1 + (n1 : Int))]).run Try.prog V = .ok (.int .i64 HI) V := fun V => by rw [max_int, HHI.out, if_neg hn0]
      go_wp2_with fail
      go_meet
      exact ⟨rfl, rfl, rfl⟩
  case rest =>
  obtain ⟨h7, h8, hw⟩ := hcut
  subst h7
  subst h8
  have hw := hw.symm
  subst hw
  clear HLO HHI hwe hwe1
  go_wp2_with (at_make; refine wpList_make_full _ rfl _ _ 33 rfl W.heap.size 3 i0 (.int .i64 0) 1 Try.underlying33 hi hz0 hz1 .i64 .i64 _ _ N rfl rfl rfl rfl (by rw [hz2]; omega) (by unfold maxLen; omega) (Nat.le_refl _) ?_; intro w1 hrow hgrow)
  rw [show (madeCells (Value.cells (.int .i64 0)) (N * 1)).toList = intsV (listP (upto (pat ⟨l1, x⟩) (l1 + (0 : Nat))) LO N) by
    rw [show Value.cells (.int .i64 0) = #[.int .i64 0] from rfl, toList_madeCells_one, listP_congr (g := fun _ => 0) (fun k _ _ => by rw [show l1 + ((0 : Nat) : Int) = l1 by omega]; exact upto_low ⟨l1, x⟩ k), listP_zero]; simp [intsV]] at hrow
  have HR1 := Lib.hid hrow
  have HB1 : Hid (Below W.heap.size W w1) := Lib.hid ((Below.refl _ _).grown hgrow (Nat.le_refl _) (fun k e => by cases e))
  clear hrow hgrow hwN
  go_loopw [10] (fun i wr => ∃ k : Nat, k ≤ n1 ∧ i = .int .i64 (k : Int) ∧ Hid (wr.ownsRow W.heap.size 3 1 (.slice (some ⟨W.heap.size, 0, none⟩) N N) N (intsV (listP (upto (pat ⟨l1, x⟩) (l1 + (k : Int))) LO N))) ∧ Hid (Below W.heap.size W wr)) (fun i _ => n1 - (intOf i).toNat)
  case atStart => exact ⟨0, Nat.zero_le _, rfl, HR1, HB1⟩
  case round =>
    obtain ⟨k, hk, rfl, HR, HB⟩ := hrel
    obtain ⟨⟨p0, p1⟩, ⟨q0, q1⟩, _⟩ := HC.out wr HB.out
    by_cases hlt : k < n1
    · obtain ⟨xa, rfl, hxb, hxc⟩ := H1.out.at_ (by omega)
      have hkx : k < x.length := by rw [HN1.out]; exact hlt
      obtain ⟨z, hz⟩ : ∃ z, x.getD k 0 = z := ⟨_, rfl⟩
      have hzz : x[k] = z := by rw [← hz, List.getD_eq_getElem?_getD, List.getElem?_eq_getElem hkx]; rfl
      have hcz : wr.cell? (xa.add k) = some (.int .i64 z) := by rw [← hzz]; exact (HB.out.cell (p := xa.add k) (by rw [addr_add_block]; exact hxb)).trans (hxc k hkx)
      obtain ⟨d, hd⟩ : ∃ d : Nat, l1 - LO = (d : Int) := ⟨(l1 - LO).toNat, by omega⟩
      obtain ⟨j, hj⟩ : ∃ j : Nat, d + k = j := ⟨_, rfl⟩
      have hNI := HNI.out
      have hjN : j < N := by omega
      have hjNi : (j : Int) < (N : Int) := by omega
      have hj0 : (0 : Int) ≤ (j : Int) := by omega
      have hki : (k : Int) < (n1 : Int) := by omega
      have hk0 : (0 : Int) ≤ (k : Int) := by omega
      have hw1 : IntKind.i64.wrap (l1 - LO) = (d : Int) := by rw [IntWalk.i64_in _ (by omega)]; exact hd
      have hw2 : IntKind.i64.wrap ((d : Int) + (k : Int)) = (j : Int) := by rw [IntWalk.i64_in _ (by omega)]; omega
      have hlj : LO + (j : Int) = l1 + (k : Int) := by omega
      have hck : wr.cell? ⟨W.heap.size, j, none⟩ = some (.int .i64 0) := by
        rw [HR.out.cellAt _ (by omega), listP_cell hjN, hlj, upto_here]
      have hfk := HR.out.frozenAt j
      have HST : Hid ((intsV (listP (upto (pat ⟨l1, x⟩) (l1 + (k : Int))) LO N)).set j (.int .i64 z) = intsV (listP (upto (pat ⟨l1, x⟩) (l1 + ((k + 1 : Nat) : Int))) LO N)) := Lib.hid (listP_set (fun q hq => by
          rw [show l1 + ((k + 1 : Nat) : Int) = l1 + (k : Int) + 1 by omega]
          exact upto_next (by omega)) (by
          rw [show l1 + ((k + 1 : Nat) : Int) = l1 + (k : Int) + 1 by omega, hlj, upto_at]
          exact (pat_at ⟨l1, x⟩ k).trans hz))
      clear hz hzz hxc hd hj hlj hNI
      go_wp2
      go_still_tail 13, hmx
      change wpList _ _ _ _ _ wr.drew
      obtain ⟨wd, hwd⟩ : ∃ wd, wr.drew = wd := ⟨_, rfl⟩
      have ec : wd.cell? ⟨W.heap.size, j, none⟩ = some (.int .i64 0) := by rw [← hwd]; exact hck
      have ef : wd.frozen? ⟨W.heap.size, j, none⟩ = false := by rw [← hwd]; exact hfk
      have HRd : Hid (wd.ownsRow W.heap.size 3 1 (.slice (some ⟨W.heap.size, 0, none⟩) N N) N (intsV (listP (upto (pat ⟨l1, x⟩) (l1 + (k : Int))) LO N))) := Lib.hid (by rw [← hwd]; exact HR.out.drew)
      have HBd : Hid (Below W.heap.size W wd) := Lib.hid (by rw [← hwd]; exact HB.out.drew)
      have ez : wd.cell? (xa.add k) = some (.int .i64 z) := by rw [← hwd]; exact hcz
      clear hck hfk hcz p0 p1 q0 q1
      obtain ⟨⟨p0, p1⟩, ⟨q0, q1⟩, _⟩ := HC.out wd HBd.out
      rw [hwd]
      clear hwd
      go_wp2
      go_roundw
      case rel =>
        have h1 := HRd.out.stored j (.int .i64 z)
        refine ⟨k + 1, by omega, by go_num, Lib.hid ?_, Lib.hid (HBd.out.setCell (p := ⟨W.heap.size, j, none⟩) (Nat.le_refl _) _)⟩
        rw [← HST.out]
        exact h1.1
      case measure => simp [intOf]; omega
    · obtain rfl : k = n1 := by omega
      have HR2 : Hid (wr.ownsRow W.heap.size 3 1 (.slice (some ⟨W.heap.size, 0, none⟩) N N) N (intsV (listP (fun z => pat ⟨l1, x⟩ z + upto (fun z => m * pat ⟨l2, y⟩ z) (l2 + ((0 : Nat) : Int)) z) LO N))) := Lib.hid (by
        have e : listP (upto (pat ⟨l1, x⟩) (l1 + (k : Int))) LO N = listP (fun z => pat ⟨l1, x⟩ z + upto (fun z => m * pat ⟨l2, y⟩ z) (l2 + ((0 : Nat) : Int)) z) LO N := listP_congr fun z _ _ => by
          have h1 := upto_high ⟨l1, x⟩ z
          rw [show (⟨l1, x⟩ : Pl).low + ((⟨l1, x⟩ : Pl).cs.length : Int) = l1 + (k : Int) by show l1 + (x.length : Int) = _; rw [HN1.out]] at h1
          rw [h1]
          unfold upto
          by_cases hz : z < l2 + ((0 : Nat) : Int)
          · rw [if_pos hz]
            show pat ⟨l1, x⟩ z = pat ⟨l1, x⟩ z + m * pat ⟨l2, y⟩ z
            rw [pat_low ⟨l2, y⟩ (by show z < l2; omega), Int.mul_zero, Int.add_zero]
          · rw [if_neg hz, Int.add_zero]
        rw [← e]
        exact HR.out)
      clear HR
      go_wp2
      go_loopw [11] (fun i wr => ∃ k : Nat, k ≤ n2 ∧ i = .int .i64 (k : Int) ∧ Hid (wr.ownsRow W.heap.size 3 1 (.slice (some ⟨W.heap.size, 0, none⟩) N N) N (intsV (listP (fun z => pat ⟨l1, x⟩ z + upto (fun z => m * pat ⟨l2, y⟩ z) (l2 + (k : Int)) z) LO N))) ∧ Hid (Below W.heap.size W wr)) (fun i _ => n2 - (intOf i).toNat)
      case atStart => exact ⟨0, Nat.zero_le _, rfl, HR2, HB⟩
      case round =>
        obtain ⟨k', hk', rfl, HR, HB⟩ := hrel
        obtain ⟨⟨p0, p1⟩, ⟨q0, q1⟩, _⟩ := HC.out wr HB.out
        by_cases hlt2 : k' < n2
        · obtain ⟨xa, rfl, hxb, hxc⟩ := H2.out.at_ (by omega)
          have hkx : k' < y.length := by rw [HN2.out]; exact hlt2
          obtain ⟨z, hz⟩ : ∃ z, y.getD k' 0 = z := ⟨_, rfl⟩
          have hzz : y[k'] = z := by rw [← hz, List.getD_eq_getElem?_getD, List.getElem?_eq_getElem hkx]; rfl
          have hcz : wr.cell? (xa.add k') = some (.int .i64 z) := by rw [← hzz]; exact (HB.out.cell (p := xa.add k') (by rw [addr_add_block]; exact hxb)).trans (hxc k' hkx)
          obtain ⟨u, hu⟩ : ∃ u, pat ⟨l1, x⟩ (l2 + (k' : Int)) = u := ⟨_, rfl⟩
          obtain ⟨q, hq⟩ : ∃ q, m * z = q := ⟨_, rfl⟩
          have hub : -4000000000000000000 ≤ u ∧ u ≤ 4000000000000000000 := by
            rw [← hu]
            unfold pat
            split
            · exact HX.out _
            · omega
          have hqb := HY.out k'
          rw [hz, hq] at hqb
          obtain ⟨hub1, hub2⟩ := hub
          obtain ⟨hqb1, hqb2⟩ := hqb
          obtain ⟨d, hd⟩ : ∃ d : Nat, l2 - LO = (d : Int) := ⟨(l2 - LO).toNat, by omega⟩
          obtain ⟨j, hj⟩ : ∃ j : Nat, d + k' = j := ⟨_, rfl⟩
          have hNI := HNI.out
          have hjN : j < N := by omega
          have hjNi : (j : Int) < (N : Int) := by omega
          have hj0 : (0 : Int) ≤ (j : Int) := by omega
          have hki : (k' : Int) < (n2 : Int) := by omega
          have hk0 : (0 : Int) ≤ (k' : Int) := by omega
          have hw1 : IntKind.i64.wrap (l2 - LO) = (d : Int) := by rw [IntWalk.i64_in _ (by omega)]; exact hd
          have hw2 : IntKind.i64.wrap ((d : Int) + (k' : Int)) = (j : Int) := by rw [IntWalk.i64_in _ (by omega)]; omega
          have hw3 : IntKind.i64.wrap (m * z) = q := by rw [hq]; exact IntWalk.i64_in _ (by omega)
          have hw4 : IntKind.i64.wrap (u + q) = u + q := IntWalk.i64_in _ (by omega)
          have hlj : LO + (j : Int) = l2 + (k' : Int) := by omega
          have hck : wr.cell? ⟨W.heap.size, j, none⟩ = some (.int .i64 u) := by
            rw [HR.out.cellAt _ (by omega), listP_cell hjN, hlj, upto_here, hu, Int.add_zero]
          have hfk := HR.out.frozenAt j
          have HST : Hid ((intsV (listP (fun z => pat ⟨l1, x⟩ z + upto (fun z => m * pat ⟨l2, y⟩ z) (l2 + (k' : Int)) z) LO N)).set j (.int .i64 (u + q)) = intsV (listP (fun z => pat ⟨l1, x⟩ z + upto (fun z => m * pat ⟨l2, y⟩ z) (l2 + ((k' + 1 : Nat) : Int)) z) LO N)) := Lib.hid (listP_set (fun p hp => by
              rw [show l2 + ((k' + 1 : Nat) : Int) = l2 + (k' : Int) + 1 by omega, upto_next (by omega)]) (by
              rw [show l2 + ((k' + 1 : Nat) : Int) = l2 + (k' : Int) + 1 by omega, hlj, upto_at, hu]
              show u + m * pat ⟨l2, y⟩ (l2 + (k' : Int)) = u + q
              rw [show pat ⟨l2, y⟩ (l2 + (k' : Int)) = z from (pat_at ⟨l2, y⟩ k').trans hz, hq]))
          clear hz hzz hxc hd hj hlj hNI hu hq
          go_wp2
          go_still_tail 25, hmx
          change wpList _ _ _ _ _ wr.drew
          obtain ⟨wd, hwd⟩ : ∃ wd, wr.drew = wd := ⟨_, rfl⟩
          have ec : wd.cell? ⟨W.heap.size, j, none⟩ = some (.int .i64 u) := by rw [← hwd]; exact hck
          have ef : wd.frozen? ⟨W.heap.size, j, none⟩ = false := by rw [← hwd]; exact hfk
          have HRd : Hid (wd.ownsRow W.heap.size 3 1 (.slice (some ⟨W.heap.size, 0, none⟩) N N) N (intsV (listP (fun z => pat ⟨l1, x⟩ z + upto (fun z => m * pat ⟨l2, y⟩ z) (l2 + (k' : Int)) z) LO N))) := Lib.hid (by rw [← hwd]; exact HR.out.drew)
          have HBd : Hid (Below W.heap.size W wd) := Lib.hid (by rw [← hwd]; exact HB.out.drew)
          have ez : wd.cell? (xa.add k') = some (.int .i64 z) := by rw [← hwd]; exact hcz
          clear hck hfk hcz p0 p1 q0 q1
          obtain ⟨⟨p0, p1⟩, ⟨q0, q1⟩, _⟩ := HC.out wd HBd.out
          rw [hwd]
          clear hwd
          go_wp2
          go_roundw
          case rel =>
            have h1 := HRd.out.stored j (.int .i64 (u + q))
            refine ⟨k' + 1, by omega, by go_num, Lib.hid ?_, Lib.hid (HBd.out.setCell (p := ⟨W.heap.size, j, none⟩) (Nat.le_refl _) _)⟩
            rw [← HST.out]
            exact h1.1
          case measure => simp [intOf]; omega
        · obtain rfl : k' = n2 := by omega
          have hpatb : ∀ z, -4000000000000000000 ≤ pat ⟨l1, x⟩ z ∧ pat ⟨l1, x⟩ z ≤ 4000000000000000000 := fun z => by
            unfold pat
            split
            · exact HX.out _
            · omega
          have hpatc : ∀ z, -4000000000000000000 ≤ m * pat ⟨l2, y⟩ z ∧ m * pat ⟨l2, y⟩ z ≤ 4000000000000000000 := fun z => by
            unfold pat
            split
            · exact HY.out _
            · rw [Int.mul_zero]; omega
          have e : listP (fun z => pat ⟨l1, x⟩ z + upto (fun z => m * pat ⟨l2, y⟩ z) (l2 + (k' : Int)) z) LO N = listP (sumF ⟨l1, x⟩ m ⟨l2, y⟩) LO N := listP_congr fun z _ _ => by
            unfold sumF upto
            by_cases hz : z < l2 + (k' : Int)
            · rw [if_pos hz]
            · rw [if_neg hz, pat_high ⟨l2, y⟩ (by show l2 + (y.length : Int) ≤ z; rw [HN2.out]; omega), Int.mul_zero]
          have hr : IntRow W.heap.size wr (.slice (some ⟨W.heap.size, 0, none⟩) N N) (listP (sumF ⟨l1, x⟩ m ⟨l2, y⟩) LO N) := by
            rw [← e]
            exact rowI HR.out (listP_len _ _ _)
          have hwf : ∀ z ∈ listP (sumF ⟨l1, x⟩ m ⟨l2, y⟩) LO N, -9223372036854775808 ≤ z ∧ z ≤ 9223372036854775807 := fun z hz => by
            unfold listP at hz
            obtain ⟨i, _, rfl⟩ := List.mem_map.1 hz
            have h1 := hpatb (LO + (i : Int))
            have h2 := hpatc (LO + (i : Int))
            unfold sumF
            omega
          obtain ⟨a3, c3, hv, hc3, hi3⟩ := hr.readc hwf
          have HWF := Lib.hid hwf
          rw [listP_len] at hv hi3 hc3
          simp at hv
          obtain ⟨rfl, rfl⟩ := hv
          have HSP : Hid (tidyP LO (listP (sumF ⟨l1, x⟩ m ⟨l2, y⟩) LO N) = sumP ⟨l1, x⟩ m ⟨l2, y⟩) := Lib.hid (by
            unfold sumP
            rw [if_neg (by show ¬ y.length = 0; rw [HN2.out]; omega), HLO1.out, HHI1.out, HNN.out])
          have HT := Lib.hid (l6pTidy_any LO (listP (sumF ⟨l1, x⟩ m ⟨l2, y⟩) LO N) (some ⟨W.heap.size, 0, none⟩) N N wr hi3 (Nat.le_refl _) (by omega) (by omega) (by omega))
          have hsr := HB.out.size
          clear hr hwf hi3 hc3 e hpatb hpatc HR
          go_wp2_with fail
          refine HT.out.mono ?_
          rintro e w3 ⟨⟨v, rfl, hr⟩, hb3⟩
          rw [HSP.out] at hr ⊢
          obtain ⟨_, _, d0, d1, f0, f1⟩ := HC.out w3 (HB.out.trans (hb3.mono hsr))
          have HR3 := Lib.hid hr
          have HB3 := Lib.hid (HBW.out.trans ((HB.out.trans (hb3.mono hsr)).mono HBW.out.size))
          obtain ⟨g2, gg, cap3, rfl, _⟩ := hr.shape
          clear hr hb3
          go_wp2
          have hss := HSZ.out
          refine bodyPost_ret (v := plV (sumP ⟨l1, x⟩ m ⟨l2, y⟩).low (.slice g2 (sumP ⟨l1, x⟩ m ⟨l2, y⟩).cs.length cap3)) ?_ rfl ⟨⟨_, rfl, resRow2 (.int .i64 (sumP ⟨l1, x⟩ m ⟨l2, y⟩).low) (.slice g2 (sumP ⟨l1, x⟩ m ⟨l2, y⟩).cs.length cap3) HR3.out (by omega)⟩, resBelow2 (.int .i64 (sumP ⟨l1, x⟩ m ⟨l2, y⟩).low) (.slice g2 (sumP ⟨l1, x⟩ m ⟨l2, y⟩).cs.length cap3) HB3.out⟩
          simp [results, Try.results115, go_sem, d0, d1, plV]

end Go.Proofs.Ytbbkpaledlbcmaa

/- The model's l6pSum whatever comes in, and PolyAdd. -/

namespace Go.Proofs.Ytbbkpaledlbcmaa
open Go.RowKit

set_option maxRecDepth 100000 in
set_option maxHeartbeats 4000000 in
theorem l6pSum_none (l1 l2 m : Int) (a1 a2 : Option Addr) (c1 c2 n1 : Nat) (w : World) :
    Calls Try.prog 115 #[plV l1 (.slice a1 n1 c1), .int .i64 m, plV l2 (.slice a2 0 c2)] w fun e w' => e = .returned (plV l1 (.slice a1 n1 c1)) ∧ Below w.heap.size w w' := by
  obtain ⟨W, hW⟩ : ∃ W, ((w.alloc (.cells #[.int .i64 l1, .slice a1 n1 c1] 35)).alloc (.cells #[.int .i64 l2, .slice a2 0 c2] 35)).alloc (.cells #[.int .i64 0, .slice none 0 0] 35) = W := ⟨_, rfl⟩
  obtain ⟨hbW, hsz⟩ := boxes3Below hW
  have hC := boxes3 hW (Below.refl _ _)
  have hD := boxes3 hW (Below.refl _ _)
  rw [← hW] at hC
  obtain ⟨⟨p0, p1⟩, ⟨q0, q1⟩, r0, r1, f0, f1⟩ := hC
  have HBW := Lib.hid hbW
  have HW := Lib.hid hW
  have HD := Lib.hid hD
  clear hW hbW hsz hD
  go_enter Try.func115, Try.ntmps115
  go_upto_if 15 with fail
  rw [HW.out]
  clear p0 p1 q0 q1 r0 r1 f0 f1
  obtain ⟨⟨p0, p1⟩, ⟨q0, q1⟩, r0, r1, f0, f1⟩ := HD.out
  go_wp2
  refine bodyPost_ret (v := plV l1 (.slice a1 n1 c1)) ?_ rfl ⟨rfl, resBelow2 (.int .i64 l1) (.slice a1 n1 c1) HBW.out⟩
  simp [results, Try.results115, go_sem, r0, r1, plV]

theorem sum_mem {a b : Pl} {m : Int} (hx : ∀ i, -4000000000000000000 ≤ a.cs.getD i 0 ∧ a.cs.getD i 0 ≤ 4000000000000000000) (hy : ∀ i, -4000000000000000000 ≤ m * b.cs.getD i 0 ∧ m * b.cs.getD i 0 ≤ 4000000000000000000) :
    ∀ z ∈ (sumP a m b).cs, -9223372036854775808 ≤ z ∧ z ≤ 9223372036854775807 := fun z hz => by
  unfold sumP at hz
  split at hz
  · obtain ⟨i, hi, rfl⟩ := List.mem_iff_getElem.1 hz
    have := hx i
    rw [List.getD_eq_getElem?_getD, List.getElem?_eq_getElem hi] at this
    have : -4000000000000000000 ≤ a.cs[i] ∧ a.cs[i] ≤ 4000000000000000000 := this
    omega
  · rcases tidy_mem hz with rfl | hz
    · omega
    · unfold listP at hz
      obtain ⟨i, _, rfl⟩ := List.mem_map.1 hz
      have h1 : -4000000000000000000 ≤ pat a (sumLow a b + (i : Int)) ∧ pat a (sumLow a b + (i : Int)) ≤ 4000000000000000000 := by
        unfold pat
        split
        · exact hx _
        · omega
      have h2 : -4000000000000000000 ≤ m * pat b (sumLow a b + (i : Int)) ∧ m * pat b (sumLow a b + (i : Int)) ≤ 4000000000000000000 := by
        unfold pat
        split
        · exact hy _
        · rw [Int.mul_zero]; omega
      unfold sumF
      omega
theorem sum_len {a b : Pl} {m : Int} (h1 : -100000 ≤ a.low ∧ a.low ≤ 100000) (h2 : -100000 ≤ b.low ∧ b.low ≤ 100000) (hn1 : a.cs.length ≤ 100000) (hn2 : b.cs.length ≤ 100000) : (sumP a m b).cs.length ≤ 300000 := by
  unfold sumP
  split
  · omega
  · refine Nat.le_trans (tidy_len _ _) ?_
    rw [listP_len]
    unfold sumHigh sumLow
    repeat' split
    all_goals omega

theorem l6pSum_any (l1 l2 m : Int) (x y : List Int) (a1 a2 : Option Addr) (c1 c2 n1 n2 : Nat) (w : World) (h1 : Ints w a1 n1 x) (h2 : Ints w a2 n2 y) (hc1 : n1 ≤ c1)
    (hl1 : -100000 ≤ l1 ∧ l1 ≤ 100000) (hl2 : -100000 ≤ l2 ∧ l2 ≤ 100000) (hn1 : n1 ≤ 100000) (hn2 : n2 ≤ 100000)
    (hx : ∀ i, -4000000000000000000 ≤ x.getD i 0 ∧ x.getD i 0 ≤ 4000000000000000000) (hy : ∀ i, -4000000000000000000 ≤ m * y.getD i 0 ∧ m * y.getD i 0 ≤ 4000000000000000000) :
    Calls Try.prog 115 #[plV l1 (.slice a1 n1 c1), .int .i64 m, plV l2 (.slice a2 n2 c2)] w fun e w' => (∃ v, e = .returned (plV (sumP ⟨l1, x⟩ m ⟨l2, y⟩).low v) ∧ Reads w' v (sumP ⟨l1, x⟩ m ⟨l2, y⟩).cs) ∧ Below w.heap.size w w' := by
  by_cases h0 : n2 = 0
  · subst h0
    have e : sumP ⟨l1, x⟩ m ⟨l2, y⟩ = ⟨l1, x⟩ := by unfold sumP; exact if_pos h2.len
    rw [e]
    refine (l6pSum_none l1 l2 m a1 a2 c1 c2 n1 w).mono ?_
    rintro e w1 ⟨rfl, hb⟩
    have hl := h1.len
    subst hl
    exact ⟨⟨_, rfl, a1, c1, rfl, hc1, h1.below hb⟩, hb⟩
  · refine (l6pSum_some l1 l2 m x y a1 a2 c1 c2 n1 n2 w h1 h2 (by omega) hl1 hl2 hn1 hn2 hx hy).mono ?_
    rintro e w1 ⟨⟨v, rfl, hr⟩, hb⟩
    exact ⟨⟨v, rfl, hr.reads (sum_mem (a := ⟨l1, x⟩) (b := ⟨l2, y⟩) hx hy)⟩, hb⟩

def addPB (a b : Pl) : Bool := polyB a && (polyB b && polyB (sumP a 1 b))
def addP (a b : Pl) : Pl := doneP (addPB a b) (sumP a 1 b)

set_option maxRecDepth 100000 in
set_option maxHeartbeats 4000000 in
theorem sPolyAdd_any (l1 l2 : Int) (x y : List Int) (a1 a2 : Option Addr) (c1 c2 n1 n2 : Nat) (ba bb t : Bool) (w : World) (h1 : Ints w a1 n1 x) (h2 : Ints w a2 n2 y) (hc1 : n1 ≤ c1)
    (hba : polyB ⟨l1, x⟩ = ba) (hbb : polyB ⟨l2, y⟩ = bb) (ht : (ba && (bb && polyB (sumP ⟨l1, x⟩ 1 ⟨l2, y⟩))) = t) :
    Calls Try.prog 123 #[plV l1 (.slice a1 n1 c1), plV l2 (.slice a2 n2 c2)] w fun e w' => (∃ v, e = .returned (.tuple #[plV (doneP t (sumP ⟨l1, x⟩ 1 ⟨l2, y⟩)).low v, .bool t]) ∧ IntRow w.heap.size w' v (doneP t (sumP ⟨l1, x⟩ 1 ⟨l2, y⟩)).cs) ∧ Below w.heap.size w w' := by
  obtain ⟨W, hW⟩ : ∃ W, ((w.alloc (.cells #[.int .i64 l1, .slice a1 n1 c1] 35)).alloc (.cells #[.int .i64 l2, .slice a2 n2 c2] 35)).alloc (.cells #[.int .i64 0, .slice none 0 0] 35) = W := ⟨_, rfl⟩
  obtain ⟨hbW, hsz⟩ := boxes3Below hW
  have HC : Hid (∀ w1, Below W.heap.size W w1 → _) := Lib.hid fun w1 (hg : Below W.heap.size W w1) => boxes3 hW hg
  have hC := boxes3 hW (Below.refl _ _)
  rw [← hW] at hC
  obtain ⟨⟨p0, p1⟩, ⟨q0, q1⟩, _⟩ := hC
  have H1 := Lib.hid (h1.below hbW)
  have H2 := Lib.hid (h2.below hbW)
  have HBA := Lib.hid hba
  have HBB := Lib.hid hbb
  have HN1 := Lib.hid h1.len
  have HN2 := Lib.hid h2.len
  have HBW := Lib.hid hbW
  have HW := Lib.hid hW
  have HSZ := Lib.hid hsz
  have HT := Lib.hid ht
  clear hW hbW h1 h2 hba hbb hsz ht
  go_enter Try.func123, Try.ntmps123
  go_wp2_with fail
  rw [HW.out]
  clear p0 p1 q0 q1
  refine (sPolyIn_any l1 x a1 c1 n1 ba W H1.out HBA.out).mono ?_
  rintro e w1 ⟨rfl, hb1⟩
  have HB1 := Lib.hid hb1
  obtain ⟨⟨p0, p1⟩, ⟨q0, q1⟩, d0, d1, f0, f1⟩ := HC.out w1 hb1
  have hs1 := hb1.size
  clear hb1
  cases ba with
  | false =>
    obtain rfl : t = false := by rw [← HT.out]; rfl
    go_wp2_with fail
    refine (l6pNone_any _).mono ?_
    rintro e w2 ⟨⟨v, rfl, hr⟩, hb2⟩
    obtain ⟨_, _, d0, d1, f0, f1⟩ := HC.out w2 (HB1.out.trans (hb2.mono hs1))
    have HR := Lib.hid hr
    have HB2 := Lib.hid (HBW.out.trans ((HB1.out.trans (hb2.mono hs1)).mono HBW.out.size))
    obtain ⟨g1, gg, cap1, rfl, _⟩ := hr.shape
    clear hr hb2
    go_wp2
    have hss := HSZ.out
    refine bodyPost_ret (v := .tuple #[plV 0 (.slice g1 0 cap1), .bool false]) ?_ rfl ⟨⟨_, rfl, resRow2 (.int .i64 0) (.slice g1 0 cap1) HR.out (by omega)⟩, resBelow2 (.int .i64 0) (.slice g1 0 cap1) HB2.out⟩
    simp [results, Try.results123, go_sem, d0, d1, plV]
  | true =>
    go_wp2_with fail
    refine (sPolyIn_any l2 y a2 c2 n2 bb w1 (H2.out.below HB1.out) HBB.out).mono ?_
    rintro e w2 ⟨rfl, hb2⟩
    have HB2 := Lib.hid (HB1.out.trans (hb2.mono hs1))
    have hs2 := HB2.out.size
    clear hb2 p0 p1 q0 q1 d0 d1 f0 f1
    obtain ⟨⟨p0, p1⟩, ⟨q0, q1⟩, d0, d1, f0, f1⟩ := HC.out w2 HB2.out
    cases bb with
    | false =>
      obtain rfl : t = false := by rw [← HT.out]; rfl
      go_wp2_with fail
      refine (l6pNone_any _).mono ?_
      rintro e w3 ⟨⟨v, rfl, hr⟩, hb3⟩
      clear d0 d1 f0 f1
      obtain ⟨_, _, d0, d1, f0, f1⟩ := HC.out w3 (HB2.out.trans (hb3.mono hs2))
      have HR := Lib.hid hr
      have HB3 := Lib.hid (HBW.out.trans ((HB2.out.trans (hb3.mono hs2)).mono HBW.out.size))
      obtain ⟨g1, gg, cap1, rfl, _⟩ := hr.shape
      clear hr hb3
      go_wp2
      have hss := HSZ.out
      refine bodyPost_ret (v := .tuple #[plV 0 (.slice g1 0 cap1), .bool false]) ?_ rfl ⟨⟨_, rfl, resRow2 (.int .i64 0) (.slice g1 0 cap1) HR.out (by omega)⟩, resBelow2 (.int .i64 0) (.slice g1 0 cap1) HB3.out⟩
      simp [results, Try.results123, go_sem, d0, d1, plV]
    | true =>
      obtain ⟨_, hx200, hxl1, hxl2, hxc⟩ := polyB_trim HBA.out
      obtain ⟨_, hy200, hyl1, hyl2, hyc⟩ := polyB_trim HBB.out
      have hx200 : x.length ≤ 200 := hx200
      have hy200 : y.length ≤ 200 := hy200
      have hxl1 : -300 ≤ l1 := hxl1
      have hxl2 : l1 ≤ 300 := hxl2
      have hyl1 : -300 ≤ l2 := hyl1
      have hyl2 : l2 ≤ 300 := hyl2
      have hxc : ∀ i, -1000000000 ≤ x.getD i 0 ∧ x.getD i 0 ≤ 1000000000 := hxc
      have hyc : ∀ i, -1000000000 ≤ y.getD i 0 ∧ y.getD i 0 ≤ 1000000000 := hyc
      have hx1 := HN1.out
      have hx2 := HN2.out
      have HS := Lib.hid (l6pSum_any l1 l2 1 x y a1 a2 c1 c2 n1 n2 w2 (H1.out.below HB2.out) (H2.out.below HB2.out) hc1 (by omega) (by omega) (by omega) (by omega) (fun i => by have := hxc i; omega) (fun i => by have := hyc i; omega))
      have hsl : (sumP ⟨l1, x⟩ 1 ⟨l2, y⟩).cs.length ≤ 300000 := sum_len (a := ⟨l1, x⟩) (b := ⟨l2, y⟩) (by show -100000 ≤ l1 ∧ l1 ≤ 100000; omega) (by show -100000 ≤ l2 ∧ l2 ≤ 100000; omega) (by show x.length ≤ 100000; omega) (by show y.length ≤ 100000; omega)
      clear hxc hyc hx1 hx2
      go_wp2_with fail
      refine HS.out.mono ?_
      rintro e w3 ⟨⟨v, rfl, hrd⟩, hb3⟩
      obtain ⟨a3, c3, rfl, hc3, hi3⟩ := hrd
      have HB3 := Lib.hid (HB2.out.trans (hb3.mono hs2))
      have hs3 := HB3.out.size
      have HD := Lib.hid (l6pDone_any (sumP ⟨l1, x⟩ 1 ⟨l2, y⟩).low (sumP ⟨l1, x⟩ 1 ⟨l2, y⟩).cs a3 c3 _ t w3 hi3 (by omega) (by have := HT.out; rwa [Bool.true_and, Bool.true_and] at this))
      clear hb3 hi3
      go_wp2_with fail
      refine HD.out.mono ?_
      rintro e w4 ⟨⟨v, rfl, hr⟩, hb4⟩
      clear d0 d1 f0 f1
      obtain ⟨_, _, d0, d1, f0, f1⟩ := HC.out w4 (HB3.out.trans (hb4.mono hs3))
      have HR := Lib.hid hr
      have HB4 := Lib.hid (HBW.out.trans ((HB3.out.trans (hb4.mono hs3)).mono HBW.out.size))
      obtain ⟨g1, gg, cap1, rfl, _⟩ := hr.shape
      clear hr hb4
      go_wp2
      have hss := HSZ.out
      refine bodyPost_ret (v := .tuple #[plV (doneP t (sumP ⟨l1, x⟩ 1 ⟨l2, y⟩)).low (.slice g1 (doneP t (sumP ⟨l1, x⟩ 1 ⟨l2, y⟩)).cs.length cap1), .bool t]) ?_ rfl ⟨⟨_, rfl, resRow2 (.int .i64 (doneP t (sumP ⟨l1, x⟩ 1 ⟨l2, y⟩)).low) (.slice g1 (doneP t (sumP ⟨l1, x⟩ 1 ⟨l2, y⟩)).cs.length cap1) HR.out (by omega)⟩, resBelow2 (.int .i64 (doneP t (sumP ⟨l1, x⟩ 1 ⟨l2, y⟩)).low) (.slice g1 (doneP t (sumP ⟨l1, x⟩ 1 ⟨l2, y⟩)).cs.length cap1) HB4.out⟩
      simp [results, Try.results123, go_sem, d0, d1, plV]

end Go.Proofs.Ytbbkpaledlbcmaa

/- A drawn region whose head makes memory but has fixed values, and whose tail comes in one order only. -/

namespace Go.Proofs.Ytbbkpaledlbcmaa
open Go.RowKit

section
variable {P : Program} {ops : Array Oper} {md : Region.Mode} {C : World → Prop}

/-- The head in whatever order, up to the place where L holds. -/
def headQ (P : Program) (md : Region.Mode) (ops : Array Oper) (C : World → Prop) (n : Nat) (L : Array Bool → Act → Prop) : Nat → Array Bool → Act → Prop
  | 0, listed, a => L listed a
  | f + 1, listed, a => Region.ready md ops listed ≠ [] ∧ ∀ i ∈ Region.ready md ops listed, i < n ∧ qOp P ops C i (headQ P md ops C n L f (listed.setIfInBounds i true)) a

theorem wpAny_headQ {n g : Nat} {L : Array Bool → Act → Prop} {Q' : Exit → Act → World → Prop} (hL : ∀ listed a w, C w → L listed a → wpAny P md ops Q' g listed a w) :
    ∀ (f : Nat) (listed : Array Bool) (a : Act) (w : World), C w → headQ P md ops C n L f listed a → wpAny P md ops Q' (f + g) listed a w
  | 0, _, _, _, hw, h => by rw [Nat.zero_add]; exact hL _ _ _ hw h
  | f + 1, listed, a, w, hw, h => by
    rw [Nat.succ_add]
    exact ⟨fun h0 => absurd h0 h.1, fun i hi => wpOp_of_qOp hw (fun a' w' hw' h' => wpAny_headQ hL f _ a' w' hw' h') (h.2 i hi).2⟩

theorem headQ_first {n i : Nat} {oi : Oper} {v : Value} {L : Array Bool → Act → Prop} (hi : ops[i]? = some oi) (hsel : ∀ (j : Nat) (o : Oper) cs b, ops[j]? = some o → o.op ≠ .select cs b)
    (hs : Region.sinkB md ops n = true) (hc : Region.chainB md ops n = true) (hn : n < ops.size) (hin : i < n) (hdone : ∀ listed a, L listed a → ∀ j ∈ Region.ready md ops listed, n ≤ j) :
    ∀ (f : Nat) (listed : Array Bool) (a : Act), HeadInv md ops n listed →
      (∀ j oj, ops[j]? = some oj → j ≠ i → listed.getD j true = false → (∀ e ∈ oj.after, Region.binds md e = true → e.on ≠ i) → oi.apart ops oj = true) →
      i ∈ Region.ready md ops listed → YieldsIn P ops C oi v a →
      headQ P md ops C n L f (listed.setIfInBounds i true) (a.put oi.dst v) → headQ P md ops C n L (f + 1) listed a := by
  intro f
  induction f with
  | zero =>
    intro listed a inv _ hr hy H
    refine ⟨fun h => (by rw [h] at hr; cases hr), fun j hj => ?_⟩
    have hjn : j < n := Nat.lt_of_not_le fun h => tail_waits hs hc hn inv _ i rfl hin (mem_ready.1 hr).1 j h hj
    refine ⟨hjn, ?_⟩
    by_cases hji : j = i
    · subst hji; exact hy.qOp hi H
    · exact absurd (hdone _ _ H j (ready_mono hj hji)) (by omega)
  | succ f ih =>
    intro listed a inv hfree hr hy H
    have hun := (mem_ready.1 hr).1
    refine ⟨fun h => (by rw [h] at hr; cases hr), fun j hj => ?_⟩
    have hjn : j < n := Nat.lt_of_not_le fun h => tail_waits hs hc hn inv _ i rfl hin hun j h hj
    refine ⟨hjn, ?_⟩
    by_cases hji : j = i
    · subst hji; exact hy.qOp hi H
    · obtain ⟨hjun, oj, hoj, hall⟩ := mem_ready.1 hj
      have hnot : ∀ e ∈ oj.after, Region.binds md e = true → e.on ≠ i := fun e he hb heq => by
        have h1 := hall e he hb
        rw [heq, getD_both hun] at h1
        cases h1
      have h2 := qOp_put hoj (hfree j oj hoj hji hjun hnot) (fun cs b => hsel i oi cs b hi) (fun cs b => hsel j oj cs b hoj) hy (H.2 j (ready_mono hj hji)).2
      refine qOp_mono (fun a' h3 => ih _ a' (inv.set hj hjn) (fun k ok hk hki hu hno => hfree k ok hk hki ?_ hno) (ready_mono hr (Ne.symm hji)) h3.1 ?_) h2
      · by_cases hjk : j = k
        · subst hjk; exact hjun
        · rw [getD_set_ne true hjk] at hu; exact hu
      · rw [Array.setIfInBounds_comm _ _ hji]
        exact h3.2

theorem headQ_lex {n g : Nat} {Lq : Act → Prop} (hsel : Region.noSelect ops = true) (hs : Region.sinkB md ops n = true) (hc : Region.chainB md ops n = true) (hn : n < ops.size) :
    ∀ (l : List Oper) (k : Nat) (listed : Array Bool) (a : Act), (∀ j, j < l.length → l[j]? = ops[k + j]?) → k + l.length = n → HeadInv md ops n listed →
    Region.lexHead md ops g l.length k listed = true → wpQuiet P ops C Lq l a → headQ P md ops C n (fun listed' a' => Region.seqB md ops g n listed' = true ∧ Lq a') l.length listed a
  | [], k, listed, a, _, hk, _, hB, h => by
    obtain rfl : k = n := by simpa using hk
    exact ⟨by simpa [Region.lexHead] using hB, h⟩
  | o :: l, k, listed, a, hl, hk, inv, hB, h => by
    have h0 : ops[k]? = some o := by simpa using (hl 0 (by simp)).symm
    simp only [List.length_cons, Region.lexHead, Bool.and_eq_true] at hB
    have hkn : k < n := by simp only [List.length_cons] at hk; omega
    have hr' : k ∈ Region.ready md ops listed := by simpa using hB.1.1
    have hst : qOp P ops C k (wpQuiet P ops C Lq l) a := by unfold qOp; simp only [h0]; exact h
    obtain ⟨v, hy, hK⟩ := yieldsIn_of_qOp h0 hst
    exact headQ_first h0 (Region.noSelect_spec hsel) hs hc hn hkn (fun listed' a' hL => seqB_ready hL.1) l.length listed a inv (Region.free_spec h0 hB.1.2) hr' hy
      (headQ_lex hsel hs hc hn l (k + 1) _ _ (fun j hj => by have := hl (j + 1) (by simp; omega); simpa [Nat.add_assoc, Nat.add_comm 1 j] using this) (by simp only [List.length_cons] at hk; omega) (inv.set hr' hkn) hB.2 hK)

/-- The head walked once, in every world of the class; then the tail. -/
theorem wp_region_quiet_tail {id : Nat} {Q : Exit → Act → World → Prop} {a : Act} {w : World} {l : List Oper} (n : Nat) (hm : P.follows .mixedOrders = true) (hB : Region.lexTailB .any l.toArray n = true) (hC : C { w with drawn := w.drawn + 1 })
    (h : wpQuiet P l.toArray C (fun a' => ∀ w', C w' → wpList P l.toArray Q (l.drop n) a' w') (l.take n) a) : (Code.region id l.toArray true).wp P Q a w := by
  simp only [Region.lexTailB, Bool.and_eq_true, decide_eq_true_eq] at hB
  obtain ⟨⟨⟨⟨hsel, hn⟩, hs⟩, hc⟩, hlex⟩ := hB
  have hn' : n < l.length := by simpa using hn
  have htl : (l.take n).length = n := by simp; omega
  have hdl : (l.drop n).length = l.toArray.size - n := by simp
  have inv0 : HeadInv .any l.toArray n (Array.replicate l.toArray.size false) :=
    ⟨by simp, fun j oj _ hl => (by rw [getD_replicate_false] at hl; cases hl), fun t _ ht => getD_in (by simpa using ht) (getD_replicate_false _ _)⟩
  have H := headQ_lex (md := .any) (g := l.toArray.size - n) hsel hs hc hn (l.take n) 0 _ a (fun j hj => by
    have hj' : j < n := by rw [htl] at hj; exact hj
    simp [hj']) (by simpa using htl) inv0 (by rw [htl]; exact hlex) h
  refine wp_region_any hm ?_
  have := wpAny_headQ (Q' := Q) (g := l.toArray.size - n) (fun listed a' w' hw' hL => by
    have := wpAny_of_seq (md := .any) (Q' := Q) (l.drop n) n listed a' w' (fun j => by simp [List.getElem?_drop]) (by rw [hdl]; exact hL.1) (hL.2 w' hw')
    rwa [hdl] at this) _ _ _ _ hC H
  rw [htl, show n + (l.toArray.size - n) = l.toArray.size by omega] at this
  exact this
/-- At the worlds behind w. -/
theorem wp_region_below_tail {id : Nat} {Q : Exit → Act → World → Prop} {a : Act} {w : World} {l : List Oper} (n : Nat) (hm : P.follows .mixedOrders = true) (hB : Region.lexTailB .any l.toArray n = true)
    (h : wpQuiet P l.toArray (fun w' => ∃ p : BelowBy w, w' = p.world) (fun a' => ∀ w', (∃ p : BelowBy w, w' = p.world) → wpList P l.toArray Q (l.drop n) a' w') (l.take n) a) : (Code.region id l.toArray true).wp P Q a w :=
  wp_region_quiet_tail n hm hB ⟨⟨w.drew, (Below.refl _ _).drew⟩, rfl⟩ h
end

end Go.Proofs.Ytbbkpaledlbcmaa

/- The program's add, and its PolyAdd. -/

namespace Go.Proofs.Ytbbkpaledlbcmaa
open Go.RowKit

set_option maxRecDepth 100000 in
set_option maxHeartbeats 4000000 in
theorem add_any (base g N capN : Nat) (f : Int → Int) (la lb : Int) (y : List Int) (a2 : Option Addr) (c2 n2 : Nat) (w : World)
    (hr : w.ownsRow base 3 1 (.slice (some ⟨g, 0, none⟩) N capN) N (intsV (listP f la N))) (h2 : Ints w a2 n2 y)
    (hla : -100000 ≤ la ∧ la ≤ 100000) (hlb : -100000 ≤ lb ∧ lb ≤ 100000) (hN : N ≤ 300000) (hn2 : n2 ≤ 100000) (hin : n2 = 0 ∨ (la ≤ lb ∧ lb + n2 ≤ la + N)) (hne : n2 = 0 ∨ ∀ x, a2 = some x → x.block ≠ g)
    (hf : ∀ z, -4000000000000000000 ≤ f z ∧ f z ≤ 4000000000000000000) (hy : ∀ i, -4000000000000000000 ≤ y.getD i 0 ∧ y.getD i 0 ≤ 4000000000000000000) :
    Calls Try.prog 117 #[plV la (.slice (some ⟨g, 0, none⟩) N capN), plV lb (.slice a2 n2 c2)] w fun e w' => e = .returned (.tuple #[]) ∧ w'.ownsRow base 3 1 (.slice (some ⟨g, 0, none⟩) N capN) N (intsV (listP (fun z => f z + pat ⟨lb, y⟩ z) la N)) ∧ w.grownBy w' (some g) := by
  obtain ⟨W, hW⟩ : ∃ W, (w.alloc (.cells #[.int .i64 la, .slice (some ⟨g, 0, none⟩) N capN] 35)).alloc (.cells #[.int .i64 lb, .slice a2 n2 c2] 35) = W := ⟨_, rfl⟩
  have hsz : W.heap.size = w.heap.size + 2 := by rw [← hW]; simp
  have hbW : Below w.heap.size w W := by rw [← hW]; exact ((Below.refl _ w).alloc (Nat.le_refl _) _).alloc (by simp) _
  have hgl : g < w.heap.size := own_lt hr g rfl
  have HC : Hid (∀ w1, W.grownBy w1 (some g) → w1.cell? ⟨w.heap.size, 0, none⟩ = some (.int .i64 la) ∧ w1.cell? ⟨w.heap.size, 1, none⟩ = some (.slice (some ⟨g, 0, none⟩) N capN) ∧ w1.cell? ⟨w.heap.size + 1, 0, none⟩ = some (.int .i64 lb) ∧ w1.cell? ⟨w.heap.size + 1, 1, none⟩ = some (.slice a2 n2 c2)) := Lib.hid fun w1 hg => by
    have e0 := hg.block w.heap.size (by omega) (by simp; omega)
    have e1 := hg.block (w.heap.size + 1) (by omega) (by simp; omega)
    have d0 : W.heap[w.heap.size]? = some (.cells #[.int .i64 la, .slice (some ⟨g, 0, none⟩) N capN] 35 (0, 0)) := by
      rw [← hW, Below.heap_alloc _ _ _ (by simp)]
      exact World.alloc_heap_new w _
    have d1 : W.heap[w.heap.size + 1]? = some (.cells #[.int .i64 lb, .slice a2 n2 c2] 35 (0, 0)) := by
      rw [← hW]
      have h := World.alloc_heap_new (w.alloc (.cells #[.int .i64 la, .slice (some ⟨g, 0, none⟩) N capN] 35)) (.cells #[.int .i64 lb, .slice a2 n2 c2] 35)
      rwa [World.size_alloc] at h
    rw [d0] at e0
    rw [d1] at e1
    refine ⟨?_, ?_, ?_, ?_⟩ <;> simp [World.cell?, e0, e1]
  have hC := HC.out W (World.grownBy.refl _ _)
  rw [← hW] at hC
  obtain ⟨p0, p1, q0, q1⟩ := hC
  have HGW : Hid (w.grownBy W (some g)) := Lib.hid ⟨hbW.os, hbW.tape, hbW.output, hbW.size, fun i hi _ => hbW.block i hi⟩
  have HS2 : Hid (∀ w1, W.grownBy w1 (some g) → ∀ k, k < n2 → ∀ x, a2 = some x → ∀ z, y.getD k 0 = z → w1.cell? (x.add k) = some (.int .i64 z)) := Lib.hid fun w1 hg k hk x hx z hz => by
    obtain ⟨x', e, hb, hc⟩ := h2.at_ (by omega)
    obtain rfl : x = x' := by rw [hx] at e; simpa using e
    have hl := h2.len
    have hne' : (x.add k).block ≠ g := by rw [addr_add_block]; exact (hne.resolve_left (by omega)) x hx
    have hbk := hbW.cell (p := x.add k) (by rw [addr_add_block]; exact hb)
    have hbl : (x.add k).block < W.heap.size := by rw [addr_add_block]; omega
    have e1 := hg.block (x.add k).block hbl (by simp; exact hne')
    have e2 : w1.cell? (x.add k) = W.cell? (x.add k) := by unfold World.cell?; rw [e1]
    rw [e2, hbk, hc k (by omega), ← hz, List.getD_eq_getElem?_getD, List.getElem?_eq_getElem (by omega)]
    rfl
  have HAT : Hid (0 < n2 → ∃ x, a2 = some x) := Lib.hid fun h => by obtain ⟨x, e, _⟩ := h2.at_ h; exact ⟨x, e⟩
  have HR0 : Hid (W.ownsRow base 3 1 (.slice (some ⟨g, 0, none⟩) N capN) N (intsV (listP (fun z => f z + upto (pat ⟨lb, y⟩) (lb + ((0 : Nat) : Int)) z) la N))) := Lib.hid (by
    have e : listP (fun z => f z + upto (pat ⟨lb, y⟩) (lb + ((0 : Nat) : Int)) z) la N = listP f la N := listP_congr fun z _ _ => by
      rw [show lb + ((0 : Nat) : Int) = lb by omega]
      show f z + upto (pat ⟨lb, y⟩) (⟨lb, y⟩ : Pl).low z = f z
      rw [upto_low, Int.add_zero]
    rw [e]
    exact hr.kept ⟨hbW.os, hbW.tape, hbW.output, hbW.size, fun j hj _ => hbW.block j hj⟩ (row := none) (.inr (by simp [Value.ownBlock])))
  have HN2 := Lib.hid h2.len
  have HF := Lib.hid hf
  have HY := Lib.hid hy
  have HW := Lib.hid hW
  have HIN := Lib.hid hin
  clear hW hbW h2 hf hy hsz hne hr hin hgl
  go_enter Try.func117, Try.ntmps117
  go_wp2_with fail
  rw [HW.out]
  clear p0 p1 q0 q1
  go_loopw [4, 5, 9] (fun _ _ i wr => ∃ k : Nat, k ≤ n2 ∧ i = .int .i64 (k : Int) ∧ Hid (wr.ownsRow base 3 1 (.slice (some ⟨g, 0, none⟩) N capN) N (intsV (listP (fun z => f z + upto (pat ⟨lb, y⟩) (lb + (k : Int)) z) la N))) ∧ Hid (W.grownBy wr (some g))) (fun _ _ i _ => n2 - (intOf i).toNat)
  case atStart => exact ⟨0, Nat.zero_le _, rfl, HR0, Lib.hid (World.grownBy.refl _ _)⟩
  case round =>
    obtain ⟨k, hk, rfl, HR, HG⟩ := hrel
    obtain ⟨p0, p1, q0, q1⟩ := HC.out wr HG.out
    by_cases hlt : k < n2
    · obtain ⟨x, rfl⟩ := HAT.out (by omega)
      obtain ⟨z, hz⟩ : ∃ z, y.getD k 0 = z := ⟨_, rfl⟩
      have hcz := HS2.out wr HG.out k hlt x rfl z hz
      have hin := HIN.out.resolve_left (by omega)
      obtain ⟨hin1, hin2⟩ := hin
      obtain ⟨u, hu⟩ : ∃ u, f (lb + (k : Int)) = u := ⟨_, rfl⟩
      have hub := HF.out (lb + (k : Int))
      rw [hu] at hub
      have hzb := HY.out k
      rw [hz] at hzb
      obtain ⟨hub1, hub2⟩ := hub
      obtain ⟨hzb1, hzb2⟩ := hzb
      obtain ⟨d, hd⟩ : ∃ d : Nat, lb - la = (d : Int) := ⟨(lb - la).toNat, by omega⟩
      obtain ⟨j, hj⟩ : ∃ j : Nat, d + k = j := ⟨_, rfl⟩
      have hjN : j < N := by omega
      have hjNi : (j : Int) < (N : Int) := by omega
      have hj0 : (0 : Int) ≤ (j : Int) := by omega
      have hki : (k : Int) < (n2 : Int) := by omega
      have hk0 : (0 : Int) ≤ (k : Int) := by omega
      have hw1 : IntKind.i64.wrap (lb - la) = (d : Int) := by rw [IntWalk.i64_in _ (by omega)]; exact hd
      have hw2 : IntKind.i64.wrap ((d : Int) + (k : Int)) = (j : Int) := by rw [IntWalk.i64_in _ (by omega)]; omega
      have hw4 : IntKind.i64.wrap (u + z) = u + z := IntWalk.i64_in _ (by omega)
      have hlj : la + (j : Int) = lb + (k : Int) := by omega
      have hck : wr.cell? ⟨g, j, none⟩ = some (.int .i64 u) := by
        rw [HR.out.cellAt _ (by omega), listP_cell hjN, hlj, upto_here, hu, Int.add_zero]
      have hfk := HR.out.frozenAt j
      have HST : Hid ((intsV (listP (fun z => f z + upto (pat ⟨lb, y⟩) (lb + (k : Int)) z) la N)).set j (.int .i64 (u + z)) = intsV (listP (fun z => f z + upto (pat ⟨lb, y⟩) (lb + ((k + 1 : Nat) : Int)) z) la N)) := Lib.hid (listP_set (fun p hp => by
          rw [show lb + ((k + 1 : Nat) : Int) = lb + (k : Int) + 1 by omega, upto_next (by omega)]) (by
          rw [show lb + ((k + 1 : Nat) : Int) = lb + (k : Int) + 1 by omega, hlj, upto_at, hu]
          rw [show pat ⟨lb, y⟩ (lb + (k : Int)) = z from (pat_at ⟨lb, y⟩ k).trans hz]))
      clear hz hd hj hlj hu
      go_wp2
      go_roundw
      case rel =>
        have h1 := HR.out.stored j (.int .i64 (u + z))
        refine ⟨k + 1, by omega, by go_num, Lib.hid ?_, Lib.hid (HG.out.trans h1.2)⟩
        rw [← HST.out]
        exact h1.1
      case measure => simp [intOf]; omega
    · obtain rfl : k = n2 := by omega
      have e : listP (fun z => f z + upto (pat ⟨lb, y⟩) (lb + (k : Int)) z) la N = listP (fun z => f z + pat ⟨lb, y⟩ z) la N := listP_congr fun z _ _ => by
        have h1 := upto_high ⟨lb, y⟩ z
        rw [show (⟨lb, y⟩ : Pl).low + ((⟨lb, y⟩ : Pl).cs.length : Int) = lb + (k : Int) by show lb + (y.length : Int) = _; rw [HN2.out]] at h1
        rw [h1]
      have hr := HR.out
      rw [e] at hr
      have HRR := Lib.hid hr
      clear hr e HR
      go_wp2
      go_end0
      exact ⟨rfl, HRR.out, HGW.out.trans HG.out⟩

end Go.Proofs.Ytbbkpaledlbcmaa

/- Regions that draw their order, make memory and lay a box: the law of make at a step; a box that was laid somewhere on the way. -/

namespace Go.Proofs.Ytbbkpaledlbcmaa
open Go.RowKit

theorem step_make {P : Program} {w : World} {ops : Array Oper} {o : Oper} {a : Act} {K : Act → World → Prop} {Q : Exit → Act → World → Prop} {E : Prop} (hgd : o.guard = none) (l c : Operand) (t : TypeId)
    (ho : o.op = .makeSlice t l c) (base : Nat) (e : TypeId) (i : TypeInfo) (z : Value) (size : Nat) (h1 : P.underlying t = some (.slice e)) (h2 : P.info? e = some i) (h3 : i.zero = some z) (h4 : i.size = size)
    (n : Nat) (hl : a.eval l = .int .i64 (n : Int)) (hc : a.eval c = .int .i64 (n : Int)) (b2 : i.bytes * n ≤ 281474976710656) (b3 : n ≤ maxLen) (b4 : base ≤ w.heap.size)
    (h : ∀ g w', w.heap.size ≤ g → w'.ownsRow base e size (.slice (some ⟨g, 0, none⟩) n n) n (madeCells z.cells (n * size)).toList → w.grownBy w' none → K (a.put o.dst (.slice (some ⟨g, 0, none⟩) n n)) w') :
    if Region.wanted o (yielded ops a.tmps) = true then Oper.wp P o a w K Q else E := by
  have hw : Region.wanted o (yielded ops a.tmps) = true := by simp [Region.wanted, hgd]
  rw [if_pos hw]
  obtain ⟨w', hrun, r1, r2⟩ := run_make_full (P := P) (w := w) base t e i z size h1 h2 h3 h4 .i64 .i64 n b2 b3 b4
  unfold Oper.wp
  simp [execOp, ho, hl, hc, hrun, Result.andThen]
  exact h _ w' (Nat.le_refl _) r1 r2

/-- A box of a polynomial that still holds zeros. -/
def BoxZ (w : World) (j : Nat) : Prop := j < w.heap.size ∧ w.cell? ⟨j, 0, none⟩ = some (.int .i64 0) ∧ w.cell? ⟨j, 1, none⟩ = some (.slice none 0 0) ∧ w.frozen? ⟨j, 0, none⟩ = false ∧ w.frozen? ⟨j, 1, none⟩ = false
theorem BoxZ.below {w w' : World} {j : Nat} (h : BoxZ w j) (hb : Below w.heap.size w w') : BoxZ w' j := by
  have e := hb.block j h.1
  refine ⟨Nat.lt_of_lt_of_le h.1 hb.size, ?_, ?_, ?_, ?_⟩
  · rw [← h.2.1]; simp [World.cell?, e]
  · rw [← h.2.2.1]; simp [World.cell?, e]
  · rw [← h.2.2.2.1]; simp [World.frozen?, e]
  · rw [← h.2.2.2.2]; simp [World.frozen?, e]
theorem BoxZ.new (w : World) : BoxZ (w.alloc (.cells #[.int .i64 0, .slice none 0 0] 35)) w.heap.size := by
  obtain ⟨d0, d1, f0, f1⟩ := resCells (w := w) (w1 := w.alloc (.cells #[.int .i64 0, .slice none 0 0] 35)) (r := w.heap.size) rfl ((Below.refl _ _))
  exact ⟨by simp, d0, d1, f0, f1⟩
/-- It was laid just now. -/
theorem BoxZ.of {w w' : World} (hb : Below (w.alloc (.cells #[.int .i64 0, .slice none 0 0] 35)).heap.size (w.alloc (.cells #[.int .i64 0, .slice none 0 0] 35)) w') : BoxZ w' w.heap.size := (BoxZ.new w).below hb
theorem BoxZ.ofd {w w' : World} (hb : Below (w.alloc (.cells #[.int .i64 0, .slice none 0 0] 35)).drew.heap.size (w.alloc (.cells #[.int .i64 0, .slice none 0 0] 35)).drew w') : BoxZ w' w.heap.size :=
  (BoxZ.new w).below (Below.trans (Below.refl _ _).drew hb)
theorem BoxZ.lt {w w' : World} {o : Obj} (_ : Below (w.alloc o).heap.size (w.alloc o) w') : w.heap.size < (w.alloc o).heap.size := by rw [World.size_alloc]; omega
theorem below_alloc {b : Nat} {w w1 w2 : World} {o : Obj} (h : Below b w w1) (hs : b ≤ w1.heap.size) (hb : Below (w1.alloc o).heap.size (w1.alloc o) w2) : Below b w w2 :=
  (h.alloc hs o).trans (hb.mono (by rw [World.size_alloc]; omega))
theorem below_of_grown {w w' : World} (h : w.grownBy w' none) : Below w.heap.size w w' := (Below.refl _ _).grown h (Nat.le_refl _) (fun j e => by cases e)
/-- The box is filled. -/
theorem BoxZ.fill {w : World} {j : Nat} {x y : Value} (h : BoxZ w j) : BoxAt ((w.setCell ⟨j, 0, none⟩ x).setCell ⟨j, 1, none⟩ y) j x y := by
  obtain ⟨h0, h1, h2, _, _⟩ := h
  refine ⟨by simp; exact h0, ?_, ?_⟩
  · go_simp
  · go_simp
theorem own_raise {w : World} {base size : Nat} {e : TypeId} {g n c : Nat} {xs : List Value} (h : w.ownsRow base e size (.slice (some ⟨g, 0, none⟩) n c) n xs) : w.ownsRow g e size (.slice (some ⟨g, 0, none⟩) n c) n xs := by
  obtain ⟨h1, h2⟩ := h
  refine ⟨h1, ?_⟩
  rcases h2 with ⟨e, _⟩ | ⟨g', cap, cur, e, hb, rest⟩
  · cases e
  · simp only [Value.slice.injEq, Option.some.injEq, Addr.mk.injEq] at e
    obtain ⟨⟨rfl, _, _⟩, _, rfl⟩ := e
    exact .inr ⟨g, c, cur, rfl, Nat.le_refl _, rest⟩
theorem run_makeI (n : Nat) (hn : n ≤ 1048576) (V : World) : (Instr.makeSlice 33 (.int .i64 (n : Int)) (.int .i64 (n : Int))).run Try.prog V = .ok (.slice (some ⟨V.heap.size, 0, none⟩) n n) (V.alloc (.cells (madeCells (Value.cells (.int .i64 0)) (n * 1)) 3)) := by
  obtain ⟨i0, hi, hz0, hz1, hz2⟩ := info_parts infoInt
  have hr := run_make (P := Try.prog) V 33 3 i0 (.int .i64 0) Try.underlying33 hi hz0 .i64 .i64 n n (by omega) (Int.le_refl _) (by rw [hz2]; omega) (by omega)
  rw [hz1] at hr
  simpa using hr
/-- Two boxes lie ahead of a block. -/
theorem two_ahead {a b : Nat} (h : a + 1 < b) : ¬ a = b ∧ ¬ b = a ∧ ¬ a + 1 = b ∧ ¬ b = a + 1 ∧ ¬ a = b + 1 ∧ ¬ b + 1 = a := by omega
/-- A box that holds x and a new row of n ints, behind a region that lays both. -/
def RegMk (w wx : World) (s x : Value) (n : Nat) (mc : Array Value) : Prop :=
  ∃ j g : Nat, s = .pointer (some ⟨j, 0, none⟩) ∧ BoxAt wx j x (.slice (some ⟨g, 0, none⟩) n n) ∧ w.heap.size ≤ j ∧ wx.ownsRow w.heap.size 3 1 (.slice (some ⟨g, 0, none⟩) n n) n mc.toList ∧ g ≠ j ∧ Below w.heap.size w wx
theorem regA {w V : World} {x : Value} {n : Nat} {mc : Array Value} (hB : Below w.heap.size w V) (hn : n ≤ maxLen) (hm : mc.size = n * 1) :
    RegMk w ((V.alloc (.cells mc 3)).alloc (.cells #[x, .slice (some ⟨V.heap.size, 0, none⟩) n n] 35)) (.pointer (some ⟨V.heap.size + 1, 0, none⟩)) x n mc := by
  have h1 := boxNew (w := V.alloc (.cells mc 3)) (t := 35) (x := x) (y := .slice (some ⟨V.heap.size, 0, none⟩) n n) rfl
  rw [World.size_alloc] at h1
  have hs := hB.size
  refine ⟨V.heap.size + 1, V.heap.size, rfl, h1, by omega, ?_, by omega, (hB.alloc hs _).alloc (by rw [World.size_alloc]; omega) _⟩
  exact (World.ownsRow_lit V mc n hs hn hm).kept (World.grownBy_alloc _ _ none) (.inr (by simp [Value.ownBlock]))
theorem regB {w V : World} {x : Value} {n : Nat} {mc : Array Value} (hB : Below w.heap.size w V) (hn : n ≤ maxLen) (hm : mc.size = n * 1) :
    RegMk w ((V.alloc (.cells #[x, .slice (some ⟨V.heap.size + 1, 0, none⟩) n n] 35)).alloc (.cells mc 3)) (.pointer (some ⟨V.heap.size, 0, none⟩)) x n mc := by
  have h1 := boxNew (w := V) (t := 35) (x := x) (y := .slice (some ⟨V.heap.size + 1, 0, none⟩) n n) rfl
  have hs := hB.size
  refine ⟨V.heap.size, V.heap.size + 1, rfl, h1.below ((Below.refl _ _).alloc (Nat.le_refl _) _), hs, ?_, by omega, (hB.alloc hs _).alloc (by rw [World.size_alloc]; omega) _⟩
  have h2 := World.ownsRow_lit (base := w.heap.size) (V.alloc (.cells #[x, .slice (some ⟨V.heap.size + 1, 0, none⟩) n n] 35)) mc n (e := 3) (size := 1) (by rw [World.size_alloc]; omega) hn hm
  rw [World.size_alloc] at h2
  exact h2
theorem regC {w V : World} {j : Nat} {x : Value} {n : Nat} {mc : Array Value} (hB : Below w.heap.size w V) (hZ : BoxZ V j) (hj : w.heap.size ≤ j) (hn : n ≤ maxLen) (hm : mc.size = n * 1) :
    RegMk w (((V.setCell ⟨j, 0, none⟩ x).setCell ⟨j, 1, none⟩ (.slice (some ⟨V.heap.size, 0, none⟩) n n)).alloc (.cells mc 3)) (.pointer (some ⟨j, 0, none⟩)) x n mc := by
  have h1 := hZ.fill (x := x) (y := .slice (some ⟨V.heap.size, 0, none⟩) n n)
  have hs := hB.size
  have hz : ((V.setCell ⟨j, 0, none⟩ x).setCell ⟨j, 1, none⟩ (.slice (some ⟨V.heap.size, 0, none⟩) n n)).heap.size = V.heap.size := by simp
  have hb2 : Below w.heap.size w ((V.setCell ⟨j, 0, none⟩ x).setCell ⟨j, 1, none⟩ (.slice (some ⟨V.heap.size, 0, none⟩) n n)) := (hB.setCell (p := ⟨j, 0, none⟩) hj _).setCell (p := ⟨j, 1, none⟩) hj _
  refine ⟨j, V.heap.size, rfl, h1.below ((Below.refl _ _).alloc (Nat.le_refl _) _), hj, ?_, by have := hZ.1; omega, hb2.alloc (by omega) _⟩
  have h2 := World.ownsRow_lit (base := w.heap.size) ((V.setCell ⟨j, 0, none⟩ x).setCell ⟨j, 1, none⟩ (.slice (some ⟨V.heap.size, 0, none⟩) n n)) mc n (e := 3) (size := 1) (by omega) hn hm
  rw [hz] at h2
  exact h2
theorem made_zero (low : Int) (n : Nat) : (madeCells (Value.cells (.int .i64 0)) (n * 1)).toList = intsV (listP (fun _ => 0) low n) := by
  rw [show Value.cells (.int .i64 0) = #[.int .i64 0] from rfl, toList_madeCells_one, listP_zero]
  simp [intsV]
theorem made_size (n : Nat) : (madeCells (Value.cells (.int .i64 0)) (n * 1)).size = n * 1 := by
  have h := made_zero 0 n
  have e : (madeCells (Value.cells (.int .i64 0)) (n * 1)).toList.length = n := by rw [h, intsV_len, listP_len]
  rw [Array.length_toList] at e
  omega

end Go.Proofs.Ytbbkpaledlbcmaa

/- The program's PolyAdd. -/

namespace Go.Proofs.Ytbbkpaledlbcmaa
open Go.RowKit

theorem listP_tidy {f : Int → Int} {low : Int} {n : Nat} {q : Pl} (hq : Trim q) (h1 : ∀ k, k < low → f k = 0) (h2 : ∀ k, low + n ≤ k → f k = 0) (h : ∀ k, pat q k = f k) : tidyP low (listP f low n) = q :=
  trim_unique (tidy_trim _ _) hq fun k => by rw [tidy_pat, listP_pat h1 h2, h]
theorem pat_bound {p : Pl} {M : Int} (h0 : 0 ≤ M) (h : ∀ i, -M ≤ p.cs.getD i 0 ∧ p.cs.getD i 0 ≤ M) (k : Int) : -M ≤ pat p k ∧ pat p k ≤ M := by
  unfold pat
  split
  · exact h _
  · omega

set_option maxRecDepth 100000 in
set_option maxHeartbeats 8000000 in
theorem iPolyAdd_any (l1 l2 : Int) (x y : List Int) (a1 a2 : Option Addr) (c1 c2 n1 n2 : Nat) (ba bb t : Bool) (w : World) (h1 : Ints w a1 n1 x) (h2 : Ints w a2 n2 y) (hc1 : n1 ≤ c1) (hc2 : n2 ≤ c2)
    (hba : polyB ⟨l1, x⟩ = ba) (hbb : polyB ⟨l2, y⟩ = bb) (ht : (ba && (bb && polyB (sumP ⟨l1, x⟩ 1 ⟨l2, y⟩))) = t) :
    Calls Try.prog 42 #[plV l1 (.slice a1 n1 c1), plV l2 (.slice a2 n2 c2)] w fun e w' => (∃ v, e = .returned (.tuple #[plV (doneP t (sumP ⟨l1, x⟩ 1 ⟨l2, y⟩)).low v, .bool t]) ∧ IntRow w.heap.size w' v (doneP t (sumP ⟨l1, x⟩ 1 ⟨l2, y⟩)).cs) ∧ Below w.heap.size w w' := by
  obtain ⟨i0, hi, hz0, hz1, hz2⟩ := info_parts infoInt
  have hmx : Try.prog.follows .mixedOrders = true := by kernel_rfl
  have hzm := told_zm
  have hzn := told_zn
  have hpm := told_pm
  have hpn := told_pn
  obtain ⟨W, hW⟩ : ∃ W, ((w.alloc (.cells #[.int .i64 l1, .slice a1 n1 c1] 35)).alloc (.cells #[.int .i64 l2, .slice a2 n2 c2] 35)).alloc (.cells #[.int .i64 0, .slice none 0 0] 35) = W := ⟨_, rfl⟩
  obtain ⟨hbW, hsz⟩ := boxes3Below hW
  have HC : Hid (∀ w1, Below W.heap.size W w1 → _) := Lib.hid fun w1 (hg : Below W.heap.size W w1) => boxes3 hW hg
  have hC := boxes3 hW (Below.refl _ _)
  rw [← hW] at hC
  obtain ⟨⟨p0, p1⟩, ⟨q0, q1⟩, _⟩ := hC
  have H1 := Lib.hid (h1.below hbW)
  have H2 := Lib.hid (h2.below hbW)
  have HBA := Lib.hid hba
  have HBB := Lib.hid hbb
  have HN1 := Lib.hid h1.len
  have HN2 := Lib.hid h2.len
  have HBW := Lib.hid hbW
  have HW := Lib.hid hW
  have HSZ := Lib.hid hsz
  have HT := Lib.hid ht
  clear hW hbW h1 h2 hba hbb hsz ht
  go_enter Try.func42, Try.ntmps42
  go_wp2_with fail
  rw [HW.out]
  clear p0 p1 q0 q1
  refine (iPolyIn_any l1 x a1 c1 n1 ba W H1.out hc1 HBA.out).mono ?_
  rintro e w1 ⟨rfl, hb1⟩
  have HB1 := Lib.hid hb1
  obtain ⟨⟨p0, p1⟩, ⟨q0, q1⟩, d0, d1, f0, f1⟩ := HC.out w1 hb1
  have hs1 := hb1.size
  clear hb1
  cases ba with
  | false =>
    obtain rfl : t = false := by rw [← HT.out]; rfl
    go_wp2
    have hss := HSZ.out
    refine bodyPost_ret (v := .tuple #[plV 0 (.slice none 0 0), .bool false]) ?_ rfl ⟨⟨_, rfl, intNil _ _⟩, resBelow2 (.int .i64 0) (.slice none 0 0) (HBW.out.trans (HB1.out.mono HBW.out.size))⟩
    simp [results, Try.results42, go_sem, d0, d1, plV]
  | true =>
    go_wp2_with fail
    refine (iPolyIn_any l2 y a2 c2 n2 bb w1 (H2.out.below HB1.out) hc2 HBB.out).mono ?_
    rintro e w2 ⟨rfl, hb2⟩
    have HB2 := Lib.hid (HB1.out.trans (hb2.mono hs1))
    have hs2 := HB2.out.size
    clear hb2 p0 p1 q0 q1 d0 d1 f0 f1
    obtain ⟨⟨p0, p1⟩, ⟨q0, q1⟩, d0, d1, f0, f1⟩ := HC.out w2 HB2.out
    cases bb with
    | false =>
      obtain rfl : t = false := by rw [← HT.out]; rfl
      go_wp2
      refine bodyPost_ret (v := .tuple #[plV 0 (.slice none 0 0), .bool false]) ?_ rfl ⟨⟨_, rfl, intNil _ _⟩, resBelow2 (.int .i64 0) (.slice none 0 0) (HBW.out.trans (HB2.out.mono HBW.out.size))⟩
      simp [results, Try.results42, go_sem, d0, d1, plV]
    | true =>
      obtain ⟨hT1, hx200, hxl1, hxl2, hxc⟩ := polyB_trim HBA.out
      obtain ⟨_, hy200, hyl1, hyl2, hyc⟩ := polyB_trim HBB.out
      have hx200 : x.length ≤ 200 := hx200
      have hy200 : y.length ≤ 200 := hy200
      have hxl1 : -300 ≤ l1 := hxl1
      have hxl2 : l1 ≤ 300 := hxl2
      have hyl1 : -300 ≤ l2 := hyl1
      have hyl2 : l2 ≤ 300 := hyl2
      have hx1 := HN1.out
      have hx2 := HN2.out
      have HXC : Hid (∀ i, -1000000000 ≤ x.getD i 0 ∧ x.getD i 0 ≤ 1000000000) := Lib.hid hxc
      have HYC : Hid (∀ i, -1000000000 ≤ y.getD i 0 ∧ y.getD i 0 ≤ 1000000000) := Lib.hid hyc
      have HPT : Hid (polyB (sumP ⟨l1, x⟩ 1 ⟨l2, y⟩) = t) := Lib.hid (by have := HT.out; rwa [Bool.true_and, Bool.true_and] at this)
      have HTR : Hid (Trim (sumP ⟨l1, x⟩ 1 ⟨l2, y⟩)) := Lib.hid (sum_trim 1 ⟨l2, y⟩ hT1)
      obtain ⟨LO, hLO⟩ : ∃ LO, (if l1 ≤ l2 then l1 else l2) = LO := ⟨_, rfl⟩
      obtain ⟨HI, hHI⟩ : ∃ HI, (if l2 + (n2 : Int) ≤ l1 + (n1 : Int) then l1 + (n1 : Int) else l2 + (n2 : Int)) = HI := ⟨_, rfl⟩
      have hmin : ∀ V : World, (Builtin.min_ #[3, 3] 3 #[.int .i64 l1, .int .i64 l2]).run Try.prog V = .ok (.int .i64 LO) V := fun V => by rw [min_int, hLO]
      have hmax : ∀ V : World, (Builtin.max_ #[3, 3] 3 #[.int .i64 (l1 + (n1 : Int)), .int .i64 (l2 + (n2 : Int))]).run Try.prog V = .ok (.int .i64 HI) V := fun V => by rw [max_int, hHI]
      have hLr : LO ≤ l1 ∧ LO ≤ l2 ∧ l1 + n1 ≤ HI ∧ l2 + n2 ≤ HI ∧ -300 ≤ LO ∧ HI ≤ 500 := by
        rw [← hLO, ← hHI]
        refine ⟨?_, ?_, ?_, ?_, ?_, ?_⟩ <;> split <;> omega
      obtain ⟨hr1, hr2, hr3, hr4, hr5, hr6⟩ := hLr
      obtain ⟨N, hN⟩ : ∃ N : Nat, HI - LO = (N : Int) := ⟨(HI - LO).toNat, by omega⟩
      have hwN : IntKind.i64.wrap (HI - LO) = (N : Int) := by rw [IntWalk.i64_in _ (by omega)]; exact hN
      have hNb : N ≤ 800 := by omega
      have HNI := Lib.hid hN
      have hn1 : n1 ≤ 1048576 := by omega
      have hn2 : n2 ≤ 1048576 := by omega
      have hl1' : -1000000000 ≤ l1 := by omega
      have hl1'' : l1 ≤ 1000000000 := by omega
      have hl2' : -1000000000 ≤ l2 := by omega
      have hl2'' : l2 ≤ 1000000000 := by omega
      clear hLO hHI hT1 hxc hyc hN
      have hb0 : w.heap.size < w2.heap.size := by have := HSZ.out; omega
      have hb1 : w.heap.size + 1 < w2.heap.size := by have := HSZ.out; omega
      have HEND1 : Hid (∀ V : World, Calls Try.prog 116 #[plV l1 (.slice a1 n1 c1)] V fun e w' => e = .returned (.int .i64 (l1 + (n1 : Int))) ∧ Below V.heap.size V w') := Lib.hid fun V => end_any l1 a1 c1 n1 V hl1' hl1'' hn1
      have HEND2 : Hid (∀ V : World, Calls Try.prog 116 #[plV l2 (.slice a2 n2 c2)] V fun e w' => e = .returned (.int .i64 (l2 + (n2 : Int))) ∧ Below V.heap.size V w') := Lib.hid fun V => end_any l2 a2 c2 n2 V hl2' hl2'' hn2
      have HBk : Hid (Below w2.heap.size w2 w2) := Lib.hid (Below.refl _ _)
      obtain ⟨mc, hmc⟩ : ∃ mc, madeCells (Value.cells (.int .i64 0)) (N * 1) = mc := ⟨_, rfl⟩
      have hmk : ∀ V : World, (Instr.makeSlice 33 (.int .i64 (N : Int)) (.int .i64 (N : Int))).run Try.prog V = .ok (.slice (some ⟨V.heap.size, 0, none⟩) N N) (V.alloc (.cells mc 3)) := fun V => by rw [← hmc]; exact run_makeI N (by omega) V
      have HMC := Lib.hid hmc
      have HNM : Hid (N ≤ maxLen) := Lib.hid (by unfold maxLen; omega)
      have HMS : Hid (mc.size = N * 1) := Lib.hid (by rw [← hmc]; exact made_size N)
      clear hmc
      obtain ⟨m1, m2, m3, m4, m5, m6⟩ := two_ahead hb1
      go_upto_region 4 with fail
      go_cut [7] (fun s7 wx => RegMk w2 wx s7 (.int .i64 LO) N mc)
      case first =>
        go_region_held3 (fun w' : World => w'.cell? ⟨w.heap.size, 0, none⟩ = some (.int .i64 l1) ∧ w'.cell? ⟨w.heap.size, 1, none⟩ = some (.slice a1 n1 c1) ∧ w'.cell? ⟨w.heap.size + 1, 0, none⟩ = some (.int .i64 l2) ∧ w'.cell? ⟨w.heap.size + 1, 1, none⟩ = some (.slice a2 n2 c2)) (first | go_keep | exact ⟨k0, k1, k2, k3⟩)
          (first
            | (go_at_call 116
               first | refine (HEND1.out _).mono ?_ | refine (HEND2.out _).mono ?_
               rintro e V ⟨rfl, hbv⟩
               have hbn : Below w2.heap.size w2 V := by
                 first
                 | exact HBk.out.trans (hbv.mono HBk.out.size)
                 | exact HBk.out.drew.trans (hbv.mono HBk.out.size)
                 | exact below_alloc HBk.out HBk.out.size hbv
                 | exact below_alloc HBk.out.drew HBk.out.size hbv
               first
               | (have HZ : Hid (BoxZ V w2.heap.size) := Lib.hid (BoxZ.of (w := w2.drew) hbv); obtain ⟨_, z0, z1, z2, z3⟩ := HZ.out)
               | (have HZ : Hid (BoxZ V w2.heap.size) := Lib.hid (BoxZ.ofd (w := w2) hbv); obtain ⟨_, z0, z1, z2, z3⟩ := HZ.out)
               | (have HZ := Lib.hid (BoxZ.of hbv); have HZL := Lib.hid HBk.out.size; obtain ⟨_, z0, z1, z2, z3⟩ := HZ.out)
               | (have HZ' := Lib.hid (HZ.out.below hbv); clear HZ z0 z1 z2 z3; have HZ := HZ'; clear HZ'; obtain ⟨_, z0, z1, z2, z3⟩ := HZ.out)
               | skip
               obtain ⟨o1, o2, o3, o4, o5, o6⟩ := two_ahead (Nat.lt_of_lt_of_le hb1 hbn.size)
               clear HBk
               have HBk := Lib.hid hbn
               obtain ⟨⟨k0, k1⟩, ⟨k2, k3⟩, _⟩ := HC.out V (HB2.out.trans (hbn.mono hs2))
               clear hbv hbn))
        all_goals (go_wp2_with fail; go_meet)
        all_goals first
          | exact regA HBk.out HNM.out HMS.out
          | exact regB HBk.out HNM.out HMS.out
          | exact regC HBk.out HZ.out (by have := HBk.out.size; omega) HNM.out HMS.out
          | exact regC HBk.out HZ.out (Nat.le_refl _) HNM.out HMS.out
          | exact regC HBk.out HZ.out HZL.out HNM.out HMS.out
      case rest =>
      obtain ⟨j, g, hs7, hbox, hj, hrow, hgj, hbx⟩ := hcut
      subst hs7
      clear HEND1 HEND2 hmk HBk m1 m2 m3 m4 m5 m6 p0 p1 q0 q1 d0 d1 f0 f1 hmin hmax
      have HBx := Lib.hid (HB2.out.trans (hbx.mono hs2))
      have hgge := own_ge hrow g rfl
      have hsx := hbx.size
      rw [← HMC.out, made_zero LO N] at hrow
      have HROW := Lib.hid hrow
      have HBOX := Lib.hid hbox
      obtain ⟨⟨p0, p1⟩, ⟨q0, q1⟩, _⟩ := HC.out wc HBx.out
      obtain ⟨_, b0, b1⟩ := hbox
      have hNI := HNI.out
      have hne1 : n1 = 0 ∨ ∀ z, a1 = some z → z.block ≠ g := by
        by_cases h0 : n1 = 0
        · exact .inl h0
        · refine .inr fun z hz => ?_
          obtain ⟨z', e, hb, _⟩ := (H1.out.below HB2.out).at_ (by omega)
          obtain rfl : z = z' := by rw [hz] at e; simpa using e
          omega
      have hne2 : n2 = 0 ∨ ∀ z, a2 = some z → z.block ≠ g := by
        by_cases h0 : n2 = 0
        · exact .inl h0
        · refine .inr fun z hz => ?_
          obtain ⟨z', e, hb, _⟩ := (H2.out.below HB2.out).at_ (by omega)
          obtain rfl : z = z' := by rw [hz] at e; simpa using e
          omega
      have HADD1 := Lib.hid (add_any w2.heap.size g N N (fun _ => 0) LO l1 x a1 c1 n1 wc HROW.out (H1.out.below HBx.out) (by omega) (by omega) (by omega) (by omega) (.inr (by omega)) hne1 (fun z => by omega) (fun i => by have := HXC.out i; omega))
      clear hrow hbx hne1
      go_wp2_with fail
      refine HADD1.out.mono ?_
      rintro e w3 ⟨rfl, hr3, hg3⟩
      have HB3 := Lib.hid (HBx.out.grown hg3 (by omega) (fun k e => by simp at e; omega))
      have HBOX3 := Lib.hid (HBOX.out.grown hg3 (by simp; exact hgj))
      have HR3 := Lib.hid hr3
      have hs3 := hg3.size
      clear p0 p1 q0 q1 b0 b1 hr3 hg3 HADD1
      obtain ⟨⟨p0, p1⟩, ⟨q0, q1⟩, _⟩ := HC.out w3 HB3.out
      obtain ⟨_, b0, b1⟩ := HBOX3.out
      have HPB1 : Hid (∀ z, -1000000000 ≤ pat ⟨l1, x⟩ z ∧ pat ⟨l1, x⟩ z ≤ 1000000000) := Lib.hid (pat_bound (p := ⟨l1, x⟩) (by omega) HXC.out)
      have HADD2 := Lib.hid (add_any w2.heap.size g N N (fun z => 0 + pat ⟨l1, x⟩ z) LO l2 y a2 c2 n2 w3 HR3.out (H2.out.below HB3.out) (by omega) (by omega) (by omega) (by omega) (.inr (by omega)) hne2 (fun z => by have := HPB1.out z; omega) (fun i => by have := HYC.out i; omega))
      clear hne2
      go_wp2_with fail
      refine HADD2.out.mono ?_
      rintro e w4 ⟨rfl, hr4, hg4⟩
      have HB4 := Lib.hid (HB3.out.grown hg4 (by omega) (fun k e => by simp at e; omega))
      have HBOX4 := Lib.hid (HBOX3.out.grown hg4 (by simp; exact hgj))
      have hs4 := hg4.size
      clear p0 p1 q0 q1 b0 b1 hg4 HADD2
      obtain ⟨_, b0, b1⟩ := HBOX4.out
      have HPB2 : Hid (∀ z, -1000000000 ≤ pat ⟨l2, y⟩ z ∧ pat ⟨l2, y⟩ z ≤ 1000000000) := Lib.hid (pat_bound (p := ⟨l2, y⟩) (by omega) HYC.out)
      have hwf : ∀ z ∈ listP (fun z => 0 + pat ⟨l1, x⟩ z + pat ⟨l2, y⟩ z) LO N, -9223372036854775808 ≤ z ∧ z ≤ 9223372036854775807 := fun z hz => by
        unfold listP at hz
        obtain ⟨i, _, rfl⟩ := List.mem_map.1 hz
        have e1 := HPB1.out (LO + (i : Int))
        have e2 := HPB2.out (LO + (i : Int))
        show -9223372036854775808 ≤ 0 + pat ⟨l1, x⟩ (LO + (i : Int)) + pat ⟨l2, y⟩ (LO + (i : Int)) ∧ 0 + pat ⟨l1, x⟩ (LO + (i : Int)) + pat ⟨l2, y⟩ (LO + (i : Int)) ≤ 9223372036854775807
        omega
      have hrr : IntRow w2.heap.size w4 (.slice (some ⟨g, 0, none⟩) N N) (listP (fun z => 0 + pat ⟨l1, x⟩ z + pat ⟨l2, y⟩ z) LO N) := rowI hr4 (listP_len _ _ _)
      obtain ⟨a5, c5, hv, hc5, hi5⟩ := hrr.readc hwf
      rw [listP_len] at hv hc5 hi5
      simp at hv
      obtain ⟨rfl, rfl⟩ := hv
      have HTD : Hid (tidyP LO (listP (fun z => 0 + pat ⟨l1, x⟩ z + pat ⟨l2, y⟩ z) LO N) = sumP ⟨l1, x⟩ 1 ⟨l2, y⟩) := Lib.hid (listP_tidy HTR.out (fun k hk => by
          rw [pat_low ⟨l1, x⟩ (by show k < l1; omega), pat_low ⟨l2, y⟩ (by show k < l2; omega)]; rfl) (fun k hk => by
          rw [pat_high ⟨l1, x⟩ (by show l1 + (x.length : Int) ≤ k; omega), pat_high ⟨l2, y⟩ (by show l2 + (y.length : Int) ≤ k; omega)]; rfl) (fun k => by
          rw [sum_pat, Int.one_mul, Int.zero_add]))
      have HA := Lib.hid (apart_in LO (listP (fun z => 0 + pat ⟨l1, x⟩ z + pat ⟨l2, y⟩ z) LO N) (some ⟨g, 0, none⟩) N N w4 hi5 (Nat.le_refl _) (by omega) (by omega) (by omega))
      clear hwf hrr hr4 hc5 hi5
      go_wp2_with fail
      refine HA.out.mono ?_
      rintro e w5 ⟨⟨v, rfl, hA⟩, hb5⟩
      have HB5 := Lib.hid (HB4.out.trans (hb5.mono (by omega)))
      have hs5 := hb5.size
      clear hb5 b0 b1
      rw [HTD.out] at hA
      have hss := HSZ.out
      rcases hA with ⟨hq, rfl⟩ | ⟨hq, a6, c6, rfl, hc6, hi6⟩
      · obtain ⟨rfl, hq0⟩ := told_zero HTR.out hq HPT.out
        have HQ0 := Lib.hid hq0
        clear hq hq0
        go_wp2_with fail
        refine (toldZ_any _).mono ?_
        rintro e w6 ⟨⟨v, rfl, hr⟩, hb6⟩
        obtain ⟨_, _, d0, d1, f0, f1⟩ := HC.out w6 (HB5.out.trans (hb6.mono (by omega)))
        have HR := Lib.hid hr
        have HB6 := Lib.hid (HBW.out.trans ((HB5.out.trans (hb6.mono (by omega))).mono HBW.out.size))
        obtain ⟨g4, gg, cap4, rfl, _⟩ := hr.shape
        clear hr hb6
        go_wp2
        refine bodyPost_ret (v := .tuple #[plV 0 (.slice g4 0 cap4), .bool true]) ?_ rfl ⟨⟨.slice g4 0 cap4, by rw [HQ0.out]; rfl, by rw [HQ0.out]; exact resRow2 (.int .i64 0) (.slice g4 0 cap4) HR.out (by omega)⟩, resBelow2 (.int .i64 0) (.slice g4 0 cap4) HB6.out⟩
        simp [results, Try.results42, go_sem, d0, d1, plV]
      · have HTO := Lib.hid (toldP_any (sumP ⟨l1, x⟩ 1 ⟨l2, y⟩).low (sumP ⟨l1, x⟩ 1 ⟨l2, y⟩).cs a6 c6 _ t w5 hi6 (by rw [fits_polyB HTR.out hq]; exact HPT.out))
        clear hi6
        go_wp2_with fail
        refine HTO.out.mono ?_
        rintro e w6 ⟨⟨v, rfl, hr⟩, hb6⟩
        obtain ⟨_, _, d0, d1, f0, f1⟩ := HC.out w6 (HB5.out.trans (hb6.mono (by omega)))
        have HR := Lib.hid hr
        have HB6 := Lib.hid (HBW.out.trans ((HB5.out.trans (hb6.mono (by omega))).mono HBW.out.size))
        obtain ⟨g4, gg, cap4, rfl, _⟩ := hr.shape
        clear hr hb6
        go_wp2
        refine bodyPost_ret (v := .tuple #[plV (doneP t (sumP ⟨l1, x⟩ 1 ⟨l2, y⟩)).low (.slice g4 (doneP t (sumP ⟨l1, x⟩ 1 ⟨l2, y⟩)).cs.length cap4), .bool t]) ?_ rfl ⟨⟨_, rfl, resRow2 (.int .i64 (doneP t (sumP ⟨l1, x⟩ 1 ⟨l2, y⟩)).low) (.slice g4 (doneP t (sumP ⟨l1, x⟩ 1 ⟨l2, y⟩)).cs.length cap4) HR.out (by omega)⟩, resBelow2 (.int .i64 (doneP t (sumP ⟨l1, x⟩ 1 ⟨l2, y⟩)).low) (.slice g4 (doneP t (sumP ⟨l1, x⟩ 1 ⟨l2, y⟩)).cs.length cap4) HB6.out⟩
        simp [results, Try.results42, go_sem, d0, d1, plV]

end Go.Proofs.Ytbbkpaledlbcmaa

/- How PolyAdd and the model's answer, for the law. -/

namespace Go.Proofs.Ytbbkpaledlbcmaa
open Go.RowKit

theorem addP_fit {w : World} {l1 l2 : Int} {x y : List Int} {a1 a2 : Option Addr} {n1 n2 : Nat} {b : Bool} {p : Pl} (_ : Ints w a1 n1 x) (_ : Ints w a2 n2 y) (_ : addPB ⟨l1, x⟩ ⟨l2, y⟩ = b) (hp : addP ⟨l1, x⟩ ⟨l2, y⟩ = p) : p.cs.length ≤ 200 := by
  unfold addP at hp
  refine doneP_len (fun h => ?_) hp
  unfold addPB at h
  simp only [Bool.and_eq_true] at h
  exact h.2.2
theorem sPolyAdd_law {l1 l2 : Int} {x y : List Int} {a1 a2 : Option Addr} {n1 n2 : Nat} {b : Bool} {pl : Int} {pc : List Int} {w : World} (h1 : Ints w a1 n1 x) (h2 : Ints w a2 n2 y) (hb : addPB ⟨l1, x⟩ ⟨l2, y⟩ = b) (hp : addP ⟨l1, x⟩ ⟨l2, y⟩ = ⟨pl, pc⟩) :
    Calls Try.prog 123 #[plV l1 (.slice a1 n1 n1), plV l2 (.slice a2 n2 n2)] w fun e w' => (∃ v, e = .returned (.tuple #[plV pl v, .bool b]) ∧ IntRow w.heap.size w' v pc) ∧ Below w.heap.size w w' := by
  have h := sPolyAdd_any l1 l2 x y a1 a2 n1 n2 n1 n2 _ _ b w h1 h2 (Nat.le_refl _) rfl rfl hb
  unfold addP at hp
  rwa [← hb, hp, hb] at h
theorem iPolyAdd_law {l1 l2 : Int} {x y : List Int} {a1 a2 : Option Addr} {n1 n2 : Nat} {b : Bool} {pl : Int} {pc : List Int} {w : World} (h1 : Ints w a1 n1 x) (h2 : Ints w a2 n2 y) (hb : addPB ⟨l1, x⟩ ⟨l2, y⟩ = b) (hp : addP ⟨l1, x⟩ ⟨l2, y⟩ = ⟨pl, pc⟩) :
    Calls Try.prog 42 #[plV l1 (.slice a1 n1 n1), plV l2 (.slice a2 n2 n2)] w fun e w' => (∃ v, e = .returned (.tuple #[plV pl v, .bool b]) ∧ IntRow w.heap.size w' v pc) ∧ Below w.heap.size w w' := by
  have h := iPolyAdd_any l1 l2 x y a1 a2 n1 n2 n1 n2 _ _ b w h1 h2 (Nat.le_refl _) (Nat.le_refl _) rfl rfl hb
  unfold addP at hp
  rwa [← hb, hp, hb] at h

end Go.Proofs.Ytbbkpaledlbcmaa

/- The program's totals: add and number. -/

namespace Go.Proofs.Ytbbkpaledlbcmaa
open Go.RowKit

theorem tdiv_parts (p : Int) : p.tdiv 1000000000 * 1000000000 + p.tmod 1000000000 = p ∧ -1000000000 < p.tmod 1000000000 ∧ p.tmod 1000000000 < 1000000000 := by
  have h1 := Int.mul_tdiv_add_tmod p 1000000000
  have h2 := Int.tmod_lt_of_pos p (show (0 : Int) < 1000000000 by omega)
  have h3 := Int.lt_tmod_of_pos p (show (0 : Int) < 1000000000 by omega)
  omega
theorem num_no {c r : Int} (h : inR (-1) 1 (c + r.tdiv 1000000000) = false) : coefIn (c * 1000000000 + r) = false := by
  have h1 := tdiv_parts r
  unfold inR at h
  simp only [Bool.and_eq_false_iff, decide_eq_false_iff_not] at h
  exact coefIn_no (by omega)
theorem num_yes {c r : Int} : (c + r.tdiv 1000000000) * 1000000000 + r.tmod 1000000000 = c * 1000000000 + r := by
  have h1 := tdiv_parts r
  omega

set_option maxHeartbeats 2000000 in
theorem number_any (c r : Int) (b : Bool) (w : World) (hc : -4000000000000000 ≤ c ∧ c ≤ 4000000000000000) (hr : -4000000000000000 ≤ r ∧ r ≤ 4000000000000000) (hb : inR (-1) 1 (c + r.tdiv 1000000000) = b) :
    Calls Try.prog 110 #[.agg #[.int .i64 c, .int .i64 r]] w fun e w' => e = .returned (.tuple #[.int .i64 (if b then c * 1000000000 + r else 0), .bool b]) ∧ Below w.heap.size w w' := by
  obtain ⟨q, hq⟩ : ∃ q, r.tdiv 1000000000 = q := ⟨_, rfl⟩
  obtain ⟨m, hm⟩ : ∃ m, r.tmod 1000000000 = m := ⟨_, rfl⟩
  have hp := tdiv_parts r
  rw [hq, hm] at hp
  obtain ⟨hp1, hp2, hp3⟩ := hp
  rw [hq] at hb
  have hw1 : IntKind.i64.wrap q = q := IntWalk.i64_in _ (by omega)
  have hw2 : IntKind.i64.wrap (c + q) = c + q := IntWalk.i64_in _ (by omega)
  have hbW : Below w.heap.size w (w.alloc (.cells #[.int .i64 c, .int .i64 r] 107)) := (Below.refl _ w).alloc (Nat.le_refl _) _
  have HBW := Lib.hid hbW
  have HB := Lib.hid hb
  clear hbW hb
  cases b with
  | false =>
    go_enter Try.func110, Try.ntmps110
    go_wp2_with fail
    refine (within_any (c + q) 1 false _ (by omega) (by omega) HB.out).mono ?_
    rintro e w1 ⟨rfl, rfl⟩
    go_wp2
    go_ret2
    exact ⟨rfl, HBW.out⟩
  | true =>
    have hx : -1 ≤ c + q ∧ c + q ≤ 1 := by have := HB.out; unfold inR at this; simpa using this
    obtain ⟨hx1, hx2⟩ := hx
    have hw3 : IntKind.i64.wrap ((c + q) * 1000000000) = (c + q) * 1000000000 := IntWalk.i64_in _ (by omega)
    have hw4 : IntKind.i64.wrap ((c + q) * 1000000000 + m) = (c + q) * 1000000000 + m := IntWalk.i64_in _ (by omega)
    have hs : (c + q) * 1000000000 + m = c * 1000000000 + r := by omega
    have HS := Lib.hid hs
    have HP := Lib.hid hp1
    clear hs hp1
    go_enter Try.func110, Try.ntmps110
    go_wp2_with fail
    refine (within_any (c + q) 1 true _ (by omega) (by omega) HB.out).mono ?_
    rintro e w1 ⟨rfl, rfl⟩
    go_wp2
    go_ret2
    exact ⟨by rw [HS.out]; rfl, HBW.out⟩

end Go.Proofs.Ytbbkpaledlbcmaa

/- The model's l6pProduct. -/

namespace Go.Proofs.Ytbbkpaledlbcmaa
open Go.RowKit

theorem conv_bound {x y : List Int} (hx : ∀ i, -1000000000 ≤ x.getD i 0 ∧ x.getD i 0 ≤ 1000000000) (hy : ∀ i, -1000000000 ≤ y.getD i 0 ∧ y.getD i 0 ≤ 1000000000) (i j : Nat) : -1000000000000000000 ≤ x.getD i 0 * y.getD j 0 ∧ x.getD i 0 * y.getD j 0 ≤ 1000000000000000000 := by
  obtain ⟨a1, a2⟩ := hx i
  obtain ⟨b1, b2⟩ := hy j
  generalize x.getD i 0 = a at a1 a2
  generalize y.getD j 0 = b at b1 b2
  have e1 := Int.mul_nonneg (show 0 ≤ 1000000000 - a by omega) (show 0 ≤ 1000000000 + b by omega)
  have e2 := Int.mul_nonneg (show 0 ≤ 1000000000 + a by omega) (show 0 ≤ 1000000000 - b by omega)
  have e3 := Int.mul_nonneg (show 0 ≤ 1000000000 - a by omega) (show 0 ≤ 1000000000 - b by omega)
  have e4 := Int.mul_nonneg (show 0 ≤ 1000000000 + a by omega) (show 0 ≤ 1000000000 + b by omega)
  rw [Int.sub_mul, Int.mul_add, Int.mul_add] at e1
  rw [Int.add_mul, Int.mul_sub, Int.mul_sub] at e2
  rw [Int.sub_mul, Int.mul_sub, Int.mul_sub] at e3
  rw [Int.add_mul, Int.mul_add, Int.mul_add] at e4
  omega
theorem tdiv_bound {p : Int} (h1 : -1000000000000000000 ≤ p) (h2 : p ≤ 1000000000000000000) : -1000000000 ≤ p.tdiv 1000000000 ∧ p.tdiv 1000000000 ≤ 1000000000 := by
  have := tdiv_parts p
  omega
/-- What the model's sum is held at. -/
theorem held_high {h l c : Int} (hs : h * 1000000000 + l = c) (hl : -1000000000 < l ∧ l < 1000000000) : (inR (-2) 2 h = true → Heldc (h * 1000000000 + l) c) ∧ (inR (-2) 2 h = false → Heldc (2 * 1000000000 + 0) c) := by
  refine ⟨fun _ => .inl hs, fun e => .inr ⟨by decide, ?_⟩⟩
  unfold inR at e
  simp only [Bool.and_eq_false_iff, decide_eq_false_iff_not] at e
  exact coefIn_no (by omega)
theorem convN_top {x y : List Int} {i m : Nat} (h : m = i + 1 ∨ m = x.length) (h1 : m ≤ i + 1) (h2 : m ≤ x.length) : convN x y i m = convN x y i x.length := by
  rcases h with rfl | rfl
  · have e := convN_stop x y i (x.length - (i + 1))
    rw [show i + 1 + (x.length - (i + 1)) = x.length by omega] at e
    exact e.symm
  · rfl
theorem held_set {os : List Int} {N k : Nat} (hl : os.length = k) (hk : k < N) (o : Int) : (intsV (os ++ List.replicate (N - k) 0)).set k (.int .i64 o) = intsV ((os ++ [o]) ++ List.replicate (N - (k + 1)) 0) := by
  unfold intsV
  rw [List.map_append, List.set_append_right _ _ (by rw [List.length_map, hl]; exact Nat.le_refl _), List.length_map, hl, Nat.sub_self, show N - k = (N - (k + 1)) + 1 by omega, List.replicate_succ, List.map_cons, List.set_cons_zero, List.map_append, List.map_append, List.append_assoc]
  rfl

theorem held_next {os : List Int} {k : Nat} {f : Nat → Int} {o : Int} (h : os.length = k ∧ (∀ j, j < k → Heldc (os.getD j 0) (f j)) ∧ ∀ z ∈ os, -4000000000000000000 ≤ z ∧ z ≤ 4000000000000000000) (ho : Heldc o (f k)) (hb : -4000000000000000000 ≤ o ∧ o ≤ 4000000000000000000) :
    (os ++ [o]).length = k + 1 ∧ (∀ j, j < k + 1 → Heldc ((os ++ [o]).getD j 0) (f j)) ∧ ∀ z ∈ os ++ [o], -4000000000000000000 ≤ z ∧ z ≤ 4000000000000000000 := by
  obtain ⟨h1, h2, h3⟩ := h
  refine ⟨by simp [h1], fun j hj => ?_, fun z hz => ?_⟩
  · by_cases e : j = k
    · subst e
      rw [List.getD_eq_getElem?_getD, List.getElem?_append_right (by omega), h1, Nat.sub_self]
      exact ho
    · rw [List.getD_eq_getElem?_getD, List.getElem?_append_left (by omega), ← List.getD_eq_getElem?_getD]
      exact h2 j (by omega)
  · rcases List.mem_append.1 hz with h | h
    · exact h3 z h
    · obtain rfl := List.mem_singleton.1 h
      exact hb

set_option maxRecDepth 100000 in
set_option maxHeartbeats 8000000 in
theorem l6pProduct_some (l1 l2 : Int) (x y : List Int) (a1 a2 : Option Addr) (c1 c2 n1 n2 : Nat) (w : World) (h1 : Ints w a1 n1 x) (h2 : Ints w a2 n2 y) (h01 : 0 < n1) (h02 : 0 < n2)
    (hl1 : -300 ≤ l1 ∧ l1 ≤ 300) (hl2 : -300 ≤ l2 ∧ l2 ≤ 300) (hn1 : n1 ≤ 200) (hn2 : n2 ≤ 200)
    (hx : ∀ i, -1000000000 ≤ x.getD i 0 ∧ x.getD i 0 ≤ 1000000000) (hy : ∀ i, -1000000000 ≤ y.getD i 0 ∧ y.getD i 0 ≤ 1000000000) :
    Calls Try.prog 192 #[plV l1 (.slice a1 n1 c1), plV l2 (.slice a2 n2 c2)] w fun e w' => (∃ v os, e = .returned (plV (tidyP (l1 + l2) os).low v) ∧ IntRow w.heap.size w' v (tidyP (l1 + l2) os).cs ∧ os.length = n1 + n2 - 1 ∧ (∀ i, i < os.length → Heldc (os.getD i 0) (convN x y i n1)) ∧ ∀ z ∈ os, -4000000000000000000 ≤ z ∧ z ≤ 4000000000000000000) ∧ Below w.heap.size w w' := by
  obtain ⟨i0, hi, hz0, hz1, hz2⟩ := info_parts infoInt
  obtain ⟨W, hW⟩ : ∃ W, ((w.alloc (.cells #[.int .i64 l1, .slice a1 n1 c1] 35)).alloc (.cells #[.int .i64 l2, .slice a2 n2 c2] 35)).alloc (.cells #[.int .i64 0, .slice none 0 0] 35) = W := ⟨_, rfl⟩
  obtain ⟨hbW, hsz⟩ := boxes3Below hW
  have HC : Hid (∀ w1, Below W.heap.size W w1 → _) := Lib.hid fun w1 (hg : Below W.heap.size W w1) => boxes3 hW hg
  have hC := boxes3 hW (Below.refl _ _)
  rw [← hW] at hC
  obtain ⟨⟨p0, p1⟩, ⟨q0, q1⟩, _⟩ := hC
  have H1 := Lib.hid (h1.below hbW)
  have H2 := Lib.hid (h2.below hbW)
  have HN1 := Lib.hid h1.len
  have HN2 := Lib.hid h2.len
  have HX := Lib.hid hx
  have HY := Lib.hid hy
  have HBW := Lib.hid hbW
  have HW := Lib.hid hW
  have HSZ := Lib.hid hsz
  have h01i : ¬ (n1 : Int) = 0 := by omega
  have h02i : ¬ (n2 : Int) = 0 := by omega
  have h01b : ((n1 : Int) == 0) = false := by simpa using h01i
  have h02b : ((n2 : Int) == 0) = false := by simpa using h02i
  obtain ⟨N, hN⟩ : ∃ N, n1 + n2 - 1 = N := ⟨_, rfl⟩
  have hwa : IntKind.i64.wrap ((n1 : Int) + (n2 : Int)) = (n1 : Int) + (n2 : Int) := IntWalk.i64_in _ (by omega)
  have hwb : IntKind.i64.wrap ((n1 : Int) + (n2 : Int) - 1) = (N : Int) := by rw [IntWalk.i64_in _ (by omega)]; omega
  have hNb : N ≤ 400 := by omega
  clear hW hbW h1 h2 hx hy hsz
  go_enter Try.func192, Try.ntmps192
  go_upto_if 20 with fail
  rw [HW.out]
  clear p0 p1 q0 q1
  obtain ⟨⟨p0, p1⟩, ⟨q0, q1⟩, _⟩ := HC.out W (Below.refl _ _)
  go_wp2_with (at_make; refine wpList_make_full _ rfl _ _ 33 rfl W.heap.size 3 i0 (.int .i64 0) 1 Try.underlying33 hi hz0 hz1 .i64 .i64 _ _ N rfl rfl rfl rfl (by rw [hz2]; omega) (by unfold maxLen; omega) (Nat.le_refl _) ?_; intro w1 hrow hgrow)
  rw [made_zero 0 N, listP_zero] at hrow
  have HR1 : Hid (w1.ownsRow W.heap.size 3 1 (.slice (some ⟨W.heap.size, 0, none⟩) N N) N (intsV ([] ++ List.replicate (N - 0) 0))) := Lib.hid hrow
  have HB1 : Hid (Below W.heap.size W w1) := Lib.hid ((Below.refl _ _).grown hgrow (Nat.le_refl _) (fun k e => by cases e))
  clear hrow hgrow hwa hwb p0 p1 q0 q1
  obtain ⟨⟨p0, p1⟩, ⟨q0, q1⟩, _⟩ := HC.out w1 HB1.out
  go_loopw [6, 7, 8, 9, 10] (fun i _ _ _ _ wr => ∃ (k : Nat) (os : List Int), k ≤ N ∧ i = .int .i64 (k : Int) ∧ Hid (os.length = k ∧ (∀ j, j < k → Heldc (os.getD j 0) (convN x y j n1)) ∧ ∀ z ∈ os, -4000000000000000000 ≤ z ∧ z ≤ 4000000000000000000) ∧ Hid (wr.ownsRow W.heap.size 3 1 (.slice (some ⟨W.heap.size, 0, none⟩) N N) N (intsV (os ++ List.replicate (N - k) 0))) ∧ Hid (Below W.heap.size W wr)) (fun i _ _ _ _ _ => N - (intOf i).toNat)
  case atStart => exact ⟨0, [], Nat.zero_le _, rfl, Lib.hid ⟨rfl, fun j h => absurd h (Nat.not_lt_zero _), fun z h => by cases h⟩, HR1, HB1⟩
  case round =>
    obtain ⟨k, os, hk, rfl, HO, HR, HB⟩ := hrel
    clear p0 p1 q0 q1
    obtain ⟨⟨p0, p1⟩, ⟨q0, q1⟩, _⟩ := HC.out wr HB.out
    by_cases hlt : k < N
    · have hki : (k : Int) < (N : Int) := by omega
      obtain ⟨K0, hK0⟩ : ∃ K0, k + 1 - n2 = K0 := ⟨_, rfl⟩
      have hw1 : IntKind.i64.wrap ((k : Int) - (n2 : Int)) = (k : Int) - (n2 : Int) := IntWalk.i64_in _ (by omega)
      have hw2 : IntKind.i64.wrap ((k : Int) - (n2 : Int) + 1) = (k : Int) - (n2 : Int) + 1 := IntWalk.i64_in _ (by omega)
      have hmax : ∀ V : World, (Builtin.max_ #[3, 3] 3 #[.int .i64 0, .int .i64 ((k : Int) - (n2 : Int) + 1)]).run Try.prog V = .ok (.int .i64 (K0 : Int)) V := fun V => by
        rw [max_int]
        congr 2
        split <;> omega
      have hK1 : K0 ≤ k + 1 := by omega
      have hK2 : K0 ≤ n1 := by omega
      have HC0 : Hid (convN x y k K0 = 0) := Lib.hid (by
        by_cases h0 : K0 = 0
        · rw [h0]; rfl
        · exact convN_from x y k K0 (by rw [HN2.out]; omega))
      have HK0 := Lib.hid hK0
      clear hK0
      go_wp2
      clear hw1 hw2 hmax p0 p1 q0 q1
      go_loopw [7, 8, 9, 10] (fun h l m _ wi => ∃ (m' : Nat) (H Lo : Int), K0 ≤ m' ∧ m' ≤ k + 1 ∧ m' ≤ n1 ∧ m = .int .i64 (m' : Int) ∧ h = .int .i64 H ∧ l = .int .i64 Lo ∧ Hid (H * 1000000000 + Lo = convN x y k m') ∧ -1000000000 * (m' : Int) ≤ H ∧ H ≤ 1000000000 * (m' : Int) ∧ -1000000000 * (m' : Int) ≤ Lo ∧ Lo ≤ 1000000000 * (m' : Int) ∧ Hid (wi.ownsRow W.heap.size 3 1 (.slice (some ⟨W.heap.size, 0, none⟩) N N) N (intsV (os ++ List.replicate (N - k) 0))) ∧ Hid (Below W.heap.size W wi)) (fun _ _ m _ _ => k + 1 - (intOf m).toNat)
      case atStart => exact ⟨K0, 0, 0, Nat.le_refl _, hK1, hK2, rfl, rfl, rfl, Lib.hid (by rw [HC0.out]; rfl), by omega, by omega, by omega, by omega, HR, HB⟩
      case round =>
        obtain ⟨m, H, Lo, hm0', hm1, hm2, rfl, rfl, rfl, HS, hH1, hH2, hL1, hL2, HRi, HBi⟩ := hrel
        obtain ⟨⟨p0, p1⟩, ⟨q0, q1⟩, _⟩ := HC.out _ HBi.out
        by_cases hgo : m ≤ k ∧ m < n1
        · obtain ⟨hmk, hmn⟩ := hgo
          have hmki : (m : Int) ≤ (k : Int) := by omega
          have hmni : (m : Int) < (n1 : Int) := by omega
          have hm0 : (0 : Int) ≤ (m : Int) := by omega
          obtain ⟨d, hd⟩ : ∃ d, k - m = d := ⟨_, rfl⟩
          have hdn : d < n2 := by have := HK0.out; omega
          have hdi : (d : Int) < (n2 : Int) := by omega
          have hd0 : (0 : Int) ≤ (d : Int) := by omega
          have hwd : IntKind.i64.wrap ((k : Int) - (m : Int)) = (d : Int) := by rw [IntWalk.i64_in _ (by omega)]; omega
          obtain ⟨xa, rfl, hxb, hxc⟩ := (H1.out.below HBi.out).at_ (by omega)
          obtain ⟨ya, rfl, hyb, hyc⟩ := (H2.out.below HBi.out).at_ (by omega)
          have hkx : m < x.length := by rw [HN1.out]; exact hmn
          have hky : d < y.length := by rw [HN2.out]; exact hdn
          obtain ⟨u, hu⟩ : ∃ u, x.getD m 0 = u := ⟨_, rfl⟩
          obtain ⟨v, hv⟩ : ∃ v, y.getD d 0 = v := ⟨_, rfl⟩
          have hcu := hxc m hkx
          have hcv := hyc d hky
          rw [show x[m] = u by rw [← hu, List.getD_eq_getElem?_getD, List.getElem?_eq_getElem hkx]; rfl] at hcu
          rw [show y[d] = v by rw [← hv, List.getD_eq_getElem?_getD, List.getElem?_eq_getElem hky]; rfl] at hcv
          have hpb := conv_bound HX.out HY.out m d
          rw [hu, hv] at hpb
          obtain ⟨p, hp⟩ : ∃ p, u * v = p := ⟨_, rfl⟩
          rw [hp] at hpb
          obtain ⟨hp1, hp2⟩ := hpb
          have htb := tdiv_bound hp1 hp2
          have htp := tdiv_parts p
          obtain ⟨q, hq⟩ : ∃ q, p.tdiv 1000000000 = q := ⟨_, rfl⟩
          obtain ⟨r, hr⟩ : ∃ r, p.tmod 1000000000 = r := ⟨_, rfl⟩
          rw [hq] at htb htp
          rw [hr] at htp
          obtain ⟨hq1, hq2⟩ := htb
          obtain ⟨hqr, hr1, hr2⟩ := htp
          have hwp : IntKind.i64.wrap (u * v) = p := by rw [hp]; exact IntWalk.i64_in _ (by omega)
          have hwq : IntKind.i64.wrap q = q := IntWalk.i64_in _ (by omega)
          have hwH : IntKind.i64.wrap (H + q) = H + q := IntWalk.i64_in _ (by omega)
          have hwL : IntKind.i64.wrap (Lo + r) = Lo + r := IntWalk.i64_in _ (by omega)
          have HS2 : Hid ((H + q) * 1000000000 + (Lo + r) = convN x y k (m + 1)) := Lib.hid (by
            rw [convN, if_pos hmk, hd, hu, hv, hp, ← HS.out]
            omega)
          clear hu hv hxc hyc hp hd hqr hxb hyb
          go_wp2
          go_quiet (fail)
          go_wp2
          go_roundw
          case rel => exact ⟨m + 1, H + q, Lo + r, by omega, by omega, by omega, by go_num, rfl, rfl, HS2, by omega, by omega, by omega, by omega, Lib.hid (rowPast HRi.out (below_drewN (Below.refl _ _) _)), Lib.hid (below_drewN HBi.out _)⟩
          case measure => simp [intOf]; omega
        · have HTOP := Lib.hid (convN_top (x := x) (y := y) (i := k) (m := m) (by rw [HN1.out]; omega) hm1 (by rw [HN1.out]; exact hm2))
          have hstop : ¬ ((m : Int) ≤ (k : Int)) ∨ ((m : Int) ≤ (k : Int) ∧ ¬ (m : Int) < (n1 : Int)) := by omega
          have htp := tdiv_parts Lo
          obtain ⟨q, hq⟩ : ∃ q, Lo.tdiv 1000000000 = q := ⟨_, rfl⟩
          obtain ⟨r, hr⟩ : ∃ r, Lo.tmod 1000000000 = r := ⟨_, rfl⟩
          rw [hq, hr] at htp
          obtain ⟨hqr, hr1, hr2⟩ := htp
          have hwq : IntKind.i64.wrap q = q := IntWalk.i64_in _ (by omega)
          have hwH : IntKind.i64.wrap (H + q) = H + q := IntWalk.i64_in _ (by omega)
          have hos := HO.out.1
          have hck : wr.cell? ⟨W.heap.size, k, none⟩ = some (.int .i64 0) := by
            rw [HRi.out.cellAt _ (by omega)]
            simp only [intsV, List.getElem?_map]
            rw [List.getElem?_append_right (by rw [hos]; exact Nat.le_refl _), hos, Nat.sub_self, List.getElem?_replicate, if_pos (by omega)]
            rfl
          have hfk := HRi.out.frozenAt k
          have hk0 : (0 : Int) ≤ (k : Int) := by omega
          have hsum : (H + q) * 1000000000 + r = convN x y k n1 := by
            have h1 := HS.out
            rw [HTOP.out, HN1.out] at h1
            omega
          obtain ⟨b, hb⟩ : ∃ b, inR (-2) 2 (H + q) = b := ⟨_, rfl⟩
          have hheld := held_high hsum ⟨hr1, hr2⟩
          rw [hb] at hheld
          have HB2 := Lib.hid hb
          have HHE := Lib.hid hheld
          have HOO := HO
          clear hsum hheld hqr hos hb hH1 hH2 hL1 hL2
          have hstopd : (decide ((m : Int) ≤ (k : Int)) && decide ((m : Int) < (n1 : Int))) = false := by
            rcases hstop with h | ⟨_, h⟩
            · rw [decide_eq_false h]; rfl
            · rw [decide_eq_false h, Bool.and_false]
          cases b with
          | true =>
            have hin : -2 ≤ H + q ∧ H + q ≤ 2 := by have := HB2.out; unfold inR at this; simpa using this
            obtain ⟨hin1, hin2⟩ := hin
            have hwm : IntKind.i64.wrap ((H + q) * 1000000000) = (H + q) * 1000000000 := IntWalk.i64_in _ (by omega)
            have hws : IntKind.i64.wrap ((H + q) * 1000000000 + r) = (H + q) * 1000000000 + r := IntWalk.i64_in _ (by omega)
            have hob : -4000000000000000000 ≤ (H + q) * 1000000000 + r ∧ (H + q) * 1000000000 + r ≤ 4000000000000000000 := by omega
            have hhe := HHE.out.1 rfl
            have HOB := Lib.hid hob
            have HH := Lib.hid hhe
            clear hob hhe
            rcases hstop with hs1 | ⟨hs1, hs2⟩
            · have hs1d : decide ((m : Int) ≤ (k : Int)) = false := decide_eq_false hs1
              go_wp2_with fail
              refine (l6In_eq _ _ _ true _ HB2.out).mono ?_
              rintro e w2 ⟨rfl, rfl⟩
              go_wp2
              go_roundw
              case rel => exact ⟨k + 1, os ++ [(H + q) * 1000000000 + r], by omega, by go_num, Lib.hid (held_next HO.out HH.out HOB.out), Lib.hid (by rw [← held_set HO.out.1 hlt ((H + q) * 1000000000 + r)]; exact (HRi.out.stored k (.int .i64 ((H + q) * 1000000000 + r))).1), Lib.hid (HBi.out.setCell (p := ⟨W.heap.size, k, none⟩) (Nat.le_refl _) _)⟩
              case measure => simp [intOf]; omega
            · have hs2d : decide ((m : Int) < (n1 : Int)) = false := decide_eq_false hs2
              go_wp2_with fail
              refine (l6In_eq _ _ _ true _ HB2.out).mono ?_
              rintro e w2 ⟨rfl, rfl⟩
              go_wp2
              go_roundw
              case rel => exact ⟨k + 1, os ++ [(H + q) * 1000000000 + r], by omega, by go_num, Lib.hid (held_next HO.out HH.out HOB.out), Lib.hid (by rw [← held_set HO.out.1 hlt ((H + q) * 1000000000 + r)]; exact (HRi.out.stored k (.int .i64 ((H + q) * 1000000000 + r))).1), Lib.hid (HBi.out.setCell (p := ⟨W.heap.size, k, none⟩) (Nat.le_refl _) _)⟩
              case measure => simp [intOf]; omega
          | false =>
            have hhe : Heldc 2000000000 (convN x y k n1) := HHE.out.2 rfl
            have HH := Lib.hid hhe
            clear hhe
            rcases hstop with hs1 | ⟨hs1, hs2⟩
            · have hs1d : decide ((m : Int) ≤ (k : Int)) = false := decide_eq_false hs1
              go_wp2_with fail
              refine (l6In_eq _ _ _ false _ HB2.out).mono ?_
              rintro e w2 ⟨rfl, rfl⟩
              go_wp2
              go_roundw
              case rel => exact ⟨k + 1, os ++ [2000000000], by omega, by go_num, Lib.hid (held_next HO.out HH.out (by omega)), Lib.hid (by rw [← held_set HO.out.1 hlt 2000000000]; exact (HRi.out.stored k (.int .i64 2000000000)).1), Lib.hid (HBi.out.setCell (p := ⟨W.heap.size, k, none⟩) (Nat.le_refl _) _)⟩
              case measure => simp [intOf]; omega
            · have hs2d : decide ((m : Int) < (n1 : Int)) = false := decide_eq_false hs2
              go_wp2_with fail
              refine (l6In_eq _ _ _ false _ HB2.out).mono ?_
              rintro e w2 ⟨rfl, rfl⟩
              go_wp2
              go_roundw
              case rel => exact ⟨k + 1, os ++ [2000000000], by omega, by go_num, Lib.hid (held_next HO.out HH.out (by omega)), Lib.hid (by rw [← held_set HO.out.1 hlt 2000000000]; exact (HRi.out.stored k (.int .i64 2000000000)).1), Lib.hid (HBi.out.setCell (p := ⟨W.heap.size, k, none⟩) (Nat.le_refl _) _)⟩
              case measure => simp [intOf]; omega
    · obtain rfl : k = N := by omega
      have hr := HR.out
      rw [Nat.sub_self, List.replicate_zero, List.append_nil] at hr
      obtain ⟨ho1, ho2, ho3⟩ := HO.out
      have hrr : IntRow W.heap.size wr (.slice (some ⟨W.heap.size, 0, none⟩) k k) os := rowI hr ho1
      obtain ⟨a3, c3, hv, hc3, hi3⟩ := hrr.readc (fun z hz => by have := ho3 z hz; omega)
      rw [ho1] at hv hc3 hi3
      simp at hv
      obtain ⟨rfl, rfl⟩ := hv
      have hwl : IntKind.i64.wrap (l1 + l2) = l1 + l2 := IntWalk.i64_in _ (by omega)
      have HT := Lib.hid (l6pTidy_any (l1 + l2) os (some ⟨W.heap.size, 0, none⟩) k k wr hi3 (Nat.le_refl _) (by omega) (by omega) (by omega))
      have hsr := HB.out.size
      clear hr hrr hi3 hc3 ho1 ho2 ho3
      go_wp2_with fail
      refine HT.out.mono ?_
      rintro e w3 ⟨⟨v, rfl, hr⟩, hb3⟩
      obtain ⟨_, _, d0, d1, f0, f1⟩ := HC.out w3 (HB.out.trans (hb3.mono hsr))
      have HR3 := Lib.hid hr
      have HB3 := Lib.hid (HBW.out.trans ((HB.out.trans (hb3.mono hsr)).mono HBW.out.size))
      obtain ⟨g2, gg, cap3, rfl, _⟩ := hr.shape
      clear hr hb3
      go_wp2
      have hss := HSZ.out
      refine bodyPost_ret (v := plV (tidyP (l1 + l2) os).low (.slice g2 (tidyP (l1 + l2) os).cs.length cap3)) ?_ rfl ⟨⟨_, os, rfl, resRow2 (.int .i64 (tidyP (l1 + l2) os).low) (.slice g2 (tidyP (l1 + l2) os).cs.length cap3) HR3.out (by omega), by rw [HO.out.1]; exact hN.symm, fun i hi => HO.out.2.1 i (by rw [← HO.out.1]; exact hi), HO.out.2.2⟩, resBelow2 (.int .i64 (tidyP (l1 + l2) os).low) (.slice g2 (tidyP (l1 + l2) os).cs.length cap3) HB3.out⟩
      simp [results, Try.results192, go_sem, d0, d1, plV]

end Go.Proofs.Ytbbkpaledlbcmaa

/- The model's PolyTimes. -/

namespace Go.Proofs.Ytbbkpaledlbcmaa
open Go.RowKit

set_option maxRecDepth 100000 in
set_option maxHeartbeats 4000000 in
theorem l6pProduct_none (l1 l2 : Int) (a1 a2 : Option Addr) (c1 c2 n1 n2 : Nat) (w : World) (h0 : n1 = 0 ∨ n2 = 0) :
    Calls Try.prog 192 #[plV l1 (.slice a1 n1 c1), plV l2 (.slice a2 n2 c2)] w fun e w' => (∃ v, e = .returned (plV 0 v) ∧ IntRow w.heap.size w' v []) ∧ Below w.heap.size w w' := by
  obtain ⟨W, hW⟩ : ∃ W, ((w.alloc (.cells #[.int .i64 l1, .slice a1 n1 c1] 35)).alloc (.cells #[.int .i64 l2, .slice a2 n2 c2] 35)).alloc (.cells #[.int .i64 0, .slice none 0 0] 35) = W := ⟨_, rfl⟩
  obtain ⟨hbW, hsz⟩ := boxes3Below hW
  have hC := boxes3 hW (Below.refl _ _)
  have HC : Hid (∀ w1, Below W.heap.size W w1 → _) := Lib.hid fun w1 (hg : Below W.heap.size W w1) => boxes3 hW hg
  rw [← hW] at hC
  obtain ⟨⟨p0, p1⟩, ⟨q0, q1⟩, _⟩ := hC
  have HBW := Lib.hid hbW
  have HW := Lib.hid hW
  have HSZ := Lib.hid hsz
  have HM := Lib.hid (made_at W W.heap.size rfl W.heap.size (Nat.le_refl _))
  have HB1 := Lib.hid ((Below.refl W.heap.size W).alloc (Nat.le_refl _) (.cells #[] 3))
  clear hW hbW hsz
  go_enter Try.func192, Try.ntmps192
  by_cases h1 : n1 = 0
  · subst h1
    go_upto_if 20 with fail
    rw [HW.out]
    clear p0 p1 q0 q1
    obtain ⟨_, _, d0, d1, f0, f1⟩ := HC.out _ HB1.out
    go_wp2
    have hss := HSZ.out
    refine bodyPost_ret (v := plV 0 (.slice (some ⟨W.heap.size, 0, none⟩) 0 0)) ?_ rfl ⟨⟨_, rfl, resRow2 (.int .i64 0) (.slice (some ⟨W.heap.size, 0, none⟩) 0 0) HM.out (by omega)⟩, resBelow2 (.int .i64 0) (.slice (some ⟨W.heap.size, 0, none⟩) 0 0) (HBW.out.trans (HB1.out.mono HBW.out.size))⟩
    simp [results, Try.results192, go_sem, d0, d1, plV]
  · obtain rfl : n2 = 0 := h0.resolve_left h1
    have h1i : ¬ (n1 : Int) = 0 := by omega
    have h1b : ((n1 : Int) == 0) = false := by simpa using h1
    go_upto_if 20 with fail
    rw [HW.out]
    clear p0 p1 q0 q1
    obtain ⟨_, _, d0, d1, f0, f1⟩ := HC.out _ HB1.out
    go_wp2
    have hss := HSZ.out
    refine bodyPost_ret (v := plV 0 (.slice (some ⟨W.heap.size, 0, none⟩) 0 0)) ?_ rfl ⟨⟨_, rfl, resRow2 (.int .i64 0) (.slice (some ⟨W.heap.size, 0, none⟩) 0 0) HM.out (by omega)⟩, resBelow2 (.int .i64 0) (.slice (some ⟨W.heap.size, 0, none⟩) 0 0) (HBW.out.trans (HB1.out.mono HBW.out.size))⟩
    simp [results, Try.results192, go_sem, d0, d1, plV]

theorem l6pProduct_any (l1 l2 : Int) (x y : List Int) (a1 a2 : Option Addr) (c1 c2 n1 n2 : Nat) (w : World) (h1 : Ints w a1 n1 x) (h2 : Ints w a2 n2 y)
    (hl1 : -300 ≤ l1 ∧ l1 ≤ 300) (hl2 : -300 ≤ l2 ∧ l2 ≤ 300) (hn1 : n1 ≤ 200) (hn2 : n2 ≤ 200)
    (hx : ∀ i, -1000000000 ≤ x.getD i 0 ∧ x.getD i 0 ≤ 1000000000) (hy : ∀ i, -1000000000 ≤ y.getD i 0 ∧ y.getD i 0 ≤ 1000000000) :
    Calls Try.prog 192 #[plV l1 (.slice a1 n1 c1), plV l2 (.slice a2 n2 c2)] w fun e w' => (∃ v q, e = .returned (plV q.low v) ∧ IntRow w.heap.size w' v q.cs ∧ (q = prodP ⟨l1, x⟩ ⟨l2, y⟩ ∨ (polyB q = false ∧ polyB (prodP ⟨l1, x⟩ ⟨l2, y⟩) = false)) ∧ q.cs.length ≤ 400 ∧ ∀ z ∈ q.cs, -9223372036854775808 ≤ z ∧ z ≤ 9223372036854775807) ∧ Below w.heap.size w w' := by
  have e1 := h1.len
  have e2 := h2.len
  by_cases h0 : n1 = 0 ∨ n2 = 0
  · have e : prodP ⟨l1, x⟩ ⟨l2, y⟩ = ⟨0, []⟩ := by
      unfold prodP
      exact if_pos (by show x.length = 0 ∨ y.length = 0; rw [e1, e2]; exact h0)
    refine (l6pProduct_none l1 l2 a1 a2 c1 c2 n1 n2 w h0).mono ?_
    rintro e3 w1 ⟨⟨v, rfl, hr⟩, hb⟩
    exact ⟨⟨v, ⟨0, []⟩, rfl, hr, .inl e.symm, Nat.zero_le _, fun z hz => by cases hz⟩, hb⟩
  · refine (l6pProduct_some l1 l2 x y a1 a2 c1 c2 n1 n2 w h1 h2 (by omega) (by omega) hl1 hl2 hn1 hn2 hx hy).mono ?_
    rintro e3 w1 ⟨⟨v, os, rfl, hr, hol, hoh, hob⟩, hb⟩
    have e : prodP ⟨l1, x⟩ ⟨l2, y⟩ = tidyP (l1 + l2) (convL x y) := by
      unfold prodP
      exact if_neg (by show ¬ (x.length = 0 ∨ y.length = 0); rw [e1, e2]; exact h0)
    refine ⟨⟨v, tidyP (l1 + l2) os, rfl, hr, ?_, ?_, fun z hz => ?_⟩, hb⟩
    · rw [e]
      refine held_lists (l1 + l2) (by rw [hol, convL_len, e1, e2]) fun i hi => ?_
      rw [convL_len] at hi
      rw [convL_get x y i hi, e1]
      exact hoh i (by rw [hol]; omega)
    · have := tidy_len (l1 + l2) os
      omega
    · rcases tidy_mem hz with rfl | h
      · omega
      · have := hob z h
        omega

def timesPB (a b : Pl) : Bool := polyB a && (polyB b && polyB (prodP a b))
def timesP (a b : Pl) : Pl := doneP (timesPB a b) (prodP a b)

set_option maxRecDepth 100000 in
set_option maxHeartbeats 4000000 in
theorem sPolyTimes_any (l1 l2 : Int) (x y : List Int) (a1 a2 : Option Addr) (c1 c2 n1 n2 : Nat) (ba bb t : Bool) (w : World) (h1 : Ints w a1 n1 x) (h2 : Ints w a2 n2 y)
    (hba : polyB ⟨l1, x⟩ = ba) (hbb : polyB ⟨l2, y⟩ = bb) (ht : (ba && (bb && polyB (prodP ⟨l1, x⟩ ⟨l2, y⟩))) = t) :
    Calls Try.prog 160 #[plV l1 (.slice a1 n1 c1), plV l2 (.slice a2 n2 c2)] w fun e w' => (∃ v, e = .returned (.tuple #[plV (doneP t (prodP ⟨l1, x⟩ ⟨l2, y⟩)).low v, .bool t]) ∧ IntRow w.heap.size w' v (doneP t (prodP ⟨l1, x⟩ ⟨l2, y⟩)).cs) ∧ Below w.heap.size w w' := by
  obtain ⟨W, hW⟩ : ∃ W, ((w.alloc (.cells #[.int .i64 l1, .slice a1 n1 c1] 35)).alloc (.cells #[.int .i64 l2, .slice a2 n2 c2] 35)).alloc (.cells #[.int .i64 0, .slice none 0 0] 35) = W := ⟨_, rfl⟩
  obtain ⟨hbW, hsz⟩ := boxes3Below hW
  have HC : Hid (∀ w1, Below W.heap.size W w1 → _) := Lib.hid fun w1 (hg : Below W.heap.size W w1) => boxes3 hW hg
  have hC := boxes3 hW (Below.refl _ _)
  rw [← hW] at hC
  obtain ⟨⟨p0, p1⟩, ⟨q0, q1⟩, _⟩ := hC
  have H1 := Lib.hid (h1.below hbW)
  have H2 := Lib.hid (h2.below hbW)
  have HBA := Lib.hid hba
  have HBB := Lib.hid hbb
  have HN1 := Lib.hid h1.len
  have HN2 := Lib.hid h2.len
  have HBW := Lib.hid hbW
  have HW := Lib.hid hW
  have HSZ := Lib.hid hsz
  have HT := Lib.hid ht
  clear hW hbW h1 h2 hba hbb hsz ht
  go_enter Try.func160, Try.ntmps160
  go_wp2_with fail
  rw [HW.out]
  clear p0 p1 q0 q1
  refine (sPolyIn_any l1 x a1 c1 n1 ba W H1.out HBA.out).mono ?_
  rintro e w1 ⟨rfl, hb1⟩
  have HB1 := Lib.hid hb1
  obtain ⟨⟨p0, p1⟩, ⟨q0, q1⟩, d0, d1, f0, f1⟩ := HC.out w1 hb1
  have hs1 := hb1.size
  clear hb1
  cases ba with
  | false =>
    obtain rfl : t = false := by rw [← HT.out]; rfl
    go_wp2_with fail
    refine (l6pNone_any _).mono ?_
    rintro e w2 ⟨⟨v, rfl, hr⟩, hb2⟩
    obtain ⟨_, _, d0, d1, f0, f1⟩ := HC.out w2 (HB1.out.trans (hb2.mono hs1))
    have HR := Lib.hid hr
    have HB2 := Lib.hid (HBW.out.trans ((HB1.out.trans (hb2.mono hs1)).mono HBW.out.size))
    obtain ⟨g1, gg, cap1, rfl, _⟩ := hr.shape
    clear hr hb2
    go_wp2
    have hss := HSZ.out
    refine bodyPost_ret (v := .tuple #[plV 0 (.slice g1 0 cap1), .bool false]) ?_ rfl ⟨⟨_, rfl, resRow2 (.int .i64 0) (.slice g1 0 cap1) HR.out (by omega)⟩, resBelow2 (.int .i64 0) (.slice g1 0 cap1) HB2.out⟩
    simp [results, Try.results160, go_sem, d0, d1, plV]
  | true =>
    go_wp2_with fail
    refine (sPolyIn_any l2 y a2 c2 n2 bb w1 (H2.out.below HB1.out) HBB.out).mono ?_
    rintro e w2 ⟨rfl, hb2⟩
    have HB2 := Lib.hid (HB1.out.trans (hb2.mono hs1))
    have hs2 := HB2.out.size
    clear hb2 p0 p1 q0 q1 d0 d1 f0 f1
    obtain ⟨⟨p0, p1⟩, ⟨q0, q1⟩, d0, d1, f0, f1⟩ := HC.out w2 HB2.out
    cases bb with
    | false =>
      obtain rfl : t = false := by rw [← HT.out]; rfl
      go_wp2_with fail
      refine (l6pNone_any _).mono ?_
      rintro e w3 ⟨⟨v, rfl, hr⟩, hb3⟩
      clear d0 d1 f0 f1
      obtain ⟨_, _, d0, d1, f0, f1⟩ := HC.out w3 (HB2.out.trans (hb3.mono hs2))
      have HR := Lib.hid hr
      have HB3 := Lib.hid (HBW.out.trans ((HB2.out.trans (hb3.mono hs2)).mono HBW.out.size))
      obtain ⟨g1, gg, cap1, rfl, _⟩ := hr.shape
      clear hr hb3
      go_wp2
      have hss := HSZ.out
      refine bodyPost_ret (v := .tuple #[plV 0 (.slice g1 0 cap1), .bool false]) ?_ rfl ⟨⟨_, rfl, resRow2 (.int .i64 0) (.slice g1 0 cap1) HR.out (by omega)⟩, resBelow2 (.int .i64 0) (.slice g1 0 cap1) HB3.out⟩
      simp [results, Try.results160, go_sem, d0, d1, plV]
    | true =>
      obtain ⟨_, hx200, hxl1, hxl2, hxc⟩ := polyB_trim HBA.out
      obtain ⟨_, hy200, hyl1, hyl2, hyc⟩ := polyB_trim HBB.out
      have hx200 : x.length ≤ 200 := hx200
      have hy200 : y.length ≤ 200 := hy200
      have hxl1 : -300 ≤ l1 := hxl1
      have hxl2 : l1 ≤ 300 := hxl2
      have hyl1 : -300 ≤ l2 := hyl1
      have hyl2 : l2 ≤ 300 := hyl2
      have hxc : ∀ i, -1000000000 ≤ x.getD i 0 ∧ x.getD i 0 ≤ 1000000000 := hxc
      have hyc : ∀ i, -1000000000 ≤ y.getD i 0 ∧ y.getD i 0 ≤ 1000000000 := hyc
      have hx1 := HN1.out
      have hx2 := HN2.out
      have HS := Lib.hid (l6pProduct_any l1 l2 x y a1 a2 c1 c2 n1 n2 w2 (H1.out.below HB2.out) (H2.out.below HB2.out) (by omega) (by omega) (by omega) (by omega) hxc hyc)
      clear hxc hyc hx1 hx2
      go_wp2_with fail
      refine HS.out.mono ?_
      rintro e w3 ⟨⟨v, q, rfl, hr3, hq, hql, hqw⟩, hb3⟩
      obtain ⟨a3, c3, rfl, hc3, hi3⟩ := hr3.readc hqw
      obtain ⟨hd1, hd2⟩ := held_done hq
      have HB3 := Lib.hid (HB2.out.trans (hb3.mono hs2))
      have hs3 := HB3.out.size
      have hpt : polyB q = t := by have := HT.out; rw [Bool.true_and, Bool.true_and] at this; rw [hd1]; exact this
      have HDQ : Hid (doneP t q = doneP t (prodP ⟨l1, x⟩ ⟨l2, y⟩)) := Lib.hid (by rw [← hpt, hd2, hd1])
      clear hr3 hq hqw hd1 hd2
      have HD := Lib.hid (l6pDone_any q.low q.cs a3 c3 _ t w3 hi3 (by omega) hpt)
      clear hb3 hi3 hpt
      go_wp2_with fail
      refine HD.out.mono ?_
      rintro e w4 ⟨⟨v, rfl, hr⟩, hb4⟩
      rw [show (⟨q.low, q.cs⟩ : Pl) = q from rfl, HDQ.out] at hr ⊢
      clear d0 d1 f0 f1
      obtain ⟨_, _, d0, d1, f0, f1⟩ := HC.out w4 (HB3.out.trans (hb4.mono hs3))
      have HR := Lib.hid hr
      have HB4 := Lib.hid (HBW.out.trans ((HB3.out.trans (hb4.mono hs3)).mono HBW.out.size))
      obtain ⟨g1, gg, cap1, rfl, _⟩ := hr.shape
      clear hr hb4
      go_wp2
      have hss := HSZ.out
      refine bodyPost_ret (v := .tuple #[plV (doneP t (prodP ⟨l1, x⟩ ⟨l2, y⟩)).low (.slice g1 (doneP t (prodP ⟨l1, x⟩ ⟨l2, y⟩)).cs.length cap1), .bool t]) ?_ rfl ⟨⟨_, rfl, resRow2 (.int .i64 (doneP t (prodP ⟨l1, x⟩ ⟨l2, y⟩)).low) (.slice g1 (doneP t (prodP ⟨l1, x⟩ ⟨l2, y⟩)).cs.length cap1) HR.out (by omega)⟩, resBelow2 (.int .i64 (doneP t (prodP ⟨l1, x⟩ ⟨l2, y⟩)).low) (.slice g1 (doneP t (prodP ⟨l1, x⟩ ⟨l2, y⟩)).cs.length cap1) HB4.out⟩
      simp [results, Try.results160, go_sem, d0, d1, plV]

end Go.Proofs.Ytbbkpaledlbcmaa

/- A law's answer from two polynomials: a region that draws its order, makes memory and lays a box. -/

namespace Go.Proofs.Ytbbkpaledlbcmaa
open Go.RowKit

theorem ints_on {w c c' : World} {a : Option Addr} {n : Nat} {zs : List Int} (h : Ints w a n zs) (hw : Below w.heap.size w c) (hx : Below c.heap.size c c') : Ints c' a n zs := h.below (hw.trans (hx.mono hw.size))
theorem rowSet {w : World} {base j o : Nat} {v x : Value} {zs : List Int} (h : IntRow base w v zs) (hj : ∀ k, v.ownBlock = some k → j < k) : IntRow base (w.setCell ⟨j, o, none⟩ x) v zs := by
  unfold IntRow at h ⊢
  have h' := h
  rcases h.2 with ⟨rfl, h0⟩ | ⟨g, cap, cur, rfl, hb, _⟩
  · exact ⟨h.1, .inl ⟨rfl, h0⟩⟩
  · exact ownsRow_base (ownsRow_setCell_below (own_raise h') (a := ⟨j, o, none⟩) (hj g rfl) x) hb
/-- The answer (p, b) lies in a box, its coefficients in memory of their own. -/
def AnsMk (w wx : World) (s1 s2 : Value) (pl : Int) (pc : List Int) (L : Nat) (b : Bool) : Prop :=
  ∃ (j : Nat) (a : Option Addr) (c : Nat), s1 = .pointer (some ⟨j, 0, none⟩) ∧ s2 = .bool b ∧ BoxAt wx j (.int .i64 pl) (.slice a L c) ∧ w.heap.size ≤ j ∧ IntRow w.heap.size wx (.slice a L c) pc ∧ (∀ k, (Value.slice a L c).ownBlock = some k → k ≠ j) ∧ Below w.heap.size w wx
theorem ansA {w V : World} {a : Option Addr} {L c base : Nat} {pl : Int} {pc : List Int} {b : Bool} (hB : Below w.heap.size w V) (hr : IntRow base V (.slice a L c) pc) (hb : w.heap.size ≤ base) :
    AnsMk w (V.alloc (.cells #[.int .i64 pl, .slice a L c] 35)) (.pointer (some ⟨V.heap.size, 0, none⟩)) (.bool b) pl pc L b :=
  ⟨V.heap.size, a, c, rfl, rfl, boxNew rfl, hB.size, (hr.mono hb).below ((Below.refl _ _).alloc (Nat.le_refl _) _), fun k e => by have := own_lt hr k e; omega, hB.alloc hB.size _⟩
theorem ansC {w V : World} {a : Option Addr} {L c base j : Nat} {pl : Int} {pc : List Int} {b : Bool} (hB : Below w.heap.size w V) (hr : IntRow base V (.slice a L c) pc) (hb : w.heap.size ≤ base) (hZ : BoxZ V j) (hj : w.heap.size ≤ j) (hn : ∀ k, (Value.slice a L c).ownBlock = some k → j < k) :
    AnsMk w ((V.setCell ⟨j, 0, none⟩ (.int .i64 pl)).setCell ⟨j, 1, none⟩ (.slice a L c)) (.pointer (some ⟨j, 0, none⟩)) (.bool b) pl pc L b :=
  ⟨j, a, c, rfl, rfl, hZ.fill, hj, rowSet (rowSet (hr.mono hb) hn) hn, fun k e => by have := hn k e; omega, (hB.setCell (p := ⟨j, 0, none⟩) hj _).setCell (p := ⟨j, 1, none⟩) hj _⟩
theorem below_drewAlloc {b : Nat} {w w1 w2 : World} {o : Obj} (h : Below b w w1) (hs : b ≤ w1.heap.size) (hb : Below (w1.alloc o).drew.heap.size (w1.alloc o).drew w2) : Below b w w2 :=
  ((h.alloc hs o).drew).trans (hb.mono (by show b ≤ (w1.alloc o).heap.size; rw [World.size_alloc]; omega))

end Go.Proofs.Ytbbkpaledlbcmaa

/- The program's total.add; the coefficients of a product, as the program's loops come to them. -/

namespace Go.Proofs.Ytbbkpaledlbcmaa
open Go.RowKit

theorem infoTotal : (Try.prog.info? 107).map (fun i => (i.zero, i.size, i.bytes)) = some (some (.agg #[.int .i64 0, .int .i64 0]), 2, 16) := by kernel_rfl

set_option maxRecDepth 100000 in
set_option maxHeartbeats 2000000 in
theorem totAdd_any (g o : Nat) (c r p q m : Int) (w : World) (h0 : w.cell? ⟨g, o, none⟩ = some (.int .i64 c)) (h1 : w.cell? ⟨g, o + 1, none⟩ = some (.int .i64 r)) (f0 : w.frozen? ⟨g, o, none⟩ = false) (f1 : w.frozen? ⟨g, o + 1, none⟩ = false)
    (hq : p.tdiv 1000000000 = q) (hm : p.tmod 1000000000 = m) (hcq : -9000000000000000000 ≤ c + q ∧ c + q ≤ 9000000000000000000) (hrm : -9000000000000000000 ≤ r + m ∧ r + m ≤ 9000000000000000000) (hqb : -9000000000000000000 ≤ q ∧ q ≤ 9000000000000000000) :
    Calls Try.prog 109 #[.pointer (some ⟨g, o, none⟩), .int .i64 p] w fun e w' => e = .returned (.tuple #[]) ∧ w' = (w.setCell ⟨g, o, none⟩ (.int .i64 (c + q))).setCell ⟨g, o + 1, none⟩ (.int .i64 (r + m)) := by
  have hw0 : IntKind.i64.wrap q = q := IntWalk.i64_in _ (by omega)
  have hw1 : IntKind.i64.wrap (c + q) = c + q := IntWalk.i64_in _ (by omega)
  have hw2 : IntKind.i64.wrap (r + m) = r + m := IntWalk.i64_in _ (by omega)
  have hx : (w.setCell ⟨g, o, none⟩ (.int .i64 (c + q))).cell? ⟨g, o + 1, none⟩ = some (.int .i64 r) := by rw [World.cell?_setCell_other]; exact h1; simp
  go_enter Try.func109, Try.ntmps109
  go_wp2
  go_end0
  exact ⟨rfl, rfl⟩

/-- What stands at place j when the first i coefficients have been taken with all others, and the next one with the first k. -/
def partN (x y : List Int) (i k j : Nat) : Int := convN x y j i + (if i ≤ j ∧ j - i < k then x.getD i 0 * y.getD (j - i) 0 else 0)
theorem part_zero (x y : List Int) (i j : Nat) : partN x y i 0 j = convN x y j i := by
  unfold partN
  rw [if_neg (by omega), Int.add_zero]
theorem part_all (x y : List Int) (i j : Nat) : partN x y i y.length j = convN x y j (i + 1) := by
  unfold partN
  rw [convN]
  by_cases h : i ≤ j
  · rw [if_pos h]
    by_cases h2 : j - i < y.length
    · rw [if_pos ⟨h, h2⟩]
    · rw [if_neg (fun e => h2 e.2), getD_far (l := y) (by omega), Int.mul_zero]
  · rw [if_neg h, if_neg (fun e => h e.1)]
theorem part_next {x y : List Int} {i k j : Nat} (h : j ≠ i + k) : partN x y i (k + 1) j = partN x y i k j := by
  unfold partN
  by_cases h1 : i ≤ j ∧ j - i < k
  · rw [if_pos h1, if_pos (by omega)]
  · rw [if_neg h1, if_neg (by omega)]
theorem part_here (x y : List Int) (i k : Nat) : partN x y i (k + 1) (i + k) = partN x y i k (i + k) + x.getD i 0 * y.getD k 0 := by
  unfold partN
  rw [if_pos (by omega), if_neg (by omega), Int.add_zero, show i + k - i = k by omega]
theorem conv_nil (x : List Int) (i : Nat) : ∀ m, convN x [] i m = 0
  | 0 => rfl
  | m + 1 => by
    rw [convN, conv_nil x i m]
    split
    · simp
    · rfl
theorem prod_list (l1 l2 : Int) (x y : List Int) : tidyP (l1 + l2) (listN (fun j => convN x y j x.length) (x.length + y.length)) = prodP ⟨l1, x⟩ ⟨l2, y⟩ := by
  refine trim_unique (tidy_trim _ _) (prod_trim _ _) fun k => ?_
  unfold prodP
  by_cases h0 : x.length = 0 ∨ y.length = 0
  · rw [if_pos h0, tidy_pat, pat_nil]
    unfold pat
    split
    · show (listN _ _).getD _ 0 = 0
      generalize (k - (l1 + l2)).toNat = i
      by_cases hi : i < x.length + y.length
      · rw [listN_get hi]
        rcases h0 with h | h
        · rw [h]; rfl
        · rw [List.length_eq_zero_iff.1 h]; exact conv_nil x i _
      · exact getD_far (by rw [listN_len]; omega)
    · rfl
  · rw [if_neg h0, tidy_pat, tidy_pat]
    unfold pat
    show (if l1 + l2 ≤ k then (listN _ _).getD (k - (l1 + l2)).toNat 0 else 0) = if l1 + l2 ≤ k then (convL x y).getD (k - (l1 + l2)).toNat 0 else 0
    split
    · generalize (k - (l1 + l2)).toNat = i
      by_cases hi : i < x.length + y.length - 1
      · rw [listN_get (by omega), convL_get x y i hi]
      · rw [getD_far (l := convL x y) (by rw [convL_len]; omega)]
        by_cases hi2 : i < x.length + y.length
        · rw [listN_get hi2]
          exact convN_from x y i _ (by omega)
        · exact getD_far (by rw [listN_len]; omega)
    · rfl
theorem made_totals (n : Nat) : (madeCells (Value.cells (.agg #[.int .i64 0, .int .i64 0])) (n * 2)).toList = intsV (listN (fun _ => 0) (n * 2)) := by
  rw [show Value.cells (.agg #[.int .i64 0, .int .i64 0]) = #[.int .i64 0, .int .i64 0] from rfl]
  refine List.ext_getElem (by simp [madeCells, intsV, listN]) fun j h1 h2 => ?_
  have hj : j < n * 2 := by simpa [madeCells] using h1
  rcases Nat.mod_two_eq_zero_or_one j with h | h <;> simp [madeCells, intsV, listN, h]

end Go.Proofs.Ytbbkpaledlbcmaa

/- The program's PolyTimes. -/

namespace Go.Proofs.Ytbbkpaledlbcmaa
open Go.RowKit

set_option maxRecDepth 100000 in
set_option maxHeartbeats 8000000 in
theorem iPolyTimes_any (l1 l2 : Int) (x y : List Int) (a1 a2 : Option Addr) (c1 c2 n1 n2 : Nat) (ba bb t : Bool) (w : World) (h1 : Ints w a1 n1 x) (h2 : Ints w a2 n2 y) (hc1 : n1 ≤ c1) (hc2 : n2 ≤ c2)
    (hba : polyB ⟨l1, x⟩ = ba) (hbb : polyB ⟨l2, y⟩ = bb) (ht : (ba && (bb && polyB (prodP ⟨l1, x⟩ ⟨l2, y⟩))) = t) :
    Calls Try.prog 38 #[plV l1 (.slice a1 n1 c1), plV l2 (.slice a2 n2 c2)] w fun e w' => (∃ v, e = .returned (.tuple #[plV (doneP t (prodP ⟨l1, x⟩ ⟨l2, y⟩)).low v, .bool t]) ∧ IntRow w.heap.size w' v (doneP t (prodP ⟨l1, x⟩ ⟨l2, y⟩)).cs) ∧ Below w.heap.size w w' := by
  obtain ⟨i0, hi, hz0, hz1, hz2⟩ := info_parts infoInt
  obtain ⟨it, hit, hit0, hit1, hit2⟩ := info_parts infoTotal
  have hzm := told_zm
  have hzn := told_zn
  have hpm := told_pm
  have hpn := told_pn
  obtain ⟨W, hW⟩ : ∃ W, ((w.alloc (.cells #[.int .i64 l1, .slice a1 n1 c1] 35)).alloc (.cells #[.int .i64 l2, .slice a2 n2 c2] 35)).alloc (.cells #[.int .i64 0, .slice none 0 0] 35) = W := ⟨_, rfl⟩
  obtain ⟨hbW, hsz⟩ := boxes3Below hW
  have HC : Hid (∀ w1, Below W.heap.size W w1 → _) := Lib.hid fun w1 (hg : Below W.heap.size W w1) => boxes3 hW hg
  have hC := boxes3 hW (Below.refl _ _)
  rw [← hW] at hC
  obtain ⟨⟨p0, p1⟩, ⟨q0, q1⟩, _⟩ := hC
  have H1 := Lib.hid (h1.below hbW)
  have H2 := Lib.hid (h2.below hbW)
  have HBA := Lib.hid hba
  have HBB := Lib.hid hbb
  have HN1 := Lib.hid h1.len
  have HN2 := Lib.hid h2.len
  have HBW := Lib.hid hbW
  have HW := Lib.hid hW
  have HSZ := Lib.hid hsz
  have HT := Lib.hid ht
  clear hW hbW h1 h2 hba hbb hsz ht
  go_enter Try.func38, Try.ntmps38
  go_wp2_with fail
  rw [HW.out]
  clear p0 p1 q0 q1
  refine (iPolyIn_any l1 x a1 c1 n1 ba W H1.out hc1 HBA.out).mono ?_
  rintro e w1 ⟨rfl, hb1⟩
  have HB1 := Lib.hid hb1
  obtain ⟨⟨p0, p1⟩, ⟨q0, q1⟩, d0, d1, f0, f1⟩ := HC.out w1 hb1
  have hs1 := hb1.size
  clear hb1
  cases ba with
  | false =>
    obtain rfl : t = false := by rw [← HT.out]; rfl
    go_wp2
    have hss := HSZ.out
    refine bodyPost_ret (v := .tuple #[plV 0 (.slice none 0 0), .bool false]) ?_ rfl ⟨⟨_, rfl, intNil _ _⟩, resBelow2 (.int .i64 0) (.slice none 0 0) (HBW.out.trans (HB1.out.mono HBW.out.size))⟩
    simp [results, Try.results38, go_sem, d0, d1, plV]
  | true =>
    go_wp2_with fail
    refine (iPolyIn_any l2 y a2 c2 n2 bb w1 (H2.out.below HB1.out) hc2 HBB.out).mono ?_
    rintro e w2 ⟨rfl, hb2⟩
    have HB2 := Lib.hid (HB1.out.trans (hb2.mono hs1))
    have hs2 := HB2.out.size
    clear hb2 p0 p1 q0 q1 d0 d1 f0 f1
    obtain ⟨⟨p0, p1⟩, ⟨q0, q1⟩, d0, d1, f0, f1⟩ := HC.out w2 HB2.out
    cases bb with
    | false =>
      obtain rfl : t = false := by rw [← HT.out]; rfl
      go_wp2
      refine bodyPost_ret (v := .tuple #[plV 0 (.slice none 0 0), .bool false]) ?_ rfl ⟨⟨_, rfl, intNil _ _⟩, resBelow2 (.int .i64 0) (.slice none 0 0) (HBW.out.trans (HB2.out.mono HBW.out.size))⟩
      simp [results, Try.results38, go_sem, d0, d1, plV]
    | true =>
      obtain ⟨_, hx200, hxl1, hxl2, hxc⟩ := polyB_trim HBA.out
      obtain ⟨_, hy200, hyl1, hyl2, hyc⟩ := polyB_trim HBB.out
      have hx200 : x.length ≤ 200 := hx200
      have hy200 : y.length ≤ 200 := hy200
      have hxl1 : -300 ≤ l1 := hxl1
      have hxl2 : l1 ≤ 300 := hxl2
      have hyl1 : -300 ≤ l2 := hyl1
      have hyl2 : l2 ≤ 300 := hyl2
      have hx1 := HN1.out
      have hx2 := HN2.out
      have HXC : Hid (∀ i, -1000000000 ≤ x.getD i 0 ∧ x.getD i 0 ≤ 1000000000) := Lib.hid hxc
      have HYC : Hid (∀ i, -1000000000 ≤ y.getD i 0 ∧ y.getD i 0 ≤ 1000000000) := Lib.hid hyc
      have HPT : Hid (polyB (prodP ⟨l1, x⟩ ⟨l2, y⟩) = t) := Lib.hid (by have := HT.out; rwa [Bool.true_and, Bool.true_and] at this)
      obtain ⟨N, hN⟩ : ∃ N, n1 + n2 = N := ⟨_, rfl⟩
      have hwN : IntKind.i64.wrap ((n1 : Int) + (n2 : Int)) = (N : Int) := by rw [IntWalk.i64_in _ (by omega)]; omega
      have hNb : N ≤ 400 := by omega
      clear hxc hyc
      go_wp2_with (at_make; refine wpList_make_full _ rfl _ _ 105 rfl w2.heap.size 107 it (.agg #[.int .i64 0, .int .i64 0]) 2 Try.underlying105 hit hit0 hit1 .i64 .i64 _ _ N rfl rfl rfl rfl (by rw [hit2]; omega) (by unfold maxLen; omega) (Nat.le_refl _) ?_; intro wt hrow hgrow; have HBt := Lib.hid (HB2.out.trans ((below_of_grown hgrow).mono hs2)); clear p0 p1 q0 q1 d0 d1 f0 f1; obtain ⟨⟨p0, p1⟩, ⟨q0, q1⟩, _⟩ := HC.out wt HBt.out)
      rw [made_totals N] at hrow
      have HRt := Lib.hid hrow
      have HBt2 : Hid (Below w2.heap.size w2 wt) := Lib.hid (below_of_grown hgrow)
      clear hrow hgrow hwN
      go_loopw [7, 8, 9, 10, 36] (fun _ _ _ _ i wr => ∃ (k : Nat) (f : Nat → Int), k ≤ n1 ∧ i = .int .i64 (k : Int) ∧ Hid (∀ j, j < N → f (j * 2) * 1000000000 + f (j * 2 + 1) = convN x y j k) ∧ Hid (∀ j, -(1000000000 * (200 * (k : Int))) ≤ f j ∧ f j ≤ 1000000000 * (200 * (k : Int))) ∧ Hid (wr.ownsRow w2.heap.size 107 2 (.slice (some ⟨w2.heap.size, 0, none⟩) N N) N (intsV (listN f (N * 2)))) ∧ Hid (Below w2.heap.size w2 wr)) (fun _ _ _ _ i _ => n1 - (intOf i).toNat)
      case atStart => exact ⟨0, fun _ => 0, Nat.zero_le _, rfl, Lib.hid fun j _ => rfl, Lib.hid fun j => by simp, HRt, HBt2⟩
      case round =>
        obtain ⟨k, f, hk, rfl, HF, HFB, HR, HB⟩ := hrel
        have HBx := Lib.hid (HB2.out.trans (HB.out.mono hs2))
        clear p0 p1 q0 q1
        obtain ⟨⟨p0, p1⟩, ⟨q0, q1⟩, _⟩ := HC.out wr HBx.out
        by_cases hlt : k < n1
        · obtain ⟨xa, rfl, hxb, hxa⟩ := (H1.out.below HBx.out).at_ (by omega)
          have hkx : k < x.length := by rw [HN1.out]; exact hlt
          obtain ⟨u, hu⟩ : ∃ u, x.getD k 0 = u := ⟨_, rfl⟩
          have hcu := hxa k hkx
          rw [show x[k] = u by rw [← hu, List.getD_eq_getElem?_getD, List.getElem?_eq_getElem hkx]; rfl] at hcu
          have HU := Lib.hid hu
          clear hu hxa hxb
          have HF0 : Hid (∀ j, j < N → f (j * 2) * 1000000000 + f (j * 2 + 1) = partN x y k 0 j) := Lib.hid fun j hj => by rw [part_zero]; exact HF.out j hj
          go_wp2
          go_loopw [9, 10, 44] (fun _ _ i wr => ∃ (k' : Nat) (f : Nat → Int), k' ≤ n2 ∧ i = .int .i64 (k' : Int) ∧ Hid (∀ j, j < N → f (j * 2) * 1000000000 + f (j * 2 + 1) = partN x y k k' j) ∧ Hid (∀ j, -(1000000000 * (200 * (k : Int) + (k' : Int))) ≤ f j ∧ f j ≤ 1000000000 * (200 * (k : Int) + (k' : Int))) ∧ Hid (wr.ownsRow w2.heap.size 107 2 (.slice (some ⟨w2.heap.size, 0, none⟩) N N) N (intsV (listN f (N * 2)))) ∧ Hid (Below w2.heap.size w2 wr)) (fun _ _ i _ => n2 - (intOf i).toNat)
          case atStart => exact ⟨0, f, Nat.zero_le _, rfl, HF0, Lib.hid fun j => by have := HFB.out j; omega, HR, HB⟩
          case round =>
            obtain ⟨m, f', hm, rfl, HF', HFB', HR', HB'⟩ := hrel
            have HBx' := Lib.hid (HB2.out.trans (HB'.out.mono hs2))
            clear p0 p1 q0 q1 hcu
            obtain ⟨⟨p0, p1⟩, ⟨q0, q1⟩, _⟩ := HC.out wr HBx'.out
            by_cases hlt2 : m < n2
            · obtain ⟨ya, rfl, hyb, hya⟩ := (H2.out.below HBx'.out).at_ (by omega)
              have hky : m < y.length := by rw [HN2.out]; exact hlt2
              obtain ⟨v, hv⟩ : ∃ v, y.getD m 0 = v := ⟨_, rfl⟩
              have hcv := hya m hky
              rw [show y[m] = v by rw [← hv, List.getD_eq_getElem?_getD, List.getElem?_eq_getElem hky]; rfl] at hcv
              have hpb := conv_bound HXC.out HYC.out k m
              rw [HU.out, hv] at hpb
              obtain ⟨p, hp⟩ : ∃ p, u * v = p := ⟨_, rfl⟩
              rw [hp] at hpb
              obtain ⟨hp1, hp2⟩ := hpb
              have htb := tdiv_bound hp1 hp2
              have htp := tdiv_parts p
              obtain ⟨q, hq⟩ : ∃ q, p.tdiv 1000000000 = q := ⟨_, rfl⟩
              obtain ⟨r, hr⟩ : ∃ r, p.tmod 1000000000 = r := ⟨_, rfl⟩
              rw [hq] at htb htp
              rw [hr] at htp
              obtain ⟨hq1, hq2⟩ := htb
              obtain ⟨hqr, hr1, hr2⟩ := htp
              obtain ⟨j, hj⟩ : ∃ j, k + m = j := ⟨_, rfl⟩
              have hjN : j < N := by omega
              have hjNi : (j : Int) < (N : Int) := by omega
              have hj0 : (0 : Int) ≤ (j : Int) := by omega
              have hwj : IntKind.i64.wrap ((k : Int) + (m : Int)) = (j : Int) := by rw [IntWalk.i64_in _ (by omega)]; omega
              have hwp : IntKind.i64.wrap (u * v) = p := by rw [hp]; exact IntWalk.i64_in _ (by omega)
              have hf0 := HFB'.out (j * 2)
              have hf1 := HFB'.out (j * 2 + 1)
              have HCA : Hid (∀ j', j' < N → (if j' * 2 = j * 2 then f' (j * 2) + q else if j' * 2 = j * 2 + 1 then f' (j * 2 + 1) + r else f' (j' * 2)) * 1000000000 + (if j' * 2 + 1 = j * 2 then f' (j * 2) + q else if j' * 2 + 1 = j * 2 + 1 then f' (j * 2 + 1) + r else f' (j' * 2 + 1)) = partN x y k (m + 1) j') := Lib.hid fun j' hj' => by
                have h1 := HF'.out j' hj'
                by_cases e : j' = j
                · subst e
                  rw [if_pos rfl, if_neg (by omega), if_pos rfl]
                  subst hj
                  rw [part_here, HU.out, hv, hp, ← h1]
                  omega
                · rw [if_neg (by omega), if_neg (by omega), if_neg (by omega), if_neg (by omega), part_next (by omega)]
                  exact h1
              have HCAL := Lib.hid (totAdd_any w2.heap.size (j * 2) (f' (j * 2)) (f' (j * 2 + 1)) p q r wr (by rw [HR'.out.cellAt _ (by omega), listN_cell (by omega)]) (by rw [HR'.out.cellAt _ (by omega), listN_cell (by omega)]) (HR'.out.frozenAt _) (HR'.out.frozenAt _) hq hr (by omega) (by omega) (by omega))
              clear hv hya hyb hp hqr hq hr hj
              go_wp2_with fail
              refine HCAL.out.mono ?_
              rintro e w3 ⟨rfl, rfl⟩
              go_wp2
              go_roundw
              case rel =>
                have h1 := HR'.out.stored (j * 2) (.int .i64 (f' (j * 2) + q))
                have h2 := h1.1.stored (j * 2 + 1) (.int .i64 (f' (j * 2 + 1) + r))
                refine ⟨m + 1, fun i => if i = j * 2 then f' (j * 2) + q else if i = j * 2 + 1 then f' (j * 2 + 1) + r else f' i, by omega, by go_num, HCA, Lib.hid fun i => ?_, Lib.hid ?_, Lib.hid ((HB'.out.setCell (p := ⟨w2.heap.size, j * 2, none⟩) (Nat.le_refl _) _).setCell (p := ⟨w2.heap.size, j * 2 + 1, none⟩) (Nat.le_refl _) _)⟩
                · have h3 := HFB'.out i
                  dsimp only
                  split
                  · omega
                  · split
                    · omega
                    · omega
                · rw [listN_set (f := f') (g := fun i => if i = j * 2 then f' (j * 2) + q else f' i) (fun i hi => if_neg hi) (if_pos rfl), listN_set (g := fun i => if i = j * 2 then f' (j * 2) + q else if i = j * 2 + 1 then f' (j * 2 + 1) + r else f' i) (fun i hi => by
                    by_cases e : i = j * 2
                    · rw [if_pos e, if_pos e]
                    · rw [if_neg e, if_neg e, if_neg hi]) (by rw [if_neg (by omega), if_pos rfl])] at h2
                  exact h2.1
              case measure => simp [intOf]; omega
            · obtain rfl : m = n2 := by omega
              go_wp2
              go_roundw
              case rel => exact ⟨k + 1, f', by omega, by go_num, Lib.hid fun j hj => by rw [HF'.out j hj, ← HN2.out, part_all], Lib.hid fun j => by have := HFB'.out j; omega, HR', HB'⟩
              case measure => simp [intOf]; omega
        · obtain rfl : k = n1 := by omega
          obtain ⟨U, hU⟩ : ∃ U, U = wr := ⟨_, rfl⟩
          subst hU
          have HCF : Hid (∀ j, j < N → f (j * 2) * 1000000000 + f (j * 2 + 1) = convN x y j x.length) := Lib.hid fun j hj => by rw [HF.out j hj, HN1.out]
          have HRT := HR
          have HBU := HBx
          have hsU := HBx.out.size
          clear HF HR
          go_wp2_with (at_make; refine wpList_make_full _ rfl _ _ 33 rfl U.heap.size 3 i0 (.int .i64 0) 1 Try.underlying33 hi hz0 hz1 .i64 .i64 _ _ N rfl rfl rfl rfl (by rw [hz2]; omega) (by unfold maxLen; omega) (Nat.le_refl _) ?_; intro wv hrow hgrow; have HBV := Lib.hid (below_of_grown hgrow); clear p0 p1 q0 q1)
          rw [made_zero 0 N, listP_zero] at hrow
          have HRV : Hid (wv.ownsRow U.heap.size 3 1 (.slice (some ⟨U.heap.size, 0, none⟩) N N) N (intsV (listN (fun j => if j < 0 then convN x y j x.length else 0) N))) := Lib.hid (by
            have e : List.replicate N (0 : Int) = listN (fun j => if j < 0 then convN x y j x.length else 0) N := by
              rw [← listP_zero 0 N]
              exact List.map_congr_left fun i _ => (if_neg (Nat.not_lt_zero _)).symm
            rw [← e]
            exact hrow)
          clear hrow hgrow
          go_loopw [12, 13, 14, 15, 65] (fun _ _ _ _ i wq => ∃ k : Nat, k ≤ N ∧ i = .int .i64 (k : Int) ∧ Hid (∀ j, j < k → -4000000000 ≤ convN x y j x.length ∧ convN x y j x.length ≤ 4000000000) ∧ Hid (wq.ownsRow U.heap.size 3 1 (.slice (some ⟨U.heap.size, 0, none⟩) N N) N (intsV (listN (fun j => if j < k then convN x y j x.length else 0) N))) ∧ Hid (Below U.heap.size U wq)) (fun _ _ _ _ i _ => N - (intOf i).toNat)
          case atStart => exact ⟨0, Nat.zero_le _, rfl, Lib.hid fun j h => absurd h (Nat.not_lt_zero _), HRV, HBV⟩
          case round =>
            obtain ⟨k', hk', rfl, HCB, HRQ, HBQ⟩ := hrel
            have HBxq := Lib.hid (HBU.out.trans (HBQ.out.mono hsU))
            obtain ⟨⟨p0, p1⟩, ⟨q0, q1⟩, d0, d1, f0, f1⟩ := HC.out wr HBxq.out
            by_cases hlt3 : k' < N
            · have HRTq := Lib.hid (rowPast HRT.out HBQ.out)
              obtain ⟨c, hc⟩ : ∃ c, f (k' * 2) = c := ⟨_, rfl⟩
              obtain ⟨r, hr⟩ : ∃ r, f (k' * 2 + 1) = r := ⟨_, rfl⟩
              have hcb := HFB.out (k' * 2)
              have hrb := HFB.out (k' * 2 + 1)
              rw [hc] at hcb
              rw [hr] at hrb
              have e0 : wr.cell? ⟨w2.heap.size, k' * 2, none⟩ = some (.int .i64 c) := by rw [HRTq.out.cellAt _ (by omega), listN_cell (by omega), hc]
              have e1 : wr.cell? ⟨w2.heap.size, k' * 2 + 1, none⟩ = some (.int .i64 r) := by rw [HRTq.out.cellAt _ (by omega), listN_cell (by omega), hr]
              have hcs : c * 1000000000 + r = convN x y k' x.length := by rw [← hc, ← hr]; exact HCF.out k' hlt3
              have hki : (k' : Int) < (N : Int) := by omega
              have hk0 : (0 : Int) ≤ (k' : Int) := by omega
              obtain ⟨b, hb⟩ : ∃ b, inR (-1) 1 (c + r.tdiv 1000000000) = b := ⟨_, rfl⟩
              obtain ⟨V, hV⟩ : ∃ V, wr.alloc (.cells #[.int .i64 c, .int .i64 r] 107) = V := ⟨_, rfl⟩
              have hbV : Below wr.heap.size wr V := by rw [← hV]; exact (Below.refl _ _).alloc (Nat.le_refl _) _
              have HNUM := Lib.hid (number_any c r b V (by omega) (by omega) hb)
              have HV := Lib.hid hV
              have HBVV := Lib.hid hbV
              have HCS := Lib.hid hcs
              have HBB2 := Lib.hid hb
              clear hV hbV hb hc hr hcs hcb hrb p0 p1 q0 q1 d0 d1 f0 f1
              go_wp2_with fail
              rw [HV.out]
              refine HNUM.out.mono ?_
              rintro e w4 ⟨rfl, hb4⟩
              have hbw4 : Below wr.heap.size wr w4 := HBVV.out.trans (hb4.mono HBVV.out.size)
              have hsq := HBQ.out.size
              have HB4 := Lib.hid (HBQ.out.trans (hbw4.mono hsq))
              have HBx4 := Lib.hid (HBU.out.trans (HB4.out.mono hsU))
              clear e0 e1 hb4
              obtain ⟨_, _, d0, d1, f0, f1⟩ := HC.out w4 HBx4.out
              cases b with
              | false =>
                have hpf : polyB (prodP ⟨l1, x⟩ ⟨l2, y⟩) = false := by
                  have hn := num_no HBB2.out
                  rw [HCS.out] at hn
                  rw [← prod_list]
                  exact tidy_bad (i := k') (by rw [listN_get (by rw [HN1.out, HN2.out]; omega)]; exact hn)
                obtain rfl : t = false := by rw [← HPT.out, hpf]
                go_wp2
                refine bodyPost_ret (v := .tuple #[plV 0 (.slice none 0 0), .bool false]) ?_ rfl ⟨⟨_, rfl, intNil _ _⟩, resBelow2 (.int .i64 0) (.slice none 0 0) (HBW.out.trans (HBx4.out.mono HBW.out.size))⟩
                simp [results, Try.results38, go_sem, d0, d1, plV]
              | true =>
                rw [show (if true = true then c * 1000000000 + r else 0) = convN x y k' x.length from HCS.out]
                have HRQ4 := Lib.hid (rowPast HRQ.out hbw4)
                obtain ⟨o, ho⟩ : ∃ o, convN x y k' x.length = o := ⟨_, rfl⟩
                have hob : -4000000000 ≤ o ∧ o ≤ 4000000000 := by
                  have h1 := HCS.out
                  have h2 := HBB2.out
                  have h3 := tdiv_parts r
                  unfold inR at h2
                  simp only [Bool.and_eq_true, decide_eq_true_eq] at h2
                  omega
                have hck : w4.cell? ⟨U.heap.size, k', none⟩ = some (.int .i64 0) := by
                  rw [HRQ4.out.cellAt _ (by omega), listN_cell hlt3, if_neg (Nat.lt_irrefl _)]
                have hfk := HRQ4.out.frozenAt k'
                have HST : Hid ((intsV (listN (fun j => if j < k' then convN x y j x.length else 0) N)).set k' (.int .i64 o) = intsV (listN (fun j => if j < k' + 1 then convN x y j x.length else 0) N)) := Lib.hid (listN_set (fun i hi => by
                  by_cases h : i < k'
                  · rw [if_pos h, if_pos (by omega)]
                  · rw [if_neg h, if_neg (by omega)]) (by rw [if_pos (Nat.lt_succ_self k'), ho]))
                have HCB2 : Hid (∀ j, j < k' + 1 → -4000000000 ≤ convN x y j x.length ∧ convN x y j x.length ≤ 4000000000) := Lib.hid fun j hj => by
                  by_cases e : j = k'
                  · rw [e, ho]; exact hob
                  · exact HCB.out j (by omega)
                rw [ho]
                clear ho hob d0 d1 f0 f1
                go_wp2
                go_roundw
                case rel =>
                  refine ⟨k' + 1, by omega, by go_num, HCB2, Lib.hid ?_, Lib.hid (HB4.out.setCell (p := ⟨U.heap.size, k', none⟩) (Nat.le_refl _) _)⟩
                  rw [← HST.out]
                  exact (HRQ4.out.stored k' (.int .i64 o)).1
                case measure => simp [intOf]; omega
            · obtain rfl : k' = N := by omega
              have el : listN (fun j => if j < k' then convN x y j x.length else 0) k' = listN (fun j => convN x y j x.length) k' := listN_congr fun i hi => if_pos hi
              have hrr : IntRow U.heap.size wr (.slice (some ⟨U.heap.size, 0, none⟩) k' k') (listN (fun j => convN x y j x.length) k') := by
                have h := HRQ.out
                rw [el] at h
                exact rowI h (listN_len _ _)
              have hwf : ∀ z ∈ listN (fun j => convN x y j x.length) k', -9223372036854775808 ≤ z ∧ z ≤ 9223372036854775807 := fun z hz => by
                unfold listN at hz
                obtain ⟨i, hi, rfl⟩ := List.mem_map.1 hz
                have := HCB.out i (List.mem_range.1 hi)
                omega
              obtain ⟨a5, c5, hv, hc5, hi5⟩ := hrr.readc hwf
              rw [listN_len] at hv hc5 hi5
              simp at hv
              obtain ⟨rfl, rfl⟩ := hv
              have HTD : Hid (tidyP (l1 + l2) (listN (fun j => convN x y j x.length) k') = prodP ⟨l1, x⟩ ⟨l2, y⟩) := Lib.hid (by rw [← prod_list, show k' = x.length + y.length by rw [HN1.out, HN2.out]; exact hN.symm])
              have HTR : Hid (Trim (prodP ⟨l1, x⟩ ⟨l2, y⟩)) := Lib.hid (prod_trim _ _)
              have hwl : IntKind.i64.wrap (l1 + l2) = l1 + l2 := IntWalk.i64_in _ (by omega)
              have HA := Lib.hid (apart_in (l1 + l2) (listN (fun j => convN x y j x.length) k') (some ⟨U.heap.size, 0, none⟩) k' k' wr hi5 (Nat.le_refl _) (by omega) (by omega) (by omega))
              clear hwf hrr hc5 hi5 el
              go_wp2_with fail
              refine HA.out.mono ?_
              rintro e w5 ⟨⟨v, rfl, hA⟩, hb5⟩
              have hsq := HBQ.out.size
              have HB5 := Lib.hid (HBxq.out.trans (hb5.mono (by omega)))
              have hs5 := hb5.size
              clear hb5 p0 p1 q0 q1 d0 d1 f0 f1
              rw [HTD.out] at hA
              have hss := HSZ.out
              rcases hA with ⟨hq, rfl⟩ | ⟨hq, a6, c6, rfl, hc6, hi6⟩
              · obtain ⟨rfl, hq0⟩ := told_zero HTR.out hq HPT.out
                have HQ0 := Lib.hid hq0
                clear hq hq0
                go_wp2_with fail
                refine (toldZ_any _).mono ?_
                rintro e w6 ⟨⟨v, rfl, hr⟩, hb6⟩
                obtain ⟨_, _, d0, d1, f0, f1⟩ := HC.out w6 (HB5.out.trans (hb6.mono (by omega)))
                have HR := Lib.hid hr
                have HB6 := Lib.hid (HBW.out.trans ((HB5.out.trans (hb6.mono (by omega))).mono HBW.out.size))
                obtain ⟨g4, gg, cap4, rfl, _⟩ := hr.shape
                clear hr hb6
                go_wp2
                refine bodyPost_ret (v := .tuple #[plV 0 (.slice g4 0 cap4), .bool true]) ?_ rfl ⟨⟨.slice g4 0 cap4, by rw [HQ0.out]; rfl, by rw [HQ0.out]; exact resRow2 (.int .i64 0) (.slice g4 0 cap4) HR.out (by omega)⟩, resBelow2 (.int .i64 0) (.slice g4 0 cap4) HB6.out⟩
                simp [results, Try.results38, go_sem, d0, d1, plV]
              · have HTO := Lib.hid (toldP_any (prodP ⟨l1, x⟩ ⟨l2, y⟩).low (prodP ⟨l1, x⟩ ⟨l2, y⟩).cs a6 c6 _ t w5 hi6 (by rw [fits_polyB HTR.out hq]; exact HPT.out))
                clear hi6
                go_wp2_with fail
                refine HTO.out.mono ?_
                rintro e w6 ⟨⟨v, rfl, hr⟩, hb6⟩
                obtain ⟨_, _, d0, d1, f0, f1⟩ := HC.out w6 (HB5.out.trans (hb6.mono (by omega)))
                have HR := Lib.hid hr
                have HB6 := Lib.hid (HBW.out.trans ((HB5.out.trans (hb6.mono (by omega))).mono HBW.out.size))
                obtain ⟨g4, gg, cap4, rfl, _⟩ := hr.shape
                clear hr hb6
                go_wp2
                refine bodyPost_ret (v := .tuple #[plV (doneP t (prodP ⟨l1, x⟩ ⟨l2, y⟩)).low (.slice g4 (doneP t (prodP ⟨l1, x⟩ ⟨l2, y⟩)).cs.length cap4), .bool t]) ?_ rfl ⟨⟨_, rfl, resRow2 (.int .i64 (doneP t (prodP ⟨l1, x⟩ ⟨l2, y⟩)).low) (.slice g4 (doneP t (prodP ⟨l1, x⟩ ⟨l2, y⟩)).cs.length cap4) HR.out (by omega)⟩, resBelow2 (.int .i64 (doneP t (prodP ⟨l1, x⟩ ⟨l2, y⟩)).low) (.slice g4 (doneP t (prodP ⟨l1, x⟩ ⟨l2, y⟩)).cs.length cap4) HB6.out⟩
                simp [results, Try.results38, go_sem, d0, d1, plV]

theorem timesP_fit {w : World} {l1 l2 : Int} {x y : List Int} {a1 a2 : Option Addr} {n1 n2 : Nat} {b : Bool} {p : Pl} (_ : Ints w a1 n1 x) (_ : Ints w a2 n2 y) (_ : timesPB ⟨l1, x⟩ ⟨l2, y⟩ = b) (hp : timesP ⟨l1, x⟩ ⟨l2, y⟩ = p) : p.cs.length ≤ 200 := by
  unfold timesP at hp
  refine doneP_len (fun h => ?_) hp
  unfold timesPB at h
  simp only [Bool.and_eq_true] at h
  exact h.2.2
theorem sPolyTimes_law {l1 l2 : Int} {x y : List Int} {a1 a2 : Option Addr} {n1 n2 : Nat} {b : Bool} {pl : Int} {pc : List Int} {w : World} (h1 : Ints w a1 n1 x) (h2 : Ints w a2 n2 y) (hb : timesPB ⟨l1, x⟩ ⟨l2, y⟩ = b) (hp : timesP ⟨l1, x⟩ ⟨l2, y⟩ = ⟨pl, pc⟩) :
    Calls Try.prog 160 #[plV l1 (.slice a1 n1 n1), plV l2 (.slice a2 n2 n2)] w fun e w' => (∃ v, e = .returned (.tuple #[plV pl v, .bool b]) ∧ IntRow w.heap.size w' v pc) ∧ Below w.heap.size w w' := by
  have h := sPolyTimes_any l1 l2 x y a1 a2 n1 n2 n1 n2 _ _ b w h1 h2 rfl rfl hb
  unfold timesP at hp
  rwa [← hb, hp, hb] at h
theorem iPolyTimes_law {l1 l2 : Int} {x y : List Int} {a1 a2 : Option Addr} {n1 n2 : Nat} {b : Bool} {pl : Int} {pc : List Int} {w : World} (h1 : Ints w a1 n1 x) (h2 : Ints w a2 n2 y) (hb : timesPB ⟨l1, x⟩ ⟨l2, y⟩ = b) (hp : timesP ⟨l1, x⟩ ⟨l2, y⟩ = ⟨pl, pc⟩) :
    Calls Try.prog 38 #[plV l1 (.slice a1 n1 n1), plV l2 (.slice a2 n2 n2)] w fun e w' => (∃ v, e = .returned (.tuple #[plV pl v, .bool b]) ∧ IntRow w.heap.size w' v pc) ∧ Below w.heap.size w w' := by
  have h := iPolyTimes_any l1 l2 x y a1 a2 n1 n2 n1 n2 _ _ b w h1 h2 (Nat.le_refl _) (Nat.le_refl _) rfl rfl hb
  unfold timesP at hp
  rwa [← hb, hp, hb] at h

end Go.Proofs.Ytbbkpaledlbcmaa

/- Matrices of polynomials as lists: which are matrices, and what is made of them. -/

namespace Go.Proofs.Ytbbkpaledlbcmaa
open Go.RowKit

abbrev Mx := List (List Pl)
def zeroP : Pl := ⟨0, []⟩
def colsM (M : Mx) : Nat := (M.getD 0 []).length
/-- The polynomial in row i and column k. -/
def at2 (M : Mx) (i k : Nat) : Pl := (M.getD i []).getD k zeroP
def matB (M : Mx) : Bool := decide (1 ≤ M.length ∧ M.length ≤ 4) && (decide (1 ≤ colsM M ∧ colsM M ≤ 4) && M.all fun r => decide (r.length = colsM M) && r.all polyB)
theorem matB_iff {M : Mx} : matB M = true ↔ (1 ≤ M.length ∧ M.length ≤ 4) ∧ (1 ≤ colsM M ∧ colsM M ≤ 4) ∧ ∀ r ∈ M, r.length = colsM M ∧ ∀ p ∈ r, polyB p = true := by
  unfold matB
  simp only [Bool.and_eq_true, decide_eq_true_eq, List.all_eq_true]
theorem matB_row {M : Mx} (h : matB M = true) {i : Nat} (hi : i < M.length) : (M[i]).length = colsM M := ((matB_iff.1 h).2.2 _ (List.getElem_mem hi)).1
theorem at2_eq {M : Mx} {i k : Nat} (hi : i < M.length) (hk : k < (M[i]).length) : at2 M i k = M[i][k] := by
  unfold at2
  simp [List.getD_eq_getElem?_getD, hi, hk]
theorem matB_at {M : Mx} (h : matB M = true) {i k : Nat} (hi : i < M.length) (hk : k < colsM M) : polyB (at2 M i k) = true := by
  have hr := matB_row h hi
  rw [at2_eq hi (by rw [hr]; exact hk)]
  exact ((matB_iff.1 h).2.2 _ (List.getElem_mem hi)).2 _ (List.getElem_mem _)
/-- Two matrices of one shape with the same polynomials are one. -/
theorem mx_ext {M R : Mx} {n m : Nat} (hM : M.length = n) (hR : R.length = n) (h1 : ∀ i (h : i < M.length), (M[i]).length = m) (h2 : ∀ i (h : i < R.length), (R[i]).length = m) (h : ∀ i k, i < n → k < m → at2 M i k = at2 R i k) : M = R := by
  apply List.ext_getElem (by omega)
  intro i hi hj
  apply List.ext_getElem (by rw [h1 i hi, h2 i hj])
  intro k hk hl
  rw [← at2_eq hi hk, ← at2_eq hj hl]
  exact h i k (by omega) (by rw [h1 i hi] at hk; exact hk)

/-! ### Lists that are made place by place -/
def rowO (f : Nat → Option Pl) : Nat → Option (List Pl)
  | 0 => some []
  | k + 1 => match rowO f k with
    | none => none
    | some r => match f k with
      | none => none
      | some p => some (r ++ [p])
def gridO (f : Nat → Nat → Option Pl) (m : Nat) : Nat → Option Mx
  | 0 => some []
  | i + 1 => match gridO f m i with
    | none => none
    | some R => match rowO (f i) m with
      | none => none
      | some r => some (R ++ [r])
theorem rowO_some {f : Nat → Option Pl} : ∀ {k : Nat} {r : List Pl}, rowO f k = some r → r.length = k ∧ ∀ i (h : i < r.length), f i = some r[i]
  | 0, r, h => by
    simp only [rowO, Option.some.injEq] at h
    subst h
    exact ⟨rfl, fun i h => by simp at h⟩
  | k + 1, r, h => by
    unfold rowO at h
    cases h1 : rowO f k with
    | none => rw [h1] at h; cases h
    | some q =>
      rw [h1] at h
      cases h2 : f k with
      | none => rw [h2] at h; cases h
      | some p =>
        rw [h2] at h
        simp only [Option.some.injEq] at h
        subst h
        obtain ⟨h3, h4⟩ := rowO_some h1
        refine ⟨by rw [List.length_append, h3]; rfl, fun i hi => ?_⟩
        by_cases e : i < q.length
        · rw [List.getElem_append_left e]; exact h4 i e
        · rw [List.length_append, List.length_singleton] at hi
          obtain rfl : i = k := by omega
          rw [List.getElem_append_right (by omega), h2]
          simp
theorem rowO_none {f : Nat → Option Pl} {k : Nat} : rowO f k = none ↔ ∃ i, i < k ∧ f i = none := by
  induction k with
  | zero => simp [rowO]
  | succ k ih =>
    unfold rowO
    cases h1 : rowO f k with
    | none =>
      obtain ⟨i, hi, h⟩ := ih.1 h1
      simp only [true_iff]
      exact ⟨i, by omega, h⟩
    | some q =>
      cases h2 : f k with
      | none => simp only [true_iff]; exact ⟨k, by omega, h2⟩
      | some p =>
        simp only [reduceCtorEq, false_iff]
        rintro ⟨i, hi, h⟩
        by_cases e : i = k
        · subst e; rw [h2] at h; cases h
        · have := ih.2 ⟨i, by omega, h⟩
          rw [h1] at this; cases this
theorem rowO_all {f : Nat → Option Pl} {k : Nat} (g : Nat → Pl) (h : ∀ i, i < k → f i = some (g i)) : rowO f k = some ((List.range k).map g) := by
  induction k with
  | zero => rfl
  | succ k ih =>
    unfold rowO
    rw [ih fun i hi => h i (by omega), h k (by omega)]
    simp [List.range_succ]
theorem gridO_some {f : Nat → Nat → Option Pl} {m : Nat} : ∀ {n : Nat} {R : Mx}, gridO f m n = some R → R.length = n ∧ (∀ i (h : i < R.length), (R[i]).length = m) ∧ ∀ i k, i < n → k < m → f i k = some (at2 R i k)
  | 0, R, h => by
    simp only [gridO, Option.some.injEq] at h
    subst h
    exact ⟨rfl, fun i h => by simp at h, fun i k h => by omega⟩
  | n + 1, R, h => by
    unfold gridO at h
    cases h1 : gridO f m n with
    | none => rw [h1] at h; cases h
    | some Q =>
      rw [h1] at h
      cases h2 : rowO (f n) m with
      | none => rw [h2] at h; cases h
      | some r =>
        rw [h2] at h
        simp only [Option.some.injEq] at h
        subst h
        obtain ⟨h3, h4, h5⟩ := gridO_some h1
        obtain ⟨h6, h7⟩ := rowO_some h2
        refine ⟨by rw [List.length_append, h3]; rfl, fun i hi => ?_, fun i k hi hk => ?_⟩
        · by_cases e : i < Q.length
          · rw [List.getElem_append_left e]; exact h4 i e
          · rw [List.length_append, List.length_singleton] at hi
            rw [List.getElem_append_right (by omega)]
            simp [h6]
        · by_cases e : i < Q.length
          · rw [h5 i k (by omega) hk]
            unfold at2
            simp [List.getD_eq_getElem?_getD, List.getElem?_append_left e]
          · obtain rfl : i = n := by omega
            have hkr : k < r.length := by omega
            rw [h7 k hkr]
            unfold at2
            simp [List.getD_eq_getElem?_getD, h3, hkr]
theorem gridO_all {f : Nat → Nat → Option Pl} {m n : Nat} (g : Nat → Nat → Pl) (h : ∀ i k, i < n → k < m → f i k = some (g i k)) : gridO f m n = some ((List.range n).map fun i => (List.range m).map (g i)) := by
  induction n with
  | zero => rfl
  | succ n ih =>
    unfold gridO
    rw [ih fun i k hi hk => h i k (by omega) hk, rowO_all (g n) fun k hk => h n k (by omega) hk]
    simp [List.range_succ]
theorem gridO_none {f : Nat → Nat → Option Pl} {m n : Nat} : gridO f m n = none ↔ ∃ i k, i < n ∧ k < m ∧ f i k = none := by
  induction n with
  | zero => simp [gridO]
  | succ n ih =>
    unfold gridO
    cases h1 : gridO f m n with
    | none =>
      obtain ⟨i, k, hi, hk, h⟩ := ih.1 h1
      simp only [true_iff]
      exact ⟨i, k, by omega, hk, h⟩
    | some Q =>
      cases h2 : rowO (f n) m with
      | none =>
        obtain ⟨k, hk, h⟩ := rowO_none.1 h2
        simp only [true_iff]; exact ⟨n, k, by omega, hk, h⟩
      | some p =>
        simp only [reduceCtorEq, false_iff]
        rintro ⟨i, k, hi, hk, h⟩
        by_cases e : i = n
        · subst e
          have := rowO_none.2 ⟨k, hk, h⟩
          rw [h2] at this; cases this
        · have := ih.2 ⟨i, k, by omega, hk, h⟩
          rw [h1] at this; cases this

/-! ### What the functions make -/
def addO (a b : Pl) : Option Pl := if addPB a b then some (addP a b) else none
def timesO (a b : Pl) : Option Pl := if timesPB a b then some (timesP a b) else none
/-- The sum a - b, if it is a polynomial. -/
def lessO (a b : Pl) : Option Pl := if polyB (sumP a (-1) b) then some (sumP a (-1) b) else none
def dotO (A B : Mx) (i k : Nat) : Nat → Option Pl
  | 0 => some zeroP
  | j + 1 => match dotO A B i k j with
    | none => none
    | some s => match timesO (at2 A i j) (at2 B j k) with
      | none => none
      | some p => addO s p
def oneO (n : Nat) : Option Mx := if 1 ≤ n ∧ n ≤ 4 then gridO (fun i k => some (if i = k then ⟨0, [1]⟩ else zeroP)) n n else none
def timesM (A B : Mx) : Option Mx := if matB A && (matB B && decide (colsM A = B.length)) then gridO (fun i k => dotO A B i k B.length) (colsM B) A.length else none
def lessM (A B : Mx) : Option Mx := if matB A && (matB B && (decide (A.length = B.length) && decide (colsM A = colsM B))) then gridO (fun i k => lessO (at2 A i k) (at2 B i k)) (colsM A) A.length else none
def flipM (M : Mx) : Option Mx := if matB M then gridO (fun k i => some (at2 M i k)) M.length (colsM M) else none
/-- Without the row i and the column k. -/
def skip (i r : Nat) : Nat := if r < i then r else r + 1
def cutL (M : Mx) (i k : Nat) : Mx := (List.range (M.length - 1)).map fun r => (List.range (colsM M - 1)).map fun c => at2 M (skip i r) (skip k c)
def cutM (M : Mx) (i k : Int) : Option Mx := if matB M && (decide (2 ≤ M.length) && (decide (2 ≤ colsM M) && (decide (0 ≤ i ∧ i < M.length) && decide (0 ≤ k ∧ k < colsM M)))) then some (cutL M i.toNat k.toNat) else none
/-- The determinant, all its columns up to k. -/
def signed (k : Nat) : Int := 1 - 2 * ((k : Int) % 2)
def stepO (s : Option Pl) (sign : Int) (p : Option Pl) : Option Pl := match s with
  | none => none
  | some s => match p with
    | none => none
    | some p => if polyB (sumP s sign p) then some (sumP s sign p) else none
def detS (d : Mx → Option Pl) (M : Mx) : Nat → Option Pl
  | 0 => some zeroP
  | k + 1 => stepO (detS d M k) (signed k) (match d (cutL M 0 k) with
    | none => none
    | some d => timesO (at2 M 0 k) d)
def detO : Nat → Mx → Option Pl
  | 0, _ => none
  | n + 1, M => if M.length = 1 then some (at2 M 0 0) else detS (detO n) M M.length
def detM (M : Mx) : Option Pl := if matB M && decide (M.length = colsM M) then detO M.length M else none
def traceS (M : Mx) : Nat → Option Pl
  | 0 => some zeroP
  | k + 1 => match traceS M k with
    | none => none
    | some s => addO s (at2 M k k)
def traceM (M : Mx) : Option Pl := if matB M && decide (M.length = colsM M) then traceS M M.length else none

end Go.Proofs.Ytbbkpaledlbcmaa

/- The program's matrixBy. -/

namespace Go.Proofs.Ytbbkpaledlbcmaa
open Go.RowKit

/-- A matrix behind pointers, all of a call's own. -/
structure MatW (lo : Nat) (w : World) (g : Nat → Option Addr) (n m : Nat) (P : Nat → Nat → Pl) (pv : Nat → Nat → Value) : Prop where
  shp : ShapeM g n m
  at_ : ∀ i k, i < n → k < m → ∃ j, g (i * 4 + k) = some ⟨j, 0, none⟩ ∧ lo ≤ j ∧ j < w.heap.size ∧ w.cell? ⟨j, 0, none⟩ = some (.int .i64 (P i k).low) ∧ w.cell? ⟨j, 1, none⟩ = some (pv i k) ∧ IntRow lo w (pv i k) (P i k).cs
  apart : ∀ i k i2 k2 b, i < n → k < m → i2 < n → k2 < m → ¬ (i = i2 ∧ k = k2) → (pv i k).ownBlock = some b → (pv i2 k2).ownBlock = some b → False
theorem MatW.below {lo : Nat} {w w' : World} {g : Nat → Option Addr} {n m : Nat} {P : Nat → Nat → Pl} {pv : Nat → Nat → Value} (h : MatW lo w g n m P pv) (hb : Below w.heap.size w w') : MatW lo w' g n m P pv :=
  ⟨h.shp, fun i k hi hk => by
    obtain ⟨j, h1, h2, h3, h4, h5, h6⟩ := h.at_ i k hi hk
    exact ⟨j, h1, h2, Nat.lt_of_lt_of_le h3 hb.size, (hb.cell (p := ⟨j, 0, none⟩) h3).trans h4, (hb.cell (p := ⟨j, 1, none⟩) h3).trans h5, h6.below hb⟩, h.apart⟩
theorem MatW.mono {lo lo2 : Nat} {w : World} {g : Nat → Option Addr} {n m : Nat} {P : Nat → Nat → Pl} {pv : Nat → Nat → Value} (h : MatW lo w g n m P pv) (hl : lo2 ≤ lo) : MatW lo2 w g n m P pv :=
  ⟨h.shp, fun i k hi hk => by
    obtain ⟨j, h1, h2, h3, h4, h5, h6⟩ := h.at_ i k hi hk
    exact ⟨j, h1, by omega, h3, h4, h5, h6.mono hl⟩, h.apart⟩
/-- What a function that makes a polynomial for a place comes to. -/
def AtE (W : World) (o : Option Pl) (e : Ending) (w' : World) : Prop :=
  ((∃ l a n c, o = none ∧ e = .returned (.tuple #[plV l (.slice a n c), .bool false])) ∨ (∃ p a n c, o = some p ∧ e = .returned (.tuple #[plV p.low (.slice a n c), .bool true]) ∧ IntRow W.heap.size w' (.slice a n c) p.cs)) ∧ Below W.heap.size W w'
def Done (m i k a b : Nat) : Prop := (a < i ∧ b < m) ∨ (a = i ∧ b < k)
structure ByAt (w : World) (m : Nat) (f : Nat → Nat → Option Pl) (i k : Nat) (g : Nat → Option Addr) (P : Nat → Nat → Pl) (pv : Nat → Nat → Value) (wr : World) : Prop where
  below : Below w.heap.size w wr
  size : w.heap.size + 2 ≤ wr.heap.size
  res : wr.heap[w.heap.size]? = some (.cells (mC fun _ => none) MA (0, 0))
  fill : wr.heap[w.heap.size + 1]? = some (.cells (mC g) MA (0, 0))
  at_ : ∀ a b, Done m i k a b → f a b = some (P a b) ∧ ∃ j, g (a * 4 + b) = some ⟨j, 0, none⟩ ∧ w.heap.size + 2 ≤ j ∧ j < wr.heap.size ∧ wr.cell? ⟨j, 0, none⟩ = some (.int .i64 (P a b).low) ∧ wr.cell? ⟨j, 1, none⟩ = some (pv a b) ∧ IntRow (w.heap.size + 2) wr (pv a b) (P a b).cs
  apart : ∀ a b a2 b2 x, Done m i k a b → Done m i k a2 b2 → ¬ (a = a2 ∧ b = b2) → (pv a b).ownBlock = some x → (pv a2 b2).ownBlock = some x → False
  no : ∀ a b, a < 4 → b < 4 → ¬ Done m i k a b → g (a * 4 + b) = none
theorem ByAt.start (w : World) (m : Nat) (f : Nat → Nat → Option Pl) : ByAt w m f 0 0 (fun _ => none) (fun _ _ => zeroP) (fun _ _ => .slice none 0 0) ((w.alloc (.cells (mC fun _ => none) MA)).alloc (.cells (mC fun _ => none) MA)) := by
  have hd : ∀ a b, ¬ Done m 0 0 a b := fun a b h => by unfold Done at h; omega
  refine ⟨((Below.refl _ w).alloc (Nat.le_refl _) _).alloc (by simp) _, by simp, ?_, ?_, fun a b h => absurd h (hd a b), fun a b _ _ _ h => absurd h (hd a b), fun _ _ _ _ _ => rfl⟩
  · rw [Below.heap_alloc _ _ _ (by simp)]
    exact World.alloc_heap_new w _
  · have h := World.alloc_heap_new (w.alloc (.cells (mC fun _ => none) MA)) (.cells (mC fun _ => none) MA)
    rwa [World.size_alloc] at h
theorem ByAt.row {w wr : World} {m i : Nat} {f : Nat → Nat → Option Pl} {g : Nat → Option Addr} {P : Nat → Nat → Pl} {pv : Nat → Nat → Value} (h : ByAt w m f i m g P pv wr) : ByAt w m f (i + 1) 0 g P pv wr := by
  have hd : ∀ a b, Done m (i + 1) 0 a b ↔ Done m i m a b := fun a b => by unfold Done; omega
  exact ⟨h.below, h.size, h.res, h.fill, fun a b hab => h.at_ a b ((hd a b).1 hab), fun a b a2 b2 x h1 h2 => h.apart a b a2 b2 x ((hd a b).1 h1) ((hd a2 b2).1 h2), fun a b ha hb hn => h.no a b ha hb fun e => hn ((hd a b).2 e)⟩
theorem mC_set (g : Nat → Option Addr) (i k : Nat) (hi : i < 4) (hk : k < 4) (q : Option Addr) : (mC g).setIfInBounds (i * 4 + k) (.pointer q) = mC fun j => if j = i * 4 + k then q else g j := by
  have h4 : i = 0 ∨ i = 1 ∨ i = 2 ∨ i = 3 := by omega
  have h5 : k = 0 ∨ k = 1 ∨ k = 2 ∨ k = 3 := by omega
  rcases h4 with rfl | rfl | rfl | rfl <;> rcases h5 with rfl | rfl | rfl | rfl <;> simp [mC]
/-- One place more. -/
theorem ByAt.next {w wr w2 : World} {m i k : Nat} {f : Nat → Nat → Option Pl} {g : Nat → Option Addr} {P : Nat → Nat → Pl} {pv : Nat → Nat → Value} {p : Pl} {v : Value} (h : ByAt w m f i k g P pv wr) (hi : i < 4) (hk : k < m) (hm : m ≤ 4) (hf : f i k = some p) (hb : Below wr.heap.size wr w2) (hv : IntRow wr.heap.size w2 v p.cs) :
    ByAt w m f i (k + 1) (fun j => if j = i * 4 + k then some ⟨w2.heap.size, 0, none⟩ else g j) (fun a b => if a = i ∧ b = k then p else P a b) (fun a b => if a = i ∧ b = k then v else pv a b) ((w2.alloc (.cells #[.int .i64 p.low, v] PO)).setCell ⟨w.heap.size + 1, i * 4 + k, none⟩ (.pointer (some ⟨w2.heap.size, 0, none⟩))) := by
  have hs := h.size
  have hs2 := hb.size
  obtain ⟨V, hV⟩ : ∃ V, w2.alloc (.cells #[.int .i64 p.low, v] PO) = V := ⟨_, rfl⟩
  have hbV : Below w2.heap.size w2 V := by rw [← hV]; exact (Below.refl _ _).alloc (Nat.le_refl _) _
  have hsV : V.heap.size = w2.heap.size + 1 := by rw [← hV]; simp
  have hnewV : V.heap[w2.heap.size]? = some (.cells #[.int .i64 p.low, v] PO (0, 0)) := by rw [← hV]; exact World.alloc_heap_new w2 _
  rw [hV]
  have hb3 : Below wr.heap.size wr V := hb.trans (hbV.mono hs2)
  have hoff : ∀ b, b ≠ w.heap.size + 1 → (V.setCell ⟨w.heap.size + 1, i * 4 + k, none⟩ (.pointer (some ⟨w2.heap.size, 0, none⟩))).heap[b]? = V.heap[b]? := fun b hne => heap_off V _ _ hne
  have hcell : ∀ j o, j ≠ w.heap.size + 1 → (V.setCell ⟨w.heap.size + 1, i * 4 + k, none⟩ (.pointer (some ⟨w2.heap.size, 0, none⟩))).cell? ⟨j, o, none⟩ = V.cell? ⟨j, o, none⟩ := fun j o hne => by simp only [World.cell?]; rw [hoff j hne]
  have hint : ∀ lo v zs, w.heap.size + 2 ≤ lo → IntRow lo V v zs → IntRow lo (V.setCell ⟨w.heap.size + 1, i * 4 + k, none⟩ (.pointer (some ⟨w2.heap.size, 0, none⟩))) v zs := fun lo v zs hl hr => ownsRow_setCell_below hr (a := ⟨w.heap.size + 1, i * 4 + k, none⟩) (by show w.heap.size + 1 < lo; omega) _
  have hnd : ∀ a b, Done m i (k + 1) a b → ¬ (a = i ∧ b = k) → Done m i k a b := fun a b hd hne => by unfold Done at *; omega
  refine ⟨((h.below.trans (hb3.mono (by omega))).setCell (p := ⟨w.heap.size + 1, i * 4 + k, none⟩) (by show w.heap.size ≤ w.heap.size + 1; omega) _), by simp; omega, ?_, ?_, fun a b hd => ?_, fun a b a2 b2 x h1 h2 hne e1 e2 => ?_, fun a b ha hb2 hn => ?_⟩
  · rw [hoff _ (by omega), hb3.block _ (by omega)]
    exact h.res
  · rw [heap_setCell_same V (w.heap.size + 1) (i * 4 + k) _ _ _ ((hb3.block _ (by omega)).trans h.fill), mC_set g i k hi (by omega)]
  · by_cases e : a = i ∧ b = k
    · obtain ⟨rfl, rfl⟩ := e
      simp only [and_self, if_true]
      refine ⟨hf, w2.heap.size, rfl, by omega, by simp; omega, ?_, ?_, hint _ _ _ (Nat.le_refl _) ((hv.below hbV).mono hs)⟩
      · rw [hcell _ _ (by omega)]; simp [World.cell?, hnewV]
      · rw [hcell _ _ (by omega)]; simp [World.cell?, hnewV]
    · obtain ⟨hfa, j, q1, q2, q3, q4, q5, q6⟩ := h.at_ a b (hnd a b hd e)
      have hpl : ¬ a * 4 + b = i * 4 + k := by unfold Done at hd; omega
      simp only [if_neg e, if_neg hpl]
      refine ⟨hfa, j, q1, q2, by simp; omega, ?_, ?_, hint _ _ _ (Nat.le_refl _) (q6.below hb3)⟩
      · rw [hcell _ _ (by omega), hb3.cell (p := ⟨j, 0, none⟩) q3]; exact q4
      · rw [hcell _ _ (by omega), hb3.cell (p := ⟨j, 1, none⟩) q3]; exact q5
  · have hold : ∀ a b x, Done m i k a b → (pv a b).ownBlock = some x → x < wr.heap.size := fun a b x hd he => by
      obtain ⟨_, j, _, _, _, _, _, q6⟩ := h.at_ a b hd
      exact (ownsRow_lt q6 x he).2
    have hnew : ∀ x, v.ownBlock = some x → wr.heap.size ≤ x := fun x he => (ownsRow_lt hv x he).1
    by_cases ea : a = i ∧ b = k
    · by_cases eb : a2 = i ∧ b2 = k
      · omega
      · rw [if_pos ea] at e1; rw [if_neg eb] at e2
        have := hnew x e1; have := hold a2 b2 x (hnd _ _ h2 eb) e2; omega
    · by_cases eb : a2 = i ∧ b2 = k
      · rw [if_neg ea] at e1; rw [if_pos eb] at e2
        have := hnew x e2; have := hold a b x (hnd _ _ h1 ea) e1; omega
      · rw [if_neg ea] at e1; rw [if_neg eb] at e2
        exact h.apart a b a2 b2 x (hnd _ _ h1 ea) (hnd _ _ h2 eb) hne e1 e2
  · have hn2 : ¬ (a = i ∧ b = k) := fun e => hn (by unfold Done; omega)
    rw [if_neg (by omega)]
    exact h.no a b ha hb2 fun e => hn (by unfold Done at *; omega)

end Go.Proofs.Ytbbkpaledlbcmaa

/- Matrices loaded and stored whole, in one step of a walk. -/

namespace Go.Proofs.Ytbbkpaledlbcmaa
open Go.RowKit

theorem infoMA : (Try.prog.info? MA).map (·.size) = some 16 := by kernel_rfl
theorem loadM {w : World} {B : Nat} {g : Nat → Option Addr} (h : w.heap[B]? = some (.cells (mC g) MA (0, 0))) : (loadVar MA ⟨B, 0, none⟩).run Try.prog w = .ok (.agg (mC g)) w :=
  run_loadVar_row w B MA MA (mC g) (0, 0) (.array 4 RA) h (by kernel_rfl) rfl (by rw [infoMA]; rfl)
/-- A world in which a matrix was stored whole into the block B. -/
structure PutM (w w' : World) (B : Nat) (g : Nat → Option Addr) : Prop where
  os : w'.os = w.os
  tape : w'.tape = w.tape
  output : w'.output = w.output
  size : w'.heap.size = w.heap.size
  heap : w'.heap[B]? = some (.cells (mC g) MA (0, 0))
  off : ∀ b, b ≠ B → w'.heap[b]? = w.heap[b]?
theorem storeM {w : World} {B : Nat} {g : Nat → Option Addr} (h : w.heap[B]? = some (.cells (mC g) MA (0, 0))) (k : Nat → Option Addr) : ∃ w', (storeVar MA ⟨B, 0, none⟩ (.agg (mC k))).run Try.prog w = .ok () w' ∧ PutM w w' B k := by
  refine ⟨_, run_storeVar_row w B MA MA (mC g) (mC k) h (by rw [infoMA]; rfl) rfl (by simp [mC, Value.oneCell']), rfl, rfl, rfl, by simp [World.setRow], ?_, fun b hb => ?_⟩
  · simp only [World.setRow, Array.getElem?_modify, if_true, h]
    rfl
  · simp only [World.setRow, Array.getElem?_modify]
    rw [if_neg (fun e => hb e.symm)]
theorem PutM.below {w0 w w' : World} {B lo : Nat} {g : Nat → Option Addr} (h : PutM w w' B g) (hb : Below lo w0 w) (hl : lo ≤ B) : Below lo w0 w' :=
  ⟨h.os.trans hb.os, h.tape.trans hb.tape, h.output.trans hb.output, by rw [h.size]; exact hb.size, fun i hi => (h.off i (by omega)).trans (hb.block i hi)⟩
theorem PutM.grown {w w' : World} {B : Nat} {g : Nat → Option Addr} (h : PutM w w' B g) : w.grownBy w' (some B) := ⟨h.os, h.tape, h.output, Nat.le_of_eq h.size.symm, fun i _ hne => h.off i fun e => hne (by rw [e])⟩
section
variable {ops : Array Oper} {rest : List Oper} {o : Oper} {a : Act} {w : World} {Q : Exit → Act → World → Prop}
theorem wpList_load_mat (hg : o.guard = none) (x : Operand) (ho : o.op = .load MA x) (B : Nat) (g : Nat → Option Addr) (hx : a.eval x = .pointer (some ⟨B, 0, none⟩)) (hh : w.heap[B]? = some (.cells (mC g) MA (0, 0)))
    (h : wpList Try.prog ops Q rest (a.put o.dst (.agg (mC g))) w) : wpList Try.prog ops Q (o :: rest) a w := by
  refine wpList_plain hg fun K hK => ?_
  have hl := loadM hh
  unfold Oper.wp
  simp [execOp, ho, hx, Instr.loadAt, Instr.sureAddr, hl, Result.andThen]
  exact hK _ _ h
theorem wpList_load_mat_g (hw : Region.wanted o (yielded ops a.tmps) = true) (x : Operand) (ho : o.op = .load MA x) (B : Nat) (g : Nat → Option Addr) (hx : a.eval x = .pointer (some ⟨B, 0, none⟩)) (hh : w.heap[B]? = some (.cells (mC g) MA (0, 0)))
    (h : wpList Try.prog ops Q rest (a.put o.dst (.agg (mC g))) w) : wpList Try.prog ops Q (o :: rest) a w := by
  refine wpList_step fun K hK => ?_
  rw [if_pos hw]
  have hl := loadM hh
  unfold Oper.wp
  simp [execOp, ho, hx, Instr.loadAt, Instr.sureAddr, hl, Result.andThen]
  exact hK _ _ h
theorem wpList_store_mat (hg : o.guard = none) (x y : Operand) (ho : o.op = .store MA x y) (B : Nat) (g k : Nat → Option Addr) (hx : a.eval x = .pointer (some ⟨B, 0, none⟩)) (hy : a.eval y = .agg (mC k)) (hh : w.heap[B]? = some (.cells (mC g) MA (0, 0)))
    (h : ∀ w', PutM w w' B k → wpList Try.prog ops Q rest (a.put o.dst undef) w') : wpList Try.prog ops Q (o :: rest) a w := by
  refine wpList_plain hg fun K hK => ?_
  obtain ⟨w', hl, hp⟩ := storeM hh k
  unfold Oper.wp
  simp [execOp, ho, hx, hy, Instr.storeAt, Instr.sureAddr, hl, Result.andThen]
  exact hK _ _ (h w' hp)
end

/-- A matrix loaded whole in a region that draws its order. -/
theorem wpQuiet_load_mat {ops : Array Oper} {rest : List Oper} {o : Oper} {a : Act} {w : World} {Q : Act → Prop} (hg : o.guard = none) (x : Operand) (ho : o.op = .load MA x) (B : Nat) (g : Nat → Option Addr) (hx : a.eval x = .pointer (some ⟨B, 0, none⟩)) (hh : w.heap[B]? = some (.cells (mC g) MA (0, 0)))
    (h : wpQuiet Try.prog ops (fun w' => ∃ p : BelowBy w, w' = p.world) Q rest (a.put o.dst (.agg (mC g)))) : wpQuiet Try.prog ops (fun w' => ∃ p : BelowBy w, w' = p.world) Q (o :: rest) a := by
  refine wpQuiet_step fun K hK => ?_
  rw [if_pos (by simp [Region.wanted, hg])]
  refine ⟨.agg (mC g), ?_, hK _ h⟩
  rintro _ ⟨p, rfl⟩
  have hl := loadM ((p.below.block B (Array.getElem?_eq_some_iff.1 hh).1).trans hh)
  simp [Oper.quietAt, execOp, ho, hx, Instr.loadAt, Instr.sureAddr, hl, Result.andThen, Oper.quietUpon]

end Go.Proofs.Ytbbkpaledlbcmaa

/- The program's matrixBy: its contract. -/

namespace Go.Proofs.Ytbbkpaledlbcmaa
open Go.RowKit

theorem cell_of16 {w : World} {B : Nat} {g : Nat → Option Addr} (h : w.heap[B]? = some (.cells (mC g) MA (0, 0))) {i k : Nat} (hi : i < 4) (hk : k < 4) : w.cell? ⟨B, i * 4 + k, none⟩ = some (.pointer (g (i * 4 + k))) ∧ w.frozen? ⟨B, i * 4 + k, none⟩ = false := by
  have h4 : i = 0 ∨ i = 1 ∨ i = 2 ∨ i = 3 := by omega
  have h5 : k = 0 ∨ k = 1 ∨ k = 2 ∨ k = 3 := by omega
  rcases h4 with rfl | rfl | rfl | rfl <;> rcases h5 with rfl | rfl | rfl | rfl <;> simp [World.cell?, World.frozen?, h, mC]
theorem ByAt.done {w wr w2 : World} {n m : Nat} {f : Nat → Nat → Option Pl} {g : Nat → Option Addr} {P : Nat → Nat → Pl} {pv : Nat → Nat → Value} (h : ByAt w m f n 0 g P pv wr) (hn : n ≤ 4) (hm : m ≤ 4) (hp : PutM wr w2 w.heap.size g) : (∀ i k, i < n → k < m → f i k = some (P i k)) ∧ MatW w.heap.size w2 g (if m = 0 then 0 else n) (if n = 0 then 0 else m) P pv := by
  have hd : ∀ a b, Done m n 0 a b ↔ a < n ∧ b < m := fun a b => by unfold Done; omega
  have hs := h.size
  have hlt1 : ∀ {i}, i < (if m = 0 then 0 else n) → i < n := fun {i} h => by split at h <;> omega
  have hlt2 : ∀ {i}, i < (if n = 0 then 0 else m) → i < m := fun {i} h => by split at h <;> omega
  refine ⟨fun i k hi hk => (h.at_ i k ((hd i k).2 ⟨hi, hk⟩)).1, ⟨by split <;> omega, by split <;> omega, by split <;> split <;> omega, fun i k hi hk => ?_, fun i k hi hk hno => h.no i k hi hk fun e => by have := (hd i k).1 e; (split at hno <;> split at hno <;> omega)⟩, fun i k hi hk => ?_, fun i k i2 k2 b h1 h2 h3 h4 => h.apart i k i2 k2 b ((hd i k).2 ⟨hlt1 h1, hlt2 h2⟩) ((hd i2 k2).2 ⟨hlt1 h3, hlt2 h4⟩)⟩
  · obtain ⟨_, j, q1, _⟩ := h.at_ i k ((hd i k).2 ⟨hlt1 hi, hlt2 hk⟩)
    exact ⟨_, q1⟩
  · obtain ⟨_, j, q1, q2, q3, q4, q5, q6⟩ := h.at_ i k ((hd i k).2 ⟨hlt1 hi, hlt2 hk⟩)
    have hc : ∀ o, w2.cell? ⟨j, o, none⟩ = wr.cell? ⟨j, o, none⟩ := fun o => by simp only [World.cell?]; rw [hp.off _ (by omega)]
    refine ⟨j, q1, by omega, by rw [hp.size]; exact q3, (hc 0).trans q4, (hc 1).trans q5, ?_⟩
    exact IntRow.mono (ownsRow_touched q6 fun b hb _ => hp.off _ (by have := (ownsRow_lt q6 b hb).1; omega)) (by omega)

def ByR (w : World) (n m : Nat) (f : Nat → Nat → Option Pl) (e : Ending) (w' : World) : Prop :=
  ((∃ i k, i < n ∧ k < m ∧ f i k = none) ∧ e = .returned (.agg (mC fun _ => none)) ∨ ∃ g P pv, (∀ i k, i < n → k < m → f i k = some (P i k)) ∧ e = .returned (.agg (mC g)) ∧ MatW w.heap.size w' g (if m = 0 then 0 else n) (if n = 0 then 0 else m) P pv) ∧ Below w.heap.size w w'

set_option maxRecDepth 100000 in
set_option maxHeartbeats 4000000 in
theorem matrixBy_gen (F : Nat) (lb : Array Value) (n m : Nat) (f : Nat → Nat → Option Pl) (w : World) (hn : n ≤ 4) (hm : m ≤ 4) (eg : ∀ args w, (callFunc F args).run Try.prog w = .ok (.enter F args) w)
    (hat : ∀ (i k : Nat) (W : World), i < n → k < m → Below w.heap.size w W → Calls Try.prog F (#[.int .i64 (i : Int), .int .i64 (k : Int)] ++ lb) W (AtE W (f i k))) :
    Calls Try.prog 93 #[.int .i64 n, .int .i64 m, .func (.func F) #[] lb] w (ByR w n m f) := by
  have HST := Lib.hid (ByAt.start w m f)
  unfold mC at HST
  have HAT := Lib.hid hat
  clear hat
  go_enter Try.func93, Try.ntmps93
  go_wp2
  go_loopw [13] (fun x wr => ∃ (i : Nat) (g : Nat → Option Addr) (P : Nat → Nat → Pl) (pv : Nat → Nat → Value), i ≤ n ∧ x = .int .i64 i ∧ Hid (ByAt w m f i 0 g P pv wr)) (fun x _ => n - (intOf x).toNat)
  case atStart => exact ⟨0, _, _, _, Nat.zero_le _, rfl, HST⟩
  case round =>
    obtain ⟨i, g, P, pv, hi, rfl, HF⟩ := hrel
    obtain ⟨wo, rfl⟩ : ∃ wo, wr = wo := ⟨_, rfl⟩
    by_cases hlt : i < n
    · go_wp2
      go_loopw [17] (fun x wr => ∃ (k : Nat) (g : Nat → Option Addr) (P : Nat → Nat → Pl) (pv : Nat → Nat → Value), k ≤ m ∧ x = .int .i64 k ∧ Hid (ByAt w m f i k g P pv wr)) (fun x _ => m - (intOf x).toNat)
      case atStart => exact ⟨0, _, _, _, Nat.zero_le _, rfl, HF⟩
      case round =>
        obtain ⟨k, g, P, pv, hk, rfl, HI⟩ := hrel
        by_cases hkt : k < m
        · go_wp2_with fail
          refine (HAT.out i k wr hlt hkt HI.out.below).mono ?_
          rintro e w2 ⟨⟨l, a, c, d, hf, rfl⟩ | ⟨p, a, c, d, hf, rfl, hr⟩, hb2⟩
          · have hres : (w2.alloc (.cells #[.int .i64 l, .slice a c d] 35)).heap[w.heap.size]? = some (.cells (mC fun _ => none) MA (0, 0)) := by
              have hs := HI.out.size
              have hs2 := hb2.size
              rw [Below.heap_alloc _ _ _ (by omega), hb2.block _ (by omega)]
              exact HI.out.res
            have HB := Lib.hid ((HI.out.below.trans (hb2.mono HI.out.below.size)).alloc (Nat.le_trans HI.out.below.size hb2.size) (.cells #[.int .i64 l, .slice a c d] 35))
            have HF2 := Lib.hid hf
            have HRS := Lib.hid hres
            clear hres hb2 hf
            go_wp2_with (refine wpList_store_mat rfl _ _ rfl w.heap.size _ (fun _ => none) rfl rfl HRS.out ?_; intro w3 hp3)
            have hB := hp3.below HB.out (Nat.le_refl _)
            have hld := loadM hp3.heap
            have hR : ByR w n m f (.returned (.agg (mC fun _ => none))) w3 := by unfold ByR; exact ⟨.inl ⟨⟨i, k, hlt, hkt, HF2.out⟩, rfl⟩, hB⟩
            refine bodyPost_ret (v := .agg (mC fun _ => none)) ?_ rfl hR
            simp [results, Try.results93, Act.put, asAddr, hld]
          · have HN := Lib.hid (HI.out.next (by omega) hkt hm hf hb2 hr)
            have hfil : (w2.alloc (.cells #[.int .i64 p.low, .slice a c d] 35)).heap[w.heap.size + 1]? = some (.cells (mC g) MA (0, 0)) := by
              have hs := HI.out.size
              have hs2 := hb2.size
              rw [Below.heap_alloc _ _ _ (by omega), hb2.block _ (by omega)]
              exact HI.out.fill
            obtain ⟨hq, hz⟩ := cell_of16 hfil (i := i) (k := k) (by omega) (by omega)
            clear hfil hb2 hr hf
            go_wp2
            go_roundw
            case rel => exact ⟨k + 1, _, _, _, by omega, by go_num, HN⟩
            case measure => simp [intOf]; omega
        · obtain rfl : k = m := by omega
          go_wp2
          go_roundw
          case rel => exact ⟨i + 1, g, P, pv, by omega, by go_num, Lib.hid HI.out.row⟩
          case measure => simp [intOf]; omega
    · obtain rfl : i = n := by omega
      go_wp2_with (first | (refine wpList_load_mat rfl _ rfl (w.heap.size + 1) g rfl HF.out.fill ?_) | (refine wpList_store_mat rfl _ _ rfl w.heap.size _ g rfl rfl HF.out.res ?_; intro w3 hp3))
      obtain ⟨hD, hM⟩ := HF.out.done hn hm hp3
      have hB := hp3.below HF.out.below (Nat.le_refl _)
      have hld := loadM hp3.heap
      have hR : ByR w i m f (.returned (.agg (mC g))) w3 := by unfold ByR; exact ⟨.inr ⟨g, P, pv, hD, rfl, hM⟩, hB⟩
      refine bodyPost_ret (v := .agg (mC g)) ?_ rfl hR
      simp [results, Try.results93, Act.put, asAddr, hld]

theorem matrixBy_any (F : Nat) (lb : Array Value) (n m : Nat) (f : Nat → Nat → Option Pl) (w : World) (hn : n ≤ 4) (hm : m ≤ 4) (hnm : n = 0 ↔ m = 0) (eg : ∀ args w, (callFunc F args).run Try.prog w = .ok (.enter F args) w)
    (hat : ∀ (i k : Nat) (W : World), i < n → k < m → Below w.heap.size w W → Calls Try.prog F (#[.int .i64 (i : Int), .int .i64 (k : Int)] ++ lb) W (AtE W (f i k))) :
    Calls Try.prog 93 #[.int .i64 n, .int .i64 m, .func (.func F) #[] lb] w fun e w' =>
      ((∃ i k, i < n ∧ k < m ∧ f i k = none) ∧ e = .returned (.agg (mC fun _ => none)) ∨ ∃ g P pv, (∀ i k, i < n → k < m → f i k = some (P i k)) ∧ e = .returned (.agg (mC g)) ∧ MatW w.heap.size w' g n m P pv) ∧ Below w.heap.size w w' := by
  have h := matrixBy_gen F lb n m f w hn hm eg hat
  unfold ByR at h
  rw [show (if m = 0 then 0 else n) = n by split <;> omega, show (if n = 0 then 0 else m) = m by split <;> omega] at h
  exact h
theorem mC_none {g : Nat → Option Addr} (h : ShapeM g 0 0) : mC g = mC fun _ => none := by
  have e : ∀ i k, i < 4 → k < 4 → g (i * 4 + k) = none := fun i k hi hk => h.no i k hi hk (.inl (Nat.zero_le _))
  have e0 := e 0 0 (by omega) (by omega)
  have e1 := e 0 1 (by omega) (by omega)
  have e2 := e 0 2 (by omega) (by omega)
  have e3 := e 0 3 (by omega) (by omega)
  have e4 := e 1 0 (by omega) (by omega)
  have e5 := e 1 1 (by omega) (by omega)
  have e6 := e 1 2 (by omega) (by omega)
  have e7 := e 1 3 (by omega) (by omega)
  have e8 := e 2 0 (by omega) (by omega)
  have e9 := e 2 1 (by omega) (by omega)
  have e10 := e 2 2 (by omega) (by omega)
  have e11 := e 2 3 (by omega) (by omega)
  have e12 := e 3 0 (by omega) (by omega)
  have e13 := e 3 1 (by omega) (by omega)
  have e14 := e 3 2 (by omega) (by omega)
  have e15 := e 3 3 (by omega) (by omega)
  simp only [Nat.zero_mul, Nat.one_mul, Nat.zero_add, Nat.add_zero] at e0 e1 e2 e3 e4 e5 e6 e7
  simp [mC, e0, e1, e2, e3, e4, e5, e6, e7, e8, e9, e10, e11, e12, e13, e14, e15]
/-- No columns: the empty matrix. -/
theorem matrixBy_bare (F : Nat) (lb : Array Value) (n : Nat) (w : World) (hn : n ≤ 4) (eg : ∀ args w, (callFunc F args).run Try.prog w = .ok (.enter F args) w) :
    Calls Try.prog 93 #[.int .i64 n, .int .i64 ((0 : Nat) : Int), .func (.func F) #[] lb] w fun e w' => e = .returned (.agg (mC fun _ => none)) ∧ Below w.heap.size w w' := by
  refine (matrixBy_gen F lb n 0 (fun _ _ => none) w hn (by omega) eg fun i k _ _ hk => absurd hk (by omega)).mono ?_
  rintro e w' ⟨⟨⟨i, k, _, hk, _⟩, rfl⟩ | ⟨g, P, pv, _, rfl, hM⟩, hB⟩
  · exact absurd hk (by omega)
  · have hs := hM.shp
    simp only [if_true, ite_self] at hs
    exact ⟨by rw [mC_none hs], hB⟩

end Go.Proofs.Ytbbkpaledlbcmaa

/- The program's matrixOf. -/

namespace Go.Proofs.Ytbbkpaledlbcmaa
open Go.RowKit

/-- A result's block behind which a block with two cells lies. -/
theorem resBoxM {w w1 W : World} {x y : Value} (hW : (w.alloc (.cells #[.int .i64 0, .slice none 0 0] 35)).alloc (.cells #[x, y] 35) = W) (hg : Below W.heap.size W w1) :
    w1.cell? ⟨w.heap.size, 0, none⟩ = some (.int .i64 0) ∧ w1.cell? ⟨w.heap.size, 1, none⟩ = some (.slice none 0 0) ∧ w1.cell? ⟨w.heap.size + 1, 0, none⟩ = some x ∧ w1.cell? ⟨w.heap.size + 1, 1, none⟩ = some y ∧ w1.frozen? ⟨w.heap.size, 0, none⟩ = false ∧ w1.frozen? ⟨w.heap.size, 1, none⟩ = false := by
  have hsz : W.heap.size = w.heap.size + 2 := by rw [← hW]; simp
  have k0 : W.heap[w.heap.size]? = some (.cells #[.int .i64 0, .slice none 0 0] 35 (0, 0)) := by
    rw [← hW, Below.heap_alloc _ _ _ (by simp)]
    exact World.alloc_heap_new w _
  have k1 : W.heap[w.heap.size + 1]? = some (.cells #[x, y] 35 (0, 0)) := by
    rw [← hW]
    have h := World.alloc_heap_new (w.alloc (.cells #[.int .i64 0, .slice none 0 0] 35)) (.cells #[x, y] 35)
    rwa [World.size_alloc] at h
  have e0 := (hg.block w.heap.size (by omega)).trans k0
  have e1 := (hg.block (w.heap.size + 1) (by omega)).trans k1
  refine ⟨?_, ?_, ?_, ?_, ?_, ?_⟩ <;> simp [World.cell?, World.frozen?, e0, e1]
def ofO (rows : Mx) (i k : Nat) : Option Pl := if polyB (at2 rows i k) then some (at2 rows i k) else none

set_option maxRecDepth 100000 in
set_option maxHeartbeats 4000000 in
theorem matrixOf1_any (L : Nat) (a : Option Addr) (c n : Nat) (rows : Mx) (i k : Nat) (w : World) (hl : w.cell? ⟨L, 0, none⟩ = some (.slice a n c)) (hL : L < w.heap.size) (hs : IsPSS w a n rows) (hi : i < n) (hk : ∀ h : i < rows.length, k < rows[i].length) :
    Calls Try.prog 157 #[.int .i64 (i : Int), .int .i64 (k : Int), .pointer (some ⟨L, 0, none⟩)] w (AtE w (ofO rows i k)) := by
  have hir : i < rows.length := by rw [hs.len]; exact hi
  have hkr := hk hir
  obtain ⟨x, rfl, hxb, hx⟩ := hs.at_ (by omega)
  obtain ⟨ai, ci, hc, hI⟩ := hx i hir
  obtain ⟨y, rfl, hyb, hy⟩ := hI.at_ (by omega)
  obtain ⟨ak, ck, hd0, hd1, hJ, hle⟩ := hy k hkr
  have hmax := hs.max
  have hmax2 := hI.max
  have hat : at2 rows i k = rows[i][k] := at2_eq hir hkr
  unfold maxLen at hmax hmax2
  obtain ⟨p, hp⟩ : ∃ p, rows[i][k] = p := ⟨_, rfl⟩
  rw [hp] at hd0 hd1 hJ hle hat
  obtain ⟨r, hr⟩ : ∃ r, rows[i].length = r := ⟨_, rfl⟩
  rw [hr] at hc hkr hmax2
  obtain ⟨b, hb⟩ : ∃ b, polyB p = b := ⟨_, rfl⟩
  have HO : Hid (ofO rows i k = if b then some p else none) := Lib.hid (by unfold ofO; rw [hat, hb])
  obtain ⟨zl, zs⟩ := p
  dsimp only at hd0 hd1 hJ hle
  obtain ⟨m, hm⟩ : ∃ m, zs.length = m := ⟨_, rfl⟩
  have HZL := Lib.hid hm
  rw [hm] at hd1 hJ hle
  rw [addr_next2] at hd1
  obtain ⟨V, hV⟩ : ∃ V, w.alloc (.cells #[.int .i64 0, .slice none 0 0] 35) = V := ⟨_, rfl⟩
  have hbV : Below w.heap.size w V := by rw [← hV]; exact (Below.refl _ _).alloc (Nat.le_refl _) _
  have q0 : V.cell? ⟨L, 0, none⟩ = some (.slice (some x) n c) := (hbV.cell (p := ⟨L, 0, none⟩) hL).trans hl
  have q1 : V.cell? (x.add i) = some (.slice (some y) r ci) := (hbV.cell (p := x.add i) (by rw [addr_add_block]; exact hxb)).trans hc
  have q2 : V.cell? (y.add (k * 2)) = some (.int .i64 zl) := (hbV.cell (p := y.add (k * 2)) (by rw [addr_add_block]; exact hyb)).trans hd0
  have q3 : V.cell? ⟨(y.add (k * 2)).block, (y.add (k * 2)).off + 1, none⟩ = some (.slice ak m ck) := (hbV.cell (p := ⟨(y.add (k * 2)).block, (y.add (k * 2)).off + 1, none⟩) (by show (y.add (k * 2)).block < _; rw [addr_add_block]; exact hyb)).trans hd1
  rw [← hV] at q0 q1 q2 q3
  obtain ⟨W, hW⟩ : ∃ W, (w.alloc (.cells #[.int .i64 0, .slice none 0 0] 35)).alloc (.cells #[.int .i64 zl, .slice ak m ck] 35) = W := ⟨_, rfl⟩
  have hsz : W.heap.size = w.heap.size + 2 := by rw [← hW]; simp
  have hbW : Below w.heap.size w W := by rw [← hW]; exact ((Below.refl _ w).alloc (Nat.le_refl _) _).alloc (by simp) _
  have HC : Hid (∀ w1, Below W.heap.size W w1 → _) := Lib.hid fun w1 (hg : Below W.heap.size W w1) => resBoxM hW hg
  have HS := Lib.hid (hJ.below hbW)
  have HP := Lib.hid (iPolyIn_any zl zs ak ck m b W (hJ.below hbW) hle hb)
  have HB := Lib.hid hb
  have HBW := Lib.hid hbW
  have HW := Lib.hid hW
  have hkI : (k : Int) < (r : Int) := by omega
  have hiI : (i : Int) < (n : Int) := by omega
  clear hW hbW hb hV hbV hl hL hs hx hc hI hy hd0 hd1 hJ hk hat hp hr hm hxb hyb
  go_enter Try.func157, Try.ntmps157
  go_wp2_with fail
  rw [HW.out]
  refine HP.out.mono ?_
  rintro e w1 ⟨rfl, hb1⟩
  obtain ⟨d0, d1, k0, k1, f0, f1⟩ := HC.out w1 hb1
  have hs1 := hb1.size
  have HB1 := Lib.hid hb1
  clear hb1 q0 q1 q2 q3
  cases b with
  | false =>
    go_wp2
    refine bodyPost_ret (v := .tuple #[plV 0 (.slice none 0 0), .bool false]) ?_ rfl ⟨.inl ⟨0, none, 0, 0, HO.out, rfl⟩, resBelow (.int .i64 0) (.slice none 0 0) (HBW.out.trans (HB1.out.mono HBW.out.size))⟩
    simp [results, Try.results157, go_sem, d0, d1, plV]
  | true =>
    have hn2 : m ≤ 1048576 := by
      obtain ⟨_, hl, _⟩ := polyB_trim HB.out
      have := HZL.out
      dsimp only at hl
      omega
    have HCL : Hid (∀ w2, Below W.heap.size W w2 → _) := Lib.hid fun w2 (hg : Below W.heap.size W w2) => cloneI_any ak ck m zs w2 (HS.out.below hg) hn2
    go_wp2
    go_region_held3 (fun w' : World => w'.cell? ⟨w.heap.size + 1, 0, none⟩ = some (.int .i64 zl) ∧ w'.cell? ⟨w.heap.size + 1, 1, none⟩ = some (.slice ak m ck)) (first | go_keep | exact ⟨k0, k1⟩)
      (first
        | (go_at_call 158
           refine (HCL.out _ HB1.out.drew).mono ?_
           rintro e w2 ⟨⟨v, rfl, hr⟩, hb2⟩
           have HR := Lib.hid hr
           have HB2 := Lib.hid (HB1.out.drew.trans (hb2.mono hs1))
           obtain ⟨d0, d1, k0, k1, f0, f1⟩ := HC.out w2 HB2.out
           obtain ⟨g1, gg, cap1, rfl, _⟩ := hr.shape
           clear hr hb2))
    go_wp2
    have hR : IntRow (w.heap.size + 2) w2 (.slice g1 zs.length cap1) zs := HR.out.mono (by show w.heap.size + 2 ≤ w1.heap.size; omega)
    have hA : AtE w (ofO rows i k) (.returned (.tuple #[plV zl (.slice g1 zs.length cap1), .bool true])) ((w2.setCell ⟨w.heap.size, 0, none⟩ (.int .i64 zl)).setCell ⟨w.heap.size, 1, none⟩ (.slice g1 zs.length cap1)) :=
      ⟨.inr ⟨⟨zl, zs⟩, g1, zs.length, cap1, HO.out, rfl, resRow (.int .i64 zl) (.slice g1 zs.length cap1) hR (by omega)⟩, resBelow (.int .i64 zl) (.slice g1 zs.length cap1) (HBW.out.trans (HB2.out.mono HBW.out.size))⟩
    refine bodyPost_ret (v := .tuple #[plV zl (.slice g1 zs.length cap1), .bool true]) ?_ rfl hA
    simp [results, Try.results157, go_sem, d0, d1, plV]

end Go.Proofs.Ytbbkpaledlbcmaa

/- The program's matrixOf: a list as a matrix. -/

namespace Go.Proofs.Ytbbkpaledlbcmaa
open Go.RowKit

theorem MatW.put {lo B : Nat} {w w2 : World} {g k : Nat → Option Addr} {n m : Nat} {P : Nat → Nat → Pl} {pv : Nat → Nat → Value} (h : MatW lo w g n m P pv) (hp : PutM w w2 B k) (hB : B < lo) : MatW lo w2 g n m P pv :=
  ⟨h.shp, fun i k hi hk => by
    obtain ⟨j, h1, h2, h3, h4, h5, h6⟩ := h.at_ i k hi hk
    have hc : ∀ o, w2.cell? ⟨j, o, none⟩ = w.cell? ⟨j, o, none⟩ := fun o => by simp only [World.cell?]; rw [hp.off _ (by omega)]
    exact ⟨j, h1, h2, by rw [hp.size]; exact h3, (hc 0).trans h4, (hc 1).trans h5, ownsRow_touched h6 fun b hb _ => hp.off _ (by have := (ownsRow_lt h6 b hb).1; omega)⟩, h.apart⟩
theorem MatW.congr {lo : Nat} {w : World} {g : Nat → Option Addr} {n m : Nat} {P Q : Nat → Nat → Pl} {pv : Nat → Nat → Value} (h : MatW lo w g n m P pv) (e : ∀ i k, i < n → k < m → P i k = Q i k) : MatW lo w g n m Q pv :=
  ⟨h.shp, fun i k hi hk => by
    obtain ⟨j, h1, h2, h3, h4, h5, h6⟩ := h.at_ i k hi hk
    rw [e i k hi hk] at h4 h6
    exact ⟨j, h1, h2, h3, h4, h5, h6⟩, h.apart⟩
/-- What matrixOf comes to. -/
def MatR (w : World) (rows : Mx) (e : Ending) (w' : World) : Prop :=
  ((matB rows = true ∧ ∃ g pv, e = .returned (.agg (mC g)) ∧ MatW w.heap.size w' g rows.length (colsM rows) (at2 rows) pv) ∨ (matB rows = false ∧ e = .returned (.agg (mC fun _ => none)))) ∧ Below w.heap.size w w'
theorem MatR.no {w w' : World} {rows : Mx} (h : matB rows = false) (hb : Below w.heap.size w w') : MatR w rows (.returned (.agg (mC fun _ => none))) w' := ⟨.inr ⟨h, rfl⟩, hb⟩
theorem matB_no {rows : Mx} (h : ¬ ((1 ≤ rows.length ∧ rows.length ≤ 4) ∧ (1 ≤ colsM rows ∧ colsM rows ≤ 4) ∧ ∀ r ∈ rows, r.length = colsM rows ∧ ∀ p ∈ r, polyB p = true)) : matB rows = false := by
  cases e : matB rows with
  | false => rfl
  | true => exact absurd (matB_iff.1 e) h

set_option maxRecDepth 100000 in
set_option maxHeartbeats 4000000 in
theorem matrixOf_any (a : Option Addr) (c n : Nat) (rows : Mx) (w : World) (hs : IsPSS w a n rows) :
    Calls Try.prog 90 #[.slice a n c] w (MatR w rows) := by
  have hmf : ∀ (fn : Fn) (first cap : Array Value) (w : World), (Instr.makeFunc fn first cap).run Try.prog w = .ok (.func fn first cap) w := fun _ _ _ _ => rfl
  have hmax := hs.max
  unfold maxLen at hmax
  obtain ⟨W, hW⟩ : ∃ W, (w.alloc (.cells #[.slice a n c] 23)).alloc (.cells (mC fun _ => none) MA) = W := ⟨_, rfl⟩
  have hsz : W.heap.size = w.heap.size + 2 := by rw [← hW]; simp
  have hbW : Below w.heap.size w W := by rw [← hW]; exact ((Below.refl _ w).alloc (Nat.le_refl _) _).alloc (by simp) _
  have hres : W.heap[w.heap.size + 1]? = some (.cells (mC fun _ => none) MA (0, 0)) := by
    rw [← hW]
    have h := World.alloc_heap_new (w.alloc (.cells #[.slice a n c] 23)) (.cells (mC fun _ => none) MA)
    rwa [World.size_alloc] at h
  have hbox : W.cell? ⟨w.heap.size, 0, none⟩ = some (.slice a n c) := by
    have h : W.heap[w.heap.size]? = some (.cells #[.slice a n c] 23 (0, 0)) := by
      rw [← hW, Below.heap_alloc _ _ _ (by simp)]
      exact World.alloc_heap_new w _
    simp [World.cell?, h]
  have HBOX := Lib.hid hbox
  have HRES := Lib.hid hres
  have HBW := Lib.hid hbW
  have HS := Lib.hid hs
  have HSW := Lib.hid (hs.below hbW)
  have HL := Lib.hid hs.len
  have hW2 := hW
  simp only [mC] at hW2
  have HW := Lib.hid hW2
  clear hres hbW hbox hW2
  by_cases h0 : n = 0
  · subst h0
    have HN : Hid (matB rows = false) := Lib.hid (matB_no fun h => by have := HL.out; omega)
    clear hs hW
    go_enter Try.func90, Try.ntmps90
    go_wp2_with (refine wpList_store_mat rfl _ _ rfl (w.heap.size + 1) (fun _ => none) (fun _ => none) rfl rfl (by rw [HW.out]; exact HRES.out) ?_; rw [HW.out]; intro w3 hp3)
    have hld := loadM hp3.heap
    refine bodyPost_ret (v := .agg (mC fun _ => none)) ?_ rfl (MatR.no HN.out (hp3.below HBW.out (by omega)))
    simp [results, Try.results90, Act.put, asAddr, hld]
  by_cases h4 : 4 < n
  · have HN : Hid (matB rows = false) := Lib.hid (matB_no fun h => by have := HL.out; omega)
    have h4i : (4 : Int) < (n : Int) := by omega
    have hd0 : decide ((n : Int) = 0) = false := decide_eq_false (by omega)
    have hd4 : decide ((4 : Int) < (n : Int)) = true := decide_eq_true h4i
    clear hs hW
    go_enter Try.func90, Try.ntmps90
    go_wp2_with (refine wpList_store_mat rfl _ _ rfl (w.heap.size + 1) (fun _ => none) (fun _ => none) rfl rfl (by rw [HW.out]; exact HRES.out) ?_; rw [HW.out]; intro w3 hp3)
    have hld := loadM hp3.heap
    refine bodyPost_ret (v := .agg (mC fun _ => none)) ?_ rfl (MatR.no HN.out (hp3.below HBW.out (by omega)))
    simp [results, Try.results90, Act.put, asAddr, hld]
  have hd0 : decide ((n : Int) = 0) = false := decide_eq_false (by omega)
  have hd4 : decide ((4 : Int) < (n : Int)) = false := decide_eq_false (by omega)
  have h0i : (0 : Int) < (n : Int) := by omega
  obtain ⟨x, rfl, hxb, hx⟩ := hs.at_ (by omega)
  obtain ⟨a0, c0, hc0, hI0⟩ := hx 0 (by rw [hs.len]; omega)
  rw [show x.add 0 = x by simp [Addr.add]] at hc0
  have hcols : (rows[0]'(by rw [hs.len]; omega)).length = colsM rows := by
    unfold colsM
    simp [List.getD_eq_getElem?_getD, show 0 < rows.length by rw [hs.len]; omega]
  rw [hcols] at hc0
  have hm0 := hI0.max
  rw [hcols] at hm0
  unfold maxLen at hm0
  obtain ⟨m, hm⟩ : ∃ m, colsM rows = m := ⟨_, rfl⟩
  have HM := Lib.hid hm
  rw [hm] at hc0 hm0
  have q0 : W.cell? x = some (.slice a0 m c0) := (HBW.out.cell (p := x) hxb).trans hc0
  rw [← hW] at q0
  simp only [mC] at q0
  by_cases h5 : 4 < m
  · have HN : Hid (matB rows = false) := Lib.hid (matB_no fun h => by have := HM.out; omega)
    have hd5 : decide ((4 : Int) < (m : Int)) = true := decide_eq_true (by omega)
    clear hs hW hx hxb hc0 hI0 hcols hm
    go_enter Try.func90, Try.ntmps90
    go_wp2_with (refine wpList_store_mat rfl _ _ rfl (w.heap.size + 1) (fun _ => none) (fun _ => none) rfl rfl (by rw [HW.out]; exact HRES.out) ?_; rw [HW.out]; intro w3 hp3)
    have hld := loadM hp3.heap
    refine bodyPost_ret (v := .agg (mC fun _ => none)) ?_ rfl (MatR.no HN.out (hp3.below HBW.out (by omega)))
    simp [results, Try.results90, Act.put, asAddr, hld]
  have hd5 : decide ((4 : Int) < (m : Int)) = false := decide_eq_false (by omega)
  have HX : Hid (∀ i (h : i < rows.length), ∃ ai ci, w.cell? (x.add i) = some (.slice ai rows[i].length ci) ∧ IsPS w ai rows[i].length rows[i]) := Lib.hid hx
  have HXB := Lib.hid hxb
  clear hs hx hxb hc0 hI0 hcols hm
  go_enter Try.func90, Try.ntmps90
  go_wp2
  go_loop [28] (fun i => ∃ k : Nat, k ≤ n ∧ i = .int .i64 k ∧ Hid (∀ j (h : j < rows.length), j < k → rows[j].length = m)) (fun i => n - (intOf i).toNat)
  case atStart => exact ⟨0, Nat.zero_le _, rfl, Lib.hid fun j _ h => absurd h (Nat.not_lt_zero _)⟩
  case round =>
    obtain ⟨k, hk, rfl, HE⟩ := hrel
    by_cases hlt : k < n
    · have hkr : k < rows.length := by rw [HL.out]; exact hlt
      obtain ⟨ai, ci, hc, hI⟩ := HX.out k hkr
      have q1 : W.cell? (x.add k) = some (.slice ai rows[k].length ci) := (HBW.out.cell (p := x.add k) (by rw [addr_add_block]; exact HXB.out)).trans hc
      have hmk := hI.max
      obtain ⟨r, hr⟩ : ∃ r, rows[k].length = r := ⟨_, rfl⟩
      rw [hr] at q1 hmk
      unfold maxLen at hmk
      rw [← hW] at q1
      simp only [mC] at q1
      have HR := Lib.hid hr
      clear hc hI hr
      by_cases hrm : r = m
      · have hdr : decide ((r : Int) = (m : Int)) = true := decide_eq_true (by omega)
        subst hrm
        clear hW
        go_wp2
        go_round
        case rel =>
          refine ⟨k + 1, by omega, by go_num, Lib.hid fun j hj hjk => ?_⟩
          by_cases e : j = k
          · subst e; exact HR.out
          · exact HE.out j hj (by omega)
        case measure => simp [intOf]; omega
      · have hdr : decide ((r : Int) = (m : Int)) = false := decide_eq_false (by omega)
        have HN : Hid (matB rows = false) := Lib.hid (matB_no fun h => hrm (by rw [← HR.out, ← HM.out]; exact (h.2.2 _ (List.getElem_mem hkr)).1))
        clear hW
        go_wp2_with (refine wpList_store_mat rfl _ _ rfl (w.heap.size + 1) (fun _ => none) (fun _ => none) rfl rfl (by rw [HW.out]; exact HRES.out) ?_; rw [HW.out]; intro w3 hp3)
        have hld := loadM hp3.heap
        refine bodyPost_ret (v := .agg (mC fun _ => none)) ?_ rfl (MatR.no HN.out (hp3.below HBW.out (by omega)))
        simp [results, Try.results90, asAddr, hld]
    · obtain rfl : k = n := by omega
      have hall : ∀ r ∈ rows, r.length = m := fun r hr => by
        obtain ⟨j, hj, rfl⟩ := List.getElem_of_mem hr
        exact HE.out j hj (by rw [← HL.out]; exact hj)
      have HALL := Lib.hid hall
      have hat2 : ∀ i j, i < k → j < m → ofO rows i j = none → matB rows = false := fun i j hi hj ho => matB_no fun h => by
        have hir : i < rows.length := by rw [HL.out]; exact hi
        have hjr : j < rows[i].length := by rw [hall _ (List.getElem_mem hir)]; exact hj
        have := (h.2.2 _ (List.getElem_mem hir)).2 _ (List.getElem_mem hjr)
        unfold ofO at ho
        rw [at2_eq hir hjr, if_pos this] at ho
        cases ho
      have HAT2 := Lib.hid hat2
      have hmf2 : Hid (∀ (i j : Nat) (W' : World), i < k → j < m → Below W.heap.size W W' → Calls Try.prog 157 (#[.int .i64 (i : Int), .int .i64 (j : Int)] ++ #[.pointer (some ⟨w.heap.size, 0, none⟩)]) W' (AtE W' (ofO rows i j))) := Lib.hid fun i j W' hi hj hb =>
        matrixOf1_any w.heap.size (some x) c k rows i j W' ((hb.cell (p := ⟨w.heap.size, 0, none⟩) (by show w.heap.size < W.heap.size; omega)).trans HBOX.out) (by have := hb.size; omega) (HSW.out.below hb) hi fun h => by rw [hall _ (List.getElem_mem h)]; exact hj
      clear hW hall hat2
      by_cases hz : m = 0
      · subst hz
        have HN : Hid (matB rows = false) := Lib.hid (matB_no fun h => by have := HM.out; omega)
        go_wp2_with fail
        rw [HW.out]
        refine (matrixBy_bare _ _ k W (by omega) (fun _ _ => by go_simp)).mono ?_
        rintro e w2 ⟨rfl, hb2⟩
        have HB2 := Lib.hid (HBW.out.trans (hb2.mono HBW.out.size))
        have HR2 := Lib.hid ((hb2.block _ (by omega)).trans HRES.out)
        clear hb2
        go_wp2_with (refine wpList_store_mat rfl _ _ rfl (w.heap.size + 1) (fun _ => none) (fun _ => none) rfl rfl HR2.out ?_; intro w3 hp3)
        have hld := loadM hp3.heap
        refine bodyPost_ret (v := .agg (mC fun _ => none)) ?_ rfl (MatR.no HN.out (hp3.below HB2.out (by omega)))
        simp [results, Try.results90, Act.put, asAddr, hld]
      · go_wp2_with fail
        rw [HW.out]
        refine (matrixBy_any _ _ k m (ofO rows) W (by omega) (by omega) (by omega) (fun _ _ => by go_simp) hmf2.out).mono ?_
        rintro e w2 ⟨⟨⟨i, j, hi, hj, ho⟩, rfl⟩ | ⟨g, P, pv, hP, rfl, hMW⟩, hb2⟩
        · have HN : Hid (matB rows = false) := Lib.hid (HAT2.out i j hi hj ho)
          have HB2 := Lib.hid (HBW.out.trans (hb2.mono HBW.out.size))
          have HR2 := Lib.hid ((hb2.block _ (by omega)).trans HRES.out)
          clear hb2 ho
          go_wp2_with (refine wpList_store_mat rfl _ _ rfl (w.heap.size + 1) (fun _ => none) (fun _ => none) rfl rfl HR2.out ?_; intro w3 hp3)
          have hld := loadM hp3.heap
          refine bodyPost_ret (v := .agg (mC fun _ => none)) ?_ rfl (MatR.no HN.out (hp3.below HB2.out (by omega)))
          simp [results, Try.results90, Act.put, asAddr, hld]
        · have hY : matB rows = true := matB_iff.2 ⟨⟨by have := HL.out; omega, by have := HL.out; omega⟩, ⟨by have := HM.out; omega, by have := HM.out; omega⟩, fun r hr => ⟨by rw [HALL.out r hr, HM.out], fun p hp => by
            obtain ⟨i, hi, rfl⟩ := List.getElem_of_mem hr
            obtain ⟨j, hj, rfl⟩ := List.getElem_of_mem hp
            have h1 := hP i j (by rw [← HL.out]; exact hi) (by rw [← HALL.out _ hr]; exact hj)
            unfold ofO at h1
            rw [at2_eq hi hj] at h1
            split at h1
            · assumption
            · cases h1⟩⟩
          have hM2 := hMW.congr (Q := at2 rows) fun i j hi hj => by
            have h1 := hP i j hi hj
            unfold ofO at h1
            split at h1
            · exact (Option.some.inj h1).symm
            · cases h1
          have HY := Lib.hid hY
          have HMW := Lib.hid hM2
          have HB2 := Lib.hid (HBW.out.trans (hb2.mono HBW.out.size))
          have HR2 := Lib.hid ((hb2.block _ (by omega)).trans HRES.out)
          clear hb2 hP hMW hM2 hY
          go_wp2_with (refine wpList_store_mat rfl _ _ rfl (w.heap.size + 1) (fun _ => none) g rfl rfl HR2.out ?_; intro w3 hp3)
          have hld := loadM hp3.heap
          have hR : MatR w rows (.returned (.agg (mC g))) w3 := ⟨.inl ⟨HY.out, g, pv, rfl, by rw [HL.out, HM.out]; exact (HMW.out.put hp3 (by omega)).mono (by omega)⟩, hp3.below HB2.out (by omega)⟩
          refine bodyPost_ret (v := .agg (mC g)) ?_ rfl hR
          simp [results, Try.results90, Act.put, asAddr, hld]

end Go.Proofs.Ytbbkpaledlbcmaa

/- The program's columns; a matrix compared with the empty one; MatrixIn. -/

namespace Go.Proofs.Ytbbkpaledlbcmaa
open Go.RowKit

theorem flipG_at (g : Nat → Option Addr) {i k : Nat} (hi : i < 4) (_hk : k < 4) : flipG g (k * 4 + i) = g (i * 4 + k) := by
  unfold flipG
  congr 1
  omega
theorem ShapeM.flip {g : Nat → Option Addr} {n m : Nat} (h : ShapeM g n m) : ShapeM (flipG g) m n := by
  have h1 := h.n4
  have h2 := h.m4
  have h3 := h.both
  refine ⟨h.m4, h.n4, by omega, fun k i hk hi => ?_, fun k i hk hi hno => ?_⟩
  · rw [flipG_at g (by omega) (by omega)]; exact h.yes i k hi hk
  · rw [flipG_at g hi hk]; exact h.no i k hi hk (by omega)
theorem ShapeM.none : ShapeM (fun _ => none) 0 0 := ⟨by omega, by omega, Iff.rfl, fun _ _ h => absurd h (Nat.not_lt_zero _), fun _ _ _ _ _ => rfl⟩

set_option maxRecDepth 100000 in
set_option maxHeartbeats 2000000 in
theorem columns_any (g : Nat → Option Addr) (n m : Nat) (hs : ShapeM g n m) (w : World) :
    Calls Try.prog 96 #[.agg (mC g)] w fun e w' => e = .returned (.int .i64 m) ∧ Below w.heap.size w w' := by
  have HS := Lib.hid hs
  clear hs
  go_enter Try.func96, Try.ntmps96
  go_wp2_with (refine wpList_load_mat rfl _ rfl w.heap.size g rfl (World.alloc_heap_new w _) ?_)
  refine (flipped_any g _).mono ?_
  rintro e w1 ⟨rfl, hb1⟩
  have HB1 := Lib.hid (((Below.refl _ w).alloc (Nat.le_refl _) (.cells (mC g) MA)).trans (hb1.mono (by simp)))
  clear hb1
  go_wp2_with fail
  refine (rows_any (flipG g) m n HS.out.flip _).mono ?_
  rintro e w2 ⟨rfl, hb2⟩
  have HB2 := Lib.hid (HB1.out.trans (hb2.mono HB1.out.size))
  clear hb2
  go_wp2
  go_ret
  exact ⟨rfl, HB2.out⟩

theorem mat_yes (w : World) : (Op.equalIn 10000 MA (.agg (mC fun _ => none)) (.agg #[.pointer none, .pointer none, .pointer none, .pointer none, .pointer none, .pointer none, .pointer none, .pointer none, .pointer none, .pointer none, .pointer none, .pointer none, .pointer none, .pointer none, .pointer none, .pointer none])).run Try.prog w = .ok true w := by
  show (Op.equalIn 10000 MA (.agg (mC fun _ => none)) (.agg (mC fun _ => none))).run Try.prog w = .ok true w
  rw [mat_eq 9997 w fun _ => none]
  rfl
theorem mat_no {g : Nat → Option Addr} {n m : Nat} (hs : ShapeM g n m) (hn : 0 < n) (w : World) : (Op.equalIn 10000 MA (.agg (mC g)) (.agg #[.pointer none, .pointer none, .pointer none, .pointer none, .pointer none, .pointer none, .pointer none, .pointer none, .pointer none, .pointer none, .pointer none, .pointer none, .pointer none, .pointer none, .pointer none, .pointer none])).run Try.prog w = .ok false w := by
  show (Op.equalIn 10000 MA (.agg (mC g)) (.agg (mC fun _ => none))).run Try.prog w = .ok false w
  rw [mat_eq 9997 w g]
  have hm : 0 < m := by have := hs.both; omega
  obtain ⟨p, hp⟩ := hs.yes 0 0 hn hm
  have e : (List.range 16).all (fun i => (g i).isNone) = false := by
    rw [List.all_eq_false]
    exact ⟨0, by simp, by rw [show g 0 = some p from hp]; simp⟩
  rw [e]

set_option maxRecDepth 100000 in
set_option maxHeartbeats 2000000 in
theorem iMatrixIn_any (a : Option Addr) (c n : Nat) (rows : Mx) (b : Bool) (w : World) (hs : IsPSS w a n rows) (hb : matB rows = b) :
    Calls Try.prog 25 #[.slice a n c] w fun e w' => e = .returned (.bool b) ∧ Below w.heap.size w w' := by
  have HS := Lib.hid hs
  have HB := Lib.hid hb
  clear hs hb
  go_enter Try.func25, Try.ntmps25
  go_wp2_with fail
  refine (matrixOf_any a c n rows w HS.out).mono ?_
  rintro e w1 ⟨⟨hy, g, pv, rfl, hM⟩ | ⟨hn, rfl⟩, hb1⟩
  · have hq := mat_no hM.shp (by have := (matB_iff.1 hy).1; omega)
    have HY := Lib.hid (show true = b by rw [← hy]; exact HB.out)
    have HB1 := Lib.hid hb1
    clear hM hb1 hy
    go_wp2
    go_ret
    exact ⟨by rw [← HY.out]; rfl, HB1.out⟩
  · have hq := mat_yes
    have HY := Lib.hid (show false = b by rw [← hn]; exact HB.out)
    have HB1 := Lib.hid hb1
    clear hb1 hn
    go_wp2
    go_ret
    exact ⟨by rw [← HY.out]; rfl, HB1.out⟩

end Go.Proofs.Ytbbkpaledlbcmaa

/- The program's 'told' of a matrix. -/

namespace Go.Proofs.Ytbbkpaledlbcmaa
open Go.RowKit Go.Shelf

def rowPv (P : Nat → Nat → Pl) (pv : Nat → Nat → Value) (j c : Nat) : List Pv := (List.range c).map fun k => ⟨P j k, pv j k⟩
theorem rowPv_len (P : Nat → Nat → Pl) (pv : Nat → Nat → Value) (j c : Nat) : (rowPv P pv j c).length = c := by simp [rowPv]
theorem rowPv_get (P : Nat → Nat → Pl) (pv : Nat → Nat → Value) (j c k : Nat) (h : k < c) : (rowPv P pv j c)[k]'(by rw [rowPv_len]; exact h) = ⟨P j k, pv j k⟩ := by simp [rowPv]
theorem rowPv_succ (P : Nat → Nat → Pl) (pv : Nat → Nat → Value) (j c : Nat) : cellsP (rowPv P pv j (c + 1)) = cellsP (rowPv P pv j c) ++ [.int .i64 (P j c).low, pv j c] := by
  unfold rowPv
  rw [List.range_succ, List.map_append, cellsP_append]
  rfl
def cntT (m i k j : Nat) : Nat := if j < i then m else if j = i then k else 0
/-- The rows that were told so far, in the block B. -/
structure TellAt (w : World) (B n m i k : Nat) (P : Nat → Nat → Pl) (pv : Nat → Nat → Value) (us : Nat → Value) (wr : World) : Prop where
  below : Below w.heap.size w wr
  base : w.heap.size ≤ B
  row : wr.ownsRow w.heap.size PR 1 (.slice (some ⟨B, 0, none⟩) n n) n ((List.range n).map us)
  each : ∀ j, j < n → wr.ownsRow w.heap.size PO 2 (us j) (cntT m i k j) (cellsP (rowPv P pv j (cntT m i k j)))
  apart : ∀ j l b, j < n → l < n → j ≠ l → (us j).ownBlock = some b → (us l).ownBlock = some b → False
  head : ∀ j, j < n → (us j).ownBlock ≠ some B
theorem TellAt.row_done {w wr : World} {B n m i : Nat} {P : Nat → Nat → Pl} {pv : Nat → Nat → Value} {us : Nat → Value} (h : TellAt w B n m i m P pv us wr) : TellAt w B n m (i + 1) 0 P pv us wr :=
  ⟨h.below, h.base, h.row, fun j hj => by
    have := h.each j hj
    have e : cntT m (i + 1) 0 j = cntT m i m j := by
      unfold cntT
      repeat' split
      all_goals omega
    rw [e]
    exact this, h.apart, h.head⟩
theorem TellAt.bel {w wr w2 : World} {B n m i k : Nat} {P : Nat → Nat → Pl} {pv : Nat → Nat → Value} {us : Nat → Value} (h : TellAt w B n m i k P pv us wr) (hb : Below wr.heap.size wr w2) : TellAt w B n m i k P pv us w2 :=
  ⟨h.below.trans (hb.mono h.below.size), h.base, ownsRow_bel h.row hb, fun j hj => ownsRow_bel (h.each j hj) hb, h.apart, h.head⟩
theorem TellAt.start {w w1 w2 : World} {n m : Nat} {P : Nat → Nat → Pl} {pv : Nat → Nat → Value} (hb1 : Below w.heap.size w w1) (hb2 : Below w1.heap.size w1 w2) (hrow : w2.ownsRow w1.heap.size PR 1 (.slice (some ⟨w1.heap.size, 0, none⟩) n n) n (List.replicate n (.slice none 0 0))) : TellAt w w1.heap.size n m 0 0 P pv (fun _ => .slice none 0 0) w2 := by
  refine ⟨hb1.trans (hb2.mono hb1.size), hb1.size, by rw [List.map_const', List.length_range]; exact ownsRow_base hrow hb1.size, fun j _ => ?_, fun _ _ _ _ _ _ e => ?_, fun _ _ e => ?_⟩
  · have e : cntT m 0 0 j = 0 := by
      unfold cntT
      rw [if_neg (Nat.not_lt_zero _)]
      split <;> rfl
    rw [e]
    exact ⟨rfl, .inl ⟨rfl, rfl⟩⟩
  · cases e
  · cases e
/-- One polynomial more. -/
theorem TellAt.next {w wr wA w2 : World} {B n m i k g1 : Nat} {P : Nat → Nat → Pl} {pv : Nat → Nat → Value} {us : Nat → Value} {u2 : Value} (h : TellAt w B n m i k P pv us wr) (hi : i < n) (hb : Below wr.heap.size wr wA)
    (hown : w2.ownsRow w.heap.size PO 2 u2 (k + 1) (cellsP (rowPv P pv i k) ++ [.int .i64 (P i k).low, pv i k])) (hg : wA.grownBy w2 (us i).ownBlock) (hu : u2.ownBlock = some g1) (hat : (us i).ownBlock = some g1 ∨ wr.heap.size ≤ g1) :
    TellAt w B n m i (k + 1) P pv (fun j => if j = i then u2 else us j) (w2.setCell ⟨B, i, none⟩ u2) := by
  have hBl := (ownsRow_lt h.row B rfl).2
  have hlt : ∀ j, j < n → ∀ b, (us j).ownBlock = some b → b < wr.heap.size := fun j hj b e => (ownsRow_lt (h.each j hj) b e).2
  have hgB : g1 ≠ B := by
    rcases hat with e | e
    · intro e2; exact h.head i hi (by rw [e, e2])
    · omega
  have hrow2 : w2.ownsRow w.heap.size PR 1 (.slice (some ⟨B, 0, none⟩) n n) n ((List.range n).map us) := ownsRow_touched (ownsRow_bel h.row hb) fun b hb2 hl => by
    have e : b = B := by simpa [Value.ownBlock] using hb2.symm
    subst e
    exact hg.block b hl fun e => h.head i hi e.symm
  have hkeep : ∀ {e : TypeId} {sz N : Nat} {v : Value} {xs : List Value}, w2.ownsRow w.heap.size e sz v N xs → v.ownBlock ≠ some B → (w2.setCell ⟨B, i, none⟩ u2).ownsRow w.heap.size e sz v N xs := fun hv hne => ownsRow_touched hv fun b hb2 _ => heap_off w2 _ _ fun e => hne (by rw [hb2, e])
  refine ⟨?_, h.base, ?_, fun j hj => ?_, fun j l b hj hl hne h1 h2 => ?_, fun j hj => ?_⟩
  · exact (((h.below.trans (hb.mono h.below.size)).grown hg (Nat.le_trans h.below.size hb.size) fun b e => (ownsRow_lt (h.each i hi) b e).1)).setCell (p := ⟨B, i, none⟩) h.base u2
  · have e : (List.range n).map (fun j => if j = i then u2 else us j) = ((List.range n).map us).set i u2 := by
      apply List.ext_getElem (by simp)
      intro j h1 h2
      rw [List.getElem_set]
      simp only [List.getElem_map, List.getElem_range]
      by_cases e : i = j
      · rw [if_pos e, if_pos e.symm]
      · rw [if_neg e, if_neg fun e2 => e e2.symm]
    rw [e]
    exact (hrow2.stored i u2).1
  · by_cases e : j = i
    · subst e
      have ec : cntT m j (k + 1) j = k + 1 := by unfold cntT; rw [if_neg (Nat.lt_irrefl _), if_pos rfl]
      rw [ec, if_pos rfl, rowPv_succ]
      exact hkeep hown fun e => hgB (by rw [hu] at e; exact Option.some.inj e)
    · have ec : cntT m i (k + 1) j = cntT m i k j := by unfold cntT; simp only [if_neg e]
      rw [ec, if_neg e]
      refine hkeep (ownsRow_touched (ownsRow_bel (h.each j hj) hb) fun b hb2 hl => hg.block b hl fun e2 => h.apart j i b hj hi e hb2 e2.symm) (h.head j hj)
  · have hnew : ∀ l, l < n → l ≠ i → ∀ b, (us l).ownBlock = some b → u2.ownBlock = some b → False := fun l hl hne b e1 e2 => by
      rw [hu] at e2
      obtain rfl : g1 = b := Option.some.inj e2
      rcases hat with e | e
      · exact h.apart l i g1 hl hi hne e1 e
      · have := hlt l hl g1 e1; omega
    by_cases e1 : j = i
    · rw [if_pos e1] at h1
      rw [if_neg (by omega)] at h2
      exact hnew l hl (by omega) b h2 h1
    · rw [if_neg e1] at h1
      by_cases e2 : l = i
      · rw [if_pos e2] at h2
        exact hnew j hj e1 b h1 h2
      · rw [if_neg e2] at h2
        exact h.apart j l b hj hl hne h1 h2
  · by_cases e : j = i
    · rw [if_pos e, hu]; exact fun e => hgB (Option.some.inj e)
    · rw [if_neg e]; exact h.head j hj
def gridL (P : Nat → Nat → Pl) (n m : Nat) : Mx := (List.range n).map fun i => (List.range m).map (P i)
def rowsT (n m : Nat) (P : Nat → Nat → Pl) (pv : Nat → Nat → Value) (us : Nat → Value) : List Rv := (List.range n).map fun j => ⟨us j, rowPv P pv j m⟩
theorem rowsT_of (n m : Nat) (P : Nat → Nat → Pl) (pv : Nat → Nat → Value) (us : Nat → Value) : rowsOf (rowsT n m P pv us) = gridL P n m := by
  unfold rowsOf rowsT gridL rowPv
  simp
/-- All rows are told. -/
theorem TellAt.done {lo : Nat} {w wr : World} {B n m : Nat} {g : Nat → Option Addr} {P : Nat → Nat → Pl} {pv : Nat → Nat → Value} {us : Nat → Value} (h : TellAt w B n m n 0 P pv us wr) (hM : MatW lo w g n m P pv) (hlo : lo ≤ w.heap.size) : OwnM lo wr (.slice (some ⟨B, 0, none⟩) n n) (rowsT n m P pv us) := by
  have hlen : (rowsT n m P pv us).length = n := by simp [rowsT]
  have hget : ∀ j (hj : j < (rowsT n m P pv us).length), (rowsT n m P pv us)[j] = ⟨us j, rowPv P pv j m⟩ := fun j hj => by simp [rowsT]
  have hpv : ∀ j, j < n → ∀ k, k < m → IntRow lo wr (pv j k) (P j k).cs ∧ ∀ b, (pv j k).ownBlock = some b → b < w.heap.size := fun j hj k hk => by
    obtain ⟨_, _, _, _, _, _, q⟩ := hM.at_ j k hj hk
    exact ⟨ownsRow_touched q fun b _ hl => h.below.block b hl, fun b e => (ownsRow_lt q b e).2⟩
  have hus : ∀ j, j < n → wr.ownsRow w.heap.size PO 2 (us j) m (cellsP (rowPv P pv j m)) := fun j hj => by
    have := h.each j hj
    have e : cntT m n 0 j = m := by unfold cntT; rw [if_pos hj]
    rw [e] at this
    exact this
  have hfoot : ∀ j, j < n → ∀ b, FootR (us j) (rowPv P pv j m) b → ((us j).ownBlock = some b ∧ w.heap.size ≤ b) ∨ (∃ k, k < m ∧ (pv j k).ownBlock = some b ∧ b < w.heap.size) := fun j hj b hb => by
    rcases hb with hb | ⟨k, hk, hb⟩
    · exact .inl ⟨hb, (ownsRow_lt (hus j hj) b hb).1⟩
    · rw [rowPv_len] at hk
      rw [rowPv_get P pv j m k hk] at hb
      exact .inr ⟨k, hk, hb, (hpv j hj k hk).2 b hb⟩
  refine ⟨?_, fun j hj => ?_, fun j hj b hb1 hb2 => ?_, fun j l hj hl b hne h1 h2 => ?_⟩
  · rw [hlen]
    have e : (rowsT n m P pv us).map (·.u) = (List.range n).map us := by simp [rowsT]
    rw [e]
    exact ownsRow_base h.row hlo
  · rw [hget j hj]
    rw [hlen] at hj
    refine ⟨by rw [rowPv_len]; exact ownsRow_base (hus j hj) hlo, fun k hk => ?_, fun k hk b hb1 hb2 => ?_, fun k l hk hl b hne h1 h2 => ?_⟩
    · rw [rowPv_len] at hk
      rw [rowPv_get P pv j m k hk]
      exact (hpv j hj k hk).1
    · rw [rowPv_len] at hk
      rw [rowPv_get P pv j m k hk] at hb2
      have := (hpv j hj k hk).2 b hb2
      have := (ownsRow_lt (hus j hj) b hb1).1
      omega
    · rw [rowPv_len] at hk hl
      rw [rowPv_get P pv j m k hk] at h1
      rw [rowPv_get P pv j m l hl] at h2
      exact hM.apart j k j l b hj hk hj hl (by omega) h1 h2
  · rw [hget j hj] at hb2
    rw [hlen] at hj
    have e : b = B := by simpa [Value.ownBlock] using hb1.symm
    subst e
    rcases hfoot j hj b hb2 with ⟨e, _⟩ | ⟨k, _, _, e⟩
    · exact h.head j hj e
    · have := h.base; omega
  · rw [hget j hj] at h1
    rw [hget l hl] at h2
    rw [hlen] at hj hl
    rcases hfoot j hj b h1 with ⟨e1, q1⟩ | ⟨k, hk, e1, q1⟩
    · rcases hfoot l hl b h2 with ⟨e2, q2⟩ | ⟨k2, _, _, q2⟩
      · exact h.apart j l b hj hl hne e1 e2
      · omega
    · rcases hfoot l hl b h2 with ⟨e2, q2⟩ | ⟨k2, hk2, e2, q2⟩
      · omega
      · exact hM.apart j k l k2 b hj hk hl hk2 (by omega) e1 e2

end Go.Proofs.Ytbbkpaledlbcmaa

/- The program's 'told' of a matrix: its contract. -/

namespace Go.Proofs.Ytbbkpaledlbcmaa
open Go.RowKit Go.Shelf

set_option maxRecDepth 100000 in
set_option maxHeartbeats 2000000 in
theorem toldM_none (w : World) :
    Calls Try.prog 95 #[.agg (mC fun _ => none)] w fun e w' => e = .returned (.tuple #[.slice none 0 0, .bool false]) ∧ Below w.heap.size w w' := by
  have hq := mat_yes
  go_enter Try.func95, Try.ntmps95
  go_wp2_with (refine wpList_load_mat rfl _ rfl w.heap.size (fun _ => none) rfl (World.alloc_heap_new w _) ?_)
  go_ret2
  exact ⟨rfl, (Below.refl _ w).alloc (Nat.le_refl _) _⟩

set_option maxRecDepth 100000 in
set_option maxHeartbeats 8000000 in
theorem toldM_any (g : Nat → Option Addr) (n m lo : Nat) (P : Nat → Nat → Pl) (pv : Nat → Nat → Value) (w : World) (h : MatW lo w g n m P pv) (hlo : lo ≤ w.heap.size) (hn : 0 < n) :
    Calls Try.prog 95 #[.agg (mC g)] w fun e w' => ∃ v rs, e = .returned (.tuple #[v, .bool true]) ∧ OwnM lo w' v rs ∧ rowsOf rs = gridL P n m ∧ Below w.heap.size w w' := by
  obtain ⟨i0, hi, hz0, hz1, hz2⟩ := info_parts infoPolyS
  have hq := mat_no h.shp hn
  have hmx : Try.prog.follows .mixedOrders = true := by kernel_rfl
  obtain ⟨W, hW⟩ : ∃ W, w.alloc (.cells (mC g) MA) = W := ⟨_, rfl⟩
  have hbW : Below w.heap.size w W := by rw [← hW]; exact (Below.refl _ w).alloc (Nat.le_refl _) _
  have hsz : W.heap.size = w.heap.size + 1 := by rw [← hW]; simp
  have hbox : W.heap[w.heap.size]? = some (.cells (mC g) MA (0, 0)) := by rw [← hW]; exact World.alloc_heap_new w _
  have hn4 := h.shp.n4
  have hm4 := h.shp.m4
  have HBOX := Lib.hid hbox
  have HM := Lib.hid h
  have HBW := Lib.hid hbW
  have HW := Lib.hid hW
  clear hbW hbox h hW
  go_enter Try.func95, Try.ntmps95
  go_wp2_with (refine wpList_load_mat rfl _ rfl w.heap.size g rfl (World.alloc_heap_new w _) ?_)
  rw [HW.out]
  refine (rows_any g n m HM.out.shp W).mono ?_
  rintro e w1 ⟨rfl, hb1⟩
  have hs1 := hb1.size
  go_wp2_with (at_make; refine wpList_make_full _ rfl _ _ 23 rfl w1.heap.size PR i0 (.slice none 0 0) 1 Try.underlying23 hi hz0 hz1 .i64 .i64 _ _ n rfl rfl rfl rfl (by rw [hz2]; omega) (by unfold maxLen; omega) (Nat.le_refl _) ?_; intro w2 hrow hgrow)
  rw [show Value.cells (.slice none 0 0) = #[.slice none 0 0] from rfl, toList_madeCells_one, Nat.mul_one] at hrow
  have hB2 : Below w1.heap.size w1 w2 := (Below.refl _ _).grown hgrow (Nat.le_refl _) (fun k e => by cases e)
  have HT0 : Hid (TellAt W w1.heap.size n m 0 0 P pv (fun _ => .slice none 0 0) w2) := Lib.hid (TellAt.start hb1 hB2 hrow)
  clear hrow hgrow hB2 hb1
  go_wp2
  go_loopw [16] (fun x wr => ∃ (i : Nat) (us : Nat → Value), i ≤ n ∧ x = .int .i64 i ∧ Hid (TellAt W w1.heap.size n m i 0 P pv us wr)) (fun x _ => n - (intOf x).toNat)
  case atStart => exact ⟨0, _, Nat.zero_le _, rfl, HT0⟩
  case round =>
    obtain ⟨i, us, hin, rfl, HT⟩ := hrel
    obtain ⟨wo, rfl⟩ : ∃ wo, wr = wo := ⟨_, rfl⟩
    by_cases hlt : i < n
    · have HBX := Lib.hid ((HT.out.below.block w.heap.size (by omega)).trans HBOX.out)
      have HSH := Lib.hid HM.out.shp
      have hi4 : (i : Int) < 4 := by omega
      have hm4i : (m : Int) ≤ 4 := by omega
      have HCOL : Hid (∀ p : BelowBy wr, Calls Try.prog 96 #[.agg (mC g)] p.world fun e w' => e = .returned (.int .i64 m) ∧ Below p.world.heap.size p.world w') := Lib.hid fun p => columns_any g n m HSH.out p.world
      go_wp2
      refine wp_region_below hmx (by kernel_rfl) ?_
      repeat (first
        | (refine wpQuiet_load_mat rfl _ rfl w.heap.size g rfl HBX.out ?_)
        | ((with_reducible refine wpQuiet_step (fun K hK => ?_)); go_simp; first | ((with_reducible refine hK _ ?_); clear hK K) | (refine (if_neg (by decide)).mpr ?_; (with_reducible refine hK _ ?_); clear hK K) | (apply Exists.intro; (with_reducible refine ⟨fun _ => ?_, hK _ ?_⟩); (go_at_call 96; exact Calls.bel (HCOL.out _)); clear hK K)))
      with_reducible refine wpQuiet_nil ?_
      rintro _ ⟨⟨V, hV⟩, rfl⟩
      have HV := Lib.hid (HT.out.bel hV)
      clear hV
      go_wp2
      go_loopw [25] (fun x wr => ∃ (k : Nat) (us : Nat → Value), k ≤ m ∧ x = .int .i64 k ∧ Hid (TellAt W w1.heap.size n m i k P pv us wr)) (fun x _ => m - (intOf x).toNat)
      case atStart => exact ⟨0, _, Nat.zero_le _, rfl, HV⟩
      case round =>
        obtain ⟨k, us, hkm, rfl, HI⟩ := hrel
        by_cases hkt : k < m
        · obtain ⟨jb, hgj, hj1, hj2, hj3w, hj4w, hj5⟩ := HM.out.at_ i k hlt hkt
          have hbw : Below w.heap.size w wr := HBW.out.trans (HI.out.below.mono HBW.out.size)
          have hj3 := (hbw.cell (p := ⟨jb, 0, none⟩) hj2).trans hj3w
          have hj4 := (hbw.cell (p := ⟨jb, 1, none⟩) hj2).trans hj4w
          have hjr : jb < wr.heap.size := Nat.lt_of_lt_of_le hj2 hbw.size
          obtain ⟨hq0, _⟩ := cell_of16 ((HI.out.below.block w.heap.size (by omega)).trans HBOX.out) (i := i) (k := k) (by omega) (by omega)
          rw [hgj] at hq0
          obtain ⟨av, gv, cv, hpv, _, _, _⟩ := hj5.shape
          have hui := HI.out.each i hlt
          have eci : cntT m i k i = k := by
            unfold cntT
            rw [if_neg (Nat.lt_irrefl _), if_pos rfl]
          rw [eci] at hui
          obtain ⟨ai, ci, hus⟩ : ∃ ai ci, us i = .slice ai k ci := by
            rcases hui.2 with ⟨e, e0⟩ | ⟨g, cap, cur, e, _⟩
            · exact ⟨none, 0, by rw [e, e0]⟩
            · exact ⟨_, _, e⟩
          have hcl : wr.cell? ⟨w1.heap.size, i, none⟩ = some (.slice ai k ci) := by
            rw [HI.out.row.cellAt i (by omega), List.getElem?_map, List.getElem?_range hlt, Option.map_some, hus]
          have hfz := HI.out.row.frozenAt i
          have hBl := (ownsRow_lt HI.out.row w1.heap.size rfl).2
          rw [hus] at hui
          obtain ⟨N, hN⟩ : ∃ N, (P i k).cs.length = N := ⟨_, rfl⟩
          rw [hN] at hpv
          rw [hpv] at hj4
          have HU := Lib.hid hui
          have HUS := Lib.hid hus
          have HPV := Lib.hid hpv
          have hk63 : k ≤ 4 := by omega
          have HROW : Hid (∀ b, (Value.slice ai k ci).ownBlock = some b → W.heap.size ≤ b) := Lib.hid fun b e => (ownsRow_lt HU.out b e).1
          have HNB : Hid ((Value.slice ai k ci).ownBlock ≠ some w1.heap.size) := Lib.hid (by rw [← HUS.out]; exact HI.out.head i hlt)
          have hbA := ((Below.refl wr.heap.size wr).alloc (Nat.le_refl _) (.cells #[.int .i64 (P i k).low, .slice av N cv] PO)).drew
          have HBA := Lib.hid hbA
          have hWr : W.heap.size ≤ wr.heap.size := HI.out.below.size
          obtain ⟨p0, hp0, hp1, hp2, hp3⟩ := info_parts infoPoly
          have hwr : wr.drew.heap.size = wr.heap.size := rfl
          clear hui hus hj5 hpv hgj eci hN hbA hj3w hj4w hbw
          go_wp2_with fail
          go_region_law
            ((refine step_append_lies _ (by rfl) _ _ _ (by rfl) W.heap.size PO p0 _ 2 32 Try.underlying28 hp0 hp1 hp2 hp3 rfl (by omega) (.slice ai k ci) k (cellsP (rowPv P pv i k)) (by rfl) ((HU.out.alloc _).drew)
                ⟨wr.heap.size, 0, none⟩ 1 1 [.int .i64 (P i k).low, .slice av N cv] (by rfl) (by rfl) (World.news_of_block (cs := #[.int .i64 (P i k).low, .slice av N cv]) (t := PO) (fr := (0, 0)) (heap_alloc_new wr _)) (by simp [Value.oneCell']) (by omega) (by unfold maxLen; omega) (by omega) (by simp; omega) (wr.heap.size + 1) (by simp) ?_; intro g1 cap1 w3 hown hgrow hat hlt3
              have k0 := (hgrow.cell_far ⟨w1.heap.size, i, none⟩ (Nat.lt_of_lt_of_le hBl HBA.out.size) (fun e => HNB.out e.symm)).trans ((HBA.out.cell (p := ⟨w1.heap.size, i, none⟩) hBl).trans hcl)
              have k3 : w3.frozen? ⟨w1.heap.size, i, none⟩ = false := (hgrow.frozen_far ⟨w1.heap.size, i, none⟩ (Nat.lt_of_lt_of_le hBl HBA.out.size) (fun e => HNB.out e.symm)).trans ((HBA.out.frozen (p := ⟨w1.heap.size, i, none⟩) hBl).trans hfz)
              have HN := Lib.hid (HI.out.next hlt HBA.out (by rw [HPV.out]; exact hown) (by rw [HUS.out]; exact hgrow) rfl (hat.elim (fun e => .inl (by rw [HUS.out]; exact e)) fun e => .inr (by rw [e]; exact Nat.le_succ _)))
              clear hown hgrow hat hlt3))
          all_goals
            go_wp2
            go_roundw
            case rel => exact ⟨k + 1, _, by omega, by go_num, HN⟩
            case measure => simp [intOf]; omega
        · obtain rfl : k = m := by omega
          go_wp2
          go_roundw
          case rel => exact ⟨i + 1, us, by omega, by go_num, Lib.hid HI.out.row_done⟩
          case measure => simp [intOf]; omega
    · obtain rfl : i = n := by omega
      go_wp2
      go_ret2
      exact ⟨_, _, rfl, HT.out.done (HM.out.below HBW.out) (by omega), rowsT_of _ _ _ _ _, HBW.out.trans (HT.out.below.mono HBW.out.size)⟩

end Go.Proofs.Ytbbkpaledlbcmaa

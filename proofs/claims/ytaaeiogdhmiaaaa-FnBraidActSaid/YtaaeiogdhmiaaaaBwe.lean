/- What the laws' proofs stand on, part 5 of several. -/
import Derived.Deep.QuietTactic
import Derived.Deep.SlicePairs
import Derived.IntWalk
import Derived.RangeFuncBox
import Derived.Laws.BitsAllLaws
import Derived.BigQuiet
import Derived.ChangeSlices
import Derived.Lib.Bytealg
import Derived.Lib.Small
import Derived.Sort.Grow
import Derived.Deep.RegionHeld3
import Derived.Sort.Walk0
import Derived.StillTailTactics
import Derived.Laws.EntriesVeiled
import Derived.Laws.AppendOwnNone
import Derived.StillTail
import Derived.Test.YtaaeiogdhmiaaaaBwa
import Derived.Test.YtaaeiogdhmiaaaaBwb
import Derived.Test.YtaaeiogdhmiaaaaBwc
import Derived.Test.YtaaeiogdhmiaaaaBwd

/- Terms in memory; a class of worlds for regions that draw their order and whose callees make memory; the contracts of the laws' own helpers on terms. -/

namespace Go.Proofs.Ytaaeiogdhmiaaaa
open Go.RowKit

/-- A term. -/
structure Tm where
  c : Int
  s : ByteArray
  deriving Inhabited
def termV (t : Tm) : Value := .agg #[.int .i64 t.c, .string t.s]
def termsV (ts : List Tm) : List Value := (ts.map fun t => [Value.int .i64 t.c, Value.string t.s]).flatten
theorem termsV_len (ts : List Tm) : (termsV ts).length = ts.length * 2 := by
  induction ts with
  | nil => rfl
  | cons t r ih => unfold termsV at *; simp only [List.map_cons, List.flatten_cons, List.length_append, ih, List.length_cons, List.length_nil]; omega
theorem termsV_cons (t : Tm) (r : List Tm) : termsV (t :: r) = .int .i64 t.c :: .string t.s :: termsV r := rfl
theorem termsV_append (a b : List Tm) : termsV (a ++ b) = termsV a ++ termsV b := by simp [termsV]
theorem termsV_get (ts : List Tm) : ∀ (i : Nat) (h : i < ts.length), (termsV ts)[i * 2]? = some (.int .i64 ts[i].c) ∧ (termsV ts)[i * 2 + 1]? = some (.string ts[i].s) := by
  induction ts with
  | nil => intro i h; simp at h
  | cons t r ih =>
    intro i h
    cases i with
    | zero => exact ⟨rfl, rfl⟩
    | succ i =>
      obtain ⟨h1, h2⟩ := ih i (by simpa using h)
      rw [termsV_cons, show (i + 1) * 2 = i * 2 + 1 + 1 by omega, show i * 2 + 1 + 1 + 1 = (i * 2 + 1) + 1 + 1 by omega]
      exact ⟨h1, h2⟩

theorem addr_next (x : Addr) (i : Nat) : x.add (i * 2 + 1) = ⟨(x.add (i * 2)).block, (x.add (i * 2)).off + 1, none⟩ := by
  rw [← Go.Deep.add_add]
  unfold Addr.add
  simp
/-- Terms from the address x on. -/
def TermsAt (w : World) (x : Addr) (ts : List Tm) : Prop :=
  x.block < w.heap.size ∧ ∀ i (h : i < ts.length), w.cell? (x.add (i * 2)) = some (.int .i64 ts[i].c) ∧ w.cell? (x.add (i * 2 + 1)) = some (.string ts[i].s)
theorem TermsAt.below {w w' : World} {x : Addr} {ts : List Tm} (h : TermsAt w x ts) (hb : Below w.heap.size w w') : TermsAt w' x ts :=
  ⟨Nat.lt_of_lt_of_le h.1 hb.size, fun i hi => by
    obtain ⟨h1, h2⟩ := h.2 i hi
    exact ⟨(hb.cell (p := x.add (i * 2)) (by rw [addr_add_block]; exact h.1)).trans h1, (hb.cell (p := x.add (i * 2 + 1)) (by rw [addr_add_block]; exact h.1)).trans h2⟩⟩

/-- A slice of terms that came in. -/
structure IsTerms (w : World) (a : Option Addr) (n : Nat) (ts : List Tm) : Prop where
  len : ts.length = n
  max : n ≤ maxLen
  at_ : 0 < n → ∃ x, a = some x ∧ TermsAt w x ts
  small : ∀ t ∈ ts, t.s.size ≤ maxLen ∧ -9223372036854775808 ≤ t.c ∧ t.c ≤ 9223372036854775807
theorem IsTerms.below {w w' : World} {a : Option Addr} {n : Nat} {ts : List Tm} (h : IsTerms w a n ts) (hb : Below w.heap.size w w') : IsTerms w' a n ts :=
  ⟨h.len, h.max, fun h0 => by obtain ⟨x, e, hx⟩ := h.at_ h0; exact ⟨x, e, hx.below hb⟩, h.small⟩

/-! ### Worlds behind w, what was there as it was -/
structure BelowBy (w : World) where
  world : World
  below : Below w.heap.size w world
instance (w : World) : Inhabited (BelowBy w) := ⟨⟨w, Below.refl _ _⟩⟩
theorem wp_region_below {P : Program} {id : Nat} {Q : Exit → Act → World → Prop} {a : Act} {w : World} {l : List Oper} (hm : P.follows .mixedOrders = true) (hB : Region.lexB .any l.toArray = true)
    (h : wpQuiet P l.toArray (fun w' => ∃ p : BelowBy w, w' = p.world) (fun a' => ∀ w', (∃ p : BelowBy w, w' = p.world) → Q .normal a' w') l a) : (Code.region id l.toArray true).wp P Q a w :=
  wp_region_quiet (C := fun w' => ∃ p : BelowBy w, w' = p.world) hm hB ⟨⟨w.drew, (Below.refl _ _).drew⟩, rfl⟩ (by simpa using h)
theorem BelowBy.cell {w : World} {a : Addr} {v : Value} (hb : a.block < w.heap.size) (h : w.cell? a = some v) (p : BelowBy w) : p.world.cell? a = some v := (p.below.cell (p := a) hb).trans h
theorem Calls.bel {P : Program} {f : FuncId} {args : Array Value} {w : World} {p : BelowBy w} {v : Value}
    (h : Calls P f args p.world fun e w' => e = .returned v ∧ Below p.world.heap.size p.world w') : Calls P f args p.world fun e w'' => e = .returned v ∧ ∃ q : BelowBy w, w'' = q.world :=
  h.mono fun _ w' ⟨he, hb⟩ => ⟨he, ⟨w', p.below.trans (hb.mono p.below.size)⟩, rfl⟩

end Go.Proofs.Ytaaeiogdhmiaaaa

/- The contracts of the model's reader of drawn inputs: 'l6Open', 'pick', 'of'. -/

namespace Go.Proofs.Ytaaeiogdhmiaaaa
open Go.RowKit Go.Shelf

theorem i64_xor (a b : Nat) (ha : a < 2 ^ 63) (hb : b < 2 ^ 63) : bits .xor .i64 (a : Int) (b : Int) = ((a ^^^ b : Nat) : Int) := by
  show IntKind.i64.wrap ((BitVec.ofInt 64 (a : Int) ^^^ BitVec.ofInt 64 (b : Int)).toNat : Int) = _
  rw [BitVec.toNat_xor, ofInt_u64 a (by omega), ofInt_u64 b (by omega)]
  have : a ^^^ b < 2 ^ 63 := Nat.xor_lt_two_pow ha hb
  exact IntWalk.i64_in _ (by omega)

abbrev RdT : TypeId := 144
/-- A slice of bytes, as numbers, in a block below base. -/
structure BsAt (base : Nat) (w : World) (a : Option Addr) (n cap : Nat) (zs : List Int) : Prop where
  len : zs.length = n
  fit : n ≤ cap ∧ cap ≤ maxLen
  at_ : 0 < n → ∃ x, a = some x ∧ x.block < base ∧ ∀ j (h : j < zs.length), w.cell? (x.add j) = some (.int .u8 zs[j])
  byte : ∀ z ∈ zs, 0 ≤ z ∧ z ≤ 255
theorem BsAt.below {base : Nat} {w w' : World} {a : Option Addr} {n cap : Nat} {zs : List Int} (h : BsAt base w a n cap zs) (hb : Below base w w') : BsAt base w' a n cap zs :=
  ⟨h.len, h.fit, fun h0 => by obtain ⟨x, e, hx, hc⟩ := h.at_ h0; exact ⟨x, e, hx, fun j hj => (hb.cell (p := x.add j) (by show (x.add j).block < _; rw [addr_add_block]; exact hx)).trans (hc j hj)⟩, h.byte⟩
theorem bs_of {H : Type} {enc : TypeId × Value → H} {W : World} {base : Nat} {spare : Nat → Bool} {held : Bool} {fuel : Nat} {a : Option Addr} {len cap : Nat} {x : DataW H × List MemPlace}
    (h : DataW.trod enc Try.prog W base spare held fuel 62 [.slice a len cap] = some x) : ∃ zs, BsAt W.heap.size W a len cap zs := by
  rcases Go.ChangeShapes.open_ints Try.underlying62 Try.underlying5 (by kernel_rfl) h with ⟨hcs, _⟩ | ⟨y, l, c, zs, hcs, hb, hl, hm, hz, _, hx, hwf⟩
  · simp at hcs
    obtain ⟨rfl, rfl, rfl⟩ := hcs
    exact ⟨[], rfl, ⟨Nat.le_refl _, Nat.zero_le _⟩, fun h => absurd h (Nat.lt_irrefl _), fun z h => by cases h⟩
  · simp at hcs
    obtain ⟨rfl, rfl, rfl⟩ := hcs
    have hlz : len ≤ zs.length := by rw [hz]; split <;> omega
    refine ⟨zs.take len, by rw [List.length_take]; omega, ⟨hl, hm⟩, fun h0 => ⟨y, rfl, ?_, fun j hj => ?_⟩, fun z hzm => ?_⟩
    · have := World.block_lt_of_cell? _ _ (hx 0 (by omega))
      rwa [addr_add_block] at this
    · rw [List.length_take] at hj
      rw [hx j (by omega), List.getD_eq_getElem?_getD, List.getElem?_eq_getElem (by omega), List.getElem_take]; rfl
    · have h2 := hwf z (List.mem_of_mem_take hzm)
      simp only [Lit.wf, Bool.and_eq_true, decide_eq_true_eq] at h2
      have e1 : IntKind.u8.min = 0 := by decide
      have e2 : IntKind.u8.max = 255 := by decide
      omega
/-- A reader and how far it is. -/
structure Rd (base : Nat) (w : World) (rb : Nat) (a : Option Addr) (n cap : Nat) (zs : List Int) (p : Nat) : Prop where
  lo : base ≤ rb
  box : w.heap[rb]? = some (.cells #[.slice a n cap, .int .i64 p] RdT (0, 0))
  data : BsAt base w a n cap zs
  short : n ≤ 2000
theorem Rd.lt {base : Nat} {w : World} {rb : Nat} {a : Option Addr} {n cap : Nat} {zs : List Int} {p : Nat} (h : Rd base w rb a n cap zs p) : rb < w.heap.size := (Array.getElem?_eq_some_iff.1 h.box).1
theorem Rd.c0 {base : Nat} {w : World} {rb : Nat} {a : Option Addr} {n cap : Nat} {zs : List Int} {p : Nat} (h : Rd base w rb a n cap zs p) : w.cell? ⟨rb, 0, none⟩ = some (.slice a n cap) := by simp [World.cell?, h.box]
theorem Rd.c1 {base : Nat} {w : World} {rb : Nat} {a : Option Addr} {n cap : Nat} {zs : List Int} {p : Nat} (h : Rd base w rb a n cap zs p) : w.cell? ⟨rb, 1, none⟩ = some (.int .i64 p) := by simp [World.cell?, h.box]
theorem Rd.fr {base : Nat} {w : World} {rb : Nat} {a : Option Addr} {n cap : Nat} {zs : List Int} {p : Nat} (h : Rd base w rb a n cap zs p) : w.frozen? ⟨rb, 1, none⟩ = false := by simp [World.frozen?, h.box]
theorem Rd.below {base : Nat} {w w' : World} {rb : Nat} {a : Option Addr} {n cap : Nat} {zs : List Int} {p : Nat} (h : Rd base w rb a n cap zs p) (hb : Below w.heap.size w w') : Rd base w' rb a n cap zs p :=
  ⟨h.lo, (hb.block rb h.lt).trans h.box, h.data.below (hb.mono (Nat.le_of_lt (Nat.lt_of_le_of_lt h.lo h.lt))), h.short⟩
theorem Rd.set {base : Nat} {w : World} {rb : Nat} {a : Option Addr} {n cap : Nat} {zs : List Int} {p : Nat} (h : Rd base w rb a n cap zs p) (q : Nat) : Rd base (w.setCell ⟨rb, 1, none⟩ (.int .i64 q)) rb a n cap zs q := by
  refine ⟨h.lo, ?_, h.data.below ((Below.refl _ w).setCell (p := ⟨rb, 1, none⟩) h.lo _), h.short⟩
  obtain ⟨hlt, hk⟩ := Array.getElem?_eq_some_iff.1 h.box
  show (w.heap.modify rb _)[rb]? = _
  rw [Array.getElem?_eq_getElem (by rw [Array.size_modify]; exact hlt), Array.getElem_modify_self, hk]
  rfl

theorem grown_set (w : World) (a : Addr) (v : Value) : w.grownBy (w.setCell a v) (some a.block) :=
  ⟨rfl, rfl, rfl, by show _ ≤ (w.heap.modify a.block _).size; rw [Array.size_modify]; exact Nat.le_refl _, fun k hk hne => by
    show (w.heap.modify a.block _)[k]? = _
    rw [Array.getElem?_modify, if_neg (fun e => hne (by rw [e]))]⟩

set_option maxRecDepth 100000 in
set_option maxHeartbeats 4000000 in
theorem pick_any (base rb : Nat) (a : Option Addr) (n cap : Nat) (zs : List Int) (p m : Nat) (w : World) (h : Rd base w rb a n cap zs p) (hp : p ≤ 100000) (hm : 1 ≤ m) (hm2 : m ≤ 1000) :
    Calls Try.prog 100 #[.pointer (some ⟨rb, 0, none⟩), .int .i64 m] w fun e w' => (∃ z : Nat, e = .returned (.int .i64 z) ∧ z < m) ∧ Rd base w' rb a n cap zs (p + 1) ∧ Below base w w' ∧ w.grownBy w' (some rb) := by
  have hlt := h.lt
  have hc0 := h.c0
  have hc1 := h.c1
  have hfr := h.fr
  have hsh := h.short
  have hw1 : IntKind.i64.wrap ((p : Int) + 1) = (p : Int) + 1 := IntWalk.i64_in _ (by omega)
  have ep : ((p + 1 : Nat) : Int) = (p : Int) + 1 := by push_cast; rfl
  have hR := h.set (p + 1)
  rw [ep] at hR
  have hB : Below base w (w.setCell ⟨rb, 1, none⟩ (.int .i64 ((p : Int) + 1))) := (Below.refl _ w).setCell (p := ⟨rb, 1, none⟩) h.lo _
  have hG := grown_set w ⟨rb, 1, none⟩ (.int .i64 ((p : Int) + 1))
  obtain ⟨V, hV⟩ : ∃ V, w.setCell ⟨rb, 1, none⟩ (.int .i64 ((p : Int) + 1)) = V := ⟨_, rfl⟩
  have HV := Lib.hid hV
  rw [hV] at hR hB hG
  have HG := Lib.hid hG
  have hd0 := hR.c0
  have hd1 := hR.c1
  rw [ep] at hd1
  have hml : decide ((m : Int) < 1) = false := decide_eq_false (by omega)
  have hml2 : ¬ (m : Int) < 1 := by omega
  have HR := Lib.hid hR
  have HB := Lib.hid hB
  have hmz : ¬ (m : Int) = 0 := by omega
  have HD := Lib.hid hR.data
  have hw2 : IntKind.i64.wrap ((p : Int) + 1 - 1) = (p : Int) := by rw [IntWalk.i64_in _ (by omega)]; omega
  have hrem : ∀ z : Int, 0 ≤ z → ∃ r : Nat, z.tmod (m : Int) = (r : Int) ∧ r < m := fun z hz => ⟨z.toNat % m, by
    rw [Int.tmod_eq_emod_of_nonneg hz, Int.natCast_emod, Int.toNat_of_nonneg hz], Nat.mod_lt _ (by omega)⟩
  have HREM := Lib.hid hrem
  clear h hR hB hV hrem hG
  by_cases hn : n = 0
  · subst hn
    go_enter Try.func100, Try.ntmps100
    go_wp2
    go_ret
    rw [HV.out]
    exact ⟨⟨0, rfl, by omega⟩, HR.out, HB.out, HG.out⟩
  · have hn0 : ¬ (n : Int) = 0 := by omega
    have hne : ((n : Int) == 0) = false := by simpa using hn0
    obtain ⟨x, rfl, hxb, hcx⟩ := HD.out.at_ (by omega)
    have hzl := HD.out.len
    by_cases hpn : p < n
    · have hpz : p < zs.length := by omega
      obtain ⟨z, hz⟩ : ∃ z, zs[p] = z := ⟨_, rfl⟩
      have hcp := hcx p hpz
      rw [hz, ← HV.out] at hcp
      have hzb := HD.out.byte z (by rw [← hz]; exact List.getElem_mem hpz)
      obtain ⟨r, hr, hrm⟩ := HREM.out z hzb.1
      have hwz : IntKind.i64.wrap z = z := IntWalk.i64_in _ (by omega)
      have hwr : IntKind.i64.wrap (r : Int) = (r : Int) := IntWalk.i64_in _ (by omega)
      have hpi : (p : Int) < (n : Int) := by omega
      go_enter Try.func100, Try.ntmps100
      go_wp2_with fail
      go_ret
      rw [HV.out]
      exact ⟨⟨r, rfl, hrm⟩, HR.out, HB.out, HG.out⟩
    · have hpi : ¬ (p : Int) < (n : Int) := by omega
      have hn1 : 0 < n := by omega
      obtain ⟨k1, hk1⟩ : ∃ k, p % n = k := ⟨_, rfl⟩
      obtain ⟨k2, hk2⟩ : ∃ k, (p * 7 + 3) % n = k := ⟨_, rfl⟩
      obtain ⟨d, hd⟩ : ∃ d, p / n = d := ⟨_, rfl⟩
      have hk1n : k1 < n := by rw [← hk1]; exact Nat.mod_lt _ hn1
      have hk2n : k2 < n := by rw [← hk2]; exact Nat.mod_lt _ hn1
      have hdp : d ≤ p := by rw [← hd]; exact Nat.div_le_self _ _
      have ht1 : (p : Int).tmod (n : Int) = (k1 : Int) := by rw [Int.tmod_eq_emod_of_nonneg (by omega), ← hk1]; rfl
      have ht2 : ((p : Int) * 7 + 3).tmod (n : Int) = (k2 : Int) := by rw [Int.tmod_eq_emod_of_nonneg (by omega), ← hk2]; push_cast; rfl
      have ht3 : (p : Int).tdiv (n : Int) = (d : Int) := by rw [Int.tdiv_eq_ediv_of_nonneg (by omega), ← hd]; rfl
      have hz1 : k1 < zs.length := by omega
      have hz2 : k2 < zs.length := by omega
      obtain ⟨q1, hq1⟩ : ∃ z, zs[k1] = z := ⟨_, rfl⟩
      obtain ⟨q2, hq2⟩ : ∃ z, zs[k2] = z := ⟨_, rfl⟩
      have hcp1 := hcx k1 hz1
      have hcp2 := hcx k2 hz2
      rw [hq1, ← HV.out] at hcp1
      rw [hq2, ← HV.out] at hcp2
      have hb1 := HD.out.byte q1 (by rw [← hq1]; exact List.getElem_mem hz1)
      have hb2 := HD.out.byte q2 (by rw [← hq2]; exact List.getElem_mem hz2)
      have hk1i : (k1 : Int) < (n : Int) := by omega
      have hk2i : (k2 : Int) < (n : Int) := by omega
      have a1 : IntKind.i64.wrap (k1 : Int) = (k1 : Int) := IntWalk.i64_in _ (by omega)
      have a2 : IntKind.i64.wrap (k2 : Int) = (k2 : Int) := IntWalk.i64_in _ (by omega)
      have a3 : IntKind.i64.wrap (d : Int) = (d : Int) := IntWalk.i64_in _ (by omega)
      have a4 : IntKind.i64.wrap q1 = q1 := IntWalk.i64_in _ (by omega)
      have a5 : IntKind.i64.wrap q2 = q2 := IntWalk.i64_in _ (by omega)
      have a6 : IntKind.i64.wrap (q1 * 131) = q1 * 131 := IntWalk.i64_in _ (by omega)
      have a7 : IntKind.i64.wrap (q2 * 1117) = q2 * 1117 := IntWalk.i64_in _ (by omega)
      have a8 : IntKind.i64.wrap ((p : Int) * 7) = (p : Int) * 7 := IntWalk.i64_in _ (by omega)
      have a9 : IntKind.i64.wrap ((p : Int) * 7 + 3) = (p : Int) * 7 + 3 := IntWalk.i64_in _ (by omega)
      have b1 : IntKind.i64.wrap (q1 * 131 + q2 * 1117) = q1 * 131 + q2 * 1117 := IntWalk.i64_in _ (by omega)
      have b2 : IntKind.i64.wrap ((p : Int) * 29) = (p : Int) * 29 := IntWalk.i64_in _ (by omega)
      have b3 : IntKind.i64.wrap (q1 * 131 + q2 * 1117 + (p : Int) * 29) = q1 * 131 + q2 * 1117 + (p : Int) * 29 := IntWalk.i64_in _ (by omega)
      have b4 : IntKind.i64.wrap ((d : Int) * 53) = (d : Int) * 53 := IntWalk.i64_in _ (by omega)
      obtain ⟨X, hX⟩ : ∃ X : Nat, q1 * 131 + q2 * 1117 + (p : Int) * 29 + (d : Int) * 53 = (X : Int) := ⟨(q1 * 131 + q2 * 1117 + (p : Int) * 29 + (d : Int) * 53).toNat, by omega⟩
      have hXb : X ≤ 10000000 := by omega
      have b5 : IntKind.i64.wrap (X : Int) = (X : Int) := IntWalk.i64_in _ (by omega)
      have ht4 : (X : Int).tdiv 64 = ((X / 64 : Nat) : Int) := by rw [Int.tdiv_eq_ediv_of_nonneg (by omega)]; rfl
      have hY : X / 64 ≤ X := Nat.div_le_self _ _
      obtain ⟨Y, hYe⟩ : ∃ Y, X / 64 = Y := ⟨_, rfl⟩
      rw [hYe] at ht4 hY
      have b6 : IntKind.i64.wrap (Y : Int) = (Y : Int) := IntWalk.i64_in _ (by omega)
      have hxor := i64_xor X Y (by omega) (by omega)
      obtain ⟨Z, hZ⟩ : ∃ Z, X ^^^ Y = Z := ⟨_, rfl⟩
      rw [hZ] at hxor
      obtain ⟨r, hr, hrm⟩ := HREM.out (Z : Int) (by omega)
      have b7 : IntKind.i64.wrap (r : Int) = (r : Int) := IntWalk.i64_in _ (by omega)
      have HRM := Lib.hid hrm
      clear hk1 hk2 hd hq1 hq2 hb1 hb2 hdp hXb hY hYe hZ hcx hrm hzl hz1 hz2
      go_enter Try.func100, Try.ntmps100
      go_wp2
      go_quiet (fail)
      go_wp2
      go_ret
      rw [HV.out]
      exact ⟨⟨r, rfl, HRM.out⟩, ⟨HR.out.lo, HR.out.box, ⟨HR.out.data.len, HR.out.data.fit, HR.out.data.at_, HR.out.data.byte⟩, HR.out.short⟩, ⟨HB.out.os, HB.out.tape, HB.out.output, HB.out.size, HB.out.block⟩, ⟨HG.out.os, HG.out.tape, HG.out.output, HG.out.size, HG.out.block⟩⟩

set_option maxHeartbeats 1000000 in
theorem open_any (a : Option Addr) (n cap : Nat) (zs : List Int) (w : World) (h : BsAt w.heap.size w a n cap zs) :
    Calls Try.prog 99 #[.slice a n cap] w fun e w' => ∃ n' zs', e = .returned (.pointer (some ⟨w.heap.size, 0, none⟩)) ∧ Rd w.heap.size w' w.heap.size a n' cap zs' 0 ∧ Below w.heap.size w w' := by
  have hf := h.fit
  have hl := h.len
  unfold maxLen at hf
  have hB : ∀ m : Nat, Below w.heap.size w (w.alloc (.cells #[.slice a m cap, .int .i64 0] RdT)) := fun m => (Below.refl _ w).alloc (Nat.le_refl _) _
  have hRd : ∀ (m : Nat) (ys : List Int), m ≤ 2000 → BsAt w.heap.size w a m cap ys → Rd w.heap.size (w.alloc (.cells #[.slice a m cap, .int .i64 0] RdT)) w.heap.size a m cap ys 0 := fun m ys hm hd => ⟨Nat.le_refl _, World.alloc_heap_new w _, hd.below (hB m), hm⟩
  have HRD := Lib.hid hRd
  have HBD := Lib.hid hB
  have H := Lib.hid h
  clear h hRd hB
  by_cases hn : n ≤ 2000
  · have hd : decide ((2000 : Int) < (n : Int)) = false := decide_eq_false (by omega)
    go_enter Try.func99, Try.ntmps99
    go_wp2
    go_ret
    exact ⟨n, zs, rfl, HRD.out n zs hn H.out, HBD.out n⟩
  · have hd : decide ((2000 : Int) < (n : Int)) = true := decide_eq_true (by omega)
    obtain ⟨x, rfl, hxb, hc⟩ := H.out.at_ (by omega)
    have hcap : (2000 : Int) ≤ (cap : Int) := by omega
    have hcap2 : 2000 ≤ cap := by omega
    have H2 : Hid (BsAt w.heap.size w (some x) 2000 cap (zs.take 2000)) := Lib.hid ⟨by rw [List.length_take]; omega, ⟨hcap2, H.out.fit.2⟩, fun _ => ⟨x, rfl, hxb, fun j hj => by rw [List.getElem_take]; exact hc j (by rw [List.length_take] at hj; omega)⟩, fun z hz => H.out.byte z (List.mem_of_mem_take hz)⟩
    clear hc
    go_enter Try.func99, Try.ntmps99
    go_wp2
    go_ret
    exact ⟨2000, zs.take 2000, rfl, HRD.out 2000 _ (Nat.le_refl _) H2.out, HBD.out 2000⟩

end Go.Proofs.Ytaaeiogdhmiaaaa

/- The draws of braids. -/

namespace Go.Proofs.Ytaaeiogdhmiaaaa
open Go.RowKit Go.Shelf

theorem grownB_of_below {w w' : World} (hb : Below w.heap.size w w') (row : Option Nat) : w.grownBy w' row := ⟨hb.os, hb.tape, hb.output, hb.size, fun j hj _ => hb.block j hj⟩
/-- The answer's box, behind what the reader wrote. -/
theorem boxGrown {W X : World} {k rb : Nat} {x y : Value} {t : TypeId} (hk : W.heap[k]? = some (.cells #[x, y] t (0, 0))) (hg : W.grownBy X (some rb)) (hne : k ≠ rb) :
    (X.cell? ⟨k, 0, none⟩ = some x ∧ X.cell? ⟨k, 1, none⟩ = some y) ∧ X.frozen? ⟨k, 0, none⟩ = false ∧ X.frozen? ⟨k, 1, none⟩ = false := by
  have e := (hg.block k (Array.getElem?_eq_some_iff.1 hk).1 (fun e => hne (Option.some.inj e))).trans hk
  refine ⟨⟨?_, ?_⟩, ?_, ?_⟩ <;> simp [World.cell?, World.frozen?, e]
theorem Rd.two {base rb : Nat} {w : World} {a : Option Addr} {n cap : Nat} {zs : List Int} {p k : Nat} (h : Rd base w rb a n cap zs p) (hk : k ≠ rb) (hb : base ≤ k) (x y : Value) : Rd base ((w.setCell ⟨k, 0, none⟩ x).setCell ⟨k, 1, none⟩ y) rb a n cap zs p :=
  ⟨h.lo, by rw [Below.heap_setCell _ _ _ _ (by show rb ≠ k; exact fun e => hk e.symm), Below.heap_setCell _ _ _ _ (by show rb ≠ k; exact fun e => hk e.symm)]; exact h.box, h.data.below (((Below.refl base w).setCell (p := ⟨k, 0, none⟩) hb x).setCell (p := ⟨k, 1, none⟩) hb y), h.short⟩

set_option maxRecDepth 100000 in
set_option maxHeartbeats 4000000 in
theorem l92Braid_grown (base rb : Nat) (a : Option Addr) (n cap : Nat) (zs : List Int) (p : Nat) (w : World) (h : Rd base w rb a n cap zs p) (hp : p ≤ 90000) (hbs : base ≤ w.heap.size) :
    Calls Try.prog 98 #[.pointer (some ⟨rb, 0, none⟩)] w fun e w' => (∃ (m : Int) (s : ByteArray), e = .returned (brV m s) ∧ (2 ≤ m ∧ m ≤ 4) ∧ s.size ≤ 5) ∧ (∃ p', p' ≤ p + 60 ∧ Rd base w' rb a n cap zs p') ∧ Below base w w' ∧ ∀ k, k < w.heap.size → k ≠ rb → w'.heap[k]? = w.heap[k]? := by
  obtain ⟨W, hW⟩ : ∃ W, w.alloc (.cells #[.int .i64 0, .string { data := #[] }] 26) = W := ⟨_, rfl⟩
  have hX := oneBox hW
  have HX := Lib.hid hX
  have HR0 := Lib.hid (h.below hX.1)
  have hlt := h.lt
  have hlo := h.lo
  have HKW : Hid (∀ k, k < w.heap.size → W.heap[k]? = w.heap[k]?) := Lib.hid fun k hk => hX.1.block k hk
  have HW := Lib.hid hW
  clear hX h hW
  have HP0 := Lib.hid (pick_any base rb a n cap zs p 3 W HR0.out (by omega) (by omega) (by omega))
  go_enter Try.func98, Try.ntmps98
  go_wp2_with fail
  rw [HW.out]
  refine HP0.out.mono ?_
  rintro e w1 ⟨⟨z, rfl, hz⟩, hR1, hB1, hG1⟩
  have HP1 := Lib.hid (pick_any base rb a n cap zs (p + 1) 5 w1 hR1 (by omega) (by omega) (by omega))
  have HB1 := Lib.hid hB1
  have HG1 := Lib.hid hG1
  clear hR1 hB1 hG1
  go_wp2_with fail
  refine HP1.out.mono ?_
  rintro e w2 ⟨⟨N, rfl, hN⟩, hR2, hB2, hG2⟩
  have HR2 := Lib.hid hR2
  have HB2 := Lib.hid (HB1.out.trans hB2)
  have HG2 := Lib.hid (HG1.out.trans hG2)
  clear hR2 hB2 hG2
  go_wp2_with fail
  go_loopw [4, 6, 7] (fun v i c wr => ∃ (k : Nat) (s : ByteArray) (u : Value), k ≤ N ∧ v = .string s ∧ i = .int .i64 k ∧ c = u ∧ s.size ≤ k ∧ Rd base wr rb a n cap zs (p + 2 + 2 * k) ∧ Below base W wr ∧ W.grownBy wr (some rb)) (fun _ i _ _ => N - (intOf i).toNat)
  case atStart => exact ⟨0, _, _, Nat.zero_le _, rfl, rfl, rfl, Nat.le_refl _, HR2.out, HB2.out, HG2.out⟩
  case round =>
    obtain ⟨k, s, u, hk, rfl, rfl, rfl, hsz, hR, hB, hG⟩ := hrel
    have HR := Lib.hid hR
    have HB := Lib.hid hB
    have HG := Lib.hid hG
    have hbl := hR.lt
    clear hR hB hG
    by_cases hltk : k < N
    · have hli : (k : Int) < (N : Int) := by omega
      have hp2 := pick_any base rb a n cap zs (p + 2 + 2 * k) (z + 1) wr HR.out (by omega) (by omega) (by omega)
      rw [show ((z + 1 : Nat) : Int) = 2 + (z : Int) - 1 by omega] at hp2
      have HP2 := Lib.hid hp2
      clear hp2
      go_wp2_with fail
      refine HP2.out.mono ?_
      rintro e w5 ⟨⟨y, rfl, hy⟩, hR5, hB5, hG5⟩
      have HP3 := Lib.hid (pick_any base rb a n cap zs (p + 2 + 2 * k + 1) 3 w5 hR5 (by omega) (by omega) (by omega))
      have HB5 := Lib.hid (HB.out.trans hB5)
      have HG5 := Lib.hid (HG.out.trans hG5)
      have hwz : IntKind.i64.wrap (120 + (y : Int)) = 120 + (y : Int) := IntWalk.i64_in _ (by omega)
      have hwu : IntKind.u8.wrap (120 + (y : Int)) = 120 + (y : Int) := IntWalk.u8_in _ (by omega)
      clear hR5 hB5 hG5
      go_wp2_with fail
      refine HP3.out.mono ?_
      rintro e w6 ⟨⟨x, rfl, hx⟩, hR6, hB6, hG6⟩
      have HB6 := Lib.hid (HB5.out.trans hB6)
      have HG6 := Lib.hid (HG5.out.trans hG6)
      have hb6l := hR6.lt
      have hnot : ¬ 9223372036854775807 < s.size + 1 := by omega
      have HR6 := Lib.hid hR6
      clear hR6 hB6 hG6
      by_cases hy0 : x = 0
      · subst hy0
        have hws : IntKind.u8.wrap (120 + (y : Int) - 32) = 88 + (y : Int) := by rw [show (120 : Int) + (y : Int) - 32 = 88 + (y : Int) by omega]; exact IntWalk.u8_in _ (by omega)
        obtain ⟨t, ht⟩ : ∃ t, bstr [UInt8.ofNat (88 + y)] = t := ⟨_, rfl⟩
        have hts : t.size = 1 := by rw [← ht]; rfl
        have hcv := conv_byte (UInt8.ofNat (88 + y)) (88 + (y : Int)) (by rw [UInt8.toNat_ofNat', Nat.mod_eq_of_lt (by omega)]; push_cast; rfl) w6
        rw [ht] at hcv
        have hnot2 : ¬ 9223372036854775807 < s.size + t.size := by omega
        have HR7 := Lib.hid (HR6.out.below ((Below.refl _ w6).alloc (Nat.le_refl _) (.cells #[.int .u8 (88 + (y : Int))] 5)))
        have HB7 := Lib.hid (HB6.out.alloc (by omega) (.cells #[.int .u8 (88 + (y : Int))] 5))
        have HG7 := Lib.hid (HG6.out.trans (World.grownBy_alloc w6 (.cells #[.int .u8 (88 + (y : Int))] 5) _))
        clear ht
        go_wp2
        go_roundw
        case rel => exact ⟨k + 1, _, _, by omega, rfl, by go_num, rfl, by rw [ByteArray.size_append]; omega, (show p + 2 + 2 * (k + 1) = p + 2 + 2 * k + 1 + 1 by omega) ▸ HR7.out, HB7.out, HG7.out⟩
        case measure => simp [intOf]; omega
      · have hyi : ((x : Int) == 0) = false := by simpa using hy0
        have hyn : ¬ (x : Int) = 0 := by omega
        obtain ⟨t, ht⟩ : ∃ t, bstr [UInt8.ofNat (120 + y)] = t := ⟨_, rfl⟩
        have hts : t.size = 1 := by rw [← ht]; rfl
        have hcv := conv_byte (UInt8.ofNat (120 + y)) (120 + (y : Int)) (by rw [UInt8.toNat_ofNat', Nat.mod_eq_of_lt (by omega)]; push_cast; rfl) w6
        rw [ht] at hcv
        have hnot2 : ¬ 9223372036854775807 < s.size + t.size := by omega
        have HR7 := Lib.hid (HR6.out.below ((Below.refl _ w6).alloc (Nat.le_refl _) (.cells #[.int .u8 (120 + (y : Int))] 5)))
        have HB7 := Lib.hid (HB6.out.alloc (by omega) (.cells #[.int .u8 (120 + (y : Int))] 5))
        have HG7 := Lib.hid (HG6.out.trans (World.grownBy_alloc w6 (.cells #[.int .u8 (120 + (y : Int))] 5) _))
        clear ht
        go_wp2
        go_roundw
        case rel => exact ⟨k + 1, _, _, by omega, rfl, by go_num, rfl, by rw [ByteArray.size_append]; omega, (show p + 2 + 2 * (k + 1) = p + 2 + 2 * k + 1 + 1 by omega) ▸ HR7.out, HB7.out, HG7.out⟩
        case measure => simp [intOf]; omega
    · obtain rfl : N = k := by omega
      have HP2 := Lib.hid (pick_any base rb a n cap zs (p + 2 + 2 * N) 30 wr HR.out (by omega) (by omega) (by omega))
      go_wp2_with fail
      refine HP2.out.mono ?_
      rintro e w6 ⟨⟨x, rfl, hx⟩, hR6, hB6, hG6⟩
      have hb6l := hR6.lt
      have HR6 := Lib.hid hR6
      have HB6 := Lib.hid (HB.out.trans hB6)
      have HG6 := Lib.hid (HG.out.trans hG6)
      have hnot : ¬ 9223372036854775807 < s.size + 1 := by omega
      clear hR6 hB6 hG6
      obtain ⟨⟨d0, d1⟩, f0, f1⟩ := boxGrown HX.out.2.2 HG6.out (by omega)
      have hwl : w.heap.size < w6.heap.size := by have h1 := HX.out.2.1; have h2 := HG6.out.size; omega
      have HFIN : Hid (∀ u v, Below base w ((w6.setCell ⟨w.heap.size, 0, none⟩ u).setCell ⟨w.heap.size, 1, none⟩ v) ∧ ∀ k, k < w.heap.size → k ≠ rb → ((w6.setCell ⟨w.heap.size, 0, none⟩ u).setCell ⟨w.heap.size, 1, none⟩ v).heap[k]? = w.heap[k]?) := Lib.hid fun u v => by
        have hbW : Below base w W := HX.out.1.mono hbs
        refine ⟨((hbW.trans HB6.out).setCell (p := ⟨w.heap.size, 0, none⟩) hbs _).setCell (p := ⟨w.heap.size, 1, none⟩) hbs _, fun k hk hkr => ?_⟩
        rw [Below.heap_setCell _ _ _ _ (by show k ≠ w.heap.size; omega), Below.heap_setCell _ _ _ _ (by show k ≠ w.heap.size; omega)]
        exact (HG6.out.block k (by have h1 := HX.out.2.1; omega) (fun e => hkr (Option.some.inj e))).trans (HKW.out k hk)
      by_cases hz0 : x = 0
      · subst hz0
        go_wp2
        obtain ⟨q1, q2⟩ := HFIN.out (.int .i64 2) (.string (s ++ { data := #[122] }))
        refine bodyPost_ret (v := brV 2 (s ++ { data := #[122] })) ?_ rfl ⟨⟨2, _, rfl, by omega, by rw [ByteArray.size_append]; show s.size + 1 ≤ 5; omega⟩, ⟨_, by omega, HR6.out.two (by omega) hbs _ _⟩, q1, q2⟩
        simp [results, Try.results98, go_sem, d0, d1]
      · have hzi : ((x : Int) == 0) = false := by simpa using hz0
        have hzn : ¬ (x : Int) = 0 := by omega
        go_wp2
        obtain ⟨q1, q2⟩ := HFIN.out (.int .i64 (2 + (z : Int))) (.string s)
        refine bodyPost_ret (v := brV (2 + (z : Int)) s) ?_ rfl ⟨⟨_, _, rfl, by omega, by omega⟩, ⟨_, by omega, HR6.out.two (by omega) hbs _ _⟩, q1, q2⟩
        simp [results, Try.results98, go_sem, d0, d1]

end Go.Proofs.Ytaaeiogdhmiaaaa

/- The draws of the laws on one braid (made by mkcv.py). -/

namespace Go.Proofs.Ytaaeiogdhmiaaaa
open Go.RowKit Go.Shelf

theorem BsAt.moreB {b1 b2 : Nat} {w : World} {a : Option Addr} {n cap : Nat} {zs : List Int} (h : BsAt b1 w a n cap zs) (hb : b1 ≤ b2) : BsAt b2 w a n cap zs :=
  ⟨h.len, h.fit, fun h0 => by obtain ⟨x, e, hx, hc⟩ := h.at_ h0; exact ⟨x, e, by omega, hc⟩, h.byte⟩
/-- What a draw of a braid gives. -/
def DrawsB (w : World) (e : Ending) (w' : World) : Prop := (∃ (m : Int) (s : ByteArray), e = .returned (brV m s) ∧ (2 ≤ m ∧ m ≤ 4) ∧ s.size ≤ 5) ∧ Below w.heap.size w w'

set_option maxRecDepth 100000 in
set_option maxHeartbeats 1000000 in
theorem drawBraidIn_any (a : Option Addr) (n cap : Nat) (zs : List Int) (w : World) (h : BsAt w.heap.size w a n cap zs) :
    Calls Try.prog 56 #[.slice a n cap] w (DrawsB w) := by
  obtain ⟨W, hW⟩ : ∃ W, w.alloc (.cells #[.int .i64 0, .string { data := #[] }] 26) = W := ⟨_, rfl⟩
  have HX := Lib.hid (oneBox hW)
  have HO := Lib.hid (open_any a n cap zs W ((h.below HX.out.1).moreB HX.out.1.size))
  have HW := Lib.hid hW
  clear h hW
  go_enter Try.func56, Try.ntmps56
  go_wp2_with fail
  rw [HW.out]
  refine HO.out.mono ?_
  rintro e w1 ⟨n', zs', rfl, hR1, hB1⟩
  have HK1 : Hid (w1.heap[w.heap.size]? = some (.cells #[.int .i64 0, .string { data := #[] }] 26 (0, 0))) := Lib.hid ((hB1.block _ (by have := HX.out.2.1; omega)).trans HX.out.2.2)
  have HBr := Lib.hid (l92Braid_grown W.heap.size W.heap.size a n' cap zs' 0 w1 hR1 (by omega) hB1.size)
  have HB1 := Lib.hid hB1
  have hs1 : w.heap.size < w1.heap.size := by have h1 := HX.out.2.1; have h2 := hB1.size; omega
  clear hR1 hB1
  go_wp2_with fail
  refine HBr.out.mono ?_
  rintro e w2 ⟨⟨m, s, rfl, hm, hs⟩, _, hB2, hk2⟩
  have hk := (hk2 w.heap.size hs1 (by have := HX.out.2.1; omega)).trans HK1.out
  obtain ⟨⟨d0, d1⟩, f0, f1⟩ := boxOf2 hk (Below.refl _ w2)
  have HB2 := Lib.hid (HX.out.1.trans ((HB1.out.trans hB2).mono HX.out.1.size))
  clear hk hk2 hB2
  go_wp2
  refine bodyPost_ret (v := brV m s) ?_ rfl ⟨⟨m, s, rfl, hm, hs⟩, below_two HB2.out (Nat.le_refl _) _ _⟩
  simp [results, Try.results56, go_sem, d0, d1]

set_option maxRecDepth 100000 in
set_option maxHeartbeats 1000000 in
theorem drawBraidTurned_any (a : Option Addr) (n cap : Nat) (zs : List Int) (w : World) (h : BsAt w.heap.size w a n cap zs) :
    Calls Try.prog 59 #[.slice a n cap] w (DrawsB w) := by
  obtain ⟨W, hW⟩ : ∃ W, w.alloc (.cells #[.int .i64 0, .string { data := #[] }] 26) = W := ⟨_, rfl⟩
  have HX := Lib.hid (oneBox hW)
  have HO := Lib.hid (open_any a n cap zs W ((h.below HX.out.1).moreB HX.out.1.size))
  have HW := Lib.hid hW
  clear h hW
  go_enter Try.func59, Try.ntmps59
  go_wp2_with fail
  rw [HW.out]
  refine HO.out.mono ?_
  rintro e w1 ⟨n', zs', rfl, hR1, hB1⟩
  have HK1 : Hid (w1.heap[w.heap.size]? = some (.cells #[.int .i64 0, .string { data := #[] }] 26 (0, 0))) := Lib.hid ((hB1.block _ (by have := HX.out.2.1; omega)).trans HX.out.2.2)
  have HBr := Lib.hid (l92Braid_grown W.heap.size W.heap.size a n' cap zs' 0 w1 hR1 (by omega) hB1.size)
  have HB1 := Lib.hid hB1
  have hs1 : w.heap.size < w1.heap.size := by have h1 := HX.out.2.1; have h2 := hB1.size; omega
  clear hR1 hB1
  go_wp2_with fail
  refine HBr.out.mono ?_
  rintro e w2 ⟨⟨m, s, rfl, hm, hs⟩, _, hB2, hk2⟩
  have hk := (hk2 w.heap.size hs1 (by have := HX.out.2.1; omega)).trans HK1.out
  obtain ⟨⟨d0, d1⟩, f0, f1⟩ := boxOf2 hk (Below.refl _ w2)
  have HB2 := Lib.hid (HX.out.1.trans ((HB1.out.trans hB2).mono HX.out.1.size))
  clear hk hk2 hB2
  go_wp2
  refine bodyPost_ret (v := brV m s) ?_ rfl ⟨⟨m, s, rfl, hm, hs⟩, below_two HB2.out (Nat.le_refl _) _ _⟩
  simp [results, Try.results59, go_sem, d0, d1]

set_option maxRecDepth 100000 in
set_option maxHeartbeats 1000000 in
theorem drawBraidPerm_any (a : Option Addr) (n cap : Nat) (zs : List Int) (w : World) (h : BsAt w.heap.size w a n cap zs) :
    Calls Try.prog 63 #[.slice a n cap] w (DrawsB w) := by
  obtain ⟨W, hW⟩ : ∃ W, w.alloc (.cells #[.int .i64 0, .string { data := #[] }] 26) = W := ⟨_, rfl⟩
  have HX := Lib.hid (oneBox hW)
  have HO := Lib.hid (open_any a n cap zs W ((h.below HX.out.1).moreB HX.out.1.size))
  have HW := Lib.hid hW
  clear h hW
  go_enter Try.func63, Try.ntmps63
  go_wp2_with fail
  rw [HW.out]
  refine HO.out.mono ?_
  rintro e w1 ⟨n', zs', rfl, hR1, hB1⟩
  have HK1 : Hid (w1.heap[w.heap.size]? = some (.cells #[.int .i64 0, .string { data := #[] }] 26 (0, 0))) := Lib.hid ((hB1.block _ (by have := HX.out.2.1; omega)).trans HX.out.2.2)
  have HBr := Lib.hid (l92Braid_grown W.heap.size W.heap.size a n' cap zs' 0 w1 hR1 (by omega) hB1.size)
  have HB1 := Lib.hid hB1
  have hs1 : w.heap.size < w1.heap.size := by have h1 := HX.out.2.1; have h2 := hB1.size; omega
  clear hR1 hB1
  go_wp2_with fail
  refine HBr.out.mono ?_
  rintro e w2 ⟨⟨m, s, rfl, hm, hs⟩, _, hB2, hk2⟩
  have hk := (hk2 w.heap.size hs1 (by have := HX.out.2.1; omega)).trans HK1.out
  obtain ⟨⟨d0, d1⟩, f0, f1⟩ := boxOf2 hk (Below.refl _ w2)
  have HB2 := Lib.hid (HX.out.1.trans ((HB1.out.trans hB2).mono HX.out.1.size))
  clear hk hk2 hB2
  go_wp2
  refine bodyPost_ret (v := brV m s) ?_ rfl ⟨⟨m, s, rfl, hm, hs⟩, below_two HB2.out (Nat.le_refl _) _ _⟩
  simp [results, Try.results63, go_sem, d0, d1]

set_option maxRecDepth 100000 in
set_option maxHeartbeats 1000000 in
theorem drawBraidSum_any (a : Option Addr) (n cap : Nat) (zs : List Int) (w : World) (h : BsAt w.heap.size w a n cap zs) :
    Calls Try.prog 66 #[.slice a n cap] w (DrawsB w) := by
  obtain ⟨W, hW⟩ : ∃ W, w.alloc (.cells #[.int .i64 0, .string { data := #[] }] 26) = W := ⟨_, rfl⟩
  have HX := Lib.hid (oneBox hW)
  have HO := Lib.hid (open_any a n cap zs W ((h.below HX.out.1).moreB HX.out.1.size))
  have HW := Lib.hid hW
  clear h hW
  go_enter Try.func66, Try.ntmps66
  go_wp2_with fail
  rw [HW.out]
  refine HO.out.mono ?_
  rintro e w1 ⟨n', zs', rfl, hR1, hB1⟩
  have HK1 : Hid (w1.heap[w.heap.size]? = some (.cells #[.int .i64 0, .string { data := #[] }] 26 (0, 0))) := Lib.hid ((hB1.block _ (by have := HX.out.2.1; omega)).trans HX.out.2.2)
  have HBr := Lib.hid (l92Braid_grown W.heap.size W.heap.size a n' cap zs' 0 w1 hR1 (by omega) hB1.size)
  have HB1 := Lib.hid hB1
  have hs1 : w.heap.size < w1.heap.size := by have h1 := HX.out.2.1; have h2 := hB1.size; omega
  clear hR1 hB1
  go_wp2_with fail
  refine HBr.out.mono ?_
  rintro e w2 ⟨⟨m, s, rfl, hm, hs⟩, _, hB2, hk2⟩
  have hk := (hk2 w.heap.size hs1 (by have := HX.out.2.1; omega)).trans HK1.out
  obtain ⟨⟨d0, d1⟩, f0, f1⟩ := boxOf2 hk (Below.refl _ w2)
  have HB2 := Lib.hid (HX.out.1.trans ((HB1.out.trans hB2).mono HX.out.1.size))
  clear hk hk2 hB2
  go_wp2
  refine bodyPost_ret (v := brV m s) ?_ rfl ⟨⟨m, s, rfl, hm, hs⟩, below_two HB2.out (Nat.le_refl _) _ _⟩
  simp [results, Try.results66, go_sem, d0, d1]

set_option maxRecDepth 100000 in
set_option maxHeartbeats 1000000 in
theorem drawBraidKnot_any (a : Option Addr) (n cap : Nat) (zs : List Int) (w : World) (h : BsAt w.heap.size w a n cap zs) :
    Calls Try.prog 67 #[.slice a n cap] w (DrawsB w) := by
  obtain ⟨W, hW⟩ : ∃ W, w.alloc (.cells #[.int .i64 0, .string { data := #[] }] 26) = W := ⟨_, rfl⟩
  have HX := Lib.hid (oneBox hW)
  have HO := Lib.hid (open_any a n cap zs W ((h.below HX.out.1).moreB HX.out.1.size))
  have HW := Lib.hid hW
  clear h hW
  go_enter Try.func67, Try.ntmps67
  go_wp2_with fail
  rw [HW.out]
  refine HO.out.mono ?_
  rintro e w1 ⟨n', zs', rfl, hR1, hB1⟩
  have HK1 : Hid (w1.heap[w.heap.size]? = some (.cells #[.int .i64 0, .string { data := #[] }] 26 (0, 0))) := Lib.hid ((hB1.block _ (by have := HX.out.2.1; omega)).trans HX.out.2.2)
  have HBr := Lib.hid (l92Braid_grown W.heap.size W.heap.size a n' cap zs' 0 w1 hR1 (by omega) hB1.size)
  have HB1 := Lib.hid hB1
  have hs1 : w.heap.size < w1.heap.size := by have h1 := HX.out.2.1; have h2 := hB1.size; omega
  clear hR1 hB1
  go_wp2_with fail
  refine HBr.out.mono ?_
  rintro e w2 ⟨⟨m, s, rfl, hm, hs⟩, _, hB2, hk2⟩
  have hk := (hk2 w.heap.size hs1 (by have := HX.out.2.1; omega)).trans HK1.out
  obtain ⟨⟨d0, d1⟩, f0, f1⟩ := boxOf2 hk (Below.refl _ w2)
  have HB2 := Lib.hid (HX.out.1.trans ((HB1.out.trans hB2).mono HX.out.1.size))
  clear hk hk2 hB2
  go_wp2
  refine bodyPost_ret (v := brV m s) ?_ rfl ⟨⟨m, s, rfl, hm, hs⟩, below_two HB2.out (Nat.le_refl _) _ _⟩
  simp [results, Try.results67, go_sem, d0, d1]

end Go.Proofs.Ytaaeiogdhmiaaaa

/- The contracts of the model's 'of', 'l91Mono' and 'DrawSeriesShuffle'. -/

namespace Go.Proofs.Ytaaeiogdhmiaaaa
open Go.RowKit Go.Shelf

def abL : List ByteArray := [{ data := #[97] }, { data := #[98] }]
theorem abL_size : ∀ s ∈ abL, s.size = 1 := by decide

end Go.Proofs.Ytaaeiogdhmiaaaa

/- The contracts of the laws' own helpers on terms: a copy; are two equal. -/

namespace Go.Proofs.Ytaaeiogdhmiaaaa
open Go.RowKit

def zeroTm : Tm := ⟨0, ByteArray.empty⟩
theorem made_terms (n : Nat) : (madeCells #[.int .i64 0, .string ByteArray.empty] (n * 2)).toList = termsV (List.replicate n zeroTm) := by
  apply List.ext_getElem
  · simp [madeCells, termsV_len]
  · intro j h1 h2
    have hj : j < n * 2 := by simpa [madeCells] using h1
    have hg := termsV_get (List.replicate n zeroTm) (j / 2) (by simp; omega)
    simp only [List.getElem_replicate] at hg
    have e1 : (madeCells #[.int .i64 0, .string ByteArray.empty] (n * 2)).toList[j] = #[Value.int .i64 0, .string ByteArray.empty][j % 2]! := by simp [madeCells]
    rw [e1]
    rcases Nat.mod_two_eq_zero_or_one j with h | h
    · rw [h]
      have e2 : j / 2 * 2 = j := by omega
      rw [e2] at hg
      have := (List.getElem?_eq_some_iff.1 hg.1).2
      rw [this]; rfl
    · rw [h]
      have e2 : j / 2 * 2 + 1 = j := by omega
      rw [e2] at hg
      have := (List.getElem?_eq_some_iff.1 hg.2).2
      rw [this]; rfl

/-- One term more is filled in. -/
theorem fill_terms (ts : List Tm) (n k : Nat) (hl : ts.length = n) (hk : k < n) :
    ((termsV (ts.take k ++ List.replicate (n - k) zeroTm)).set (k * 2) (.int .i64 (ts[k]'(by omega)).c)).set (k * 2 + 1) (.string (ts[k]'(by omega)).s) = termsV (ts.take (k + 1) ++ List.replicate (n - (k + 1)) zeroTm) := by
  have hkl : (termsV (ts.take k)).length = k * 2 := by rw [termsV_len, List.length_take, Nat.min_eq_left (by omega)]
  rw [termsV_append, show n - k = (n - (k + 1)) + 1 by omega, List.replicate_succ, termsV_cons, List.set_append_right _ _ (by omega), hkl, Nat.sub_self, List.set_cons_zero, List.set_append_right _ _ (by omega), hkl, Nat.add_sub_cancel_left, List.set_cons_succ, List.set_cons_zero,
    List.take_succ_eq_append_getElem (by omega : k < ts.length), termsV_append, termsV_append, List.append_assoc]
  rfl

/-- A row of terms of the call's own reads as terms. -/
theorem termsAt_of_owns {w : World} {base g cap n : Nat} {e : TypeId} {ts : List Tm} (hn : ts.length = n) (h : w.ownsRow base e 2 (.slice (some ⟨g, 0, none⟩) n cap) n (termsV ts)) : TermsAt w ⟨g, 0, none⟩ ts := by
  have hg : g < w.heap.size := by
    rcases h.2 with ⟨h, _⟩ | ⟨g1, cap1, cur, h1, _, hgb, _⟩
    · cases h
    · cases h1; exact (Array.getElem?_eq_some_iff.1 hgb).1
  have ha : ∀ j, (⟨g, 0, none⟩ : Addr).add j = ⟨g, j, none⟩ := fun j => by unfold Addr.add; split <;> simp_all
  refine ⟨hg, fun i hi => ?_⟩
  rw [ha, ha, h.cellAt _ (by omega), h.cellAt _ (by omega)]
  exact termsV_get ts i hi

end Go.Proofs.Ytaaeiogdhmiaaaa

/- The contracts of the model's 'l6In', 'l2Less', 'SumIn'. -/

namespace Go.Proofs.Ytaaeiogdhmiaaaa
open Go.RowKit

def inR (a b c : Int) : Bool := decide (a ≤ c) && decide (c ≤ b)
/-- Shorter words first, of one length byte by byte. -/
def lessW (a b : ByteArray) : Bool := if a.size = b.size then Op.bytesLess a.toList b.toList else decide (a.size < b.size)
/-- Is the term at j as a sum wants it, beside the one ahead of it? -/
def goodAt (ts : List Tm) (j : Nat) : Bool :=
  (ts.getD j default).c != 0 && inR (-1000000) 1000000 (ts.getD j default).c && wordB (ts.getD j default).s.data.toList && (decide (j = 0) || lessW (ts.getD (j - 1) default).s (ts.getD j default).s)
def allGood (ts : List Tm) (n : Nat) : Bool := (List.range n).all (goodAt ts)
theorem allGood_succ (ts : List Tm) (n : Nat) : allGood ts (n + 1) = (allGood ts n && goodAt ts n) := by simp [allGood, List.range_succ]
theorem allGood_false (ts : List Tm) (n k : Nat) (hk : k < n) (h : goodAt ts k = false) : allGood ts n = false :=
  List.all_eq_false.2 ⟨k, List.mem_range.2 hk, by simp [h]⟩
/-- Is this a sum? -/
def sumB (ts : List Tm) : Bool := allGood ts ts.length && decide (ts.length ≤ 300)

theorem sumB_false (ts : List Tm) (k : Nat) (hk : k < ts.length) (h : goodAt ts k = false) : sumB ts = false := by
  unfold sumB; rw [allGood_false ts _ k hk h, Bool.false_and]
theorem goodAt_c (ts : List Tm) (k : Nat) (t : Tm) (ht : ts.getD k default = t) (h : t.c = 0) : goodAt ts k = false := by
  unfold goodAt; rw [ht, h]; rfl
theorem goodAt_r (ts : List Tm) (k : Nat) (t : Tm) (ht : ts.getD k default = t) (h : inR (-1000000) 1000000 t.c = false) : goodAt ts k = false := by
  unfold goodAt; rw [ht, h]; simp
theorem goodAt_w (ts : List Tm) (k : Nat) (t : Tm) (ht : ts.getD k default = t) (h : wordB t.s.data.toList = false) : goodAt ts k = false := by
  unfold goodAt; rw [ht, h]; simp
theorem goodAt_zero (ts : List Tm) (k : Nat) (t : Tm) (hk : k = 0) (ht : ts.getD k default = t) (h0 : ¬ t.c = 0) (h1 : inR (-1000000) 1000000 t.c = true) (h2 : wordB t.s.data.toList = true) : goodAt ts k = true := by
  unfold goodAt; rw [ht, h1, h2]; simp [h0, hk]
theorem goodAt_succ (ts : List Tm) (k : Nat) (t p : Tm) (hk : 0 < k) (ht : ts.getD k default = t) (hp : ts.getD (k - 1) default = p) (h0 : ¬ t.c = 0) (h1 : inR (-1000000) 1000000 t.c = true) (h2 : wordB t.s.data.toList = true) : goodAt ts k = lessW p.s t.s := by
  have h3 : ¬ k = 0 := by omega
  unfold goodAt; rw [ht, hp, h1, h2]; simp [h0, h3]

theorem l6In_any (c a b : Int) (w : World) :
    Calls Try.prog 68 #[.int .i64 c, .int .i64 a, .int .i64 b] w fun e w' => e = .returned (.bool (inR a b c)) ∧ w = w' := by
  by_cases h : a ≤ c
  · go_enter Try.func68, Try.ntmps68
    go_wp2
    go_ret
    exact ⟨ret_bool (by simp [inR, h]), rfl⟩
  · go_enter Try.func68, Try.ntmps68
    go_wp2
    go_ret
    exact ⟨ret_bool (by unfold inR; rw [decide_eq_false (by omega : ¬ a ≤ c)]; rfl), rfl⟩

theorem l6In_is (c a b : Int) (r : Bool) (w : World) (h : inR a b c = r) :
    Calls Try.prog 68 #[.int .i64 c, .int .i64 a, .int .i64 b] w fun e w' => e = .returned (.bool r) ∧ Below w.heap.size w w' :=
  (l6In_any c a b w).mono fun _ _ ⟨h1, h2⟩ => ⟨by rw [h1, h], by rw [← h2]; exact Below.refl _ _⟩
end Go.Proofs.Ytaaeiogdhmiaaaa

/- The order of terms: the contracts of cmp.Compare, strings.Compare, cmp.Or and the program's 'compareTerms'. -/

namespace Go.Proofs.Ytaaeiogdhmiaaaa
open Go.RowKit Go.Sort

theorem ret_i64 {a b : Int} (h : a = b) : Ending.returned (.int .i64 a) = .returned (.int .i64 b) := by rw [h]
def orInt (x y : Int) : Int := if x = 0 then y else x
/-- The order of texts. -/
def cmpW (a b : ByteArray) : Int := orInt (Lib.compareInt a.size b.size) (Lib.compareBytes a.data.toList b.data.toList)

theorem grow_alloc (w : World) (os : Array Obj) (o : Obj) : (grow w os).alloc o = grow w (os.push o) := by
  unfold grow World.alloc
  simp
theorem alloc_grow (w : World) (o : Obj) : w.alloc o = grow w #[o] := by
  unfold grow World.alloc
  simp

/-- Behind w: some draws, some blocks. -/
def Grew (w w' : World) : Prop := ∃ q os, w' = grow (w.drewN q) os
theorem Grew.refl (w : World) : Grew w w := ⟨0, #[], by unfold grow World.drewN; simp⟩
theorem Grew.alloc {w w' : World} (h : Grew w w') (o : Obj) : Grew w (w'.alloc o) := by
  obtain ⟨q, os, rfl⟩ := h
  exact ⟨q, os.push o, grow_alloc _ _ _⟩
theorem Grew.drew {w w' : World} (h : Grew w w') : Grew w w'.drew := by
  obtain ⟨q, os, rfl⟩ := h
  exact ⟨q + 1, os, rfl⟩
theorem Grew.below {w w' : World} (h : Grew w w') : Below w.heap.size w w' := by
  obtain ⟨q, os, rfl⟩ := h
  refine ⟨rfl, rfl, rfl, by simp [grow], fun k hk => ?_⟩
  simp only [grow, World.heap_drewN]
  rw [Array.getElem?_append_left hk]

end Go.Proofs.Ytaaeiogdhmiaaaa

/- The contracts of the program's 'termWords', 'isZero', 'inRange'. -/

namespace Go.Proofs.Ytaaeiogdhmiaaaa
open Go.RowKit Go.Shelf

/-- Is a term as SumOf wants it? -/
def termB (t : Tm) : Bool := wordB t.s.data.toList && inR (-1000000) 1000000 t.c
def twB (ts : List Tm) : Bool := decide (ts.length ≤ 300) && ts.all termB
theorem twB_len {ts : List Tm} (h : ¬ ts.length ≤ 300) : twB ts = false := by unfold twB; rw [decide_eq_false h, Bool.false_and]
theorem twB_at {ts : List Tm} {k : Nat} (hk : k < ts.length) (h : termB ts[k] = false) : twB ts = false := by
  unfold twB
  rw [Bool.and_eq_false_iff]
  exact .inr (List.all_eq_false.2 ⟨_, List.getElem_mem hk, by simp [h]⟩)
theorem twB_of {ts : List Tm} (h : ts.length ≤ 300) (ha : ∀ j (hj : j < ts.length), termB ts[j] = true) : twB ts = true := by
  unfold twB
  rw [decide_eq_true h, Bool.true_and]
  exact List.all_eq_true.2 fun t ht => by
    obtain ⟨j, hj, rfl⟩ := List.getElem_of_mem ht
    exact ha j hj

end Go.Proofs.Ytaaeiogdhmiaaaa

/- The contracts of slices.IndexFunc and slices.ContainsFunc at 'isZero'. -/

namespace Go.Proofs.Ytaaeiogdhmiaaaa
open Go.RowKit Go.Shelf

/-- r is the first place of a coefficient 0, or -1. -/
def FirstZero (ts : List Tm) (r : Int) : Prop :=
  (r = -1 ∧ ∀ j (h : j < ts.length), ts[j].c ≠ 0) ∨ ∃ (i : Nat) (h : i < ts.length), r = i ∧ ts[i].c = 0 ∧ ∀ j (h : j < i), ts[j].c ≠ 0

def hasZero (ts : List Tm) : Bool := ts.any fun t => t.c == 0
theorem hasZero_first {ts : List Tm} {r : Int} (h : FirstZero ts r) : hasZero ts = decide (0 ≤ r) := by
  unfold hasZero
  rcases h with ⟨rfl, h⟩ | ⟨i, hi, rfl, h, _⟩
  · rw [List.any_eq_false.2]
    · rfl
    · intro t ht
      obtain ⟨j, hj, rfl⟩ := List.getElem_of_mem ht
      simpa using h j hj
  · rw [decide_eq_true (by omega : (0 : Int) ≤ i)]
    exact List.any_eq_true.2 ⟨_, List.getElem_mem hi, by simpa using h⟩

/-- A list that is in order. -/
def ascB (ts : List Tm) : Bool := (List.range ts.length).all fun j => decide (j = 0) || lessW (ts.getD (j - 1) default).s (ts.getD j default).s

end Go.Proofs.Ytaaeiogdhmiaaaa

/- The contract of the program's 'ascends'. -/

namespace Go.Proofs.Ytaaeiogdhmiaaaa
open Go.RowKit Go.Shelf

theorem bytes_cmp : ∀ a b : List UInt8, Op.bytesLess a b = decide (Lib.compareBytes a b < 0)
  | [], [] => rfl
  | [], _ :: _ => rfl
  | _ :: _, [] => rfl
  | a :: x, b :: y => by
    unfold Op.bytesLess Lib.compareBytes
    by_cases h : a < b
    · rw [if_pos h]; simp [h]
    · rw [if_neg h]
      by_cases h2 : b < a
      · rw [if_pos h2]
        have : (a == b) = false := by
          apply beq_eq_false_iff_ne.2
          rintro rfl
          exact h h2
        simp [h, this]
      · rw [if_neg h2]
        have : a = b := by
          apply UInt8.toNat_inj.1
          rw [UInt8.lt_iff_toNat_lt] at h h2
          omega
        subst this
        simp [h, bytes_cmp x y]
theorem lessW_cmp (a b : ByteArray) : lessW a b = decide (cmpW a b < 0) := by
  unfold lessW cmpW orInt Lib.compareInt
  by_cases h : a.size = b.size
  · have e1 : ¬ ((a.size : Int) < (b.size : Int)) := by omega
    have e2 : ¬ ((a.size : Int) > (b.size : Int)) := by omega
    rw [if_pos h]
    simp only [if_neg e1, if_neg e2, if_true]
    rw [← bytes_cmp, ByteArray.toList_eq, ByteArray.toList_eq]
  · rw [if_neg h]
    by_cases h2 : a.size < b.size
    · have e1 : ((a.size : Int) < (b.size : Int)) := by omega
      simp only [if_pos e1]; simp [h2]
    · have e1 : ¬ ((a.size : Int) < (b.size : Int)) := by omega
      have e2 : ((a.size : Int) > (b.size : Int)) := by omega
      simp only [if_neg e1, if_pos e2]; simp [h2]

theorem ascB_false {ts : List Tm} {k : Nat} (hk : k < ts.length) (hk0 : 0 < k) (h : lessW (ts.getD (k - 1) default).s (ts.getD k default).s = false) : ascB ts = false := by
  unfold ascB
  refine List.all_eq_false.2 ⟨k, List.mem_range.2 hk, ?_⟩
  have h0 : decide (k = 0) = false := decide_eq_false (by omega)
  rw [h, h0]; decide
theorem ascB_true {ts : List Tm} (h : ∀ k, k < ts.length → 0 < k → lessW (ts.getD (k - 1) default).s (ts.getD k default).s = true) : ascB ts = true := by
  unfold ascB
  refine List.all_eq_true.2 fun k hk => ?_
  by_cases h0 : k = 0
  · rw [decide_eq_true h0, Bool.true_or]
  · rw [h k (List.mem_range.1 hk) (by omega), Bool.or_true]

end Go.Proofs.Ytaaeiogdhmiaaaa

/- Lists of terms in order, without equal words and without coefficients 0: there is just one such list to given sums of coefficients. -/

namespace Go.Proofs.Ytaaeiogdhmiaaaa
open Go.RowKit

theorem bl_irrefl : ∀ a : List UInt8, Op.bytesLess a a = false
  | [] => rfl
  | c :: r => by unfold Op.bytesLess; simp [bl_irrefl r, UInt8.lt_irrefl]
theorem bl_trans : ∀ a b c : List UInt8, Op.bytesLess a b = true → Op.bytesLess b c = true → Op.bytesLess a c = true
  | _, [], _, h, _ => by unfold Op.bytesLess at h; cases h
  | _, _ :: _, [], _, h => by unfold Op.bytesLess at h; cases h
  | [], _ :: _, _ :: _, _, _ => rfl
  | x :: a, y :: b, z :: c, h1, h2 => by
    unfold Op.bytesLess at *
    simp only [Bool.or_eq_true, Bool.and_eq_true, decide_eq_true_eq, beq_iff_eq, UInt8.lt_iff_toNat_lt, ← UInt8.toNat_inj] at *
    rcases h1 with h1 | ⟨h1, h1'⟩
    · rcases h2 with h2 | ⟨h2, _⟩
      · exact .inl (by omega)
      · exact .inl (by omega)
    · rcases h2 with h2 | ⟨h2, h2'⟩
      · exact .inl (by omega)
      · exact .inr ⟨by omega, bl_trans a b c h1' h2'⟩
theorem bl_tri : ∀ a b : List UInt8, Op.bytesLess a b = false → Op.bytesLess b a = false → a = b
  | [], [], _, _ => rfl
  | [], _ :: _, h, _ => by unfold Op.bytesLess at h; cases h
  | _ :: _, [], _, h => by unfold Op.bytesLess at h; cases h
  | x :: a, y :: b, h1, h2 => by
    unfold Op.bytesLess at h1 h2
    simp only [Bool.or_eq_false_iff, Bool.and_eq_false_iff, decide_eq_false_iff_not, beq_eq_false_iff_ne, UInt8.lt_iff_toNat_lt, ne_eq, ← UInt8.toNat_inj] at h1 h2
    have e : x = y := UInt8.toNat_inj.1 (by omega)
    subst e
    have q1 : Op.bytesLess a b = false := by rcases h1.2 with h | h; exact absurd rfl h; exact h
    have q2 : Op.bytesLess b a = false := by rcases h2.2 with h | h; exact absurd rfl h; exact h
    rw [bl_tri a b q1 q2]

theorem lessW_irrefl (a : ByteArray) : lessW a a = false := by unfold lessW; rw [if_pos rfl]; exact bl_irrefl _
theorem lessW_trans {a b c : ByteArray} (h1 : lessW a b = true) (h2 : lessW b c = true) : lessW a c = true := by
  unfold lessW at *
  by_cases e1 : a.size = b.size <;> by_cases e2 : b.size = c.size
  · rw [if_pos e1] at h1; rw [if_pos e2] at h2; rw [if_pos (by omega)]; exact bl_trans _ _ _ h1 h2
  · rw [if_neg e2] at h2; simp only [decide_eq_true_eq] at h2; rw [if_neg (by omega)]; exact decide_eq_true (by omega)
  · rw [if_neg e1] at h1; simp only [decide_eq_true_eq] at h1; rw [if_neg (by omega)]; exact decide_eq_true (by omega)
  · rw [if_neg e1] at h1; rw [if_neg e2] at h2; simp only [decide_eq_true_eq] at h1 h2; rw [if_neg (by omega)]; exact decide_eq_true (by omega)
theorem bytes_ext2 {a b : ByteArray} (h : a.toList = b.toList) : a = b := by
  rw [ByteArray.toList_eq, ByteArray.toList_eq] at h
  have : a.data = b.data := Array.toList_inj.1 h
  cases a; cases b; simpa using this
theorem lessW_tri {a b : ByteArray} (h1 : lessW a b = false) (h2 : lessW b a = false) : a = b := by
  unfold lessW at *
  by_cases e : a.size = b.size
  · rw [if_pos e] at h1; rw [if_pos e.symm] at h2; exact bytes_ext2 (bl_tri _ _ h1 h2)
  · rw [if_neg e] at h1; rw [if_neg (fun h => e h.symm)] at h2; simp only [decide_eq_false_iff_not] at h1 h2; omega
theorem lessW_asymm {a b : ByteArray} (h : lessW a b = true) : lessW b a = false := by
  cases h2 : lessW b a with
  | false => rfl
  | true => have := lessW_trans h h2; rw [lessW_irrefl] at this; cases this
theorem lessW_ne {a b : ByteArray} (h : lessW a b = true) : a ≠ b := by rintro rfl; rw [lessW_irrefl] at h; cases h

/-- The sum of the coefficients of a word. -/
def coefAt (s : ByteArray) : List Tm → Int
  | [] => 0
  | t :: r => (if t.s = s then t.c else 0) + coefAt s r
theorem coefAt_append (s : ByteArray) (a b : List Tm) : coefAt s (a ++ b) = coefAt s a + coefAt s b := by
  induction a with
  | nil => simp [coefAt]
  | cons t r ih => rw [List.cons_append, coefAt, coefAt, ih]; omega
theorem coefAt_perm (s : ByteArray) {a b : List Tm} (h : a.Perm b) : coefAt s a = coefAt s b := by
  induction h with
  | nil => rfl
  | cons t _ ih => rw [coefAt, coefAt, ih]
  | swap t u l => simp only [coefAt]; omega
  | trans _ _ i1 i2 => rw [i1, i2]

/-- In order, no word twice, no coefficient 0. -/
def Canon (ts : List Tm) : Prop := ts.Pairwise (fun a b => lessW a.s b.s = true) ∧ ∀ t ∈ ts, t.c ≠ 0
theorem coefAt_none {s : ByteArray} {ts : List Tm} (h : ∀ t ∈ ts, t.s ≠ s) : coefAt s ts = 0 := by
  induction ts with
  | nil => rfl
  | cons t r ih => rw [coefAt, if_neg (h t (by simp)), ih fun u hu => h u (by simp [hu])]; rfl
theorem canon_unique : ∀ {a b : List Tm}, Canon a → Canon b → (∀ s, coefAt s a = coefAt s b) → a = b
  | [], [], _, _, _ => rfl
  | [], y :: b, _, hb, h => by
    have h1 := h y.s
    rw [coefAt, coefAt, if_pos rfl, coefAt_none fun t ht => (lessW_ne ((List.pairwise_cons.1 hb.1).1 t ht)).symm] at h1
    exact absurd (by omega) (hb.2 y (by simp))
  | x :: a, [], ha, _, h => by
    have h1 := h x.s
    rw [coefAt, coefAt, if_pos rfl, coefAt_none fun t ht => (lessW_ne ((List.pairwise_cons.1 ha.1).1 t ht)).symm] at h1
    exact absurd (by omega) (ha.2 x (by simp))
  | x :: a, y :: b, ha, hb, h => by
    obtain ⟨a1, a2⟩ := List.pairwise_cons.1 ha.1
    obtain ⟨b1, b2⟩ := List.pairwise_cons.1 hb.1
    have na : coefAt x.s a = 0 := coefAt_none fun t ht => (lessW_ne (a1 t ht)).symm
    have nb : coefAt y.s b = 0 := coefAt_none fun t ht => (lessW_ne (b1 t ht)).symm
    have e : x.s = y.s := by
      cases h1 : lessW x.s y.s with
      | true =>
        have h2 := h x.s
        rw [coefAt, coefAt, if_pos rfl, if_neg (fun e => lessW_ne h1 e.symm), na, coefAt_none fun t ht => (lessW_ne (lessW_trans h1 (b1 t ht))).symm] at h2
        exact absurd (by omega) (ha.2 x (by simp))
      | false =>
        cases h3 : lessW y.s x.s with
        | true =>
          have h2 := h y.s
          rw [coefAt, coefAt, if_pos rfl, if_neg (fun e => lessW_ne h3 e.symm), nb, coefAt_none fun t ht => (lessW_ne (lessW_trans h3 (a1 t ht))).symm] at h2
          exact absurd (by omega) (hb.2 y (by simp))
        | false => exact lessW_tri h1 h3
    have ec : x.c = y.c := by
      have h2 := h x.s
      rw [coefAt, coefAt, if_pos rfl, if_pos e.symm, na, e, nb] at h2
      omega
    have et : x = y := by cases x; cases y; simp at e ec; rw [e, ec]
    subst et
    have := canon_unique ⟨a2, fun t ht => ha.2 t (by simp [ht])⟩ ⟨b2, fun t ht => hb.2 t (by simp [ht])⟩ (fun s => by
      have h2 := h s
      rw [coefAt, coefAt] at h2
      omega)
    rw [this]

/-- A term is left out if its coefficient is 0. -/
def nz (t : Tm) : List Tm := if t.c = 0 then [] else [t]
/-- A term is added to a list in order. -/
def addT : List Tm → Tm → List Tm
  | [], t => nz t
  | x :: r, t => if lessW x.s t.s then x :: addT r t else if x.s = t.s then nz ⟨t.c + x.c, t.s⟩ ++ r else nz t ++ x :: r
theorem coefAt_nz (s : ByteArray) (t : Tm) : coefAt s (nz t) = if t.s = s then t.c else 0 := by
  unfold nz
  by_cases h : t.c = 0
  · rw [if_pos h, h]; simp [coefAt]
  · rw [if_neg h]; simp [coefAt]
theorem coefAt_add (s : ByteArray) (t : Tm) : ∀ ts, coefAt s (addT ts t) = coefAt s ts + if t.s = s then t.c else 0
  | [] => by rw [addT, coefAt_nz, coefAt]; omega
  | x :: r => by
    rw [addT]
    by_cases h : lessW x.s t.s = true
    · rw [if_pos h, coefAt, coefAt, coefAt_add s t r]; omega
    · rw [if_neg h]
      by_cases h2 : x.s = t.s
      · rw [if_pos h2, coefAt_append, coefAt_nz, coefAt, h2]
        by_cases h3 : t.s = s
        · simp only [h3, if_true]; omega
        · simp only [h3, if_false]; omega
      · rw [if_neg h2, coefAt_append, coefAt_nz]; omega
theorem nz_mem {t u : Tm} (h : u ∈ nz t) : u = t ∧ t.c ≠ 0 := by
  unfold nz at h
  split at h
  · cases h
  · exact ⟨List.mem_singleton.1 h, by assumption⟩
theorem add_words {t : Tm} : ∀ {ts : List Tm} {u : Tm}, u ∈ addT ts t → u.s = t.s ∨ ∃ v ∈ ts, v.s = u.s
  | [], u, h => by rw [addT] at h; exact .inl (by rw [(nz_mem h).1])
  | x :: r, u, h => by
    rw [addT] at h
    split at h
    · rcases List.mem_cons.1 h with rfl | h
      · exact .inr ⟨_, by simp, rfl⟩
      · rcases add_words h with h | ⟨v, hv, e⟩
        · exact .inl h
        · exact .inr ⟨v, by simp [hv], e⟩
    · split at h
      · rcases List.mem_append.1 h with h | h
        · exact .inl (by rw [(nz_mem h).1])
        · exact .inr ⟨u, by simp [h], rfl⟩
      · rcases List.mem_append.1 h with h | h
        · exact .inl (by rw [(nz_mem h).1])
        · exact .inr ⟨u, h, rfl⟩
theorem canon_add {t : Tm} : ∀ {ts : List Tm}, Canon ts → Canon (addT ts t)
  | [], _ => by
    rw [addT]
    unfold nz
    split
    · exact ⟨List.Pairwise.nil, fun t h => by cases h⟩
    · exact ⟨by simp, fun u h => by rw [List.mem_singleton.1 h]; assumption⟩
  | x :: r, h => by
    obtain ⟨h1, h2⟩ := List.pairwise_cons.1 h.1
    have hr : Canon r := ⟨h2, fun u hu => h.2 u (by simp [hu])⟩
    rw [addT]
    by_cases hl : lessW x.s t.s = true
    · rw [if_pos hl]
      have ih := canon_add (t := t) hr
      refine ⟨List.pairwise_cons.2 ⟨fun u hu => ?_, ih.1⟩, fun u hu => ?_⟩
      · rcases add_words hu with e | ⟨v, hv, e⟩
        · rw [e]; exact hl
        · rw [← e]; exact h1 v hv
      · rcases List.mem_cons.1 hu with rfl | hu
        · exact h.2 _ (by simp)
        · exact ih.2 u hu
    · rw [if_neg hl]
      by_cases h3 : x.s = t.s
      · rw [if_pos h3]
        refine ⟨List.pairwise_append.2 ⟨?_, h2, fun u hu v hv => ?_⟩, fun u hu => ?_⟩
        · unfold nz; split <;> simp
        · rw [(nz_mem hu).1]; show lessW t.s v.s = true; rw [← h3]; exact h1 v hv
        · rcases List.mem_append.1 hu with hu | hu
          · obtain ⟨e, h4⟩ := nz_mem hu; rw [e]; exact h4
          · exact hr.2 u hu
      · rw [if_neg h3]
        have hlt : lessW t.s x.s = true := by
          cases h4 : lessW t.s x.s with
          | true => rfl
          | false => exact absurd (lessW_tri (by simpa using hl) h4) h3
        refine ⟨List.pairwise_append.2 ⟨?_, h.1, fun u hu v hv => ?_⟩, fun u hu => ?_⟩
        · unfold nz; split <;> simp
        · rw [(nz_mem hu).1]
          rcases List.mem_cons.1 hv with rfl | hv
          · exact hlt
          · exact lessW_trans hlt (h1 v hv)
        · rcases List.mem_append.1 hu with hu | hu
          · obtain ⟨e, h4⟩ := nz_mem hu; rw [e]; exact h4
          · exact h.2 u hu

/-- The sum of terms in any order. -/
def canonT (ts : List Tm) : List Tm := ts.foldl addT []
theorem canon_foldl : ∀ (ts acc : List Tm), Canon acc → Canon (ts.foldl addT acc) ∧ ∀ s, coefAt s (ts.foldl addT acc) = coefAt s acc + coefAt s ts
  | [], acc, h => ⟨h, fun s => by simp [coefAt]⟩
  | t :: r, acc, h => by
    obtain ⟨h1, h2⟩ := canon_foldl r (addT acc t) (canon_add h)
    refine ⟨h1, fun s => ?_⟩
    rw [List.foldl_cons, h2, coefAt_add, coefAt]
    omega
theorem canonT_spec (ts : List Tm) : Canon (canonT ts) ∧ ∀ s, coefAt s (canonT ts) = coefAt s ts := by
  obtain ⟨h1, h2⟩ := canon_foldl ts [] ⟨List.Pairwise.nil, fun t h => by cases h⟩
  exact ⟨h1, fun s => by rw [canonT, h2, coefAt]; omega⟩
theorem canonT_unique {ts us : List Tm} (h : Canon us) (he : ∀ s, coefAt s us = coefAt s ts) : us = canonT ts :=
  canon_unique h (canonT_spec ts).1 fun s => by rw [he, (canonT_spec ts).2]

/-- Equal neighbours joined: what stands at the end takes the next one in. -/
def pushT (acc : List Tm) (t : Tm) : List Tm :=
  match acc.getLast? with
  | some l => if l.s = t.s then acc.dropLast ++ [⟨l.c + t.c, l.s⟩] else acc ++ [t]
  | none => acc ++ [t]
def mergeT (ts : List Tm) : List Tm := ts.foldl pushT []

theorem push_nil (t : Tm) : pushT [] t = [t] := rfl
theorem push_last (a : List Tm) (l t : Tm) : pushT (a ++ [l]) t = if l.s = t.s then a ++ [⟨l.c + t.c, l.s⟩] else a ++ [l] ++ [t] := by
  unfold pushT; simp
theorem coefAt_push (s : ByteArray) (a : List Tm) (t : Tm) : coefAt s (pushT a t) = coefAt s a + if t.s = s then t.c else 0 := by
  rcases List.eq_nil_or_concat a with rfl | ⟨b, l, rfl⟩
  · rw [push_nil]; simp [coefAt]
  · rw [List.concat_eq_append, push_last]
    by_cases h : l.s = t.s
    · rw [if_pos h, coefAt_append, coefAt_append]
      simp only [coefAt]
      rw [h]
      by_cases h2 : t.s = s
      · simp only [h2, if_true]; omega
      · simp only [h2, if_false]; omega
    · rw [if_neg h, coefAt_append]
      simp only [coefAt]; omega

/-- What was gathered is in order, and its last word is not greater than what comes. -/
theorem merge_foldl : ∀ (ts acc : List Tm), acc.Pairwise (fun a b => lessW a.s b.s = true) → ts.Pairwise (fun a b => lessW b.s a.s = false) → (∀ l, acc.getLast? = some l → ∀ t ∈ ts, lessW t.s l.s = false) →
    (ts.foldl pushT acc).Pairwise (fun a b => lessW a.s b.s = true) ∧ ∀ s, coefAt s (ts.foldl pushT acc) = coefAt s acc + coefAt s ts
  | [], acc, h, _, _ => ⟨h, fun s => by simp [coefAt]⟩
  | t :: r, acc, h, hts, hl => by
    obtain ⟨t1, t2⟩ := List.pairwise_cons.1 hts
    have hp : (pushT acc t).Pairwise (fun a b => lessW a.s b.s = true) ∧ ∃ l, (pushT acc t).getLast? = some l ∧ l.s = t.s := by
      rcases List.eq_nil_or_concat acc with rfl | ⟨b, l, rfl⟩
      · rw [push_nil]; exact ⟨by simp, t, rfl, rfl⟩
      · rw [List.concat_eq_append] at *
        rw [push_last]
        obtain ⟨p1, _, p3⟩ := List.pairwise_append.1 h
        by_cases e : l.s = t.s
        · rw [if_pos e]
          exact ⟨List.pairwise_append.2 ⟨p1, by simp, fun u hu v hv => by rw [List.mem_singleton.1 hv]; show lessW u.s l.s = true; exact p3 u hu l (List.mem_singleton.2 rfl)⟩, ⟨l.c + t.c, l.s⟩, by simp, e⟩
        · rw [if_neg e]
          have hlt : lessW l.s t.s = true := by
            cases h4 : lessW l.s t.s with
            | true => rfl
            | false => exact absurd (lessW_tri h4 (hl l (by simp) t (by simp))) e
          refine ⟨List.pairwise_append.2 ⟨h, by simp, fun u hu v hv => ?_⟩, t, by simp, rfl⟩
          rw [List.mem_singleton.1 hv]
          rcases List.mem_append.1 hu with hu | hu
          · exact lessW_trans (p3 u hu l (by simp)) hlt
          · rw [List.mem_singleton.1 hu]; exact hlt
    obtain ⟨l, hll, hls⟩ := hp.2
    obtain ⟨q1, q2⟩ := merge_foldl r (pushT acc t) hp.1 t2 (fun l' hl' u hu => by
      rw [hll] at hl'; cases hl'
      rw [hls]; exact t1 u hu)
    refine ⟨q1, fun s => ?_⟩
    rw [List.foldl_cons, q2, coefAt_push, coefAt]
    omega
theorem coefAt_filter (s : ByteArray) : ∀ ts : List Tm, coefAt s (ts.filter fun t => !(t.c == 0)) = coefAt s ts
  | [] => rfl
  | t :: r => by
    rw [List.filter_cons]
    by_cases h : t.c = 0
    · simp only [h, beq_self_eq_true, Bool.not_true, Bool.false_eq_true, if_false]
      rw [coefAt_filter s r, coefAt, h]; simp
    · have : (!(t.c == 0)) = true := by simpa using h
      rw [if_pos this, coefAt, coefAt, coefAt_filter s r]
/-- **What the program gathers is the model's sum.** -/
theorem gathered_eq {ts ss : List Tm} (hp : ss.Perm ts) (hs : ss.Pairwise (fun a b => lessW b.s a.s = false)) : (mergeT ss).filter (fun t => !(t.c == 0)) = canonT ts := by
  obtain ⟨h1, h2⟩ := merge_foldl ss [] List.Pairwise.nil hs (fun l h => by cases h)
  refine canonT_unique ⟨h1.sublist List.filter_sublist, fun t ht => ?_⟩ fun s => ?_
  · have := (List.mem_filter.1 ht).2
    simpa using this
  · rw [coefAt_filter]
    unfold mergeT
    rw [h2, coefAt, coefAt_perm s hp]
    omega

end Go.Proofs.Ytaaeiogdhmiaaaa

/- The contract of the model's 'l2Add'. -/

namespace Go.Proofs.Ytaaeiogdhmiaaaa
open Go.RowKit Go.Shelf

theorem termsV_cells {w : World} {x : Addr} {ts : List Tm} (h : TermsAt w x ts) : ∀ j u, (termsV ts)[j]? = some u → w.cell? (x.add j) = some u := fun j u hu => by
  have hj : j < ts.length * 2 := by rw [← termsV_len]; exact (List.getElem?_eq_some_iff.1 hu).1
  have hg := termsV_get ts (j / 2) (by omega)
  have hc := h.2 (j / 2) (by omega)
  rcases Nat.mod_two_eq_zero_or_one j with e | e
  · have e2 : j / 2 * 2 = j := by omega
    rw [e2] at hg hc
    rw [hg.1] at hu; cases hu; exact hc.1
  · have e2 : j / 2 * 2 + 1 = j := by omega
    rw [e2] at hg hc
    rw [hg.2] at hu; cases hu; exact hc.2
theorem TermsAt.cells {w : World} {x : Addr} {ts : List Tm} (h : TermsAt w x ts) : ∀ j u, (termsV ts)[j]? = some u → w.cell? (x.add j) = some u := termsV_cells h
theorem TermsAt.takeAt {w : World} {x : Addr} {ts : List Tm} (h : TermsAt w x ts) (k : Nat) : TermsAt w x (ts.take k) :=
  ⟨h.1, fun i hi => by
    simp only [List.length_take] at hi
    rw [List.getElem_take]
    exact h.2 i (by omega)⟩
theorem TermsAt.dropAt {w : World} {g : Nat} {ts : List Tm} (h : TermsAt w ⟨g, 0, none⟩ ts) (k : Nat) : TermsAt w ⟨g, k * 2, none⟩ (ts.drop k) := by
  refine ⟨h.1, fun i hi => ?_⟩
  simp only [List.length_drop] at hi
  have ha : ∀ o j, (⟨g, o, none⟩ : Addr).add j = ⟨g, o + j, none⟩ := fun o j => by unfold Addr.add; split <;> simp_all
  have := h.2 (k + i) (by omega)
  rw [ha, ha] at this
  rw [ha, ha, List.getElem_drop, show k * 2 + i * 2 = 0 + (k + i) * 2 by omega, show k * 2 + (i * 2 + 1) = 0 + ((k + i) * 2 + 1) by omega]
  exact this
theorem oneCell_terms (ts : List Tm) : ∀ u ∈ termsV ts, u.oneCell' = true := by
  induction ts with
  | nil => intro u h; cases h
  | cons t r ih =>
    intro u h
    rw [termsV_cons] at h
    rcases List.mem_cons.1 h with rfl | h
    · rfl
    · rcases List.mem_cons.1 h with rfl | h
      · rfl
      · exact ih u h
theorem notNil {w : World} {base n : Nat} {e : TypeId} {size : Nat} {v : Value} {xs : List Value} (h : w.ownsRow base e size v n xs) (hn : v ≠ .slice none 0 0) : ∃ g cap, base ≤ g ∧ v = .slice (some ⟨g, 0, none⟩) n cap := by
  rcases h.2 with ⟨e, _⟩ | ⟨g, cap, cur, e, hb, _⟩
  · exact absurd e hn
  · exact ⟨g, cap, hb, e⟩
theorem cell_pair_new (w : World) (a b : Value) (t : TypeId) : ∀ j u, [a, b][j]? = some u → (w.alloc (.cells #[a, b] t)).cell? ((⟨w.heap.size, 0, none⟩ : Addr).add j) = some u := fun j u hu => by
  have ha : (⟨w.heap.size, 0, none⟩ : Addr).add j = ⟨w.heap.size, j, none⟩ := by unfold Addr.add; split <;> simp_all
  rw [ha, World.cell?_alloc_at _ _ _ _ rfl]
  match j, hu with
  | 0, hu => cases hu; rfl
  | 1, hu => cases hu; rfl
  | j + 2, hu => simp at hu

theorem addT_less : ∀ {ts : List Tm} {t : Tm} {k : Nat}, (∀ j (h : j < ts.length), j < k → lessW ts[j].s t.s = true) → k ≤ ts.length → addT ts t = ts.take k ++ addT (ts.drop k) t
  | _, _, 0, _, _ => by simp
  | [], _, k + 1, _, hk => by simp at hk
  | x :: r, t, k + 1, h, hk => by
    have h0 := h 0 (by simp) (by omega)
    have ih := addT_less (ts := r) (t := t) (k := k) (fun j hj hjk => by have := h (j + 1) (by simpa using hj) (by omega); simpa using this) (by simpa using hk)
    rw [List.take_succ_cons, List.drop_succ_cons, addT, if_pos (by simpa using h0), ih]
    rfl
theorem addT_end {ts : List Tm} {t : Tm} (h : ∀ j (h : j < ts.length), lessW ts[j].s t.s = true) : addT ts t = ts ++ nz t := by
  rw [addT_less (k := ts.length) (fun j hj _ => h j hj) (Nat.le_refl _), List.drop_length, List.take_length]
  rfl
theorem addT_at {ts : List Tm} {t u : Tm} {k : Nat} (hk : k < ts.length) (h : ∀ j (h : j < ts.length), j < k → lessW ts[j].s t.s = true) (hu : ts[k] = u) (hl : lessW u.s t.s = false) :
    addT ts t = ts.take k ++ (if u.s = t.s then nz ⟨t.c + u.c, t.s⟩ ++ ts.drop (k + 1) else nz t ++ ts.drop k) := by
  rw [addT_less h (Nat.le_of_lt hk), List.drop_eq_getElem_cons hk, hu, addT, if_neg (by rw [hl]; simp)]
theorem cat0 (a b : List Tm) : [] ++ termsV a ++ termsV b = termsV (a ++ ([] ++ b)) := by rw [List.nil_append, List.nil_append, termsV_append]
theorem cat1 (a b : List Tm) (c : Int) (s : ByteArray) : [] ++ termsV a ++ [.int .i64 c, .string s] ++ termsV b = termsV (a ++ ([⟨c, s⟩] ++ b)) := by rw [List.nil_append, termsV_append, termsV_append, List.append_assoc]; rfl
theorem cat2 (a b : List Tm) : termsV a ++ termsV b = termsV (a ++ ([] ++ b)) := cat0 a b
theorem cat3 (a b : List Tm) (c : Int) (s : ByteArray) : termsV a ++ .int .i64 c :: .string s :: termsV b = termsV (a ++ ([⟨c, s⟩] ++ b)) := by rw [termsV_append, termsV_append]; rfl
theorem lenCat0 (ts : List Tm) (k j : Nat) (hk : k ≤ ts.length) : (ts.take k ++ ([] ++ ts.drop j)).length = k + (ts.length - j) := by
  rw [List.length_append, List.nil_append, List.length_take, List.length_drop, Nat.min_eq_left hk]
theorem lenCat1 (ts : List Tm) (k j : Nat) (x : Tm) (hk : k ≤ ts.length) : (ts.take k ++ ([x] ++ ts.drop j)).length = k + (1 + (ts.length - j)) := by
  rw [List.length_append, List.length_append, List.length_take, List.length_drop, Nat.min_eq_left hk]; rfl
theorem len_nz0 {t : Tm} (h : t.c = 0) : nz t = [] := if_pos h
theorem len_nz1 {t : Tm} (h : t.c ≠ 0) : nz t = [t] := if_neg h

end Go.Proofs.Ytaaeiogdhmiaaaa

/- The contracts of the model's 'l2Done' and 'SumOf'. -/

namespace Go.Proofs.Ytaaeiogdhmiaaaa
open Go.RowKit Go.Shelf

/-- What fits into an integer of 64 bits and into a text. -/
def SmallT (ts : List Tm) : Prop := ts.length ≤ maxLen ∧ ∀ t ∈ ts, t.s.size ≤ maxLen ∧ -9223372036854775808 ≤ t.c ∧ t.c ≤ 9223372036854775807
theorem add_bound {t : Tm} {B C : Int} (hC : 0 ≤ C) (ht : -C ≤ t.c ∧ t.c ≤ C) : ∀ {ts : List Tm}, (∀ u ∈ ts, -B ≤ u.c ∧ u.c ≤ B) → 0 ≤ B → ∀ u ∈ addT ts t, -(B + C) ≤ u.c ∧ u.c ≤ B + C
  | [], _, hB, u, hu => by rw [addT] at hu; rw [(nz_mem hu).1]; omega
  | x :: r, h, hB, u, hu => by
    rw [addT] at hu
    have hx := h x (by simp)
    split at hu
    · rcases List.mem_cons.1 hu with rfl | hu
      · omega
      · exact add_bound hC ht (fun v hv => h v (by simp [hv])) hB u hu
    · split at hu
      · rcases List.mem_append.1 hu with hu | hu
        · rw [(nz_mem hu).1]; show -(B + C) ≤ t.c + x.c ∧ t.c + x.c ≤ B + C; omega
        · have := h u (by simp [hu]); omega
      · rcases List.mem_append.1 hu with hu | hu
        · rw [(nz_mem hu).1]; omega
        · have := h u hu; omega
theorem add_len (t : Tm) : ∀ ts : List Tm, (addT ts t).length ≤ ts.length + 1
  | [] => by rw [addT]; unfold nz; split <;> simp
  | x :: r => by
    have h0 : ∀ y : Tm, (nz y).length ≤ 1 := fun y => by unfold nz; split <;> simp
    rw [addT]
    split
    · have := add_len t r; simp only [List.length_cons]; omega
    · split
      · have := h0 ⟨t.c + x.c, t.s⟩; simp only [List.length_append, List.length_cons]; omega
      · have := h0 t; simp only [List.length_append, List.length_cons]; omega
theorem add_small {t : Tm} {ts : List Tm} {M : Nat} (ht : t.s.size ≤ M) (h : ∀ u ∈ ts, u.s.size ≤ M) : ∀ u ∈ addT ts t, u.s.size ≤ M := fun u hu => by
  rcases add_words hu with e | ⟨v, hv, e⟩
  · rw [e]; exact ht
  · rw [← e]; exact h v hv

end Go.Proofs.Ytaaeiogdhmiaaaa

/- The contract of the model's 'SumOf'. -/

namespace Go.Proofs.Ytaaeiogdhmiaaaa
open Go.RowKit Go.Shelf

theorem termB_iff {t : Tm} (h : termB t = true) : t.s.size ≤ 60 ∧ -1000000 ≤ t.c ∧ t.c ≤ 1000000 := by
  unfold termB inR at h
  simp only [Bool.and_eq_true, decide_eq_true_eq] at h
  exact ⟨by have := ((wordB_iff _).1 h.1).1; simpa using this, h.2⟩
theorem fold_succ (ts : List Tm) (k : Nat) (h : k < ts.length) : (ts.take (k + 1)).foldl addT [] = addT ((ts.take k).foldl addT []) ts[k] := by
  rw [List.take_succ_eq_append_getElem h, List.foldl_append]; rfl

/-- What SumOf answers. -/
def ofB (ts : List Tm) : Bool := twB ts && sumB (canonT ts)

end Go.Proofs.Ytaaeiogdhmiaaaa

/- The contracts of the program's 'sumWords' and 'SumIn'. -/

namespace Go.Proofs.Ytaaeiogdhmiaaaa
open Go.RowKit Go.Shelf

theorem sumB_eq (ts : List Tm) : sumB ts = (twB ts && !hasZero ts && ascB ts) := by
  have hg : ∀ j (h : j < ts.length), ts.getD j default = ts[j] := fun j h => by rw [List.getD_eq_getElem?_getD, List.getElem?_eq_getElem h]; rfl
  rw [Bool.eq_iff_iff]
  unfold sumB twB hasZero ascB allGood
  simp only [Bool.and_eq_true, List.all_eq_true, List.mem_range, decide_eq_true_eq, Bool.not_eq_true', List.any_eq_false]
  constructor
  · rintro ⟨h1, h2⟩
    refine ⟨⟨⟨h2, fun t ht => ?_⟩, fun t ht => ?_⟩, fun j hj => ?_⟩
    · obtain ⟨j, hj, rfl⟩ := List.getElem_of_mem ht
      have := h1 j hj
      unfold goodAt at this
      simp only [hg j hj, Bool.and_eq_true] at this
      unfold termB
      rw [this.1.2, this.1.1.2]; rfl
    · obtain ⟨j, hj, rfl⟩ := List.getElem_of_mem ht
      have := h1 j hj
      unfold goodAt at this
      simp only [hg j hj, Bool.and_eq_true] at this
      simpa using this.1.1.1
    · have := h1 j hj
      unfold goodAt at this
      simp only [Bool.and_eq_true] at this
      exact this.2
  · rintro ⟨⟨⟨h1, h2⟩, h3⟩, h4⟩
    refine ⟨fun j hj => ?_, h1⟩
    have a2 := h2 _ (List.getElem_mem hj)
    have a3 := h3 _ (List.getElem_mem hj)
    unfold termB at a2
    simp only [Bool.and_eq_true] at a2
    unfold goodAt
    simp only [hg j hj, Bool.and_eq_true]
    exact ⟨⟨⟨by simpa using a3, a2.2⟩, a2.1⟩, by have := h4 j hj; rw [hg j hj] at this; exact this⟩

end Go.Proofs.Ytaaeiogdhmiaaaa

/- Canonical lists of terms are sums where their terms are as told. -/

namespace Go.Proofs.Ytaaeiogdhmiaaaa
open Go.RowKit Go.Shelf

theorem canon_of (ts : List Tm) : Canon (canonT ts) := (canon_foldl ts [] ⟨List.Pairwise.nil, fun t h => by cases h⟩).1
theorem hasZero_canon {ts : List Tm} (h : Canon ts) : hasZero ts = false := by
  unfold hasZero
  refine List.any_eq_false.2 fun t ht => ?_
  simpa using h.2 t ht
theorem ascB_canon {ts : List Tm} (h : Canon ts) : ascB ts = true := by
  refine ascB_true fun k hk hk0 => ?_
  rw [List.getD_eq_getElem?_getD, List.getD_eq_getElem?_getD, List.getElem?_eq_getElem hk, List.getElem?_eq_getElem (by omega : k - 1 < ts.length)]
  exact List.pairwise_iff_getElem.1 h.1 (k - 1) k (by omega) hk (by omega)
theorem sumB_canon {ts : List Tm} (h : Canon ts) : sumB ts = twB ts := by
  rw [sumB_eq, hasZero_canon h, ascB_canon h]
  simp

theorem canon_len_words {ts : List Tm} (h : twB ts = true) : ts.length ≤ 300 ∧ ∀ t ∈ ts, termB t = true := by
  unfold twB at h
  simp only [Bool.and_eq_true, decide_eq_true_eq, List.all_eq_true] at h
  exact h

end Go.Proofs.Ytaaeiogdhmiaaaa

/- The contract of the model's 'SumAdd'; sums as canonical lists. -/

namespace Go.Proofs.Ytaaeiogdhmiaaaa
open Go.RowKit Go.Shelf

theorem pairwise_lessW {ts : List Tm} (h : ∀ k, k < ts.length → 0 < k → lessW (ts.getD (k - 1) default).s (ts.getD k default).s = true) : ts.Pairwise (fun a b => lessW a.s b.s = true) := by
  rw [List.pairwise_iff_getElem]
  have key : ∀ d i (hi : i < ts.length) (hj : i + (d + 1) < ts.length), lessW ts[i].s ts[i + (d + 1)].s = true := by
    intro d
    induction d with
    | zero =>
      intro i hi hj
      have := h (i + 1) hj (by omega)
      rw [show i + 1 - 1 = i by omega, List.getD_eq_getElem?_getD, List.getD_eq_getElem?_getD, List.getElem?_eq_getElem hj, List.getElem?_eq_getElem hi] at this
      exact this
    | succ d ih =>
      intro i hi hj
      have h1 := ih i hi (by omega)
      have h2 := h (i + (d + 1) + 1) hj (by omega)
      rw [show i + (d + 1) + 1 - 1 = i + (d + 1) by omega, List.getD_eq_getElem?_getD, List.getD_eq_getElem?_getD, List.getElem?_eq_getElem (by omega : i + (d + 1) < ts.length), List.getElem?_eq_getElem (by omega : i + (d + 1) + 1 < ts.length)] at h2
      exact lessW_trans h1 h2
  intro i j hi hj hij
  obtain ⟨d, rfl⟩ : ∃ d, j = i + (d + 1) := ⟨j - i - 1, by omega⟩
  exact key d i hi hj
theorem sumB_parts {ts : List Tm} (h : sumB ts = true) : twB ts = true ∧ Canon ts := by
  rw [sumB_eq] at h
  simp only [Bool.and_eq_true, Bool.not_eq_true'] at h
  obtain ⟨⟨h1, h2⟩, h3⟩ := h
  refine ⟨h1, pairwise_lessW fun k hk hk0 => ?_, fun t ht => ?_⟩
  · unfold ascB at h3
    have := List.all_eq_true.1 h3 k (List.mem_range.2 hk)
    simp only [Bool.or_eq_true, decide_eq_true_eq] at this
    rcases this with h | h
    · omega
    · exact h
  · unfold hasZero at h2
    have := List.any_eq_false.1 h2 t ht
    simpa using this
theorem canonT_of_canon {ts : List Tm} (h : Canon ts) : canonT ts = ts := (canonT_unique h fun _ => rfl).symm
theorem canonT_append {x : List Tm} (y : List Tm) (h : Canon x) : canonT (x ++ y) = y.foldl addT x := by
  have h2 := canonT_of_canon h
  unfold canonT at h2 ⊢
  rw [List.foldl_append, h2]
theorem fold_succ2 (x ts : List Tm) (k : Nat) (h : k < ts.length) : (ts.take (k + 1)).foldl addT x = addT ((ts.take k).foldl addT x) ts[k] := by
  rw [List.take_succ_eq_append_getElem h, List.foldl_append]; rfl

/-- What SumAdd answers. -/
def addB (x y : List Tm) : Bool := sumB x && (sumB y && twB (canonT (x ++ y)))

theorem isTerms_cells {w : World} {ad : Addr} {n : Nat} {x : List Tm} (h : IsTerms w (some ad) n x) : ∀ j u, (termsV x)[j]? = some u → w.cell? (ad.add j) = some u := by
  intro j u hu
  rcases Nat.eq_zero_or_pos n with h0 | h0
  · have : x = [] := List.length_eq_zero_iff.1 (h.len.trans h0)
    subst this
    simp [termsV] at hu
  · obtain ⟨z, e, h2⟩ := h.at_ h0
    cases e
    exact h2.cells j u hu

end Go.Proofs.Ytaaeiogdhmiaaaa

/- Derivatives of words as lists of terms in the order of letters; sums of such lists. -/

namespace Go.Proofs.Ytaaeiogdhmiaaaa
open Go.RowKit

/-- The term of one letter behind p. -/
def foxT (g c : Int) (p : List UInt8) (x : UInt8) : List Tm := if (idxB x : Int) = g then [⟨c * sgnB x, bstr (if 97 ≤ x.toNat then p else p ++ [x])⟩] else []
/-- The terms of the first k letters. -/
def foxN (g c : Int) (l : List UInt8) : Nat → List Tm
  | 0 => []
  | k + 1 => foxN g c l k ++ foxT g c (l.take k) (l.getD k 0)
def foxL (g c : Int) (l : List UInt8) : List Tm := foxN g c l l.length
theorem foxN_succ (g c : Int) (l : List UInt8) (k : Nat) (hk : k < l.length) : foxN g c l (k + 1) = foxN g c l k ++ foxT g c (l.take k) l[k] := by
  rw [foxN, List.getD_eq_getElem?_getD, List.getElem?_eq_getElem hk]; rfl
theorem foxT_no {g c : Int} {p : List UInt8} {x : UInt8} (h : (idxB x : Int) ≠ g) : foxT g c p x = [] := if_neg h
theorem foxT_hi {g c : Int} {p : List UInt8} {x : UInt8} (h : (idxB x : Int) = g) (hx : 97 ≤ x.toNat) : foxT g c p x = [⟨c * sgnB x, bstr p⟩] := by
  unfold foxT; rw [if_pos h, if_pos hx]
theorem foxT_lo {g c : Int} {p : List UInt8} {x : UInt8} (h : (idxB x : Int) = g) (hx : ¬ 97 ≤ x.toNat) : foxT g c p x = [⟨c * sgnB x, bstr (p ++ [x])⟩] := by
  unfold foxT; rw [if_pos h, if_neg hx]
theorem sgnB_bnd (x : UInt8) : -1 ≤ sgnB x ∧ sgnB x ≤ 1 := by unfold sgnB; split <;> omega
theorem mul_sgn {c C : Int} (hc : -C ≤ c ∧ c ≤ C) (x : UInt8) : -C ≤ c * sgnB x ∧ c * sgnB x ≤ C := by
  unfold sgnB; split <;> omega
theorem foxN_len (g c : Int) (l : List UInt8) : ∀ k, (foxN g c l k).length ≤ k
  | 0 => Nat.le_refl _
  | k + 1 => by
    have := foxN_len g c l k
    rw [foxN, List.length_append]
    have h2 : (foxT g c (l.take k) (l.getD k 0)).length ≤ 1 := by unfold foxT; split <;> simp
    omega
theorem foxN_mem {g c C : Int} (hc : -C ≤ c ∧ c ≤ C) {l : List UInt8} {t : Tm} : ∀ {k}, k ≤ l.length → t ∈ foxN g c l k → (-C ≤ t.c ∧ t.c ≤ C) ∧ ∃ j, j ≤ k ∧ t.s = bstr (l.take j)
  | 0, _, h => by cases h
  | k + 1, hk, h => by
    rw [foxN_succ g c l k (by omega)] at h
    rcases List.mem_append.1 h with h | h
    · obtain ⟨h1, j, hj, h2⟩ := foxN_mem hc (by omega) h
      exact ⟨h1, j, by omega, h2⟩
    · by_cases hi : (idxB l[k] : Int) = g
      · by_cases hx : 97 ≤ l[k].toNat
        · rw [foxT_hi hi hx] at h
          obtain rfl := List.mem_singleton.1 h
          exact ⟨mul_sgn hc _, k, by omega, rfl⟩
        · rw [foxT_lo hi hx] at h
          obtain rfl := List.mem_singleton.1 h
          refine ⟨mul_sgn hc _, k + 1, by omega, ?_⟩
          show bstr (l.take k ++ [l[k]]) = _
          rw [← take_snoc l k (by omega)]
      · rw [foxT_no hi] at h; cases h
theorem word_take {l : List UInt8} (h : wordB l = true) (j : Nat) : wordB (l.take j) = true := by
  obtain ⟨h1, h2, h3⟩ := (wordB_iff _).1 h
  refine (wordB_iff _).2 ⟨by rw [List.length_take]; omega, letL_of_mem _ _ h2 fun _ hc => List.mem_of_mem_take hc, (red_iff _).2 ?_⟩
  have := (red_iff _).1 h3
  rw [← List.take_append_drop j l] at this
  exact noC_left this

/-! ### Coefficients -/
def scaleT (c : Int) (ts : List Tm) : List Tm := ts.map fun t => ⟨c * t.c, t.s⟩
theorem coefAt_scale (s : ByteArray) (c : Int) : ∀ ts, coefAt s (scaleT c ts) = c * coefAt s ts
  | [] => by simp [scaleT, coefAt]
  | t :: r => by
    have ih := coefAt_scale s c r
    unfold scaleT at *
    rw [List.map_cons, coefAt, coefAt, ih, Int.mul_add]
    show (if t.s = s then c * t.c else 0) + _ = _
    split
    · rfl
    · simp
theorem foxT_scale (g c : Int) (p : List UInt8) (x : UInt8) : foxT g c p x = scaleT c (foxT g 1 p x) := by
  unfold foxT scaleT
  split
  · simp
  · rfl
theorem foxN_scale (g c : Int) (l : List UInt8) : ∀ k, foxN g c l k = scaleT c (foxN g 1 l k)
  | 0 => rfl
  | k + 1 => by
    rw [foxN, foxN, foxN_scale g c l k, foxT_scale]
    unfold scaleT; rw [List.map_append]
theorem foxL_scale (g c : Int) (l : List UInt8) : foxL g c l = scaleT c (foxL g 1 l) := foxN_scale g c l _
theorem coefAt_flat (s : ByteArray) {f h : Tm → List Tm} (hfh : ∀ t, coefAt s (f t) = coefAt s (h t)) : ∀ a : List Tm, coefAt s (a.flatMap f) = coefAt s (a.flatMap h)
  | [] => rfl
  | t :: r => by rw [List.flatMap_cons, List.flatMap_cons, coefAt_append, coefAt_append, hfh, coefAt_flat s hfh r]
theorem canonT_congr {a b : List Tm} (h : ∀ s, coefAt s a = coefAt s b) : canonT a = canonT b :=
  canonT_unique (canonT_spec a).1 fun s => by rw [(canonT_spec a).2, h]

/-- The terms of the derivative of a sum: as the program gathers them, and as the model does. -/
def foxI (g : Int) (a : List Tm) : List Tm := a.flatMap fun t => foxL g t.c t.s.data.toList
def foxM (g : Int) (a : List Tm) : List Tm := a.flatMap fun t => scaleT t.c (canonT (foxL g 1 t.s.data.toList))
theorem foxIM (g : Int) (a : List Tm) : canonT (foxM g a) = canonT (foxI g a) :=
  canonT_congr fun s => coefAt_flat s (fun t => by rw [coefAt_scale, (canonT_spec _).2, foxL_scale g t.c, coefAt_scale]) a

/-! ### Sizes -/
theorem fold_bound {C : Int} (hC : 0 ≤ C) : ∀ (ts acc : List Tm) (B : Int), 0 ≤ B → (∀ t ∈ ts, -C ≤ t.c ∧ t.c ≤ C) → (∀ u ∈ acc, -B ≤ u.c ∧ u.c ≤ B) → ∀ u ∈ ts.foldl addT acc, -(B + C * ts.length) ≤ u.c ∧ u.c ≤ B + C * ts.length
  | [], acc, B, _, _, h, u, hu => by have := h u hu; simpa using this
  | t :: r, acc, B, hB, ht, h, u, hu => by
    have h1 := fold_bound hC r (addT acc t) (B + C) (by omega) (fun v hv => ht v (by simp [hv])) (add_bound hC (ht t (by simp)) h hB) u hu
    rw [List.length_cons, show ((r.length + 1 : Nat) : Int) = (r.length : Int) + 1 by omega, Int.mul_add, Int.mul_one]
    omega
theorem fold_words : ∀ (ts acc : List Tm), ∀ u ∈ ts.foldl addT acc, (∃ v ∈ acc, v.s = u.s) ∨ ∃ v ∈ ts, v.s = u.s
  | [], acc, u, hu => .inl ⟨u, hu, rfl⟩
  | t :: r, acc, u, hu => by
    rcases fold_words r (addT acc t) u hu with ⟨v, hv, e⟩ | ⟨v, hv, e⟩
    · rcases add_words hv with h | ⟨x, hx, h⟩
      · exact .inr ⟨t, by simp, by rw [← h, e]⟩
      · exact .inl ⟨x, hx, by rw [h, e]⟩
    · exact .inr ⟨v, by simp [hv], e⟩
theorem canon_words {ts : List Tm} {u : Tm} (h : u ∈ canonT ts) : ∃ v ∈ ts, v.s = u.s := by
  rcases fold_words ts [] u h with ⟨v, hv, _⟩ | h
  · cases hv
  · exact h
theorem fold_len : ∀ (ts acc : List Tm), (ts.foldl addT acc).length ≤ acc.length + ts.length
  | [], acc => Nat.le_refl _
  | t :: r, acc => by
    have := fold_len r (addT acc t)
    have h2 := add_len t acc
    rw [List.length_cons]
    show (r.foldl addT (addT acc t)).length ≤ _
    omega
/-- A derivative of a word is a sum. -/
theorem fox_tw {g : Int} {l : List UInt8} (h : wordB l = true) : twB (canonT (foxL g 1 l)) = true := by
  have hl := ((wordB_iff _).1 h).1
  have hn := foxN_len g 1 l l.length
  have hlen : (canonT (foxL g 1 l)).length ≤ 60 := by
    have := fold_len (foxL g 1 l) []
    unfold foxL canonT at *
    simp only [List.length_nil] at this
    omega
  refine twB_of (by omega) fun j hj => ?_
  have hm := List.getElem_mem hj
  have hb := fold_bound (C := 1) (by omega) (foxL g 1 l) [] 0 (by omega) (fun t ht => (foxN_mem (C := 1) (by omega) (Nat.le_refl _) ht).1) (fun u hu => by cases hu) _ hm
  have hb2 : (foxL g 1 l).length ≤ 60 := by unfold foxL; omega
  obtain ⟨v, hv, e⟩ := canon_words hm
  obtain ⟨_, k, _, e2⟩ := foxN_mem (C := 1) (by omega) (Nat.le_refl _) hv
  unfold termB
  rw [← e, e2, bstr_toList, word_take h, Bool.true_and]
  unfold inR
  simp only [Bool.and_eq_true, decide_eq_true_eq]
  omega
theorem foxI_succ (g : Int) (a : List Tm) (k : Nat) (h : k < a.length) : foxI g (a.take (k + 1)) = foxI g (a.take k) ++ foxL g a[k].c a[k].s.data.toList := by
  unfold foxI; rw [List.take_succ_eq_append_getElem h, List.flatMap_append]; simp
theorem foxM_succ (g : Int) (a : List Tm) (k : Nat) (h : k < a.length) : foxM g (a.take (k + 1)) = foxM g (a.take k) ++ scaleT a[k].c (canonT (foxL g 1 a[k].s.data.toList)) := by
  unfold foxM; rw [List.take_succ_eq_append_getElem h, List.flatMap_append]; simp
theorem foxI_len (g : Int) : ∀ (a : List Tm), (∀ t ∈ a, t.s.size ≤ 60) → (foxI g a).length ≤ 60 * a.length
  | [], _ => by simp [foxI]
  | t :: r, h => by
    have ih := foxI_len g r fun u hu => h u (by simp [hu])
    have h1 := foxN_len g t.c t.s.data.toList t.s.data.toList.length
    have h2 := h t (by simp)
    unfold foxI foxL at *
    rw [List.flatMap_cons, List.length_append, List.length_cons]
    have h3 : t.s.data.toList.length = t.s.size := by simp
    omega
theorem foxI_mem {g : Int} {a : List Tm} (h : ∀ t ∈ a, t.s.size ≤ 60 ∧ -1000000 ≤ t.c ∧ t.c ≤ 1000000) {u : Tm} (hu : u ∈ foxI g a) : u.s.size ≤ 60 ∧ -1000000 ≤ u.c ∧ u.c ≤ 1000000 := by
  obtain ⟨t, ht, hu⟩ := List.mem_flatMap.1 hu
  obtain ⟨h1, h2⟩ := h t ht
  obtain ⟨h3, j, _, e⟩ := foxN_mem (C := 1000000) h2 (Nat.le_refl _) hu
  refine ⟨?_, h3⟩
  rw [e, bstr_size, List.length_take]
  have : t.s.data.toList.length = t.s.size := by simp
  omega

end Go.Proofs.Ytaaeiogdhmiaaaa

/- Monomials and series: what they are; the contracts of the model's 'l4Mono' and 'SeriesIn'. -/

namespace Go.Proofs.Ytaaeiogdhmiaaaa
open Go.RowKit

def genB (c : UInt8) : Bool := decide (97 ≤ c.toNat) && decide (c.toNat ≤ 100)
/-- Is this a monomial? -/
def monoB (s : ByteArray) : Bool := s.data.toList.all genB && decide (s.size ≤ 4)
theorem genB_false (s : ByteArray) (k : Nat) (hk : k < s.data.toList.length) (h : genB s.data.toList[k] = false) : monoB s = false := by
  unfold monoB; rw [List.all_eq_false.2 ⟨_, List.getElem_mem hk, by rw [h]; exact Bool.false_ne_true⟩]; rfl

/-- Is the term at j as a series wants it, beside the one ahead of it? -/
def serAt (ts : List Tm) (j : Nat) : Bool :=
  (ts.getD j default).c != 0 && inR (-1000000) 1000000 (ts.getD j default).c && monoB (ts.getD j default).s && (decide (j = 0) || lessW (ts.getD (j - 1) default).s (ts.getD j default).s)
def allSer (ts : List Tm) (n : Nat) : Bool := (List.range n).all (serAt ts)
theorem allSer_succ (ts : List Tm) (n : Nat) : allSer ts (n + 1) = (allSer ts n && serAt ts n) := by simp [allSer, List.range_succ]
theorem allSer_false (ts : List Tm) (n k : Nat) (hk : k < n) (h : serAt ts k = false) : allSer ts n = false :=
  List.all_eq_false.2 ⟨k, List.mem_range.2 hk, by simp [h]⟩
/-- Is this a series? -/
def serB (ts : List Tm) : Bool := allSer ts ts.length && decide (ts.length ≤ 400)

theorem serB_false (ts : List Tm) (k : Nat) (hk : k < ts.length) (h : serAt ts k = false) : serB ts = false := by
  unfold serB; rw [allSer_false ts _ k hk h, Bool.false_and]
theorem serAt_c (ts : List Tm) (k : Nat) (t : Tm) (ht : ts.getD k default = t) (h : t.c = 0) : serAt ts k = false := by
  unfold serAt; rw [ht, h]; rfl
theorem serAt_r (ts : List Tm) (k : Nat) (t : Tm) (ht : ts.getD k default = t) (h : inR (-1000000) 1000000 t.c = false) : serAt ts k = false := by
  unfold serAt; rw [ht, h]; simp
theorem serAt_w (ts : List Tm) (k : Nat) (t : Tm) (ht : ts.getD k default = t) (h : monoB t.s = false) : serAt ts k = false := by
  unfold serAt; rw [ht, h]; simp
theorem serAt_zero (ts : List Tm) (k : Nat) (t : Tm) (hk : k = 0) (ht : ts.getD k default = t) (h0 : ¬ t.c = 0) (h1 : inR (-1000000) 1000000 t.c = true) (h2 : monoB t.s = true) : serAt ts k = true := by
  unfold serAt; rw [ht, h1, h2]; simp [h0, hk]
theorem serAt_succ (ts : List Tm) (k : Nat) (t p : Tm) (hk : 0 < k) (ht : ts.getD k default = t) (hp : ts.getD (k - 1) default = p) (h0 : ¬ t.c = 0) (h1 : inR (-1000000) 1000000 t.c = true) (h2 : monoB t.s = true) : serAt ts k = lessW p.s t.s := by
  have h3 : ¬ k = 0 := by omega
  unfold serAt; rw [ht, hp, h1, h2]; simp [h0, h3]

end Go.Proofs.Ytaaeiogdhmiaaaa

/- A drawn region whose head makes memory but has fixed values, and whose tail comes in one order only. -/

namespace Go.Proofs.Ytaaeiogdhmiaaaa
open Go.RowKit

section
variable {P : Program} {ops : Array Oper} {md : Region.Mode} {C : World → Prop}

/-- The head in whatever order, up to the place where L holds. -/
def headQ (P : Program) (md : Region.Mode) (ops : Array Oper) (C : World → Prop) (n : Nat) (L : Array Bool → Act → Prop) : Nat → Array Bool → Act → Prop
  | 0, listed, a => L listed a
  | f + 1, listed, a => Region.ready md ops listed ≠ [] ∧ ∀ i ∈ Region.ready md ops listed, i < n ∧ qOp P ops C i (headQ P md ops C n L f (listed.setIfInBounds i true)) a

theorem wpAny_headQ {n g : Nat} {L : Array Bool → Act → Prop} {Q' : Exit → Act → World → Prop} (hL : ∀ listed a w, C w → L listed a → wpAny P md ops Q' g listed a w) :
    ∀ (f : Nat) (listed : Array Bool) (a : Act) (w : World), C w → headQ P md ops C n L f listed a → wpAny P md ops Q' (f + g) listed a w
  | 0, _, _, _, hw, h => by rw [Nat.zero_add]; exact hL _ _ _ hw h
  | f + 1, listed, a, w, hw, h => by
    rw [Nat.succ_add]
    exact ⟨fun h0 => absurd h0 h.1, fun i hi => wpOp_of_qOp hw (fun a' w' hw' h' => wpAny_headQ hL f _ a' w' hw' h') (h.2 i hi).2⟩

theorem headQ_first {n i : Nat} {oi : Oper} {v : Value} {L : Array Bool → Act → Prop} (hi : ops[i]? = some oi) (hsel : ∀ (j : Nat) (o : Oper) cs b, ops[j]? = some o → o.op ≠ .select cs b)
    (hs : Region.sinkB md ops n = true) (hc : Region.chainB md ops n = true) (hn : n < ops.size) (hin : i < n) (hdone : ∀ listed a, L listed a → ∀ j ∈ Region.ready md ops listed, n ≤ j) :
    ∀ (f : Nat) (listed : Array Bool) (a : Act), HeadInv md ops n listed →
      (∀ j oj, ops[j]? = some oj → j ≠ i → listed.getD j true = false → (∀ e ∈ oj.after, Region.binds md e = true → e.on ≠ i) → oi.apart ops oj = true) →
      i ∈ Region.ready md ops listed → YieldsIn P ops C oi v a →
      headQ P md ops C n L f (listed.setIfInBounds i true) (a.put oi.dst v) → headQ P md ops C n L (f + 1) listed a := by
  intro f
  induction f with
  | zero =>
    intro listed a inv _ hr hy H
    refine ⟨fun h => (by rw [h] at hr; cases hr), fun j hj => ?_⟩
    have hjn : j < n := Nat.lt_of_not_le fun h => tail_waits hs hc hn inv _ i rfl hin (mem_ready.1 hr).1 j h hj
    refine ⟨hjn, ?_⟩
    by_cases hji : j = i
    · subst hji; exact hy.qOp hi H
    · exact absurd (hdone _ _ H j (ready_mono hj hji)) (by omega)
  | succ f ih =>
    intro listed a inv hfree hr hy H
    have hun := (mem_ready.1 hr).1
    refine ⟨fun h => (by rw [h] at hr; cases hr), fun j hj => ?_⟩
    have hjn : j < n := Nat.lt_of_not_le fun h => tail_waits hs hc hn inv _ i rfl hin hun j h hj
    refine ⟨hjn, ?_⟩
    by_cases hji : j = i
    · subst hji; exact hy.qOp hi H
    · obtain ⟨hjun, oj, hoj, hall⟩ := mem_ready.1 hj
      have hnot : ∀ e ∈ oj.after, Region.binds md e = true → e.on ≠ i := fun e he hb heq => by
        have h1 := hall e he hb
        rw [heq, getD_both hun] at h1
        cases h1
      have h2 := qOp_put hoj (hfree j oj hoj hji hjun hnot) (fun cs b => hsel i oi cs b hi) (fun cs b => hsel j oj cs b hoj) hy (H.2 j (ready_mono hj hji)).2
      refine qOp_mono (fun a' h3 => ih _ a' (inv.set hj hjn) (fun k ok hk hki hu hno => hfree k ok hk hki ?_ hno) (ready_mono hr (Ne.symm hji)) h3.1 ?_) h2
      · by_cases hjk : j = k
        · subst hjk; exact hjun
        · rw [getD_set_ne true hjk] at hu; exact hu
      · rw [Array.setIfInBounds_comm _ _ hji]
        exact h3.2

theorem headQ_lex {n g : Nat} {Lq : Act → Prop} (hsel : Region.noSelect ops = true) (hs : Region.sinkB md ops n = true) (hc : Region.chainB md ops n = true) (hn : n < ops.size) :
    ∀ (l : List Oper) (k : Nat) (listed : Array Bool) (a : Act), (∀ j, j < l.length → l[j]? = ops[k + j]?) → k + l.length = n → HeadInv md ops n listed →
    Region.lexHead md ops g l.length k listed = true → wpQuiet P ops C Lq l a → headQ P md ops C n (fun listed' a' => Region.seqB md ops g n listed' = true ∧ Lq a') l.length listed a
  | [], k, listed, a, _, hk, _, hB, h => by
    obtain rfl : k = n := by simpa using hk
    exact ⟨by simpa [Region.lexHead] using hB, h⟩
  | o :: l, k, listed, a, hl, hk, inv, hB, h => by
    have h0 : ops[k]? = some o := by simpa using (hl 0 (by simp)).symm
    simp only [List.length_cons, Region.lexHead, Bool.and_eq_true] at hB
    have hkn : k < n := by simp only [List.length_cons] at hk; omega
    have hr' : k ∈ Region.ready md ops listed := by simpa using hB.1.1
    have hst : qOp P ops C k (wpQuiet P ops C Lq l) a := by unfold qOp; simp only [h0]; exact h
    obtain ⟨v, hy, hK⟩ := yieldsIn_of_qOp h0 hst
    exact headQ_first h0 (Region.noSelect_spec hsel) hs hc hn hkn (fun listed' a' hL => seqB_ready hL.1) l.length listed a inv (Region.free_spec h0 hB.1.2) hr' hy
      (headQ_lex hsel hs hc hn l (k + 1) _ _ (fun j hj => by have := hl (j + 1) (by simp; omega); simpa [Nat.add_assoc, Nat.add_comm 1 j] using this) (by simp only [List.length_cons] at hk; omega) (inv.set hr' hkn) hB.2 hK)

/-- The head walked once, in every world of the class; then the tail. -/
theorem wp_region_quiet_tail {id : Nat} {Q : Exit → Act → World → Prop} {a : Act} {w : World} {l : List Oper} (n : Nat) (hm : P.follows .mixedOrders = true) (hB : Region.lexTailB .any l.toArray n = true) (hC : C { w with drawn := w.drawn + 1 })
    (h : wpQuiet P l.toArray C (fun a' => ∀ w', C w' → wpList P l.toArray Q (l.drop n) a' w') (l.take n) a) : (Code.region id l.toArray true).wp P Q a w := by
  simp only [Region.lexTailB, Bool.and_eq_true, decide_eq_true_eq] at hB
  obtain ⟨⟨⟨⟨hsel, hn⟩, hs⟩, hc⟩, hlex⟩ := hB
  have hn' : n < l.length := by simpa using hn
  have htl : (l.take n).length = n := by simp; omega
  have hdl : (l.drop n).length = l.toArray.size - n := by simp
  have inv0 : HeadInv .any l.toArray n (Array.replicate l.toArray.size false) :=
    ⟨by simp, fun j oj _ hl => (by rw [getD_replicate_false] at hl; cases hl), fun t _ ht => getD_in (by simpa using ht) (getD_replicate_false _ _)⟩
  have H := headQ_lex (md := .any) (g := l.toArray.size - n) hsel hs hc hn (l.take n) 0 _ a (fun j hj => by
    have hj' : j < n := by rw [htl] at hj; exact hj
    simp [hj']) (by simpa using htl) inv0 (by rw [htl]; exact hlex) h
  refine wp_region_any hm ?_
  have := wpAny_headQ (Q' := Q) (g := l.toArray.size - n) (fun listed a' w' hw' hL => by
    have := wpAny_of_seq (md := .any) (Q' := Q) (l.drop n) n listed a' w' (fun j => by simp [List.getElem?_drop]) (by rw [hdl]; exact hL.1) (hL.2 w' hw')
    rwa [hdl] at this) _ _ _ _ hC H
  rw [htl, show n + (l.toArray.size - n) = l.toArray.size by omega] at this
  exact this
/-- At the worlds behind w. -/
theorem wp_region_below_tail {id : Nat} {Q : Exit → Act → World → Prop} {a : Act} {w : World} {l : List Oper} (n : Nat) (hm : P.follows .mixedOrders = true) (hB : Region.lexTailB .any l.toArray n = true)
    (h : wpQuiet P l.toArray (fun w' => ∃ p : BelowBy w, w' = p.world) (fun a' => ∀ w', (∃ p : BelowBy w, w' = p.world) → wpList P l.toArray Q (l.drop n) a' w') (l.take n) a) : (Code.region id l.toArray true).wp P Q a w :=
  wp_region_quiet_tail n hm hB ⟨⟨w.drew, (Below.refl _ _).drew⟩, rfl⟩ h
end

end Go.Proofs.Ytaaeiogdhmiaaaa

/- The contracts of the model's 'l3Fox' and 'FoxOf'. -/

namespace Go.Proofs.Ytaaeiogdhmiaaaa
open Go.RowKit Go.Shelf

theorem extract_take (s : ByteArray) (k : Nat) : s.extract 0 k = bstr (s.data.toList.take k) := by
  apply bytes_ext
  rw [Lib.extract_data, bstr_toList]; simp

end Go.Proofs.Ytaaeiogdhmiaaaa

/- The contracts of the model's 'SumTurned' and 'SumPut'. -/

namespace Go.Proofs.Ytaaeiogdhmiaaaa
open Go.RowKit Go.Shelf

/-- A term whose word is changed. -/
def mapT (f : List UInt8 → List UInt8) (t : Tm) : Tm := ⟨t.c, bstr (f t.s.data.toList)⟩
def fitB (ts : List Tm) : Bool := ts.all fun t => decide (t.s.size ≤ 60)
theorem fitB_at {ts : List Tm} {k : Nat} (hk : k < ts.length) (h : ¬ ts[k].s.size ≤ 60) : fitB ts = false :=
  List.all_eq_false.2 ⟨_, List.getElem_mem hk, by simpa using h⟩
theorem fitB_of {ts : List Tm} (h : ∀ j (hj : j < ts.length), ts[j].s.size ≤ 60) : fitB ts = true :=
  List.all_eq_true.2 fun t ht => by
    obtain ⟨j, hj, rfl⟩ := List.getElem_of_mem ht
    simpa using h j hj
theorem termB_word {t : Tm} (h : termB t = true) : wordB t.s.data.toList = true := by unfold termB at h; simp only [Bool.and_eq_true] at h; exact h.1

def putF (zs : List ByteArray) (l : List UInt8) : List UInt8 := redL [] (putL zs l)

end Go.Proofs.Ytaaeiogdhmiaaaa

/- The contracts of the model's 'l2Times' and 'SumTimes'. -/

namespace Go.Proofs.Ytaaeiogdhmiaaaa
open Go.RowKit Go.Shelf

/-- The product of two terms, and those of all pairs. -/
def pairT (t u : Tm) : Tm := ⟨t.c * u.c, bstr (redL [] (t.s.data.toList ++ u.s.data.toList))⟩
def pairsT (x y : List Tm) : List Tm := x.flatMap fun t => y.map (pairT t)
theorem pairs_succ (x y : List Tm) (k : Nat) (h : k < x.length) : pairsT (x.take (k + 1)) y = pairsT (x.take k) y ++ y.map (pairT x[k]) := by
  unfold pairsT
  rw [List.take_succ_eq_append_getElem h, List.flatMap_append]
  simp
theorem pairs_zero (y : List Tm) : pairsT [] y = [] := rfl
theorem pairs_len (x y : List Tm) : (pairsT x y).length = x.length * y.length := by
  unfold pairsT
  induction x with
  | nil => simp
  | cons t r ih => rw [List.flatMap_cons, List.length_append, ih, List.length_map, List.length_cons, Nat.succ_mul]; omega
theorem map_succ (f : Tm → Tm) (y : List Tm) (j : Nat) (h : j < y.length) : (y.take (j + 1)).map f = (y.take j).map f ++ [f y[j]] := by
  rw [List.take_succ_eq_append_getElem h, List.map_append]; rfl
theorem mul_bnd {a b : Int} (ha : -1000000 ≤ a ∧ a ≤ 1000000) (hb : -1000000 ≤ b ∧ b ≤ 1000000) : -1000000000000 ≤ a * b ∧ a * b ≤ 1000000000000 := by
  have h : (a * b).natAbs ≤ 1000000 * 1000000 := by
    rw [Int.natAbs_mul]
    exact Nat.mul_le_mul (by omega) (by omega)
  omega

def TimesNo (w : World) (e : Ending) (w' : World) : Prop := ∃ g n cap, e = .returned (.tuple #[.slice (some ⟨g, 0, none⟩) n cap, .bool false]) ∧ Below w.heap.size w w'
end Go.Proofs.Ytaaeiogdhmiaaaa

/- The contract of the model's 'FoxSum'. -/

namespace Go.Proofs.Ytaaeiogdhmiaaaa
open Go.RowKit Go.Shelf

theorem mul_bnd60 {a b : Int} (ha : -1000000 ≤ a ∧ a ≤ 1000000) (hb : -60 ≤ b ∧ b ≤ 60) : -60000000 ≤ a * b ∧ a * b ≤ 60000000 := by
  have h : (a * b).natAbs ≤ 1000000 * 60 := by
    rw [Int.natAbs_mul]
    exact Nat.mul_le_mul (by omega) (by omega)
  omega
theorem scale_succ (c : Int) (ds acc : List Tm) (j : Nat) (h : j < ds.length) : (scaleT c (ds.take (j + 1))).foldl addT acc = addT ((scaleT c (ds.take j)).foldl addT acc) ⟨c * ds[j].c, ds[j].s⟩ := by
  unfold scaleT
  rw [List.take_succ_eq_append_getElem h, List.map_append, List.foldl_append]; rfl

/-- What FoxSum answers. -/
def foxSumB (x : List Tm) (g : Int) : Bool := sumB x && (inR 0 3 g && twB (canonT (foxI g x)))

theorem foxSumB_tw {x : List Tm} {g : Int} {b : Bool} (h : foxSumB x g = b) : b = true → twB (canonT (foxI g x)) = true := by
  intro hb
  subst hb
  unfold foxSumB at h
  simp only [Bool.and_eq_true] at h
  exact h.2.2
end Go.Proofs.Ytaaeiogdhmiaaaa

/- The contracts of the model's 'l4Times', 'l4Done' and 'SeriesTimes'. -/

namespace Go.Proofs.Ytaaeiogdhmiaaaa
open Go.RowKit Go.Shelf

/-- The product of two terms whose words are put one behind the other; those of all pairs that are not too long. -/
def pairS (t u : Tm) : Tm := ⟨t.c * u.c, t.s ++ u.s⟩
def short (t : Tm) : Bool := decide (t.s.size ≤ 4)
def pairsS (x y : List Tm) : List Tm := x.flatMap fun t => (y.map (pairS t)).filter short
theorem pairsS_succ (x y : List Tm) (k : Nat) (h : k < x.length) : pairsS (x.take (k + 1)) y = pairsS (x.take k) y ++ (y.map (pairS x[k])).filter short := by
  unfold pairsS
  rw [List.take_succ_eq_append_getElem h, List.flatMap_append]
  simp
def rowS (t : Tm) (y : List Tm) : List Tm := (y.map (pairS t)).filter short
theorem rowS_succ (t : Tm) (y : List Tm) (j : Nat) (h : j < y.length) : rowS t (y.take (j + 1)) = rowS t (y.take j) ++ (if (t.s ++ y[j].s).size ≤ 4 then [pairS t y[j]] else []) := by
  unfold rowS
  rw [map_succ (pairS t) y j h, List.filter_append, List.filter_cons, List.filter_nil]
  congr 1
  by_cases hs : (t.s ++ y[j].s).size ≤ 4
  · rw [if_pos (show short (pairS t y[j]) = true from decide_eq_true hs), if_pos hs]
  · rw [if_neg (show ¬ short (pairS t y[j]) = true by unfold short pairS; simpa using hs), if_neg hs]

/-- What fits into the products of series. -/
def SerL (x : List Tm) : Prop := x.length ≤ 400 ∧ ∀ t ∈ x, t.s.size ≤ 4 ∧ -1000000 ≤ t.c ∧ t.c ≤ 1000000

theorem serB_is (ts : List Tm) : serB ts = ((List.range ts.length).all (serAt ts) && decide (ts.length ≤ 400)) := rfl
theorem serB_parts {ts : List Tm} (h : serB ts = true) : ts.length ≤ 400 ∧ (∀ t ∈ ts, t.c ≠ 0 ∧ (-1000000 ≤ t.c ∧ t.c ≤ 1000000) ∧ monoB t.s = true) ∧ Canon ts := by
  rw [serB_is] at h
  simp only [Bool.and_eq_true, decide_eq_true_eq] at h
  obtain ⟨h1, h2⟩ := h
  have hat : ∀ j (hj : j < ts.length), ts[j].c ≠ 0 ∧ (-1000000 ≤ ts[j].c ∧ ts[j].c ≤ 1000000) ∧ monoB ts[j].s = true ∧ (j = 0 ∨ lessW (ts.getD (j - 1) default).s (ts.getD j default).s = true) := fun j hj => by
    have h3 := List.all_eq_true.1 h1 j (List.mem_range.2 hj)
    have hg : ts.getD j default = ts[j] := by rw [List.getD_eq_getElem?_getD, List.getElem?_eq_getElem hj]; rfl
    unfold serAt inR at h3
    simp only [Bool.and_eq_true, bne_iff_ne, ne_eq, Bool.or_eq_true, decide_eq_true_eq] at h3
    rw [hg] at h3 ⊢
    exact ⟨h3.1.1.1, h3.1.1.2, h3.1.2, h3.2⟩
  refine ⟨h2, fun t ht => ?_, pairwise_lessW fun k hk hk0 => ?_, fun t ht => ?_⟩
  · obtain ⟨j, hj, rfl⟩ := List.getElem_of_mem ht
    exact ⟨(hat j hj).1, (hat j hj).2.1, (hat j hj).2.2.1⟩
  · rcases (hat k hk).2.2.2 with h | h
    · omega
    · exact h
  · obtain ⟨j, hj, rfl⟩ := List.getElem_of_mem ht
    exact (hat j hj).1
theorem mono_size {s : ByteArray} (h : monoB s = true) : s.size ≤ 4 := by
  unfold monoB at h
  simp only [Bool.and_eq_true, decide_eq_true_eq] at h
  exact h.2
theorem serL_of {ts : List Tm} (h : serB ts = true) : SerL ts := by
  obtain ⟨h1, h2, _⟩ := serB_parts h
  exact ⟨h1, fun t ht => ⟨mono_size (h2 t ht).2.2, (h2 t ht).2.1⟩⟩
/-- For canonical lists only the terms have to be looked at. -/
def twS (ts : List Tm) : Bool := decide (ts.length ≤ 400) && ts.all fun t => inR (-1000000) 1000000 t.c && monoB t.s
theorem serB_canon {ts : List Tm} (h : Canon ts) : serB ts = twS ts := by
  rw [serB_is, Bool.and_comm]
  unfold twS
  congr 1
  have hg : ∀ j (h : j < ts.length), ts.getD j default = ts[j] := fun j h => by rw [List.getD_eq_getElem?_getD, List.getElem?_eq_getElem h]; rfl
  rw [Bool.eq_iff_iff]
  simp only [List.all_eq_true, List.mem_range]
  constructor
  · intro h1 t ht
    obtain ⟨j, hj, rfl⟩ := List.getElem_of_mem ht
    have h3 := h1 j hj
    unfold serAt at h3
    rw [hg j hj] at h3
    simp only [Bool.and_eq_true] at h3 ⊢
    exact ⟨h3.1.1.2, h3.1.2⟩
  · intro h1 j hj
    have h3 := h1 _ (List.getElem_mem hj)
    simp only [Bool.and_eq_true] at h3
    unfold serAt
    rw [hg j hj, h3.1, h3.2]
    have h4 : (ts[j].c != 0) = true := by simpa using h.2 _ (List.getElem_mem hj)
    rw [h4]
    by_cases hj0 : j = 0
    · simp [hj0]
    · have h5 := List.pairwise_iff_getElem.1 h.1 (j - 1) j (by omega) hj (by omega)
      rw [hg (j - 1) (by omega), h5]
      simp
theorem twS_parts {ts : List Tm} (h : twS ts = true) : ts.length ≤ 400 ∧ ∀ t ∈ ts, (-1000000 ≤ t.c ∧ t.c ≤ 1000000) ∧ monoB t.s = true := by
  unfold twS inR at h
  simp only [Bool.and_eq_true, decide_eq_true_eq, List.all_eq_true] at h
  exact h
theorem told_smallS {b : Bool} {L us : List Tm} (h : b = true → twS L = true) (hus : cond b L [] = us) : SmallT us ∧ us.length ≤ 400 := by
  cases b with
  | false => subst hus; exact ⟨⟨Nat.zero_le _, fun t h => by cases h⟩, Nat.zero_le _⟩
  | true =>
    have hus : L = us := hus
    subst hus
    obtain ⟨h1, h2⟩ := twS_parts (h rfl)
    exact ⟨⟨by unfold maxLen; omega, fun t ht => by have := h2 t ht; have := mono_size this.2; unfold maxLen; omega⟩, h1⟩
/-- What SeriesTimes answers. -/
def serProdB (x y : List Tm) : Bool := serB x && (serB y && twS (canonT (pairsS x y)))
theorem serProdB_tw {x y : List Tm} {b : Bool} (h : serProdB x y = b) : b = true → twS (canonT (pairsS x y)) = true := by
  intro hb
  subst hb
  unfold serProdB at h
  simp only [Bool.and_eq_true] at h
  exact h.2.2

end Go.Proofs.Ytaaeiogdhmiaaaa

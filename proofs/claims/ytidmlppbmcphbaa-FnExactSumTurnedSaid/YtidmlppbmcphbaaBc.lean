/- What the laws' proofs stand on, part 3 of 4. -/
import Derived.Laws.EntriesVeiled
import Derived.Deep.AppendLies
import Derived.Deep.RegionLaw
import Derived.Deep.RegionWith
import Derived.Lib.SliceRun
import Derived.Deep.SlicePairs
import Derived.ChangeArms
import Derived.ProofKit
import Derived.Laws.CopyOwn
import Derived.Laws.AppendOwnNone
import Derived.Test.YtidmlppbmcphbaaBa
import Derived.Test.YtidmlppbmcphbaaBb

/- The contracts of the program's 'joinTerms' and 'push'. -/

namespace Go.Proofs.Ytidmlppbmcphbaa
open Go.RowKit Go.Shelf

set_option maxHeartbeats 1000000 in
theorem joinTerms_any (a b : Tm) (w : World) (hc : -9223372036854775808 ≤ a.c + b.c ∧ a.c + b.c ≤ 9223372036854775807) :
    Calls Try.prog 91 #[.agg #[.int .i64 a.c, .string a.s], .agg #[.int .i64 b.c, .string b.s]] w fun e w' => e = .returned (.agg #[.int .i64 (a.c + b.c), .string a.s]) ∧ Below w.heap.size w w' := by
  obtain ⟨c, s⟩ := a
  obtain ⟨d, t⟩ := b
  have hw : IntKind.i64.wrap (c + d) = c + d := IntWalk.i64_in _ hc
  go_enter Try.func91, Try.ntmps91
  go_wp2
  exact bodyPost_ret (v := .agg #[.int .i64 (c + d), .string s]) (by simp [results, Try.results91, go_sem]) rfl ⟨rfl, (((Below.refl _ _).alloc (Nat.le_refl _) _).alloc (by simp) _).alloc (by simp; omega) _⟩

/-- All below B as it was, but for the block bs. -/
structure BelowBut (bs B : Nat) (w w' : World) : Prop where
  os : w'.os = w.os
  tape : w'.tape = w.tape
  output : w'.output = w.output
  size : w.heap.size ≤ w'.heap.size
  block : ∀ k, k < B → k ≠ bs → w'.heap[k]? = w.heap[k]?
theorem BelowBut.refl (bs B : Nat) (w : World) : BelowBut bs B w w := ⟨rfl, rfl, rfl, Nat.le_refl _, fun _ _ _ => rfl⟩
theorem BelowBut.trans {bs B : Nat} {a b c : World} (h : BelowBut bs B a b) (k : BelowBut bs B b c) : BelowBut bs B a c :=
  ⟨k.os.trans h.os, k.tape.trans h.tape, k.output.trans h.output, Nat.le_trans h.size k.size, fun i hi hb => (k.block i hi hb).trans (h.block i hi hb)⟩
theorem BelowBut.of {B : Nat} {w w' : World} (bs : Nat) (h : Below B w w') : BelowBut bs B w w' := ⟨h.os, h.tape, h.output, h.size, fun k hk _ => h.block k hk⟩

abbrev SrT : TypeId := 95
abbrev CF : Value := .func (.func 83) #[] #[]
/-- The struct at bs holds the terms. -/
def HoldS (base bs : Nat) (acc : List Tm) (W : World) : Prop :=
  ∃ v, W.heap[bs]? = some (.cells #[v, CF] SrT (0, 0)) ∧ W.ownsRow base TI 2 v acc.length (termsV acc)

/-- What the calls of push share. -/
theorem push_cells {base bs : Nat} {acc : List Tm} {w : World} (h : HoldS base bs acc w) (hbs : bs < base) (hbase : base ≤ w.heap.size) (x : Tm) :
    ∃ v, (w.alloc (.cells #[.int .i64 x.c, .string x.s] TI)).cell? ⟨bs, 0, none⟩ = some v ∧ (w.alloc (.cells #[.int .i64 x.c, .string x.s] TI)).cell? ⟨bs, 1, none⟩ = some CF ∧
      (w.alloc (.cells #[.int .i64 x.c, .string x.s] TI)).cell? ⟨w.heap.size, 0, none⟩ = some (.int .i64 x.c) ∧ (w.alloc (.cells #[.int .i64 x.c, .string x.s] TI)).cell? ⟨w.heap.size, 1, none⟩ = some (.string x.s) ∧
      (w.alloc (.cells #[.int .i64 x.c, .string x.s] TI)).ownsRow base TI 2 v acc.length (termsV acc) ∧ (w.alloc (.cells #[.int .i64 x.c, .string x.s] TI)).heap[bs]? = some (.cells #[v, CF] SrT (0, 0)) ∧ ∀ j, v.ownBlock = some j → base ≤ j ∧ j < w.heap.size := by
  obtain ⟨v, hbx, hrow⟩ := h
  have hbV : Below w.heap.size w (w.alloc (.cells #[.int .i64 x.c, .string x.s] TI)) := (Below.refl _ _).alloc (Nat.le_refl _) _
  have hbxV := (hbV.block bs (by omega)).trans hbx
  have hxV : (w.alloc (.cells #[.int .i64 x.c, .string x.s] TI)).heap[w.heap.size]? = some (.cells #[.int .i64 x.c, .string x.s] TI (0, 0)) := World.alloc_heap_new _ _
  exact ⟨v, by simp [World.cell?, hbxV], by simp [World.cell?, hbxV], (by unfold World.cell?; rw [hxV]; rfl), (by unfold World.cell?; rw [hxV]; rfl), hrow.alloc _, hbxV, fun j ej => by
    rcases hrow.2 with ⟨rfl, _⟩ | ⟨g1, cap1, cur1, rfl, hg1, hg2, _⟩
    · cases ej
    · simp [Value.ownBlock] at ej
      subst ej
      exact ⟨hg1, (Array.getElem?_eq_some_iff.1 hg2).1⟩⟩

theorem HoldS.set {bs : Nat} {w : World} {v : Value} (h : w.heap[bs]? = some (.cells #[v, CF] SrT (0, 0))) (u : Value) : (w.setCell ⟨bs, 0, none⟩ u).heap[bs]? = some (.cells #[u, CF] SrT (0, 0)) := by
  simp [World.setCell, Array.getElem?_modify, h]
theorem bs_frozen {bs : Nat} {w : World} {v : Value} (h : w.heap[bs]? = some (.cells #[v, CF] SrT (0, 0))) : w.frozen? ⟨bs, 0, none⟩ = false := by
  simp [World.frozen?, h]
theorem frozen_past {w : World} {a : Addr} (h : w.frozen? a = false) (hb : a.block < w.heap.size) (o : Obj) : (w.alloc o).frozen? a = false :=
  (World.frozen?_of_block (w := w) (Below.heap_alloc w o a.block hb)).trans h
theorem ownLow {W : World} {base : Nat} {e : TypeId} {size : Nat} {v : Value} {n : Nat} {xs : List Value} (h : W.ownsRow base e size v n xs) : ∀ j, v.ownBlock = some j → base ≤ j := by
  intro j ej
  rcases h.2 with ⟨rfl, _⟩ | ⟨g1, cap1, cur1, rfl, hg1, _⟩
  · cases ej
  · simp [Value.ownBlock] at ej
    subst ej
    exact hg1
/-- What an append stored into the struct leaves. -/
theorem push_done {base bs m : Nat} {W w1 : World} {v v' : Value} {o : Obj} {us : List Tm} {xs zs : List Value} {n : Nat} (hbx : W.heap[bs]? = some (.cells #[v, CF] SrT (0, 0))) (hbs : bs < base) (hbase : base ≤ W.heap.size)
    (hrow : W.ownsRow base TI 2 v n zs) (hown1 : w1.ownsRow base TI 2 v' m xs) (hm : m = us.length) (hx : xs = termsV us) (hgrow : (W.drew.alloc o).grownBy w1 v.ownBlock) :
    HoldS base bs us (w1.setCell ⟨bs, 0, none⟩ v') ∧ BelowBut bs base W (w1.setCell ⟨bs, 0, none⟩ v') := by
  have hl := ownLow hrow
  have hB : Below base W w1 := ((Below.refl base W).drew.alloc (by show base ≤ W.heap.size; exact hbase) _).grown hgrow (by simp; show base ≤ W.heap.size + 1; omega) hl
  have h1 : w1.heap[bs]? = some (.cells #[v, CF] SrT (0, 0)) := (hB.block bs hbs).trans hbx
  refine ⟨⟨v', HoldS.set h1 v', ?_⟩, (BelowBut.of bs hB).trans ⟨rfl, rfl, rfl, (KeepsWalks.setCell w1 _ _).size, fun k _ hk => Below.heap_setCell _ _ _ k hk⟩⟩
  rw [← hm, ← hx]
  exact ownsRow_setCell_below hown1 hbs _

set_option maxRecDepth 100000 in
set_option maxHeartbeats 4000000 in
theorem push_empty (base bs : Nat) (x : Tm) (w : World) (h : HoldS base bs [] w) (hbs : bs < base) (hbase : base ≤ w.heap.size) :
    Calls Try.prog 111 #[.pointer (some ⟨bs, 0, none⟩), .agg #[.int .i64 x.c, .string x.s], .func (.func 91) #[] #[]] w fun e w' =>
      e = .returned (.tuple #[]) ∧ HoldS base bs [x] w' ∧ BelowBut bs base w w' := by
  have hmx : Try.prog.follows .mixedOrders = true := by kernel_rfl
  obtain ⟨i0, hi, hz0, hz1, hz2⟩ := info_parts infoTerm
  obtain ⟨v, s0, s1, x0, x1, hrow, hbx, hblk⟩ := push_cells h hbs hbase x
  obtain ⟨a, cap, rfl⟩ : ∃ a cap, v = .slice a 0 cap := by
    rcases hrow.2 with ⟨rfl, _⟩ | ⟨g, cap, cur, rfl, _⟩
    · exact ⟨_, _, rfl⟩
    · exact ⟨_, _, rfl⟩
  obtain ⟨N, hN⟩ : ∃ N, w.heap.size = N := ⟨_, rfl⟩
  have hs : (w.alloc (.cells #[.int .i64 x.c, .string x.s] TI)).heap.size = N + 1 := by simp [hN]
  have hbw : Below w.heap.size w (w.alloc (.cells #[.int .i64 x.c, .string x.s] TI)) := (Below.refl _ _).alloc (Nat.le_refl _) _
  rw [hN] at x0 x1 hbase hbw
  have HR := Lib.hid hrow
  have HBX := Lib.hid hbx
  have HS := Lib.hid hs
  have HBW := Lib.hid hbw
  have HN := Lib.hid hN
  clear hrow hbx hs h hbw
  go_enter Try.func111, Try.ntmps111
  go_wp2_with fail
  try rw [hN]
  generalize (w.alloc (.cells #[.int .i64 x.c, .string x.s] TI)) = V at *
  refine wp_region_below hmx (by kernel_rfl) ?_
  repeat (((with_reducible refine wpQuiet_step (fun K hK => ?_)); go_simp; first | ((with_reducible refine hK _ ?_); clear hK K) | (refine (if_neg (by decide)).mpr ?_; (with_reducible refine hK _ ?_); clear hK K)))
  with_reducible refine wpQuiet_nil ?_
  rintro W ⟨⟨W, hW⟩, rfl⟩
  have y0 := (hW.cell (p := ⟨bs, 0, none⟩) (by show bs < _; rw [HS.out]; omega)).trans s0
  have y1 := (hW.cell (p := ⟨N, 0, none⟩) (by show N < _; rw [HS.out]; omega)).trans x0
  have y2 := (hW.cell (p := ⟨N, 1, none⟩) (by show N < _; rw [HS.out]; omega)).trans x1
  have hrW : W.ownsRow base TI 2 (.slice a 0 cap) 0 [] := OwnT.below (ts := []) HR.out hW
  have hbW : W.heap[bs]? = some (.cells #[.slice a 0 cap, CF] SrT (0, 0)) := (hW.block bs (by rw [HS.out]; omega)).trans HBX.out
  have hsz : N + 1 ≤ W.heap.size := by rw [← HS.out]; exact hW.size
  have HBB : Hid (BelowBut bs base w W) := Lib.hid ((BelowBut.of bs (HBW.out.mono hbase)).trans (BelowBut.of bs (hW.mono (by rw [HS.out]; omega))))
  change Exit.then _ _ _ _ W
  clear s0 s1 x0 x1 hW HR HBX HS HBW
  have HRW := Lib.hid hrW
  have HBXW := Lib.hid hbW
  have hf := bs_frozen hbW
  clear hrW hbW
  have hbs2 : bs < W.heap.size := by omega
  have hne : some bs ≠ (Value.slice a 0 cap).ownBlock := fun e => by have := (hblk bs e.symm).1; omega
  have hneN : some N ≠ (Value.slice a 0 cap).ownBlock := fun e => by have := (hblk N e.symm).2; omega
  have hNlt : N < W.heap.size := by omega
  clear hblk
  go_wp2_with fail
  have hwr : W.drew.heap.size = W.heap.size := rfl
  go_region_law
    ((refine step_append_lies _ (by rfl) _ _ _ (by rfl) base TI i0 _ 2 24 Try.underlying25 hi hz0 hz1 hz2 rfl (by omega) (.slice a 0 cap) 0 [] (by rfl) ((HRW.out.alloc _).drew)
        ⟨W.heap.size, 0, none⟩ 1 1 [.int .i64 x.c, .string x.s] (by rfl) (by rfl) (World.news_of_block (cs := #[.int .i64 x.c, .string x.s]) (t := TI) (fr := (0, 0)) (heap_alloc_new W _)) (by simp [Value.oneCell'])
        (by omega) (by decide) (by decide) (by simp; omega) (W.heap.size + 1) (by simp) ?_; intro gg cap1 w1 hown1 hgrow hat hlt; have hf1 : w1.frozen? ⟨bs, 0, none⟩ = false := (hgrow.frozen_far _ (by simp; omega) hne).trans (frozen_past hf hbs2 _); have hc1 : w1.cell? ⟨bs, 0, none⟩ = some (.slice a 0 cap) := (hgrow.cell_far _ (by simp; omega) hne).trans (cell_past (cell_drawn y0) _)))
  all_goals
    obtain ⟨d1, d2⟩ := push_done (us := [x]) HBXW.out hbs (by omega) HRW.out hown1 rfl rfl hgrow
    exact bodyPost_end (results_none rfl _ _ _) rfl ⟨rfl, d1, HBB.out.trans d2⟩

theorem add_off (g n : Nat) : (⟨g, 0, none⟩ : Addr).add n = ⟨g, n, none⟩ := by
  unfold Addr.add
  by_cases h : n = 0
  · subst h; simp
  · simp [h]
theorem compareBytes_zero : ∀ a b : List UInt8, Lib.compareBytes a b = 0 → a = b
  | [], [], _ => rfl
  | [], _ :: _, h => by simp [Lib.compareBytes] at h
  | _ :: _, [], h => by simp [Lib.compareBytes] at h
  | a :: ar, b :: bs, h => by
    unfold Lib.compareBytes at h
    by_cases h1 : a < b
    · rw [if_pos h1] at h; cases h
    · by_cases h2 : b < a
      · rw [if_neg h1, if_pos h2] at h; cases h
      · rw [if_neg h1, if_neg h2] at h
        rw [compareBytes_zero ar bs h]
        have : a = b := by
          apply UInt8.toNat_inj.1
          rw [UInt8.lt_iff_toNat_lt] at h1 h2
          omega
        rw [this]
theorem cmpW_zero {a b : ByteArray} (h : cmpW a b = 0) : a = b := by
  unfold cmpW orInt at h
  split at h
  · exact ByteArray.ext (Array.ext' (compareBytes_zero _ _ h))
  · rename_i h0
    exact absurd h (by first | exact h0 | simpa using h0)
theorem compareBytes_self : ∀ a : List UInt8, Lib.compareBytes a a = 0
  | [] => rfl
  | a :: ar => by
    unfold Lib.compareBytes
    rw [if_neg (by rw [UInt8.lt_iff_toNat_lt]; omega), if_neg (by rw [UInt8.lt_iff_toNat_lt]; omega)]
    exact compareBytes_self ar
theorem cmpW_self (a : ByteArray) : cmpW a a = 0 := by
  unfold cmpW orInt Lib.compareInt
  simp [compareBytes_self]

set_option maxRecDepth 100000 in
set_option maxHeartbeats 4000000 in
theorem push_more (base bs : Nat) (pre : List Tm) (l x : Tm) (w : World) (h : HoldS base bs (pre ++ [l]) w) (hls : l.s ≠ x.s) (hlen : pre.length ≤ 1000000) (hbs : bs < base) (hbase : base ≤ w.heap.size) :
    Calls Try.prog 111 #[.pointer (some ⟨bs, 0, none⟩), .agg #[.int .i64 x.c, .string x.s], .func (.func 91) #[] #[]] w fun e w' =>
      e = .returned (.tuple #[]) ∧ HoldS base bs (pre ++ [l] ++ [x]) w' ∧ BelowBut bs base w w' := by
  have hmx : Try.prog.follows .mixedOrders = true := by kernel_rfl
  obtain ⟨i0, hi, hz0, hz1, hz2⟩ := info_parts infoTerm
  obtain ⟨v, s0, s1, x0, x1, hrow, hbx, hblk⟩ := push_cells h hbs hbase x
  obtain ⟨g, cap, rfl⟩ : ∃ g cap, v = .slice (some ⟨g, 0, none⟩) (pre ++ [l]).length cap := by
    rcases hrow.2 with ⟨rfl, h0⟩ | ⟨g, cap, cur, rfl, _⟩
    · rw [List.length_append] at h0; simp at h0
    · exact ⟨_, _, rfl⟩
  have hta := termsAt_of_owns rfl hrow
  obtain ⟨hgb, hgN⟩ := hblk g rfl
  obtain ⟨l0, l1⟩ := hta.2 pre.length (by rw [List.length_append]; exact Nat.lt_succ_self _)
  rw [List.getElem_append_right (Nat.le_refl _)] at l0 l1
  simp only [Nat.sub_self, List.getElem_cons_zero] at l0 l1
  rw [addr_next] at l1
  obtain ⟨k, hk⟩ : ∃ k, pre.length = k := ⟨_, rfl⟩
  have hll : (pre ++ [l]).length = k + 1 := by rw [List.length_append, hk]; rfl
  have hw1 : IntKind.i64.wrap (((k + 1 : Nat) : Int) - 1) = (k : Int) := by rw [IntWalk.i64_in _ (by omega)]; omega
  have hw2 : IntKind.i64.wrap ((k : Int) + 1 - 1) = (k : Int) := by rw [IntWalk.i64_in _ (by omega)]; omega
  rw [hk] at l0 l1 hlen
  rw [hll] at hrow s0 hbx hblk
  obtain ⟨us, hus⟩ : ∃ us, pre ++ [l] = us := ⟨_, rfl⟩
  rw [hus] at hrow ⊢
  have HLL := Lib.hid hll
  have HUS := Lib.hid hus
  have HK := Lib.hid hk
  clear hll hus hta hk
  obtain ⟨N, hN⟩ : ∃ N, w.heap.size = N := ⟨_, rfl⟩
  have hs : (w.alloc (.cells #[.int .i64 x.c, .string x.s] TI)).heap.size = N + 1 := by simp [hN]
  have hbw : Below w.heap.size w (w.alloc (.cells #[.int .i64 x.c, .string x.s] TI)) := (Below.refl _ _).alloc (Nat.le_refl _) _
  rw [hN] at x0 x1 hbase hbw
  have HR := Lib.hid hrow
  have HBX := Lib.hid hbx
  have HS := Lib.hid hs
  have HBW := Lib.hid hbw
  have HN := Lib.hid hN
  obtain ⟨v, hv⟩ : ∃ v, cmpW l.s x.s = v := ⟨_, rfl⟩
  have HC : Hid (∀ W : World, Calls Try.prog 83 #[.agg #[.int .i64 l.c, .string l.s], .agg #[.int .i64 x.c, .string x.s]] W fun e w' => e = .returned (.int .i64 v) ∧ Below W.heap.size W w') := Lib.hid (fun W => by
    rw [← hv]
    exact (compareTerms_any l x W).mono fun _ _ ⟨h1, h2⟩ => ⟨h1, h2.below⟩)
  have hk0 : (0 : Int) ≤ (k : Int) := Int.natCast_nonneg _
  have hk1 : (k : Int) < (k : Int) + 1 := by omega
  have hk2 : (k : Int) < ((k + 1 : Nat) : Int) := by omega
  have hv0 : v ≠ 0 := fun e => hls (cmpW_zero (hv.trans e))
  have hd0 : (v == 0) = false := by simpa using hv0
  have hd1 : decide (v = 0) = false := by simpa using hv0
  have v0 := BelowBy.cell (a := ⟨bs, 0, none⟩) (by show bs < _; rw [hs]; omega) s0
  have v1 := BelowBy.cell (a := ⟨bs, 1, none⟩) (by show bs < _; rw [hs]; omega) s1
  have v2 := BelowBy.cell (a := ⟨N, 0, none⟩) (by show N < _; rw [hs]; omega) x0
  have v3 := BelowBy.cell (a := ⟨N, 1, none⟩) (by show N < _; rw [hs]; omega) x1
  simp only [add_off] at l0 l1
  have v4 := BelowBy.cell (a := ⟨g, k * 2, none⟩) (by rw [hs]; show g < _; omega) l0
  have v5 := BelowBy.cell (a := ⟨g, k * 2 + 1, none⟩) (by rw [hs]; show g < _; omega) l1
  clear hrow hbx hs h hbw hv l0 l1
  go_enter Try.func111, Try.ntmps111
  go_wp2_with fail
  try rw [hN]
  generalize (w.alloc (.cells #[.int .i64 x.c, .string x.s] TI)) = V at *
  refine wp_region_below hmx (by kernel_rfl) ?_
  repeat (((with_reducible refine wpQuiet_step (fun K hK => ?_)); go_simp; first | ((with_reducible refine hK _ ?_); clear hK K) | (refine (if_neg (by decide)).mpr ?_; (with_reducible refine hK _ ?_); clear hK K) | (apply Exists.intro; (with_reducible refine ⟨fun _ => ?_, hK _ ?_⟩); (go_at_call 83; exact Calls.bel (HC.out _)); clear hK K)))
  with_reducible refine wpQuiet_nil ?_
  rintro W ⟨⟨W, hW⟩, rfl⟩
  have y0 := (hW.cell (p := ⟨bs, 0, none⟩) (by show bs < _; rw [HS.out]; omega)).trans s0
  have y1 := (hW.cell (p := ⟨N, 0, none⟩) (by show N < _; rw [HS.out]; omega)).trans x0
  have y2 := (hW.cell (p := ⟨N, 1, none⟩) (by show N < _; rw [HS.out]; omega)).trans x1
  have hrW : W.ownsRow base TI 2 (.slice (some ⟨g, 0, none⟩) (k + 1) cap) (k + 1) (termsV us) := by
    have := HR.out
    rw [← HLL.out, HUS.out] at this ⊢
    exact OwnT.below this hW
  have hbW : W.heap[bs]? = some (.cells #[.slice (some ⟨g, 0, none⟩) (k + 1) cap, CF] SrT (0, 0)) := (hW.block bs (by rw [HS.out]; omega)).trans HBX.out
  have hsz : N + 1 ≤ W.heap.size := by rw [← HS.out]; exact hW.size
  have HBB : Hid (BelowBut bs base w W) := Lib.hid ((BelowBut.of bs (HBW.out.mono hbase)).trans (BelowBut.of bs (hW.mono (by rw [HS.out]; omega))))
  change Exit.then _ _ _ _ W
  clear s0 s1 x0 x1 v0 v1 v2 v3 v4 v5 hW HR HBX HS HBW
  have HRW := Lib.hid hrW
  have HBXW := Lib.hid hbW
  have hf := bs_frozen hbW
  clear hrW hbW
  have hbs2 : bs < W.heap.size := by omega
  have hne : some bs ≠ (Value.slice (some ⟨g, 0, none⟩) (k + 1) cap).ownBlock := fun e => by have := (hblk bs e.symm).1; omega
  have hneN : some N ≠ (Value.slice (some ⟨g, 0, none⟩) (k + 1) cap).ownBlock := fun e => by have := (hblk N e.symm).2; omega
  have hNlt : N < W.heap.size := by omega
  clear hblk
  go_wp2_with fail
  have hwr : W.drew.heap.size = W.heap.size := rfl
  go_region_law
    ((refine step_append_lies _ (by rfl) _ _ _ (by rfl) base TI i0 _ 2 24 Try.underlying25 hi hz0 hz1 hz2 rfl (by omega) (.slice (some ⟨g, 0, none⟩) (k + 1) cap) (k + 1) (termsV us) (by rfl) ((HRW.out.alloc _).drew)
        ⟨W.heap.size, 0, none⟩ 1 1 [.int .i64 x.c, .string x.s] (by rfl) (by rfl) (World.news_of_block (cs := #[.int .i64 x.c, .string x.s]) (t := TI) (fr := (0, 0)) (heap_alloc_new W _)) (by simp [Value.oneCell'])
        (by omega) (by unfold maxLen; omega) (by omega) (by simp; omega) (W.heap.size + 1) (by simp) ?_; intro gg cap1 w1 hown1 hgrow hat hlt; have hf1 : w1.frozen? ⟨bs, 0, none⟩ = false := (hgrow.frozen_far _ (by simp; omega) hne).trans (frozen_past hf hbs2 _); have hc1 : w1.cell? ⟨bs, 0, none⟩ = some (.slice (some ⟨g, 0, none⟩) (k + 1) cap) := (hgrow.cell_far _ (by simp; omega) hne).trans (cell_past (cell_drawn y0) _)))
  all_goals
    obtain ⟨d1, d2⟩ := push_done (us := us ++ [x]) HBXW.out hbs (by omega) HRW.out hown1 (by rw [List.length_append, ← HUS.out, HLL.out]; rfl) (by rw [termsV_append]; rfl) hgrow
    exact bodyPost_end (results_none rfl _ _ _) rfl ⟨rfl, d1, HBB.out.trans d2⟩

end Go.Proofs.Ytidmlppbmcphbaa

/- The contract of the program's 'push'. -/

namespace Go.Proofs.Ytidmlppbmcphbaa
open Go.RowKit Go.Shelf

theorem set_last (pre : List Tm) (l : Tm) (c : Int) (k : Nat) (hk : pre.length = k) :
    ((termsV (pre ++ [l])).set (k * 2) (.int .i64 c)).set (k * 2 + 1) (.string l.s) = termsV (pre ++ [⟨c, l.s⟩]) := by
  have hl := termsV_len pre
  rw [hk] at hl
  rw [termsV_append, termsV_append, List.set_append_right _ _ (by omega), List.set_append_right _ _ (by omega), hl, Nat.sub_self, show k * 2 + 1 - k * 2 = 1 by omega]
  rfl
/-- What the join that is stored leaves. -/
theorem join_done {base bs g k cap : Nat} {w W w2 : World} {pre us : List Tm} {l : Tm} {c : Int} (HBB : BelowBut bs base w W) (hb2 : Below W.drew.heap.size W.drew w2)
    (hbx : W.heap[bs]? = some (.cells #[.slice (some ⟨g, 0, none⟩) (k + 1) cap, CF] SrT (0, 0))) (hrow : W.ownsRow base TI 2 (.slice (some ⟨g, 0, none⟩) (k + 1) cap) (k + 1) (termsV us))
    (hus : pre ++ [l] = us) (hk : pre.length = k) (hbs : bs < base) (hgb : base ≤ g) (hbase : base ≤ W.heap.size) :
    HoldS base bs (pre ++ [⟨c, l.s⟩]) ((w2.setCell ⟨g, k * 2, none⟩ (.int .i64 c)).setCell ⟨g, k * 2 + 1, none⟩ (.string l.s)) ∧
      BelowBut bs base w ((w2.setCell ⟨g, k * 2, none⟩ (.int .i64 c)).setCell ⟨g, k * 2 + 1, none⟩ (.string l.s)) := by
  subst hus
  have hB : Below W.heap.size W w2 := (Below.refl _ W).drew.trans hb2
  have hll : (pre ++ [l]).length = k + 1 := by rw [List.length_append, hk]; rfl
  have hr2 : w2.ownsRow base TI 2 (.slice (some ⟨g, 0, none⟩) (k + 1) cap) (k + 1) (termsV (pre ++ [l])) := by
    rw [← hll] at hrow ⊢
    exact OwnT.below hrow hB
  have hst := ((hr2.stored (k * 2) (.int .i64 c)).1.stored (k * 2 + 1) (.string l.s)).1
  rw [set_last pre l c k hk] at hst
  have hb3 : Below base W ((w2.setCell ⟨g, k * 2, none⟩ (.int .i64 c)).setCell ⟨g, k * 2 + 1, none⟩ (.string l.s)) :=
    ((hB.mono hbase).setCell (p := ⟨g, k * 2, none⟩) hgb _).setCell (p := ⟨g, k * 2 + 1, none⟩) hgb _
  have hl2 : (pre ++ [(⟨c, l.s⟩ : Tm)]).length = k + 1 := by rw [List.length_append, hk]; rfl
  exact ⟨⟨_, (hb3.block bs hbs).trans hbx, by rw [hl2]; exact hst⟩, HBB.trans (BelowBut.of bs hb3)⟩

set_option maxRecDepth 100000 in
set_option maxHeartbeats 4000000 in
theorem push_join (base bs : Nat) (pre : List Tm) (l x : Tm) (w : World) (h : HoldS base bs (pre ++ [l]) w) (hls : l.s = x.s) (hsum : -9223372036854775808 ≤ l.c + x.c ∧ l.c + x.c ≤ 9223372036854775807) (hlen : pre.length ≤ 1000000) (hbs : bs < base) (hbase : base ≤ w.heap.size) :
    Calls Try.prog 111 #[.pointer (some ⟨bs, 0, none⟩), .agg #[.int .i64 x.c, .string x.s], .func (.func 91) #[] #[]] w fun e w' =>
      e = .returned (.tuple #[]) ∧ HoldS base bs (pre ++ [⟨l.c + x.c, l.s⟩]) w' ∧ BelowBut bs base w w' := by
  have hmx : Try.prog.follows .mixedOrders = true := by kernel_rfl
  obtain ⟨i0, hi, hz0, hz1, hz2⟩ := info_parts infoTerm
  obtain ⟨v, s0, s1, x0, x1, hrow, hbx, hblk⟩ := push_cells h hbs hbase x
  obtain ⟨g, cap, rfl⟩ : ∃ g cap, v = .slice (some ⟨g, 0, none⟩) (pre ++ [l]).length cap := by
    rcases hrow.2 with ⟨rfl, h0⟩ | ⟨g, cap, cur, rfl, _⟩
    · rw [List.length_append] at h0; simp at h0
    · exact ⟨_, _, rfl⟩
  have hta := termsAt_of_owns rfl hrow
  obtain ⟨hgb, hgN⟩ := hblk g rfl
  obtain ⟨l0, l1⟩ := hta.2 pre.length (by rw [List.length_append]; exact Nat.lt_succ_self _)
  rw [List.getElem_append_right (Nat.le_refl _)] at l0 l1
  simp only [Nat.sub_self, List.getElem_cons_zero] at l0 l1
  rw [addr_next] at l1
  obtain ⟨k, hk⟩ : ∃ k, pre.length = k := ⟨_, rfl⟩
  have hll : (pre ++ [l]).length = k + 1 := by rw [List.length_append, hk]; rfl
  have hw1 : IntKind.i64.wrap (((k + 1 : Nat) : Int) - 1) = (k : Int) := by rw [IntWalk.i64_in _ (by omega)]; omega
  have hw2 : IntKind.i64.wrap ((k : Int) + 1 - 1) = (k : Int) := by rw [IntWalk.i64_in _ (by omega)]; omega
  rw [hk] at l0 l1 hlen
  rw [hll] at hrow s0 hbx hblk
  obtain ⟨us, hus⟩ : ∃ us, pre ++ [l] = us := ⟨_, rfl⟩
  rw [hus] at hrow
  have HLL := Lib.hid hll
  have HUS := Lib.hid hus
  have HK := Lib.hid hk
  clear hll hus hta hk
  obtain ⟨N, hN⟩ : ∃ N, w.heap.size = N := ⟨_, rfl⟩
  have hs : (w.alloc (.cells #[.int .i64 x.c, .string x.s] TI)).heap.size = N + 1 := by simp [hN]
  have hbw : Below w.heap.size w (w.alloc (.cells #[.int .i64 x.c, .string x.s] TI)) := (Below.refl _ _).alloc (Nat.le_refl _) _
  rw [hN] at x0 x1 hbase hbw
  have HR := Lib.hid hrow
  have HBX := Lib.hid hbx
  have HS := Lib.hid hs
  have HBW := Lib.hid hbw
  have HN := Lib.hid hN
  have HC : Hid (∀ W : World, Calls Try.prog 83 #[.agg #[.int .i64 l.c, .string l.s], .agg #[.int .i64 x.c, .string x.s]] W fun e w' => e = .returned (.int .i64 0) ∧ Below W.heap.size W w') := Lib.hid (fun W => by
    have hv0 : cmpW l.s x.s = 0 := by rw [hls]; exact cmpW_self _
    rw [← hv0]
    exact (compareTerms_any l x W).mono fun _ _ ⟨h1, h2⟩ => ⟨h1, h2.below⟩)
  have HLS := Lib.hid hls
  have HSUM := Lib.hid hsum
  have hk0 : (0 : Int) ≤ (k : Int) := Int.natCast_nonneg _
  have hk1 : (k : Int) < (k : Int) + 1 := by omega
  have hk2 : (k : Int) < ((k + 1 : Nat) : Int) := by omega
  have v0 := BelowBy.cell (a := ⟨bs, 0, none⟩) (by show bs < _; rw [hs]; omega) s0
  have v1 := BelowBy.cell (a := ⟨bs, 1, none⟩) (by show bs < _; rw [hs]; omega) s1
  have v2 := BelowBy.cell (a := ⟨N, 0, none⟩) (by show N < _; rw [hs]; omega) x0
  have v3 := BelowBy.cell (a := ⟨N, 1, none⟩) (by show N < _; rw [hs]; omega) x1
  simp only [add_off] at l0 l1
  have v4 := BelowBy.cell (a := ⟨g, k * 2, none⟩) (by rw [hs]; show g < _; omega) l0
  have v5 := BelowBy.cell (a := ⟨g, k * 2 + 1, none⟩) (by rw [hs]; show g < _; omega) l1
  clear hrow hbx hs h hbw hls hsum
  go_enter Try.func111, Try.ntmps111
  go_wp2_with fail
  try rw [hN]
  generalize (w.alloc (.cells #[.int .i64 x.c, .string x.s] TI)) = V at *
  refine wp_region_below hmx (by kernel_rfl) ?_
  repeat (((with_reducible refine wpQuiet_step (fun K hK => ?_)); go_simp; first | ((with_reducible refine hK _ ?_); clear hK K) | (refine (if_neg (by decide)).mpr ?_; (with_reducible refine hK _ ?_); clear hK K) | (apply Exists.intro; (with_reducible refine ⟨fun _ => ?_, hK _ ?_⟩); (go_at_call 83; exact Calls.bel (HC.out _)); clear hK K)))
  with_reducible refine wpQuiet_nil ?_
  rintro W ⟨⟨W, hW⟩, rfl⟩
  have y0 := (hW.cell (p := ⟨bs, 0, none⟩) (by show bs < _; rw [HS.out]; omega)).trans s0
  have y1 := (hW.cell (p := ⟨N, 0, none⟩) (by show N < _; rw [HS.out]; omega)).trans x0
  have y2 := (hW.cell (p := ⟨N, 1, none⟩) (by show N < _; rw [HS.out]; omega)).trans x1
  have hrW : W.ownsRow base TI 2 (.slice (some ⟨g, 0, none⟩) (k + 1) cap) (k + 1) (termsV us) := by
    have := HR.out
    rw [← HLL.out, HUS.out] at this ⊢
    exact OwnT.below this hW
  have hbW : W.heap[bs]? = some (.cells #[.slice (some ⟨g, 0, none⟩) (k + 1) cap, CF] SrT (0, 0)) := (hW.block bs (by rw [HS.out]; omega)).trans HBX.out
  have hsz : N + 1 ≤ W.heap.size := by rw [← HS.out]; exact hW.size
  have HBB : Hid (BelowBut bs base w W) := Lib.hid ((BelowBut.of bs (HBW.out.mono hbase)).trans (BelowBut.of bs (hW.mono (by rw [HS.out]; omega))))
  change Exit.then _ _ _ _ W
  have y3 := (hW.cell (p := ⟨g, k * 2, none⟩) (by show g < _; rw [HS.out]; omega)).trans l0
  have y4 := (hW.cell (p := ⟨g, k * 2 + 1, none⟩) (by show g < _; rw [HS.out]; omega)).trans l1
  clear s0 s1 x0 x1 l0 l1 v0 v1 v2 v3 v4 v5 hW HR HBX HS HBW
  have HRW := Lib.hid hrW
  have HBXW := Lib.hid hbW
  have hf3 : W.frozen? ⟨g, k * 2, none⟩ = false := hrW.frozenAt (k * 2)
  have hf4 : W.frozen? ⟨g, k * 2 + 1, none⟩ = false := hrW.frozenAt (k * 2 + 1)
  clear hrW hbW
  have hbs2 : bs < W.heap.size := by omega
  have hg2 : g < W.heap.size := by omega
  clear hblk
  go_wp2_with fail
  go_region_with ((go_at_call 91; refine (joinTerms_any l x _ HSUM.out).mono ?_; rintro e w2 ⟨rfl, hb2⟩; have z0 := (hb2.cell (p := ⟨bs, 0, none⟩) hbs2).trans y0; have z3 := (hb2.cell (p := ⟨g, k * 2, none⟩) hg2).trans y3; have z4 := (hb2.cell (p := ⟨g, k * 2 + 1, none⟩) hg2).trans y4; have f3 := (hb2.frozen (p := ⟨g, k * 2, none⟩) hg2).trans hf3; have f4 := (hb2.frozen (p := ⟨g, k * 2 + 1, none⟩) hg2).trans hf4))
  all_goals
    go_wp2
    exact bodyPost_ret (results_none rfl _ _ _) rfl ⟨rfl, join_done HBB.out hb2 HBXW.out HRW.out HUS.out HK.out hbs hgb (by omega)⟩

end Go.Proofs.Ytidmlppbmcphbaa

/- The contracts of the program's 'push' (all ways in one) and 'gathered'. -/

namespace Go.Proofs.Ytidmlppbmcphbaa
open Go.RowKit Go.Shelf

theorem push_any (base bs : Nat) (acc : List Tm) (x : Tm) (w : World) (h : HoldS base bs acc w) (hbs : bs < base) (hbase : base ≤ w.heap.size) (hlen : acc.length ≤ 1000000)
    (hsum : ∀ l, acc.getLast? = some l → -9223372036854775808 ≤ l.c + x.c ∧ l.c + x.c ≤ 9223372036854775807) :
    Calls Try.prog 111 #[.pointer (some ⟨bs, 0, none⟩), .agg #[.int .i64 x.c, .string x.s], .func (.func 91) #[] #[]] w fun e w' =>
      e = .returned (.tuple #[]) ∧ HoldS base bs (pushT acc x) w' ∧ BelowBut bs base w w' := by
  rcases List.eq_nil_or_concat acc with rfl | ⟨pre, l, rfl⟩
  · exact push_empty base bs x w h hbs hbase
  · rw [List.concat_eq_append] at *
    have hp : pre.length ≤ 1000000 := by rw [List.length_append] at hlen; omega
    by_cases hls : l.s = x.s
    · rw [push_last, if_pos hls]
      exact push_join base bs pre l x w h hls (hsum l (by simp)) hp hbs hbase
    · rw [push_last, if_neg hls]
      exact push_more base bs pre l x w h hls hp hbs hbase

theorem push_len (acc : List Tm) (t : Tm) : (pushT acc t).length ≤ acc.length + 1 := by
  rcases List.eq_nil_or_concat acc with rfl | ⟨b, l, rfl⟩
  · rw [push_nil]; simp
  · rw [List.concat_eq_append, push_last]; split <;> simp
theorem push_bnd {acc : List Tm} {t : Tm} {B C : Int} (h : ∀ u ∈ acc, -B ≤ u.c ∧ u.c ≤ B) (ht : -C ≤ t.c ∧ t.c ≤ C) (hB : 0 ≤ B) (hC : 0 ≤ C) : ∀ u ∈ pushT acc t, -(B + C) ≤ u.c ∧ u.c ≤ B + C := by
  intro u hu
  rcases List.eq_nil_or_concat acc with rfl | ⟨b, l, rfl⟩
  · rw [push_nil] at hu; rw [List.mem_singleton.1 hu]; omega
  · rw [List.concat_eq_append] at *
    rw [push_last] at hu
    have hl := h l (by simp)
    split at hu
    · rcases List.mem_append.1 hu with hu | hu
      · have := h u (by simp [hu]); omega
      · rw [List.mem_singleton.1 hu]; show -(B + C) ≤ l.c + t.c ∧ l.c + t.c ≤ B + C; omega
    · rcases List.mem_append.1 hu with hu | hu
      · have := h u hu; omega
      · rw [List.mem_singleton.1 hu]; omega
theorem merge_take {ts : List Tm} {k : Nat} (hk : k < ts.length) : mergeT (ts.take (k + 1)) = pushT (mergeT (ts.take k)) ts[k] := by
  unfold mergeT
  rw [List.take_add_one, List.getElem?_eq_getElem hk, List.foldl_append]
  rfl
theorem merge_len (ts : List Tm) : ∀ k, (mergeT (ts.take k)).length ≤ k
  | 0 => by simp [mergeT]
  | k + 1 => by
    by_cases hk : k < ts.length
    · rw [merge_take hk]
      have := push_len (mergeT (ts.take k)) ts[k]
      have := merge_len ts k
      omega
    · have := merge_len ts k
      rw [List.take_of_length_le (by omega)] at this ⊢
      omega
theorem merge_bnd {ts : List Tm} {C : Int} (hC : 0 ≤ C) (h : ∀ u ∈ ts, -C ≤ u.c ∧ u.c ≤ C) : ∀ k : Nat, ∀ u ∈ mergeT (ts.take k), -(C * k) ≤ u.c ∧ u.c ≤ C * k
  | 0, u, hu => by simp [mergeT] at hu
  | k + 1, u, hu => by
    have e : C * ((k + 1 : Nat) : Int) = C * k + C := by rw [Int.natCast_add, Int.mul_add]; simp
    have hk0 : 0 ≤ C * (k : Int) := Int.mul_nonneg hC (Int.natCast_nonneg _)
    rw [e]
    by_cases hk : k < ts.length
    · rw [merge_take hk] at hu
      exact push_bnd (merge_bnd hC h k) (h _ (List.getElem_mem hk)) hk0 hC u hu
    · rw [List.take_of_length_le (by omega)] at hu
      have := merge_bnd hC h k u (by rw [List.take_of_length_le (by omega)]; exact hu)
      omega
theorem merge_all (ts : List Tm) : mergeT (ts.take ts.length) = mergeT ts := by rw [List.take_of_length_le (Nat.le_refl _)]

theorem HoldS.alloc {base bs : Nat} {acc : List Tm} {w : World} (h : HoldS base bs acc w) (hb : bs < w.heap.size) (o : Obj) : HoldS base bs acc (w.alloc o) := by
  obtain ⟨v, h1, h2⟩ := h
  exact ⟨v, (Below.heap_alloc _ _ _ hb).trans h1, h2.alloc _⟩
theorem smallT_perm {ss ts : List Tm} (hp : ss.Perm ts) (hl : ts.length ≤ maxLen) (h : ∀ t ∈ ts, t.s.size ≤ maxLen ∧ -9223372036854775808 ≤ t.c ∧ t.c ≤ 9223372036854775807) : SmallT ss :=
  ⟨by rw [hp.length_eq]; exact hl, fun t ht => h t (hp.mem_iff.1 ht)⟩

set_option maxRecDepth 100000 in
set_option maxHeartbeats 2000000 in
/-- The program's 'gathered' at terms. -/
theorem gathered_any (a : Option Addr) (cap n : Nat) (ts : List Tm) (w : World) (hs : IsTerms w a n ts) (hn : n ≤ 100000) (hc : ∀ t ∈ ts, -1000000000000 ≤ t.c ∧ t.c ≤ 1000000000000) :
    Calls Try.prog 90 #[.slice a n cap, CF, .func (.func 91) #[] #[]] w fun e w' =>
      (∃ v, e = .returned (.agg #[v, CF]) ∧ ∃ ss : List Tm, ss.Perm ts ∧ ss.Pairwise (fun a b => lessW b.s a.s = false) ∧ OwnT w.heap.size w' v (mergeT ss)) ∧ Below w.heap.size w w' := by
  have HS := Lib.hid hs
  have HC := Lib.hid hc
  clear hs hc
  go_enter Try.func90, Try.ntmps90
  go_wp2_with fail
  refine (valuesT_any a n cap _).mono ?_
  rintro e w2 ⟨rfl, rfl⟩
  obtain ⟨N, hN⟩ : ∃ N, w.heap.size = N := ⟨_, rfl⟩
  have q0 : ((((w.alloc (.cells #[.slice none 0 0, .nilFunc] SrT)).alloc (.cells #[.slice none 0 0, CF] SrT)).alloc (.cells #[.slice a n cap] ST))).heap[N]? = some (.cells #[.slice none 0 0, .nilFunc] SrT (0, 0)) := by
    rw [← hN, Below.heap_alloc _ _ _ (by simp; omega), Below.heap_alloc _ _ _ (by simp)]
    exact World.alloc_heap_new _ _
  have q1 : ((((w.alloc (.cells #[.slice none 0 0, .nilFunc] SrT)).alloc (.cells #[.slice none 0 0, CF] SrT)).alloc (.cells #[.slice a n cap] ST))).heap[N + 1]? = some (.cells #[.slice none 0 0, CF] SrT (0, 0)) := by
    rw [← hN, Below.heap_alloc _ _ _ (by simp)]
    have := World.alloc_heap_new (w.alloc (.cells #[.slice none 0 0, .nilFunc] SrT)) (.cells #[.slice none 0 0, CF] SrT)
    simpa using this
  have q2 : ((((w.alloc (.cells #[.slice none 0 0, .nilFunc] SrT)).alloc (.cells #[.slice none 0 0, CF] SrT)).alloc (.cells #[.slice a n cap] ST))).cell? ⟨N + 2, 0, none⟩ = some (.slice a n cap) := by
    have := World.alloc_heap_new ((w.alloc (.cells #[.slice none 0 0, .nilFunc] SrT)).alloc (.cells #[.slice none 0 0, CF] SrT)) (.cells #[.slice a n cap] ST)
    simp only [World.size_alloc, hN] at this
    unfold World.cell?
    rw [show N + 2 = N + 1 + 1 from rfl, this]
    rfl
  have hsz : ((((w.alloc (.cells #[.slice none 0 0, .nilFunc] SrT)).alloc (.cells #[.slice none 0 0, CF] SrT)).alloc (.cells #[.slice a n cap] ST))).heap.size = N + 3 := by simp [hN]
  have hbV : Below w.heap.size w ((((w.alloc (.cells #[.slice none 0 0, .nilFunc] SrT)).alloc (.cells #[.slice none 0 0, CF] SrT)).alloc (.cells #[.slice a n cap] ST))) := (((Below.refl _ _).alloc (Nat.le_refl _) _).alloc (by simp) _).alloc (by simp; omega) _
  simp only [World.size_alloc, hN]
  generalize ((((w.alloc (.cells #[.slice none 0 0, .nilFunc] SrT)).alloc (.cells #[.slice none 0 0, CF] SrT)).alloc (.cells #[.slice a n cap] ST))) = V at *
  have HS2 : Hid (0 < n → ∃ x, a = some x ∧ TermsAt V x ts) := Lib.hid (HS.out.below hbV).at_
  have HQ0 := Lib.hid q0
  have HQ1 := Lib.hid q1
  have HQ2 := Lib.hid q2
  have HSZ := Lib.hid hsz
  have HBV := Lib.hid hbV
  have HN := Lib.hid hN
  clear q0 q1 q2 hsz hbV hN
  go_wp2_with fail
  refine (sortedFunc_any (N + 1 + 1) ts a cap n V HS.out.len (by omega) (by rw [HSZ.out]; omega) HQ2.out HS2.out).mono ?_
  rintro e w3 ⟨⟨v3, rfl, ss, hp, hso, ho⟩, hb3⟩
  have hsl : ss.length = n := hp.length_eq.trans HS.out.len
  have hsm : SmallT ss := smallT_perm hp (by rw [HS.out.len]; exact HS.out.max) HS.out.small
  have hoT : OwnT V.heap.size w3 v3 ss := by unfold OwnT; rw [hsl]; exact ho
  obtain ⟨a3, cap3, rfl, hI⟩ := hoT.isTerms hsm
  have hlow : ∀ j, (Value.slice a3 ss.length cap3).ownBlock = some j → V.heap.size ≤ j := ownLow hoT
  have hcs : ∀ t ∈ ss, -1000000000000 ≤ t.c ∧ t.c ≤ 1000000000000 := fun t ht => HC.out t (hp.mem_iff.1 ht)
  have hfar : ∀ x, a3 = some x → N + 3 ≤ x.block := by
    intro x ex
    rcases ho.2 with ⟨e0, _⟩ | ⟨g1, cap1, cur1, e0, hg1, _⟩
    · simp only [Value.slice.injEq] at e0
      rw [e0.1] at ex; cases ex
    · simp only [Value.slice.injEq] at e0
      rw [e0.1] at ex
      cases ex
      rw [← HSZ.out]; exact hg1
  rw [hsl]
  have hs3 : N + 3 ≤ w3.heap.size := by rw [← HSZ.out]; exact hb3.size
  have q1 : w3.heap[N + 1]? = some (.cells #[.slice none 0 0, CF] SrT (0, 0)) := (hb3.block (N + 1) (by rw [HSZ.out]; omega)).trans HQ1.out
  have q0 : w3.heap[N]? = some (.cells #[.slice none 0 0, .nilFunc] SrT (0, 0)) := (hb3.block N (by rw [HSZ.out]; omega)).trans HQ0.out
  obtain ⟨base, hbase⟩ : ∃ base, w3.heap.size = base := ⟨_, rfl⟩
  have h0 : HoldS base (N + 1) (mergeT (ss.take 0)) w3 := ⟨_, q1, ⟨rfl, .inl ⟨rfl, rfl⟩⟩⟩
  have HP := Lib.hid hp
  have HSO := Lib.hid hso
  have HSL := Lib.hid hsl
  have HI := Lib.hid hI
  have HCS := Lib.hid hcs
  have HFAR := Lib.hid hfar
  have HB3 := Lib.hid (HBV.out.trans (hb3.mono (by rw [HSZ.out, HN.out]; omega)))
  have HBASE := Lib.hid hbase
  have HQ0' := Lib.hid q0
  clear hp hso ho hsl hsm hoT hI hlow hcs hfar hb3 q1 q0 HQ0 HQ1 HQ2 HBV HS2
  rw [hbase] at hs3
  clear hbase
  go_wp2_with fail
  go_loopw [17] (fun i wr => ∃ k : Nat, k ≤ n ∧ i = .int .i64 k ∧ Hid (HoldS base (N + 1) (mergeT (ss.take k)) wr) ∧ Hid (BelowBut (N + 1) base w3 wr)) (fun i _ => n - (intOf i).toNat)
  case atStart => exact ⟨0, Nat.zero_le _, rfl, Lib.hid h0, Lib.hid (BelowBut.refl _ _ _)⟩
  case round =>
    obtain ⟨k, hk, rfl, HH, HB⟩ := hrel
    by_cases hlt : k < n
    · have hkz : k < ss.length := by rw [HSL.out]; exact hlt
      obtain ⟨x, rfl, hx⟩ := HI.out.at_ (by rw [HSL.out]; omega)
      obtain ⟨t, ht⟩ : ∃ t, ss[k] = t := ⟨_, rfl⟩
      have hxf := HFAR.out x rfl
      have hxb := hx.1
      rw [HBASE.out] at hxb
      have hblk : wr.heap[x.block]? = w3.heap[x.block]? := HB.out.block x.block hxb (by omega)
      have hc := hx.2 k hkz
      rw [ht, addr_next] at hc
      obtain ⟨hc0, hc1⟩ := hc
      have c0 : wr.cell? (x.add (k * 2)) = some (.int .i64 t.c) := (World.cell?_of_block (w := w3) (by rw [addr_add_block]; exact hblk)).trans hc0
      have c1 : wr.cell? ⟨(x.add (k * 2)).block, (x.add (k * 2)).off + 1, none⟩ = some (.string t.s) := (World.cell?_of_block (w := w3) (a := ⟨(x.add (k * 2)).block, (x.add (k * 2)).off + 1, none⟩) (by show wr.heap[(x.add (k * 2)).block]? = _; rw [addr_add_block]; exact hblk)).trans hc1
      have HT := Lib.hid ht
      have hbw : base ≤ wr.heap.size := by rw [← HBASE.out]; exact HB.out.size
      have hsum : ∀ l, (mergeT (ss.take k)).getLast? = some l → -9223372036854775808 ≤ l.c + t.c ∧ l.c + t.c ≤ 9223372036854775807 := by
        intro l hl
        have h1 := merge_bnd (C := 1000000000000) (by omega) HCS.out k l (List.mem_of_getLast? hl)
        have h2 := HCS.out ss[k] (List.getElem_mem hkz)
        rw [ht] at h2
        omega
      have hml := merge_len ss k
      have hmt := merge_take hkz
      rw [ht] at hmt
      have HMT := Lib.hid hmt
      have hpush := push_any base (N + 1) (mergeT (ss.take k)) t (wr.alloc (.cells #[.int .i64 t.c, .string t.s] TI)) (HH.out.alloc (by omega) _) (by omega) (by simp; omega) (by omega) hsum
      have HPU := Lib.hid hpush
      clear ht hx hc0 hc1 hblk h0 hsum hml hmt hpush
      go_wp2_with fail
      refine HPU.out.mono ?_
      rintro e w4 ⟨rfl, hh4, hb4⟩
      have HH4 := Lib.hid hh4
      have HB4 := Lib.hid (HB.out.trans ((BelowBut.of (N + 1) ((Below.refl base wr).alloc hbw _)).trans hb4))
      clear hh4 hb4
      go_wp2
      go_roundw
      case rel => exact ⟨k + 1, by omega, by go_num, Lib.hid (by rw [HMT.out]; exact HH4.out), HB4⟩
      case measure => simp [intOf]; omega
    · obtain rfl : k = n := by omega
      clear h0
      obtain ⟨v, hbx, hrow⟩ := HH.out
      obtain ⟨av, mv, cv, rfl⟩ : ∃ a m c, v = .slice a m c := by
        rcases hrow.2 with ⟨rfl, _⟩ | ⟨g, cap, cur, rfl, _⟩
        · exact ⟨_, _, _, rfl⟩
        · exact ⟨_, _, _, rfl⟩
      have r0 : wr.cell? ⟨N + 1, 0, none⟩ = some (.slice av mv cv) := by simp [World.cell?, hbx]
      have r1 : wr.cell? ⟨N + 1, 1, none⟩ = some CF := by simp [World.cell?, hbx]
      have hq0 := (HB.out.block N (by omega) (by omega)).trans HQ0'.out
      have p0 : wr.cell? ⟨N, 0, none⟩ = some (.slice none 0 0) := by simp [World.cell?, hq0]
      have p1 : wr.cell? ⟨N, 1, none⟩ = some .nilFunc := by simp [World.cell?, hq0]
      have f0 : wr.frozen? ⟨N, 0, none⟩ = false := by simp [World.frozen?, hq0]
      have f1 : wr.frozen? ⟨N, 1, none⟩ = false := by simp [World.frozen?, hq0]
      have HROW := Lib.hid hrow
      clear hbx hrow hq0
      have hqN := (HB.out.block N (by omega) (by omega)).trans HQ0'.out
      have hqr : ((wr.setCell ⟨N, 0, none⟩ (.slice av mv cv)).setCell ⟨N, 1, none⟩ CF).heap[N]? = some (.cells #[.slice av mv cv, CF] SrT (0, 0)) := by
        simp [World.setCell, Array.getElem?_modify, hqN]
      have HQR := Lib.hid hqr
      clear hqN hqr
      go_wp2
      refine bodyPost_ret (results_cell_row rfl _ _ N SrT #[.slice av mv cv, CF] (0, 0) _ rfl HQR.out Try.underlying95 rfl (by kernel_rfl)) rfl ?_
      have hk : ss.take k = ss := List.take_of_length_le (by rw [HSL.out]; exact Nat.le_refl _)
      have hr := HROW.out
      rw [hk] at hr
      have hbb : Below w.heap.size w wr := HB3.out.trans ⟨HB.out.os, HB.out.tape, HB.out.output, HB.out.size, fun j hj => HB.out.block j (by rw [HN.out] at hj; omega) (by rw [HN.out] at hj; omega)⟩
      refine ⟨⟨_, rfl, ss, HP.out, HSO.out, ?_⟩, (hbb.setCell (p := ⟨N, 0, none⟩) (by show w.heap.size ≤ N; rw [HN.out]; exact Nat.le_refl _) _).setCell (p := ⟨N, 1, none⟩) (by show w.heap.size ≤ N; rw [HN.out]; exact Nat.le_refl _) _⟩
      exact ownsRow_base (ownsRow_setCell_below (ownsRow_setCell_below hr (by show N < base; omega) _) (by show N < base; omega) _) (by rw [HN.out]; omega)

end Go.Proofs.Ytidmlppbmcphbaa

/- The contract of slices.DeleteFunc at 'isZero'. -/

namespace Go.Proofs.Ytidmlppbmcphbaa
open Go.RowKit Go.Shelf

/-- A shorter slice of the same row. -/
theorem ownsRow_shorter {w : World} {base : Nat} {e : TypeId} {size g n k cap : Nat} {xs : List Value} (h : w.ownsRow base e size (.slice (some ⟨g, 0, none⟩) n cap) n xs) (hk : k ≤ n) :
    w.ownsRow base e size (.slice (some ⟨g, 0, none⟩) k cap) k (xs.take (k * size)) := by
  have hks : k * size ≤ n * size := Nat.mul_le_mul_right _ hk
  rcases h.2 with ⟨h', _⟩ | ⟨g', cap', cur, h', hb, hg, hnc, hcm, hcs, htake⟩
  · simp at h'
  · simp only [Value.slice.injEq, Option.some.injEq, Addr.mk.injEq, and_true, true_and] at h'
    obtain ⟨rfl, rfl⟩ := h'
    refine ⟨by rw [List.length_take, h.1]; omega, .inr ⟨g, cap, cur, rfl, hb, hg, by omega, hcm, hcs, ?_⟩⟩
    rw [← htake, List.take_take, Nat.min_eq_left hks]
/-- Stores behind the first m cells. -/
theorem ownsRow_behind {base : Nat} {e : TypeId} {size g n cap m : Nat} : ∀ (vs : List Value) (o : Nat) {w : World} {xs : List Value}, w.ownsRow base e size (.slice (some ⟨g, 0, none⟩) n cap) n xs → m ≤ o →
    ∃ ys, (w.setCells g o vs).ownsRow base e size (.slice (some ⟨g, 0, none⟩) n cap) n ys ∧ ys.take m = xs.take m
  | [], _, _, xs, h, _ => ⟨xs, h, rfl⟩
  | v :: r, o, w, xs, h, hm => by
    obtain ⟨ys, h1, h2⟩ := ownsRow_behind (m := m) r (o + 1) (h.stored o v).1 (by omega)
    refine ⟨ys, h1, h2.trans ?_⟩
    rw [List.take_set, List.set_eq_of_length_le (by rw [List.length_take]; omega)]
theorem below_cells {B g : Nat} (hg : B ≤ g) : ∀ (vs : List Value) (o : Nat) {w0 w : World}, Below B w0 w → Below B w0 (w.setCells g o vs)
  | [], _, _, _, h => h
  | v :: r, o, _, _, h => below_cells hg r (o + 1) (h.setCell (p := ⟨g, o, none⟩) hg v)

/-- 'clear' at a slice of terms. -/
theorem clear_terms {P : Program} (w : World) (t : TypeId) (ht : P.underlying t = some (.slice TI)) (hv : ∀ w, (zeroValue TI).run P w = .ok (.agg #[.int .i64 0, .string ByteArray.empty]) w) (b o n c : Nat) (hn : 0 < n)
    (hc : ∀ j, j < n * 2 → (w.cell? ⟨b, o + j, none⟩).isSome = true) (hf : ∀ j, w.frozen? ⟨b, j, none⟩ = false) :
    ∃ vs, ∀ ty, (Builtin.clear_ #[t] ty #[.slice (some ⟨b, o, none⟩) n c]).run P w = .ok (.tuple #[]) (w.setCells b o vs) := by
  refine ⟨(Builtin.zeroCells #[.int .i64 0, .string ByteArray.empty] n).toList, fun ty => ?_⟩
  have hlen : (Builtin.zeroCells #[.int .i64 0, .string ByteArray.empty] n).toList.length = n * 2 := by simp [Builtin.zeroCells]
  have hst := run_storeCells_cells (P := P) b o (Builtin.zeroCells #[.int .i64 0, .string ByteArray.empty] n).toList 0 w (by rw [hlen]; simpa using hc) (fun j _ => hf _) (by
    intro u hu
    simp only [Builtin.zeroCells, Array.toList_map, List.mem_map] at hu
    obtain ⟨i, _, rfl⟩ := hu
    have h2 : i % 2 < 2 := Nat.mod_lt _ (by omega)
    rcases (by omega : i % 2 = 0 ∨ i % 2 = 1) with h | h
    · simp [h, Value.oneCell']
    · simp [h, Value.oneCell'])
  simp only [Nat.add_zero] at hst
  obtain ⟨m, rfl⟩ : ∃ m, n = m + 1 := ⟨n - 1, by omega⟩
  simp [Builtin.clear_, run_underlying ht, hv, Value.cells, hst]

abbrev nzT (ts : List Tm) : List Tm := ts.filter fun t => !(t.c == 0)
theorem nzT_all {ts : List Tm} (h : ∀ j (h : j < ts.length), ts[j].c ≠ 0) : nzT ts = ts := by
  refine List.filter_eq_self.2 fun t ht => ?_
  obtain ⟨j, hj, rfl⟩ := List.getElem_of_mem ht
  simpa using h j hj
theorem nzT_first {ts : List Tm} {i : Nat} (hi : i < ts.length) (h0 : ts[i].c = 0) (h : ∀ j (h : j < i), ts[j].c ≠ 0) : nzT (ts.take (i + 1)) = ts.take i := by
  rw [List.take_add_one, List.getElem?_eq_getElem hi]
  unfold nzT
  rw [List.filter_append]
  have h1 : (ts.take i).filter (fun t => !(t.c == 0)) = ts.take i := nzT_all fun j hj => by
    rw [List.length_take] at hj
    rw [List.getElem_take]
    exact h j (by omega)
  rw [h1]
  simp [h0]
theorem nzT_step {ts : List Tm} {j : Nat} {t : Tm} (hj : j < ts.length) (ht : ts[j] = t) : nzT (ts.take (j + 1)) = nzT (ts.take j) ++ (if t.c = 0 then [] else [t]) := by
  rw [List.take_add_one, List.getElem?_eq_getElem hj]
  unfold nzT
  rw [List.filter_append, ht]
  by_cases h : t.c = 0 <;> simp [h]
theorem nzT_len (ts : List Tm) (j : Nat) : (nzT (ts.take j)).length ≤ j := Nat.le_trans (List.length_filter_le _ _) (by rw [List.length_take]; omega)

/-- The terms kept so far, and the rest as it was. -/
structure Kept (base : Nat) (w : World) (g cap n i j : Nat) (ts us : List Tm) : Prop where
  own : w.ownsRow base TI 2 (.slice (some ⟨g, 0, none⟩) n cap) n (termsV us)
  len : us.length = n
  head : us.take i = nzT (ts.take j)
  tail : us.drop j = ts.drop j
  hi : i < j
  hj : j ≤ n
theorem Kept.below {base : Nat} {w w' : World} {g cap n i j : Nat} {ts us : List Tm} (h : Kept base w g cap n i j ts us) (hb : Below w.heap.size w w') : Kept base w' g cap n i j ts us :=
  ⟨by have := h.own; rw [← h.len] at this ⊢; exact OwnT.below this hb, h.len, h.head, h.tail, h.hi, h.hj⟩
theorem Kept.at_ {base : Nat} {w : World} {g cap n i j : Nat} {ts us : List Tm} (h : Kept base w g cap n i j ts us) (hjn : j < n) (hz : j < ts.length) :
    w.cell? ⟨g, j * 2, none⟩ = some (.int .i64 ts[j].c) ∧ w.cell? ⟨g, j * 2 + 1, none⟩ = some (.string ts[j].s) := by
  have hta := termsAt_of_owns (ts := us) (g := g) (cap := cap) rfl (by rw [h.len]; exact h.own)
  have hju : j < us.length := by rw [h.len]; exact hjn
  obtain ⟨h1, h2⟩ := hta.2 j hju
  have e : us[j] = ts[j] := by
    have := congrArg (·[0]?) h.tail
    simp only [List.getElem?_drop, Nat.add_zero, List.getElem?_eq_getElem hju, List.getElem?_eq_getElem hz] at this
    exact Option.some.inj this
  rw [e] at h1 h2
  rw [add_off] at h1 h2
  exact ⟨h1, h2⟩
theorem set_terms (us : List Tm) (i : Nat) (t : Tm) (hi : i < us.length) : ((termsV us).set (i * 2) (.int .i64 t.c)).set (i * 2 + 1) (.string t.s) = termsV (us.set i t) := by
  have e : us = us.take i ++ us[i] :: us.drop (i + 1) := by rw [List.getElem_cons_drop]; exact (List.take_append_drop i us).symm
  have hl : (termsV (us.take i)).length = i * 2 := by rw [termsV_len, List.length_take, Nat.min_eq_left (by omega)]
  have hset : us.set i t = us.take i ++ t :: us.drop (i + 1) := by rw [List.set_eq_take_append_cons_drop, if_pos hi]
  rw [hset]
  have e2 : termsV us = termsV (us.take i) ++ .int .i64 us[i].c :: .string us[i].s :: termsV (us.drop (i + 1)) := by
    rw [← termsV_cons, ← termsV_append, ← e]
  rw [e2, termsV_append, termsV_cons, List.set_append_right _ _ (by omega), List.set_append_right _ _ (by omega), hl, Nat.sub_self, show i * 2 + 1 - i * 2 = 1 by omega]
  rfl
theorem Kept.keep {base : Nat} {w : World} {g cap n i j : Nat} {ts us : List Tm} {t : Tm} (h : Kept base w g cap n i j ts us) (hz : j < ts.length) (hjn : j < n) (ht : ts[j] = t) (hc : t.c ≠ 0) :
    Kept base ((w.setCell ⟨g, i * 2, none⟩ (.int .i64 t.c)).setCell ⟨g, i * 2 + 1, none⟩ (.string t.s)) g cap n (i + 1) (j + 1) ts (us.set i t) := by
  have hiu : i < us.length := by rw [h.len]; have := h.hi; omega
  refine ⟨?_, by rw [List.length_set]; exact h.len, ?_, ?_, by have := h.hi; omega, by omega⟩
  · rw [← set_terms us i t hiu]
    exact ((h.own.stored (i * 2) (.int .i64 t.c)).1.stored (i * 2 + 1) (.string t.s)).1
  · rw [nzT_step hz ht, if_neg hc, ← h.head, List.take_add_one, List.getElem?_set_self hiu, List.take_set, List.set_eq_of_length_le (by rw [List.length_take]; omega)]
    rfl
  · have := congrArg (List.drop 1) h.tail
    rw [List.drop_drop, List.drop_drop] at this
    rw [List.drop_set, if_pos (by have := h.hi; omega)]
    exact this
theorem Kept.skip {base : Nat} {w : World} {g cap n i j : Nat} {ts us : List Tm} {t : Tm} (h : Kept base w g cap n i j ts us) (hz : j < ts.length) (hjn : j < n) (ht : ts[j] = t) (hc : t.c = 0) : Kept base w g cap n i (j + 1) ts us := by
  refine ⟨h.own, h.len, ?_, ?_, by have := h.hi; omega, by omega⟩
  · rw [nzT_step hz ht, if_pos hc, List.append_nil]; exact h.head
  · have := congrArg (List.drop 1) h.tail
    rw [List.drop_drop, List.drop_drop] at this
    exact this

set_option maxRecDepth 100000 in
set_option maxHeartbeats 2000000 in
theorem deleteZero_any (base : Nat) (v : Value) (ts : List Tm) (w : World) (h : OwnT base w v ts) (hsm : SmallT ts) (hbase : base ≤ w.heap.size) :
    Calls Try.prog 89 #[v, ZF] w fun e w' =>
      (∃ r, e = .returned r ∧ OwnT base w' r (nzT ts)) ∧ Below base w w' := by
  obtain ⟨a, cap, rfl, hI⟩ := h.isTerms hsm
  have hmax : ts.length ≤ maxLen := hsm.1
  unfold maxLen at hmax
  have HI := Lib.hid hI
  have HO := Lib.hid h
  obtain ⟨n, hn⟩ : ∃ n, ts.length = n := ⟨_, rfl⟩
  rw [hn] at hmax HI HO ⊢
  have HN := Lib.hid hn
  clear hI h hsm hn
  go_enter Try.func89, Try.ntmps89
  go_wp2_with fail
  refine (indexZero_any a cap n ts _ HI.out).mono ?_
  rintro e w2 ⟨⟨r, rfl, hr⟩, hb2⟩
  have HB2 := Lib.hid hb2
  rcases hr with ⟨rfl, hall⟩ | ⟨i, hi, rfl, hz, hbef⟩
  · have HA := Lib.hid hall
    clear hall hb2
    go_wp2
    go_ret
    refine ⟨⟨_, rfl, ?_⟩, HB2.out.mono hbase⟩
    rw [nzT_all HA.out]
    have := HO.out.below HB2.out
    exact this
  · have hin : i < n := by rw [← HN.out]; exact hi
    have hd : decide ((i : Int) = -1) = false := by simp
    obtain ⟨g, rfl, hg⟩ : ∃ g, a = some ⟨g, 0, none⟩ ∧ base ≤ g := by
      rcases HO.out.2 with ⟨_, e1⟩ | ⟨g, cap1, cur, e0, hg, _⟩
      · rw [HN.out] at e1; omega
      · simp only [Value.slice.injEq] at e0; exact ⟨g, e0.1, hg⟩
    have hok : (w2.ownsRow base TI 2 (.slice (some ⟨g, 0, none⟩) n cap) n (termsV ts)) := by
      have := HO.out.below HB2.out
      unfold OwnT at this
      rw [HN.out] at this
      exact this
    have hcap : n ≤ cap := (ownsRow_cap hok).1
    have hcm : cap ≤ 2 ^ 63 - 1 := (ownsRow_cap hok).2.1
    have hk0 : Kept base w2 g cap n i (i + 1) ts ts := ⟨hok, HN.out, (nzT_first hi hz hbef).symm, rfl, by omega, by omega⟩
    have HK0 := Lib.hid hk0
    have HBB := Lib.hid (HB2.out.mono hbase)
    clear hz hbef hb2 hok hk0 hi
    go_wp2_with fail
    go_loopw [5, 6] (fun p q wr => ∃ (i j : Nat) (us : List Tm), p = .int .i64 i ∧ q = .int .i64 j ∧ Hid (Kept base wr g cap n i j ts us) ∧ i < j ∧ j ≤ n ∧ Hid (Below base w wr)) (fun _ q _ => n - (intOf q).toNat)
    case atStart => exact ⟨i, i + 1, ts, rfl, by go_num, HK0, by omega, by omega, HBB⟩
    case round =>
      obtain ⟨i, j, us, rfl, rfl, HK, hij, hjn, HB⟩ := hrel
      by_cases hlt : j < n
      · have hjz : j < ts.length := by rw [HN.out]; exact hlt
        obtain ⟨t, ht⟩ : ∃ t, ts[j] = t := ⟨_, rfl⟩
        obtain ⟨c0, c1⟩ := HK.out.at_ hlt hjz
        rw [ht] at c0 c1
        have HT := Lib.hid ht
        have hgw : g < wr.heap.size := (ownsRow_cap HK.out.own).2.2.2
        have hbw : base ≤ wr.heap.size := by omega
        clear ht
        go_wp2_with fail
        refine (isZero_any t _).mono ?_
        rintro e w4 ⟨rfl, hg4⟩
        have hb4 := hg4.below
        have hbw4 : Below wr.heap.size wr w4 := ((Below.refl _ wr).alloc (Nat.le_refl _) _).trans (hb4.mono (by simp))
        have hK4 := HK.out.below hbw4
        have HB4 := Lib.hid (HB.out.trans (hbw4.mono hbw))
        have hxb : (wr.alloc (.cells #[.int .i64 t.c, .string t.s] TI)).heap[wr.heap.size]? = some (.cells #[.int .i64 t.c, .string t.s] TI (0, 0)) := World.alloc_heap_new _ _
        have hxb4 := (hb4.block wr.heap.size (by simp)).trans hxb
        have d0 : w4.cell? ⟨wr.heap.size, 0, none⟩ = some (.int .i64 t.c) := by unfold World.cell?; rw [hxb4]; rfl
        have d1 : w4.cell? ⟨wr.heap.size, 1, none⟩ = some (.string t.s) := by unfold World.cell?; rw [hxb4]; rfl
        have hlu : (termsV us).length = n * 2 := by rw [termsV_len, hK4.len]
        have hd0 : ∃ u, w4.cell? ⟨g, i * 2, none⟩ = some u := by rw [hK4.own.cellAt _ (by omega)]; exact ⟨_, List.getElem?_eq_getElem (by omega)⟩
        have hd1 : ∃ u, w4.cell? ⟨g, i * 2 + 1, none⟩ = some u := by rw [hK4.own.cellAt _ (by omega)]; exact ⟨_, List.getElem?_eq_getElem (by omega)⟩
        obtain ⟨u0, hu0⟩ := hd0
        obtain ⟨u1, hu1⟩ := hd1
        have hf0 := hK4.own.frozenAt (i * 2)
        have hf1 := hK4.own.frozenAt (i * 2 + 1)
        have hin2 : i < n := by omega
        have HK4 := Lib.hid hK4
        clear hg4 hb4 hbw4 hK4 hxb hxb4 hlu c0 c1
        by_cases hz : t.c = 0
        · have hzb : (t.c == 0) = true := by simpa using hz
          have HZ := Lib.hid hz
          clear hz
          go_wp2
          go_roundw
          case rel =>
            refine ⟨_, _, _, _, _, _, _, _, _, _, _, _, _, _, _, _, _, _, _, _, _, _, _, ?_, rfl⟩
            exact ⟨i, j + 1, us, rfl, by go_num, Lib.hid (HK4.out.skip hjz hlt HT.out HZ.out), by omega, by omega, HB4⟩
          case measure => simp [intOf]; omega
        · have hzb : (t.c == 0) = false := by simpa using hz
          have HZ := Lib.hid hz
          clear hz
          go_wp2
          go_roundw
          case rel =>
            refine ⟨_, _, _, _, _, _, _, _, _, _, _, _, _, _, _, _, _, _, _, _, _, _, _, ?_, rfl⟩
            exact ⟨i + 1, j + 1, us.set i t, by go_num, by go_num, Lib.hid (HK4.out.keep hjz hlt HT.out HZ.out), by omega, by omega, Lib.hid ((HB4.out.setCell (p := ⟨g, i * 2, none⟩) hg _).setCell (p := ⟨g, i * 2 + 1, none⟩) hg _)⟩
          case measure => simp [intOf]; omega
      · obtain rfl : j = n := by omega
        obtain ⟨i0, hi, hz0, hz1, hz2⟩ := info_parts infoTerm
        have hzv : ∀ w, (zeroValue TI).run Try.prog w = .ok (.agg #[.int .i64 0, .string ByteArray.empty]) w := fun w => by simp [zeroValue, typeInfo, hi, hz0]
        have hlu : (termsV us).length = j * 2 := by rw [termsV_len, HK.out.len]
        obtain ⟨vs, hcl⟩ := clear_terms (P := Try.prog) wr 25 Try.underlying25 hzv g (i * 2) (j - i) (cap - i) (by omega)
          (fun m hm => by rw [HK.out.own.cellAt _ (by omega), List.getElem?_eq_getElem (by omega)]; rfl) (fun m => HK.out.own.frozenAt m)
        clear hi hz0 hz1 hz2 hzv hlu
        go_wp2
        go_ret
        obtain ⟨ys, h1, h2⟩ := ownsRow_behind (m := i * 2) vs (i * 2) HK.out.own (Nat.le_refl _)
        have h3 := ownsRow_shorter (k := i) h1 (by omega)
        refine ⟨⟨_, rfl, ?_⟩, below_cells hg vs _ HB.out⟩
        have hnz : nzT ts = us.take i := by rw [HK.out.head, List.take_of_length_le (by rw [HN.out]; exact Nat.le_refl _)]
        have hl : (us.take i).length = i := by rw [List.length_take, HK.out.len]; omega
        have ht : (termsV us).take (i * 2) = termsV (us.take i) := by
          have e : us = us.take i ++ us.drop i := (List.take_append_drop i us).symm
          conv => lhs; rw [e]
          rw [termsV_append, List.take_append_of_le_length (by rw [termsV_len, hl]; exact Nat.le_refl _), List.take_of_length_le (by rw [termsV_len, hl]; exact Nat.le_refl _)]
        rw [h2, ht] at h3
        unfold OwnT
        rw [hnz, hl]
        exact h3

end Go.Proofs.Ytidmlppbmcphbaa

/- The contracts of the program's 'toldSum' and 'SumOf'. -/

namespace Go.Proofs.Ytidmlppbmcphbaa
open Go.RowKit Go.Shelf

/-- What a call of the program answers that tells a sum. -/
def ITold (w : World) (b : Bool) (us : List Tm) (e : Ending) (w' : World) : Prop := (∃ v', e = .returned (.tuple #[v', .bool b]) ∧ OwnT w.heap.size w' v' (cond b us [])) ∧ Below w.heap.size w w'
theorem ownNil (base : Nat) (w : World) : OwnT base w (.slice none 0 0) [] := ⟨rfl, .inl ⟨rfl, rfl⟩⟩
/-- Terms that may be gathered: not too many, not too great, their words of whatever length. -/
theorem filter_small {ts : List Tm} {p : Tm → Bool} (h : SmallT ts) : SmallT (ts.filter p) :=
  ⟨Nat.le_trans (List.length_filter_le _ _) h.1, fun t ht => h.2 t (List.mem_filter.1 ht).1⟩
theorem push_words {acc : List Tm} {t : Tm} {M : Nat} (h : ∀ u ∈ acc, u.s.size ≤ M) (ht : t.s.size ≤ M) : ∀ u ∈ pushT acc t, u.s.size ≤ M := by
  intro u hu
  rcases List.eq_nil_or_concat acc with rfl | ⟨b, l, rfl⟩
  · rw [push_nil] at hu; rw [List.mem_singleton.1 hu]; exact ht
  · rw [List.concat_eq_append] at *
    rw [push_last] at hu
    have hl := h l (by simp)
    split at hu
    · rcases List.mem_append.1 hu with hu | hu
      · exact h u (by simp [hu])
      · rw [List.mem_singleton.1 hu]; exact hl
    · rcases List.mem_append.1 hu with hu | hu
      · exact h u hu
      · rw [List.mem_singleton.1 hu]; exact ht
theorem merge_words {M : Nat} : ∀ (ts acc : List Tm), (∀ u ∈ acc, u.s.size ≤ M) → (∀ u ∈ ts, u.s.size ≤ M) → ∀ u ∈ ts.foldl pushT acc, u.s.size ≤ M
  | [], _, h, _ => h
  | t :: r, acc, h, ht => merge_words r (pushT acc t) (push_words h (ht t (by simp))) (fun u hu => ht u (by simp [hu]))
theorem merge_small {ts : List Tm} (hn : ts.length ≤ 100000) (hc : ∀ t ∈ ts, -1000000000000 ≤ t.c ∧ t.c ≤ 1000000000000) (hs : ∀ t ∈ ts, t.s.size ≤ maxLen) : SmallT (mergeT ts) := by
  have h1 := merge_len ts ts.length
  have h2 := merge_bnd (C := 1000000000000) (by omega) hc ts.length
  rw [merge_all] at h1 h2
  refine ⟨by unfold maxLen; omega, fun t ht => ⟨merge_words ts [] (fun u h => by cases h) hs t ht, ?_⟩⟩
  have := h2 t ht
  omega

set_option maxRecDepth 100000 in
set_option maxHeartbeats 1000000 in
theorem toldSum_any (a : Option Addr) (cap n : Nat) (ts : List Tm) (b : Bool) (w : World) (hs : IsTerms w a n ts) (hn : n ≤ 100000) (hc : ∀ t ∈ ts, -1000000000000 ≤ t.c ∧ t.c ≤ 1000000000000) (hb : twB (canonT ts) = b) :
    Calls Try.prog 63 #[.slice a n cap] w (ITold w b (canonT ts)) := by
  have HS := Lib.hid hs
  have HC := Lib.hid hc
  have HBB := Lib.hid hb
  clear hs hc hb
  go_enter Try.func63, Try.ntmps63
  go_wp2_with fail
  refine (gathered_any a cap n ts _ HS.out hn HC.out).mono ?_
  rintro e w1 ⟨⟨v, rfl, ss, hp, hso, ho⟩, hb1⟩
  obtain ⟨av, mv, cv, rfl⟩ : ∃ a m c, v = .slice a m c := by
    rcases ho.2 with ⟨rfl, _⟩ | ⟨g, cap, cur, rfl, _⟩
    · exact ⟨_, _, _, rfl⟩
    · exact ⟨_, _, _, rfl⟩
  have hss : SmallT (mergeT ss) := merge_small (by rw [hp.length_eq, HS.out.len]; exact hn) (fun t ht => HC.out t (hp.mem_iff.1 ht)) (fun t ht => (HS.out.small t (hp.mem_iff.1 ht)).1)
  have heq : nzT (mergeT ss) = canonT ts := gathered_eq hp hso
  have hsc : SmallT (canonT ts) := by rw [← heq]; exact filter_small hss
  have hdel := deleteZero_any w.heap.size (.slice av mv cv) (mergeT ss) w1 ho hss hb1.size
  rw [heq] at hdel
  have HD := Lib.hid hdel
  have hfield : (Instr.field SrT (.agg #[.slice av mv cv, CF]) 0).run Try.prog w1 = .ok (.slice av mv cv) w1 := by
    simp [Instr.field, run_underlying Try.underlying95, part, run_isAgg_plain Try.underlying25 rfl, asAgg, Result.andThen]
  have HSC := Lib.hid hsc
  have HB1 := Lib.hid hb1
  clear hp hso ho hss heq hsc hdel hb1
  go_wp2_with fail
  refine HD.out.mono ?_
  rintro e w2 ⟨⟨r, rfl, ho⟩, hb2⟩
  obtain ⟨ar, cr, rfl, hI⟩ := ho.isTerms HSC.out
  have HO := Lib.hid ho
  have HI := Lib.hid hI
  have HB2 := Lib.hid (HB1.out.trans hb2)
  clear ho hI hb2
  go_wp2_with fail
  refine (termWords_any ar cr _ (canonT ts) _ HI.out).mono ?_
  rintro e w3 ⟨⟨rfl, hf⟩ | ⟨g, vals, rfl, hf, _, _⟩, hb3⟩
  · obtain rfl : b = false := by rw [← HBB.out, hf]
    have HB3 := Lib.hid hb3
    clear hb3 hf
    go_wp2
    go_ret2
    exact ⟨⟨_, rfl, ownNil _ _⟩, HB2.out.trans (HB3.out.mono HB2.out.size)⟩
  · obtain rfl : b = true := by rw [← HBB.out, hf]
    have HB3 := Lib.hid hb3
    clear hb3 hf
    go_wp2
    go_ret2
    exact ⟨⟨_, rfl, HO.out.below HB3.out⟩, HB2.out.trans (HB3.out.mono HB2.out.size)⟩

set_option maxRecDepth 100000 in
set_option maxHeartbeats 1000000 in
theorem iSumOf_any (a : Option Addr) (cap n : Nat) (ts : List Tm) (b : Bool) (w : World) (hs : IsTerms w a n ts) (hb : ofB ts = b) :
    Calls Try.prog 21 #[.slice a n cap] w (ITold w b (canonT ts)) := by
  have HS := Lib.hid hs
  have HBB := Lib.hid hb
  clear hs hb
  go_enter Try.func21, Try.ntmps21
  go_wp2_with fail
  refine (termWords_any a cap n ts _ HS.out).mono ?_
  rintro e w3 ⟨⟨rfl, hf⟩ | ⟨g, vals, rfl, hf, _, _⟩, hb3⟩
  · obtain rfl : b = false := by rw [← HBB.out, ofB, hf]; rfl
    have HB3 := Lib.hid hb3
    clear hb3 hf
    go_wp2
    go_ret2
    exact ⟨⟨_, rfl, ownNil _ _⟩, HB3.out⟩
  · have hcl := canon_len_words hf
    have hn : n ≤ 100000 := by rw [← HS.out.len]; omega
    have hbb : twB (canonT ts) = b := by rw [← HBB.out, ofB, hf, Bool.true_and, sumB_canon (canon_of ts)]
    have htold := toldSum_any a cap n ts b w3 (HS.out.below hb3) hn (fun t ht => by have := (termB_iff (hcl.2 t ht)).2; omega) hbb
    have HT := Lib.hid htold
    have HB3 := Lib.hid hb3
    clear hb3 hf hcl hn hbb htold
    go_wp2_with fail
    refine HT.out.mono ?_
    rintro e w4 ⟨⟨v', rfl, ho⟩, hb4⟩
    have HO := Lib.hid ho
    have HB4 := Lib.hid hb4
    clear ho hb4
    go_wp2
    go_ret2
    exact ⟨⟨_, rfl, HO.out.mono HB3.out.size⟩, HB3.out.trans (HB4.out.mono HB3.out.size)⟩

end Go.Proofs.Ytidmlppbmcphbaa

/- The contracts of the program's 'SumAdd'; both SumAdds as a law wants them. -/

namespace Go.Proofs.Ytidmlppbmcphbaa
open Go.RowKit Go.Shelf

theorem sumB_small {x : List Tm} (h : sumB x = true) : x.length ≤ 300 ∧ (∀ t ∈ x, t.s.size ≤ 60 ∧ -1000000 ≤ t.c ∧ t.c ≤ 1000000) ∧ SmallT x := by
  obtain ⟨h1, h2⟩ := canon_len_words (sumB_parts h).1
  have h3 : ∀ t ∈ x, t.s.size ≤ 60 ∧ -1000000 ≤ t.c ∧ t.c ≤ 1000000 := fun t ht => termB_iff (h2 t ht)
  exact ⟨h1, h3, by unfold maxLen; omega, fun t ht => by have := h3 t ht; unfold maxLen; omega⟩
theorem told_small {b : Bool} {L us : List Tm} (h : b = true → twB L = true) (hus : cond b L [] = us) : SmallT us ∧ us.length ≤ 300 := by
  cases b with
  | false => subst hus; exact ⟨⟨Nat.zero_le _, fun t h => by cases h⟩, Nat.zero_le _⟩
  | true =>
    have hus : L = us := hus
    subst hus
    obtain ⟨h1, h2⟩ := canon_len_words (h rfl)
    exact ⟨⟨by unfold maxLen; omega, fun t ht => by have := termB_iff (h2 t ht); unfold maxLen; omega⟩, h1⟩

set_option maxRecDepth 100000 in
set_option maxHeartbeats 4000000 in
theorem iSumAdd_no (a1 a2 : Option Addr) (c1 c2 n m : Nat) (x y : List Tm) (w : World) (hx : IsTerms w a1 n x) (hy : IsTerms w a2 m y) (hb : sumB x = false ∨ sumB y = false) :
    Calls Try.prog 25 #[.slice a1 n c1, .slice a2 m c2] w (ITold w false []) := by
  have HX := Lib.hid hx
  have HY := Lib.hid hy
  clear hx hy
  cases hbx : sumB x with
  | false =>
    have HBX := Lib.hid hbx
    clear hbx hb
    go_enter Try.func25, Try.ntmps25
    go_wp2_with fail
    refine (iSumIn_is a1 c1 n x false _ HX.out HBX.out).mono ?_
    rintro e w1 ⟨rfl, hb1⟩
    have HB1 := Lib.hid hb1
    clear hb1
    go_wp2
    go_ret2
    exact ⟨⟨_, rfl, ownNil _ _⟩, HB1.out⟩
  | true =>
    have hby : sumB y = false := by rcases hb with h | h; · rw [h] at hbx; cases hbx
                                    · exact h
    have HBX := Lib.hid hbx
    have HBY := Lib.hid hby
    clear hbx hby hb
    go_enter Try.func25, Try.ntmps25
    go_wp2_with fail
    refine (iSumIn_is a1 c1 n x true _ HX.out HBX.out).mono ?_
    rintro e w1 ⟨rfl, hb1⟩
    have HB1 := Lib.hid hb1
    clear hb1
    go_wp2_with fail
    refine (iSumIn_is a2 c2 m y false _ (HY.out.below HB1.out) HBY.out).mono ?_
    rintro e w2 ⟨rfl, hb2⟩
    have HB2 := Lib.hid (HB1.out.trans (hb2.mono HB1.out.size))
    clear hb2
    go_wp2
    go_ret2
    exact ⟨⟨_, rfl, ownNil _ _⟩, HB2.out⟩

theorem two_cells (w : World) (u v : Value) (x y : List Tm) (t : TypeId) : ∀ i (h : i < [(u, x), (v, y)].length), (w.alloc (.cells #[u, v] t)).cell? ⟨w.heap.size, i, none⟩ = some [(u, x), (v, y)][i].1 := fun i h => by
  rw [World.cell?_alloc_at _ _ _ _ rfl]
  match i, h with
  | 0, _ => rfl
  | 1, _ => rfl
theorem concat_two (u v : Value) (x y : List Tm) (w : World) (hx : PartT w u x) (hy : PartT w v y) (hs : x.length + y.length ≤ 200000) :
    Calls Try.prog 65 #[.slice (some ⟨w.heap.size, 0, none⟩) 2 2] (w.alloc (.cells #[u, v] 25)) fun e w' => (∃ r, e = .returned r ∧ OwnT w.heap.size w' r (x ++ y)) ∧ Below w.heap.size w w' := by
  have hba : Below w.heap.size w (w.alloc (.cells #[u, v] 25)) := (Below.refl _ _).alloc (Nat.le_refl _) _
  refine (concat_any w.heap.size 2 2 [(u, x), (v, y)] _ rfl (by omega) (by simp) (two_cells w u v x y _) (fun p hp => by
    simp only [List.mem_cons, List.not_mem_nil, or_false] at hp
    rcases hp with rfl | rfl
    · exact hx.below hba
    · exact hy.below hba) (by unfold lens; simp; omega)).mono ?_
  rintro e w4 ⟨⟨r, rfl, ho⟩, hb4⟩
  have hfl : flatT [(u, x), (v, y)] = x ++ y := by unfold flatT; simp
  rw [hfl] at ho
  exact ⟨⟨_, rfl, ho.mono (by simp)⟩, hba.trans (hb4.mono (by simp))⟩

set_option maxRecDepth 100000 in
set_option maxHeartbeats 4000000 in
theorem iSumAdd_yes (a1 a2 : Option Addr) (c1 c2 n m : Nat) (x y : List Tm) (b : Bool) (w : World) (hx : IsTerms w a1 n x) (hy : IsTerms w a2 m y) (px : PartT w (.slice a1 n c1) x) (py : PartT w (.slice a2 m c2) y)
    (hbx : sumB x = true) (hby : sumB y = true) (hb : twB (canonT (x ++ y)) = b) :
    Calls Try.prog 25 #[.slice a1 n c1, .slice a2 m c2] w (ITold w b (canonT (x ++ y))) := by
  obtain ⟨hlx, hwx, hsx⟩ := sumB_small hbx
  obtain ⟨hly, hwy, hsy⟩ := sumB_small hby
  have hsm : SmallT (x ++ y) := ⟨by rw [List.length_append]; unfold maxLen; omega, fun t ht => by
    rcases List.mem_append.1 ht with h | h
    · exact hsx.2 t h
    · exact hsy.2 t h⟩
  have hcf : ∀ t ∈ x ++ y, -1000000000000 ≤ t.c ∧ t.c ≤ 1000000000000 := fun t ht => by
    rcases List.mem_append.1 ht with h | h
    · have := hwx t h; omega
    · have := hwy t h; omega
  have hln : (x ++ y).length ≤ 100000 := by rw [List.length_append]; omega
  have HX := Lib.hid hx
  have HY := Lib.hid hy
  have HPX := Lib.hid px
  have HPY := Lib.hid py
  have HBX := Lib.hid hbx
  have HBY := Lib.hid hby
  have HBB := Lib.hid hb
  have HSM := Lib.hid hsm
  have HCF := Lib.hid hcf
  have HLN := Lib.hid hln
  have HLS : Hid (x.length + y.length ≤ 200000) := Lib.hid (by omega)
  clear hx hy px py hbx hby hb hlx hwx hsx hly hwy hsy hsm hcf hln
  go_enter Try.func25, Try.ntmps25
  go_wp2_with fail
  refine (iSumIn_is a1 c1 n x true _ HX.out HBX.out).mono ?_
  rintro e w1 ⟨rfl, hb1⟩
  have HB1 := Lib.hid hb1
  clear hb1
  go_wp2_with fail
  refine (iSumIn_is a2 c2 m y true _ (HY.out.below HB1.out) HBY.out).mono ?_
  rintro e w2 ⟨rfl, hb2⟩
  have HB2 := Lib.hid (HB1.out.trans (hb2.mono HB1.out.size))
  clear hb2
  go_wp2_with fail
  with_reducible refine (concat_two (.slice a1 n c1) (.slice a2 m c2) x y w2 (HPX.out.below HB2.out) (HPY.out.below HB2.out) HLS.out).mono ?_
  rintro e w4 ⟨⟨v, rfl, ho⟩, hb4⟩
  obtain ⟨av, cv, rfl, hI⟩ := ho.isTerms HSM.out
  obtain ⟨N, hN⟩ : ∃ N, (x ++ y).length = N := ⟨_, rfl⟩
  have hln := HLN.out
  rw [hN] at hI hln ⊢
  have HB4 := Lib.hid (HB2.out.trans (hb4.mono HB2.out.size))
  have htold := toldSum_any av cv N (x ++ y) b w4 hI hln HCF.out HBB.out
  have HT := Lib.hid htold
  clear ho hI hb4 htold hN
  go_wp2_with fail
  with_reducible refine HT.out.mono ?_
  rintro e w5 ⟨⟨v', rfl, ho⟩, hb5⟩
  have HO := Lib.hid ho
  have HB5 := Lib.hid hb5
  clear ho hb5
  go_wp2
  go_ret2
  exact ⟨⟨_, rfl, HO.out.mono HB4.out.size⟩, HB4.out.trans (HB5.out.mono HB4.out.size)⟩

/-! ### As a law wants them -/
theorem addB_tw {x y : List Tm} {b : Bool} (h : addB x y = b) : b = true → twB (canonT (x ++ y)) = true := by
  intro hb
  subst hb
  unfold addB at h
  simp only [Bool.and_eq_true] at h
  exact h.2.2
theorem sSumAdd_law {g1 g2 c1 c2 n m : Nat} {x y : List Tm} {b : Bool} {w : World} (hx : IsTerms w (some ⟨g1, 0, none⟩) n x) (hy : IsTerms w (some ⟨g2, 0, none⟩) m y) (hb : addB x y = b) :
    Calls Try.prog 24 #[.slice (some ⟨g1, 0, none⟩) n c1, .slice (some ⟨g2, 0, none⟩) m c2] w (STold w b (canonT (x ++ y))) := by
  unfold addB at hb
  cases hbx : sumB x with
  | false => rw [hbx] at hb; subst hb; exact sSumAdd_no _ _ _ _ _ _ x y w hx hy (.inl hbx)
  | true =>
    cases hby : sumB y with
    | false => rw [hbx, hby] at hb; subst hb; exact sSumAdd_no _ _ _ _ _ _ x y w hx hy (.inr hby)
    | true => rw [hbx, hby] at hb; exact sSumAdd_yes _ _ _ _ _ _ x y b w hx hy hbx hby hb
theorem iSumAdd_law {g1 g2 c1 c2 n m : Nat} {x y : List Tm} {b : Bool} {w : World} (hx : IsTerms w (some ⟨g1, 0, none⟩) n x) (hy : IsTerms w (some ⟨g2, 0, none⟩) m y) (hb : addB x y = b) :
    Calls Try.prog 25 #[.slice (some ⟨g1, 0, none⟩) n c1, .slice (some ⟨g2, 0, none⟩) m c2] w (ITold w b (canonT (x ++ y))) := by
  unfold addB at hb
  cases hbx : sumB x with
  | false => rw [hbx] at hb; subst hb; exact iSumAdd_no _ _ _ _ _ _ x y w hx hy (.inl hbx)
  | true =>
    cases hby : sumB y with
    | false => rw [hbx, hby] at hb; subst hb; exact iSumAdd_no _ _ _ _ _ _ x y w hx hy (.inr hby)
    | true => rw [hbx, hby] at hb; exact iSumAdd_yes _ _ _ _ _ _ x y b w hx hy (partT_of hx) (partT_of hy) hbx hby hb

end Go.Proofs.Ytidmlppbmcphbaa

/- The contracts of the program's 'SumTimes'; both SumTimes as a law wants them. -/

namespace Go.Proofs.Ytidmlppbmcphbaa
open Go.RowKit Go.Shelf

/-- A row of words, those of the terms. -/
def WordsAt (w : World) (g : Nat) (ts : List Tm) : Prop :=
  g < w.heap.size ∧ ∀ j (h : j < ts.length), ∃ gw cap, w.cell? ⟨g, j, none⟩ = some (.slice (some ⟨gw, 0, none⟩) ts[j].s.size cap) ∧ IsWord w.heap.size w (.slice (some ⟨gw, 0, none⟩) ts[j].s.size cap) ts[j].s.data.toList
theorem WordsAt.below {w w' : World} {g : Nat} {ts : List Tm} (h : WordsAt w g ts) (hb : Below w.heap.size w w') : WordsAt w' g ts :=
  ⟨Nat.lt_of_lt_of_le h.1 hb.size, fun j hj => by
    obtain ⟨gw, cap, h1, h2⟩ := h.2 j hj
    exact ⟨gw, cap, (hb.cell (p := ⟨g, j, none⟩) h.1).trans h1, (h2.below hb).mono hb.size⟩⟩
theorem wordsAt_of {w : World} {base lo g cap n : Nat} {vals : List Value} {ts : List Tm} (hn : ts.length = n) (h : w.ownsRow base WT 1 (.slice (some ⟨g, 0, none⟩) n cap) n vals) (hv : ∀ j (h : j < ts.length) v, vals[j]? = some v → WordAt lo w v ts[j].s.data.toList) : WordsAt w g ts :=
  ⟨(ownsRow_cap h).2.2.2, fun j hj => by
    have hl := h.1
    rw [Nat.mul_one] at hl
    have hjv : j < vals.length := by omega
    have hw := hv j hj vals[j] (List.getElem?_eq_getElem hjv)
    have hi := hw.isWord
    obtain ⟨gw, cp, e⟩ := hw.slice
    have hsz : ts[j].s.data.toList.length = ts[j].s.size := by simp
    rw [hsz] at e
    refine ⟨gw, cp, ?_, by rw [← e]; exact hi⟩
    rw [h.cellAt j (by omega), List.getElem?_eq_getElem hjv, e]⟩

theorem reduced_boxes0 (w : World) (its : List Item) (hG : ∀ it ∈ its, Gives it ∧ IsWord w.heap.size w it.sv it.L) (hl : (its.map Item.xs).flatten.length ≤ 100000000) (hn : its.length ≤ 1000000) :
    Calls Try.prog 67 #[.slice (some ⟨w.heap.size + its.length, 0, none⟩) its.length its.length] ((boxes w its).alloc (.cells (funcs w.heap.size its).toArray IT)) fun e w' =>
      ∃ g m cap', e = .returned (.slice (some ⟨g, 0, none⟩) m cap') ∧ (redX [] (its.map Item.xs).flatten).length = m ∧ w'.ownsRow w.heap.size 106 1 (.slice (some ⟨g, 0, none⟩) m cap') m (bytesV (redX [] (its.map Item.xs).flatten)) ∧ Below w.heap.size w w' := by
  have hbw := boxes_below its w
  have hsz := boxes_size its w
  have hbW : Below w.heap.size w ((boxes w its).alloc (.cells (funcs w.heap.size its).toArray IT)) := hbw.alloc (by omega) _
  have hr := reduced_in 20 (by omega) (some ⟨w.heap.size + its.length, 0, none⟩) (w.heap.size + its.length) 0 its.length (partsOf w.heap.size its) ((boxes w its).alloc (.cells (funcs w.heap.size its).toArray IT)) (fun _ => rfl)
    (by simp; omega)
    (fun i h => by
      rw [World.cell?_alloc_at _ _ _ _ (by show _ = _; omega)]
      rw [Nat.zero_add, List.getElem?_toArray]
      exact funcs_get its _ i h)
    (fun p hp => by
      obtain ⟨it, hm, B, rfl, hB, hc⟩ := parts_mem its w p hp
      obtain ⟨hg, hw⟩ := hG it hm
      refine ⟨hg.1 _ B _ ?_ (Nat.le_refl _) (cell_past hc _) ((hw.below hbW).mono ?_), hg.2⟩
      · simp; omega
      · simp; omega)
    (by rw [cat_parts]; exact hl) (by rw [partsOf_len]; exact hn)
  rw [cat_parts, partsOf_len] at hr
  refine ((callsIn_wide (n := 20)).1 hr).mono ?_
  rintro e w' ⟨g, m, cap', rfl, hm, hown, hb⟩
  have hsW : w.heap.size ≤ ((boxes w its).alloc (.cells (funcs w.heap.size its).toArray IT)).heap.size := hbW.size
  exact ⟨g, m, cap', rfl, hm, ownsRow_base hown hsW, hbW.trans (hb.mono hsW)⟩

/-- Two words, one behind the other. -/
theorem reduced_two (g1 g2 n1 n2 c1 c2 : Nat) (s1 s2 : ByteArray) (w : World) (h1 : wordB s1.data.toList = true) (h2 : wordB s2.data.toList = true) (i1 : IsWord w.heap.size w (.slice (some ⟨g1, 0, none⟩) n1 c1) s1.data.toList) (i2 : IsWord w.heap.size w (.slice (some ⟨g2, 0, none⟩) n2 c2) s2.data.toList) :
    Calls Try.prog 67 #[.slice (some ⟨w.heap.size + 2, 0, none⟩) 2 2]
      (((w.alloc (.cells #[.slice (some ⟨g1, 0, none⟩) n1 c1] WT)).alloc (.cells #[.slice (some ⟨g2, 0, none⟩) n2 c2] WT)).alloc (.cells #[.func (.func 115) #[] #[.pointer (some ⟨w.heap.size, 0, none⟩)], .func (.func 115) #[] #[.pointer (some ⟨w.heap.size + 1, 0, none⟩)]] IT)) fun e w' =>
      ∃ g m cap', e = .returned (.slice (some ⟨g, 0, none⟩) m cap') ∧ (redL [] (s1.data.toList ++ s2.data.toList)).length = m ∧ m ≤ 1000 ∧ w'.ownsRow w.heap.size 106 1 (.slice (some ⟨g, 0, none⟩) m cap') m (bytesV (redL [] (s1.data.toList ++ s2.data.toList))) ∧ Below w.heap.size w w' := by
  obtain ⟨p1, p2, _⟩ := (wordB_iff _).1 h1
  obtain ⟨q1, q2, _⟩ := (wordB_iff _).1 h2
  have hr : redX [] (s1.data.toList ++ (s2.data.toList ++ [])) = redL [] (s1.data.toList ++ s2.data.toList) := by
    rw [List.append_nil]; exact redX_eq _ _ (by rw [letL_append, p2, q2]; rfl)
  have hrd := reduced_boxes0 w [⟨115, .slice (some ⟨g1, 0, none⟩) n1 c1, s1.data.toList, s1.data.toList⟩, ⟨115, .slice (some ⟨g2, 0, none⟩) n2 c2, s2.data.toList, s2.data.toList⟩]
    (fun it hit => by
      rcases List.mem_cons.1 hit with rfl | hit
      · exact ⟨gives_fwd _ _, i1⟩
      · obtain rfl := List.mem_singleton.1 hit; exact ⟨gives_fwd _ _, i2⟩) (by simp only [List.map_cons, List.map_nil, List.flatten_cons, List.flatten_nil, List.length_append, List.length_nil]; omega) (by simp)
  simp only [List.map_cons, List.map_nil, List.flatten_cons, List.flatten_nil, hr] at hrd
  refine hrd.mono ?_
  rintro e w' ⟨g, m, cap', h1, h2, h3, h4⟩
  refine ⟨g, m, cap', h1, h2, ?_, h3, h4⟩
  have := redL_len (s1.data.toList ++ s2.data.toList) []
  rw [List.length_append] at this
  simp only [List.length_nil] at this
  omega

def prodB (x y : List Tm) : Bool := sumB x && (sumB y && (fitB (pairsT x y) && twB (canonT (pairsT x y))))

set_option maxRecDepth 100000 in
set_option maxHeartbeats 4000000 in
theorem iSumTimes_no (a1 a2 : Option Addr) (c1 c2 n m : Nat) (x y : List Tm) (w : World) (hx : IsTerms w a1 n x) (hy : IsTerms w a2 m y) (hb : sumB x = false ∨ sumB y = false) :
    Calls Try.prog 27 #[.slice a1 n c1, .slice a2 m c2] w (ITold w false []) := by
  have HX := Lib.hid hx
  have HY := Lib.hid hy
  have HBB := Lib.hid hb
  clear hx hy hb
  go_enter Try.func27, Try.ntmps27
  go_wp2_with fail
  refine (sumWords_any a1 c1 n x _ HX.out).mono ?_
  rintro e w1 ⟨⟨rfl, hf⟩ | ⟨g, vals, rfl, hf, _, _⟩, hb1⟩
  · have HB1 := Lib.hid hb1
    clear hb1 hf
    go_wp2
    go_ret2
    exact ⟨⟨_, rfl, ownNil _ _⟩, HB1.out⟩
  · have HB1 := Lib.hid hb1
    have hby : sumB y = false := by rcases HBB.out with h | h; · rw [h] at hf; cases hf
                                    · exact h
    have HBY := Lib.hid hby
    clear hb1 hf hby
    go_wp2_with fail
    refine (sumWords_any a2 c2 m y _ (HY.out.below HB1.out)).mono ?_
    rintro e w2 ⟨⟨rfl, hf⟩ | ⟨g, vals, rfl, hf, _, _⟩, hb2⟩
    · have HB2 := Lib.hid (HB1.out.trans (hb2.mono HB1.out.size))
      clear hb2 hf
      go_wp2
      go_ret2
      exact ⟨⟨_, rfl, ownNil _ _⟩, HB2.out⟩
    · rw [HBY.out] at hf; cases hf

set_option maxRecDepth 100000 in
set_option maxHeartbeats 8000000 in
theorem iSumTimes_yes (a1 a2 : Option Addr) (c1 c2 n m : Nat) (x y : List Tm) (b : Bool) (w : World) (hx : IsTerms w a1 n x) (hy : IsTerms w a2 m y) (hbx : sumB x = true) (hby : sumB y = true)
    (hb : (fitB (pairsT x y) && twB (canonT (pairsT x y))) = b) :
    Calls Try.prog 27 #[.slice a1 n c1, .slice a2 m c2] w (ITold w b (canonT (pairsT x y))) := by
  obtain ⟨i0, hi, hz0, hz1, hz2⟩ := info_parts infoTerm
  obtain ⟨hlx, hwx⟩ := canon_len_words (sumB_parts hbx).1
  obtain ⟨hly, hwy⟩ := canon_len_words (sumB_parts hby).1
  have hn : n ≤ 300 := by rw [← hx.len]; exact hlx
  have hm : m ≤ 300 := by rw [← hy.len]; exact hly
  have HX := Lib.hid hx
  have HY := Lib.hid hy
  have HBX := Lib.hid hbx
  have HBY := Lib.hid hby
  have HWX := Lib.hid hwx
  have HWY := Lib.hid hwy
  have HBB := Lib.hid hb
  have HLEN : Hid (∀ k j, k < n → j ≤ m → ∀ t : Tm, (pairsT (x.take k) y ++ (y.take j).map (pairT t)).length ≤ 90000) := Lib.hid fun k j hk hj t => by
    have h1 := pairs_len (x.take k) y
    have h2 : (x.take k).length * y.length ≤ 299 * 300 := Nat.mul_le_mul (by rw [List.length_take]; omega) hly
    rw [List.length_append, List.length_map, List.length_take]
    omega
  have HLENN : Hid ((pairsT x y).length ≤ 90000) := Lib.hid (by rw [pairs_len]; exact Nat.mul_le_mul hlx hly)
  obtain ⟨q, hq⟩ : ∃ q : Nat, (n : Int) * (m : Int) = (q : Int) := ⟨n * m, by rw [Int.natCast_mul]⟩
  have hq9 : q ≤ 90000 := by
    have : n * m ≤ 300 * 300 := Nat.mul_le_mul hn hm
    have h2 : ((n * m : Nat) : Int) = (q : Int) := by rw [Int.natCast_mul]; exact hq
    omega
  clear hx hy hbx hby hlx hwx hly hwy hb
  go_enter Try.func27, Try.ntmps27
  go_wp2_with fail
  refine (sumWords_any a1 c1 n x _ HX.out).mono ?_
  rintro e w1 ⟨⟨rfl, hf⟩ | ⟨g1, vals1, rfl, hf, hr1, hv1⟩, hb1⟩
  · rw [HBX.out] at hf; cases hf
  have HB1 := Lib.hid hb1
  have HW1 := Lib.hid (wordsAt_of HX.out.len hr1 hv1)
  clear hb1 hf hr1 hv1
  go_wp2_with fail
  refine (sumWords_any a2 c2 m y _ (HY.out.below HB1.out)).mono ?_
  rintro e w2 ⟨⟨rfl, hf⟩ | ⟨g2, vals2, rfl, hf, hr2, hv2⟩, hb2⟩
  · rw [HBY.out] at hf; cases hf
  have HB2 := Lib.hid (HB1.out.trans (hb2.mono HB1.out.size))
  have HWX2 := Lib.hid (HW1.out.below hb2)
  have HWY2 := Lib.hid (wordsAt_of HY.out.len hr2 hv2)
  clear hb2 hf hr2 hv2
  go_wp2_with (at_make; refine wpList_make_own _ rfl _ _ 25 rfl w2.heap.size TI i0 (.agg #[.int .i64 0, .string ByteArray.empty]) 2 Try.underlying25 hi hz0 hz1 .i64 .i64 _ q rfl rfl rfl (by rw [hz2]; omega) (by unfold maxLen; omega) (Nat.le_refl _) ?_; intro w3 hrow hgrow)
  have hb3 : Below w2.heap.size w2 w3 := (Below.refl _ _).grown hgrow (Nat.le_refl _) (fun k e => by cases e)
  have HO3 : Hid (OwnT w2.heap.size w3 (.slice (some ⟨w2.heap.size, 0, none⟩) 0 q) []) := Lib.hid hrow
  have HB3 := Lib.hid hb3
  have hs2 := HB2.out.size
  clear hrow hgrow hb3 hq
  go_loopw [9, 38] (fun v i wr => ∃ k : Nat, k ≤ n ∧ i = .int .i64 k ∧ Hid ((∀ t ∈ pairsT (x.take k) y, t.s.size ≤ 60) ∧ OwnT w2.heap.size wr v (pairsT (x.take k) y)) ∧ Below w2.heap.size w2 wr) (fun _ i _ => n - (intOf i).toNat)
  case atStart => exact ⟨0, Nat.zero_le _, rfl, Lib.hid ⟨fun t h => (by cases h), HO3.out⟩, HB3.out⟩
  case round =>
    obtain ⟨k, hk, rfl, HA, hB⟩ := hrel
    by_cases hlt : k < n
    · have hkx : k < x.length := by rw [HX.out.len]; exact hlt
      obtain ⟨z, rfl, hz⟩ := HX.out.at_ (by omega)
      obtain ⟨t, ht⟩ : ∃ t, x[k] = t := ⟨_, rfl⟩
      have htb := HWX.out _ (List.getElem_mem hkx)
      obtain ⟨gw, cw, hcw, hiw⟩ := HWX2.out.2 k hkx
      have hcw := (hB.cell (p := ⟨g1, k, none⟩) HWX2.out.1).trans hcw
      rw [ht] at htb hcw hiw
      have HTI := Lib.hid (termB_iff htb)
      have HTW := Lib.hid (termB_word htb)
      have HT := Lib.hid ht
      have HZ := Lib.hid hz
      have HIW := Lib.hid (hiw)
      have HBo := Lib.hid hB
      clear ht htb hz hiw
      go_wp2
      go_loopw [9, 45] (fun v i wr2 => ∃ j : Nat, j ≤ m ∧ i = .int .i64 j ∧ Hid ((∀ u ∈ pairsT (x.take k) y ++ (y.take j).map (pairT t), u.s.size ≤ 60) ∧ OwnT w2.heap.size wr2 v (pairsT (x.take k) y ++ (y.take j).map (pairT t))) ∧ Below w2.heap.size w2 wr2) (fun _ i _ => m - (intOf i).toNat)
      case atStart => exact ⟨0, Nat.zero_le _, rfl, Lib.hid (by simpa using ⟨HA.out.1, HA.out.2⟩), hB⟩
      case round =>
        obtain ⟨j, hj, rfl, HAj, hBj⟩ := hrel
        by_cases hltj : j < m
        · have hjy : j < y.length := by rw [HY.out.len]; exact hltj
          obtain ⟨zy, rfl, hzy⟩ := HY.out.at_ (by omega)
          obtain ⟨u, hu⟩ : ∃ u, y[j] = u := ⟨_, rfl⟩
          have hub := HWY.out _ (List.getElem_mem hjy)
          obtain ⟨gu, cu, hcu, hiu⟩ := (HWY2.out.below hBj).2 j hjy
          rw [hu] at hub hcu hiu
          have HUI := Lib.hid (termB_iff hub)
          have HUW := Lib.hid (termB_word hub)
          have HU := Lib.hid hu
          have HZY := Lib.hid hzy
          have hrd := reduced_two gw gu _ _ cw cu t.s u.s wr HTW.out HUW.out ((HIW.out.below hBj).mono hBj.size) hiu
          obtain ⟨r, hr⟩ : ∃ r, redL [] (t.s.data.toList ++ u.s.data.toList) = r := ⟨_, rfl⟩
          rw [hr] at hrd
          have HPT : Hid (pairT t u = ⟨t.c * u.c, bstr r⟩) := Lib.hid (by rw [← hr]; rfl)
          have HRD := Lib.hid hrd
          clear hu hub hzy hrd hr hiu
          go_wp2_with fail
          refine (letters_fwd _ _ _ 1 _ (by decide)).mono ?_
          rintro e w4 ⟨rfl, rfl⟩
          go_wp2_with fail
          refine (letters_fwd _ _ _ 1 _ (by decide)).mono ?_
          rintro e w4 ⟨rfl, rfl⟩
          go_wp2_with fail
          refine HRD.out.mono ?_
          rintro e w5 ⟨g5, l5, cap5, rfl, hl5, hm5, hown5, hb5⟩
          have HL5 := Lib.hid hl5
          have HO5 := Lib.hid hown5
          have HB5 := Lib.hid hb5
          clear hl5 hown5 hb5
          by_cases hrs : l5 ≤ 60
          · go_wp2_with fail
            refine (told_yes _ g5 cap5 l5 r _ HL5.out hrs HO5.out).mono ?_
            rintro e w6 ⟨rfl, hb6⟩
            have hb56 : Below wr.heap.size wr w6 := HB5.out.trans (hb6.mono HB5.out.size)
            have hB6 : Below w2.heap.size w2 w6 := hBj.trans (hb56.mono hBj.size)
            obtain ⟨rs, hrs2⟩ : ∃ rs, bstr r = rs := ⟨_, rfl⟩
            have hrss : rs.size ≤ 60 := by rw [← hrs2, bstr_size, HL5.out]; exact hrs
            have HPT2 : Hid (pairT t u = ⟨t.c * u.c, rs⟩) := Lib.hid (by rw [HPT.out, hrs2])
            rw [hrs2]
            have hzw := HZ.out.below (HB2.out.trans (hB6.mono hs2))
            have hzyw := HZY.out.below (HB2.out.trans (hB6.mono hs2))
            have hc := hzw.2 k hkx
            have hcy := hzyw.2 j hjy
            rw [HT.out] at hc
            rw [HU.out] at hcy
            obtain ⟨c0, _⟩ := hc
            obtain ⟨e0, _⟩ := hcy
            have HMB := Lib.hid (mul_bnd HTI.out.2 HUI.out.2)
            have hmul : IntKind.i64.wrap (t.c * u.c) = t.c * u.c := by have := HMB.out; exact IntWalk.i64_in _ (by omega)
            have hO6 : OwnT w2.heap.size w6 u9 (pairsT (x.take k) y ++ (y.take j).map (pairT t)) := HAj.out.2.below hb56
            obtain ⟨N, hN⟩ : ∃ N, (pairsT (x.take k) y ++ (y.take j).map (pairT t)).length = N := ⟨_, rfl⟩
            have hN9 : N ≤ 90000 := by rw [← hN]; exact HLEN.out k j hlt (by omega) t
            unfold OwnT at hO6
            rw [hN] at hO6
            have HO6 := Lib.hid hO6
            have HN := Lib.hid hN
            have hsz6 := hB6.size
            clear hb6 hb56 hrs2 hzw hzyw hO6 hN
            have hwr : w6.drew.heap.size = w6.heap.size := rfl
            go_wp2_with fail
            go_region_law
              ((refine step_append_lies _ (by rfl) _ _ _ (by rfl) w2.heap.size TI i0 _ 2 24 Try.underlying25 hi hz0 hz1 hz2 rfl (by omega) u9 N (termsV (pairsT (x.take k) y ++ (y.take j).map (pairT t))) (by rfl) ((HO6.out.alloc _).drew)
                  ⟨w6.heap.size, 0, none⟩ 1 1 [.int .i64 (t.c * u.c), .string rs] (by rfl) (by rfl) (World.news_of_block (cs := #[.int .i64 (t.c * u.c), .string rs]) (t := TI) (fr := (0, 0)) (heap_alloc_new w6 _)) (by simp [Value.oneCell'])
                  (by omega) (by unfold maxLen; omega) (by omega) (by simp; omega) (w6.heap.size + 1) (by simp) ?_; intro gg cap1 w7 hown7 hgrow7 hat hlt7))
            all_goals
              have hlow := ownsRow_low HO6.out
              have hB7 : Below w2.heap.size w2 w7 := hB6.trans ((((Below.refl w2.heap.size w6).alloc hsz6 _).drew).grown hgrow7 (by show w2.heap.size ≤ (w6.alloc _).heap.size; simp; omega) hlow)
              have HO7 := Lib.hid hown7
              clear hown7 hgrow7 hat hlt7 hlow
              go_wp2
              go_roundw
              case rel =>
                refine ⟨j + 1, by omega, by go_num, Lib.hid ⟨fun v hv => ?_, ?_⟩, hB7⟩
                · rw [map_succ (pairT t) y j hjy, ← List.append_assoc] at hv
                  rcases List.mem_append.1 hv with hv | hv
                  · exact HAj.out.1 v hv
                  · rw [List.mem_singleton.1 hv, HU.out, HPT2.out]; exact hrss
                · rw [map_succ (pairT t) y j hjy, HU.out, HPT2.out, ← List.append_assoc]
                  unfold OwnT
                  rw [List.length_append, HN.out, termsV_append]
                  exact HO7.out
              case measure => simp [intOf]; omega
          · have hB5 : Below w2.heap.size w2 w5 := hBj.trans (HB5.out.mono hBj.size)
            go_wp2_with fail
            refine (told_no _ _ _ _ (by omega) (by unfold maxLen; omega)).mono ?_
            rintro e w6 ⟨rfl, rfl⟩
            go_wp2
            go_ret2
            have hbf : b = false := by
              rw [← HBB.out]
              have : fitB (pairsT x y) = false := by
                refine List.all_eq_false.2 ⟨pairT t u, ?_, by rw [HPT.out]; simp only [bstr_size, HL5.out]; simpa using hrs⟩
                unfold pairsT
                exact List.mem_flatMap.2 ⟨t, by rw [← HT.out]; exact List.getElem_mem hkx, List.mem_map.2 ⟨u, by rw [← HU.out]; exact List.getElem_mem hjy, rfl⟩⟩
              rw [this]; rfl
            subst hbf
            exact ⟨⟨_, rfl, ownNil _ _⟩, HB2.out.trans (hB5.mono hs2)⟩
        · obtain rfl : j = m := by omega
          go_wp2
          go_roundw
          case rel =>
            refine ⟨k + 1, by omega, by go_num, Lib.hid ?_, hBj⟩
            have h := HAj.out
            have hty : y.take j = y := List.take_of_length_le (by rw [HY.out.len]; exact Nat.le_refl _)
            rw [hty, ← HT.out, ← pairs_succ x y k hkx] at h
            exact h
          case measure => simp [intOf]; omega
    · obtain rfl : k = n := by omega
      have hacc := HA.out
      rw [List.take_of_length_le (by rw [HX.out.len]; exact Nat.le_refl _)] at hacc
      obtain ⟨hfit, hown⟩ := hacc
      have hcf : ∀ t ∈ pairsT x y, -1000000000000 ≤ t.c ∧ t.c ≤ 1000000000000 := fun t ht => by
        unfold pairsT at ht
        obtain ⟨u, hu, ht⟩ := List.mem_flatMap.1 ht
        obtain ⟨v, hv, rfl⟩ := List.mem_map.1 ht
        exact mul_bnd (termB_iff (HWX.out u hu)).2 (termB_iff (HWY.out v hv)).2
      have hlen := HLENN.out
      have hsm : SmallT (pairsT x y) := ⟨by unfold maxLen; omega, fun t ht => by have := hcf t ht; have := hfit t ht; unfold maxLen; omega⟩
      obtain ⟨av, cv, rfl, hI⟩ := hown.isTerms hsm
      have hbb : twB (canonT (pairsT x y)) = b := by
        rw [← HBB.out, show fitB (pairsT x y) = true from List.all_eq_true.2 fun t ht => by simpa using hfit t ht, Bool.true_and]
      obtain ⟨N, hN⟩ : ∃ N, (pairsT x y).length = N := ⟨_, rfl⟩
      rw [hN] at hI hlen ⊢
      have htold := toldSum_any av cv N (pairsT x y) b wr hI (by omega) hcf hbb
      have HTo := Lib.hid htold
      have HBr := Lib.hid hB
      clear hfit hown hcf hsm hI hbb hN htold
      go_wp2_with fail
      refine HTo.out.mono ?_
      rintro e w5 ⟨⟨v', rfl, ho⟩, hb5⟩
      have HO := Lib.hid ho
      have HB5 := Lib.hid (HB2.out.trans ((HBr.out.trans (hb5.mono HBr.out.size)).mono hs2))
      have hs5 := HBr.out.size
      clear ho hb5
      go_wp2
      go_ret2
      exact ⟨⟨_, rfl, HO.out.mono (by omega)⟩, HB5.out⟩

/-! ### As a law wants them -/
theorem prodB_tw {x y : List Tm} {b : Bool} (h : prodB x y = b) : b = true → twB (canonT (pairsT x y)) = true := by
  intro hb
  subst hb
  unfold prodB at h
  simp only [Bool.and_eq_true] at h
  exact h.2.2.2
theorem sSumTimes_law {g1 g2 c1 c2 n m : Nat} {x y : List Tm} {b : Bool} {w : World} (hx : IsTerms w (some ⟨g1, 0, none⟩) n x) (hy : IsTerms w (some ⟨g2, 0, none⟩) m y) (hb : prodB x y = b) :
    Calls Try.prog 26 #[.slice (some ⟨g1, 0, none⟩) n c1, .slice (some ⟨g2, 0, none⟩) m c2] w (STold w b (canonT (pairsT x y))) := by
  unfold prodB at hb
  cases hbx : sumB x with
  | false => rw [hbx] at hb; subst hb; exact sSumTimes_no _ _ _ _ _ _ x y w hx hy (.inl hbx)
  | true =>
    cases hby : sumB y with
    | false => rw [hbx, hby] at hb; subst hb; exact sSumTimes_no _ _ _ _ _ _ x y w hx hy (.inr hby)
    | true => rw [hbx, hby] at hb; exact sSumTimes_yes _ _ _ _ _ _ x y b w hx hy hbx hby hb
theorem iSumTimes_law {g1 g2 c1 c2 n m : Nat} {x y : List Tm} {b : Bool} {w : World} (hx : IsTerms w (some ⟨g1, 0, none⟩) n x) (hy : IsTerms w (some ⟨g2, 0, none⟩) m y) (hb : prodB x y = b) :
    Calls Try.prog 27 #[.slice (some ⟨g1, 0, none⟩) n c1, .slice (some ⟨g2, 0, none⟩) m c2] w (ITold w b (canonT (pairsT x y))) := by
  unfold prodB at hb
  cases hbx : sumB x with
  | false => rw [hbx] at hb; subst hb; exact iSumTimes_no _ _ _ _ _ _ x y w hx hy (.inl hbx)
  | true =>
    cases hby : sumB y with
    | false => rw [hbx, hby] at hb; subst hb; exact iSumTimes_no _ _ _ _ _ _ x y w hx hy (.inr hby)
    | true => rw [hbx, hby] at hb; exact iSumTimes_yes _ _ _ _ _ _ x y b w hx hy hbx hby hb

end Go.Proofs.Ytidmlppbmcphbaa

/- The contracts of the program's 'changed' and 'SumTurned'; both SumTurneds as a law wants them. -/

namespace Go.Proofs.Ytidmlppbmcphbaa
open Go.RowKit Go.Shelf

/-- A function value that changes words, from w on. -/
def ChangeOk (w0 : World) (F : Nat) (lb : Array Value) (f : List UInt8 → List UInt8) : Prop :=
  ∀ (W : World) (g n cap : Nat) (L : List UInt8), Below w0.heap.size w0 W → L.length = n → wordB L = true → IsWord W.heap.size W (.slice (some ⟨g, 0, none⟩) n cap) L →
    Calls Try.prog F (#[.slice (some ⟨g, 0, none⟩) n cap] ++ lb) W fun e w' => ∃ g4 m cap4, e = .returned (.slice (some ⟨g4, 0, none⟩) m cap4) ∧ (f L).length = m ∧ m ≤ 100000 ∧ w'.ownsRow W.heap.size 106 1 (.slice (some ⟨g4, 0, none⟩) m cap4) m (bytesV (f L)) ∧ Below W.heap.size W w'

set_option maxRecDepth 100000 in
set_option maxHeartbeats 2000000 in
theorem changed_no (a : Option Addr) (cap n : Nat) (x : List Tm) (fv : Value) (w : World) (hx : IsTerms w a n x) (hb : sumB x = false) :
    Calls Try.prog 71 #[.slice a n cap, fv] w (ITold w false []) := by
  have HX := Lib.hid hx
  have HBX := Lib.hid hb
  clear hx hb
  go_enter Try.func71, Try.ntmps71
  go_wp2_with fail
  refine (sumWords_any a cap n x _ HX.out).mono ?_
  rintro e w1 ⟨⟨rfl, hf⟩ | ⟨g, vals, rfl, hf, _, _⟩, hb1⟩
  · have HB1 := Lib.hid hb1
    clear hb1 hf
    go_wp2
    go_ret2
    exact ⟨⟨_, rfl, ownNil _ _⟩, HB1.out⟩
  · rw [HBX.out] at hf; cases hf

set_option maxRecDepth 100000 in
set_option maxHeartbeats 8000000 in
theorem changed_yes (F : Nat) (lb : Array Value) (f : List UInt8 → List UInt8) (a : Option Addr) (cap n : Nat) (x : List Tm) (b : Bool) (w : World) (hx : IsTerms w a n x) (eg : ∀ args w, (callFunc F args).run Try.prog w = .ok (.enter F args) w) (hch : ChangeOk w F lb f)
    (hbx : sumB x = true) (hb : (fitB (x.map (mapT f)) && twB (canonT (x.map (mapT f)))) = b) :
    Calls Try.prog 71 #[.slice a n cap, .func (.func F) #[] lb] w (ITold w b (canonT (x.map (mapT f)))) := by
  obtain ⟨i0, hi, hz0, hz1, hz2⟩ := info_parts infoTerm
  obtain ⟨hlx, hwx⟩ := canon_len_words (sumB_parts hbx).1
  have hn : n ≤ 300 := by rw [← hx.len]; exact hlx
  have hyn : (x.map (mapT f)).length = n := by rw [List.length_map, hx.len]
  obtain ⟨ys, hys⟩ : ∃ ys, x.map (mapT f) = ys := ⟨_, rfl⟩
  rw [hys] at hb hyn ⊢
  have HX := Lib.hid hx
  have HBX := Lib.hid hbx
  have HWX := Lib.hid hwx
  have HBB := Lib.hid hb
  have HYS := Lib.hid hys
  have HYN := Lib.hid hyn
  have HCH := Lib.hid hch
  clear hx hbx hlx hwx hb hys hyn hch
  go_enter Try.func71, Try.ntmps71
  go_wp2_with fail
  refine (sumWords_any a cap n x _ HX.out).mono ?_
  rintro e w1 ⟨⟨rfl, hf⟩ | ⟨g1, vals1, rfl, hf, hr1, hv1⟩, hb1⟩
  · rw [HBX.out] at hf; cases hf
  have HB1 := Lib.hid hb1
  have HW1 := Lib.hid (wordsAt_of HX.out.len hr1 hv1)
  clear hb1 hf hr1 hv1
  go_wp2_with (at_make; refine wpList_make_full _ rfl _ _ 25 rfl w1.heap.size TI i0 (.agg #[.int .i64 0, .string ByteArray.empty]) 2 Try.underlying25 hi hz0 hz1 .i64 .i64 _ _ n rfl rfl rfl rfl (by rw [hz2]; omega) (by unfold maxLen; omega) (Nat.le_refl _) ?_; intro w2 hrow hgrow)
  rw [show (madeCells (Value.cells (.agg #[.int .i64 0, .string ByteArray.empty])) (n * 2)).toList = termsV (ys.take 0 ++ List.replicate (n - 0) zeroTm) from made_terms n] at hrow
  have hb2 : Below w1.heap.size w1 w2 := (Below.refl _ _).grown hgrow (Nat.le_refl _) (fun k e => by cases e)
  have HR2 := Lib.hid hrow
  have HB2 := Lib.hid hb2
  have hs1 := HB1.out.size
  clear hrow hgrow hb2
  go_loopw [25] (fun i wr => ∃ k : Nat, k ≤ n ∧ i = .int .i64 k ∧ Hid ((∀ j (h : j < ys.length), j < k → ys[j].s.size ≤ 60) ∧ wr.ownsRow w1.heap.size TI 2 (.slice (some ⟨w1.heap.size, 0, none⟩) n n) n (termsV (ys.take k ++ List.replicate (n - k) zeroTm))) ∧ Below w1.heap.size w1 wr) (fun i _ => n - (intOf i).toNat)
  case atStart => exact ⟨0, Nat.zero_le _, rfl, Lib.hid ⟨fun j _ h => absurd h (Nat.not_lt_zero _), HR2.out⟩, HB2.out⟩
  case round =>
    obtain ⟨k, hk, rfl, HA, hB⟩ := hrel
    by_cases hlt : k < n
    · have hkx : k < x.length := by rw [HX.out.len]; exact hlt
      have hky : k < ys.length := by rw [HYN.out]; exact hlt
      obtain ⟨z, rfl, hz⟩ := HX.out.at_ (by omega)
      obtain ⟨t, ht⟩ : ∃ t, x[k] = t := ⟨_, rfl⟩
      have hyk : ys[k] = mapT f t := by have h := HYS.out; subst h; rw [List.getElem_map, ht]
      have htb := HWX.out _ (List.getElem_mem hkx)
      obtain ⟨gw, cw, hcw, hiw⟩ := (HW1.out.below hB).2 k hkx
      rw [ht] at htb hcw hiw
      have hcall := HCH.out wr gw t.s.size cw t.s.data.toList (HB1.out.trans (hB.mono hs1)) (by simp) (termB_word htb) hiw
      obtain ⟨r, hr⟩ : ∃ r, f t.s.data.toList = r := ⟨_, rfl⟩
      rw [hr] at hcall
      have HYK : Hid (ys[k] = ⟨t.c, bstr r⟩) := Lib.hid (by rw [hyk, ← hr]; rfl)
      have HT := Lib.hid ht
      have HZ := Lib.hid hz
      have HCA := Lib.hid hcall
      clear ht htb hz hiw hyk hr hcall
      go_wp2_with fail
      refine HCA.out.mono ?_
      rintro e w5 ⟨g5, l5, cap5, rfl, hl5, hm5, hown5, hb5⟩
      have HL5 := Lib.hid hl5
      have HO5 := Lib.hid hown5
      have HB5 := Lib.hid hb5
      clear hl5 hown5 hb5
      by_cases hrs : l5 ≤ 60
      · go_wp2_with fail
        refine (told_yes _ g5 cap5 l5 r _ HL5.out hrs HO5.out).mono ?_
        rintro e w6 ⟨rfl, hb6⟩
        have hb56 : Below wr.heap.size wr w6 := HB5.out.trans (hb6.mono HB5.out.size)
        have hB6 : Below w1.heap.size w1 w6 := hB.trans (hb56.mono hB.size)
        obtain ⟨rs, hrs2⟩ : ∃ rs, bstr r = rs := ⟨_, rfl⟩
        have hrss : rs.size ≤ 60 := by rw [← hrs2, bstr_size, HL5.out]; exact hrs
        have HYK2 : Hid (ys[k] = ⟨t.c, rs⟩) := Lib.hid (by rw [HYK.out, hrs2])
        rw [hrs2]
        have hc := (HZ.out.below (HB1.out.trans (hB6.mono hs1))).2 k hkx
        rw [HT.out] at hc
        obtain ⟨c0, _⟩ := hc
        have hr6 : w6.ownsRow w1.heap.size TI 2 (.slice (some ⟨w1.heap.size, 0, none⟩) n n) n (termsV (ys.take k ++ List.replicate (n - k) zeroTm)) := HA.out.2.kept ⟨hb56.os, hb56.tape, hb56.output, hb56.size, fun j hj _ => hb56.block j hj⟩ (row := none) (.inr (by simp [Value.ownBlock]))
        have hl := hr6.1
        have hd0 : ∃ u, w6.cell? ⟨w1.heap.size, k * 2, none⟩ = some u := by rw [hr6.cellAt _ (by omega)]; exact ⟨_, List.getElem?_eq_getElem (by omega)⟩
        have hd1 : ∃ u, w6.cell? ⟨w1.heap.size, k * 2 + 1, none⟩ = some u := by rw [hr6.cellAt _ (by omega)]; exact ⟨_, List.getElem?_eq_getElem (by omega)⟩
        obtain ⟨u0, hu0⟩ := hd0
        obtain ⟨u1, hu1⟩ := hd1
        have hf0 := hr6.frozenAt (k * 2)
        have hf1 := hr6.frozenAt (k * 2 + 1)
        have hfil := fill_terms ys n k HYN.out hlt
        rw [HYK2.out] at hfil
        have HF := Lib.hid hfil
        have HR6 := Lib.hid hr6
        have HB6 := Lib.hid hB6
        clear hl hr6 hfil hb6 hb56 hrs2 hB6
        go_wp2
        go_roundw
        case rel =>
          refine ⟨k + 1, by omega, by go_num, Lib.hid ⟨fun j hj hjk => ?_, ?_⟩, (HB6.out.setCell (p := ⟨w1.heap.size, k * 2, none⟩) (Nat.le_refl _) _).setCell (p := ⟨w1.heap.size, k * 2 + 1, none⟩) (Nat.le_refl _) _⟩
          · by_cases e : j = k
            · subst e; rw [HYK2.out]; exact hrss
            · exact HA.out.1 j hj (by omega)
          · rw [← HF.out]
            exact ((HR6.out.stored (k * 2) (.int .i64 t.c)).1.stored (k * 2 + 1) (.string rs)).1
        case measure => simp [intOf]; omega
      · have hB5 : Below w1.heap.size w1 w5 := hB.trans (HB5.out.mono hB.size)
        go_wp2_with fail
        refine (told_no _ _ _ _ (by omega) (by unfold maxLen; omega)).mono ?_
        rintro e w6 ⟨rfl, rfl⟩
        go_wp2
        go_ret2
        have hbf : b = false := by
          rw [← HBB.out, fitB_at hky (by rw [HYK.out]; simp only [bstr_size, HL5.out]; exact hrs)]; rfl
        subst hbf
        exact ⟨⟨_, rfl, ownNil _ _⟩, HB1.out.trans (hB5.mono hs1)⟩
    · obtain rfl : n = k := by omega
      obtain ⟨hfit, hown⟩ := HA.out
      rw [Nat.sub_self, List.replicate_zero, List.append_nil, List.take_of_length_le (by rw [HYN.out]; exact Nat.le_refl _)] at hown
      have hft : ∀ j (hj : j < ys.length), ys[j].s.size ≤ 60 := fun j hj => hfit j hj (by rw [← HYN.out]; exact hj)
      have hcf : ∀ t ∈ ys, t.s.size ≤ 60 ∧ -1000000 ≤ t.c ∧ t.c ≤ 1000000 := fun t ht => by
        obtain ⟨j, hj, rfl⟩ := List.getElem_of_mem ht
        refine ⟨hft j hj, ?_⟩
        have h := HYS.out
        subst h
        rw [List.getElem_map]
        have hjx : j < x.length := by rw [List.length_map] at hj; exact hj
        exact (termB_iff (HWX.out _ (List.getElem_mem hjx))).2
      have hI : IsTerms wr (some ⟨w1.heap.size, 0, none⟩) n ys := ⟨HYN.out, by unfold maxLen; omega, fun _ => ⟨_, rfl, termsAt_of_owns HYN.out hown⟩, fun t ht => by have := hcf t ht; unfold maxLen; omega⟩
      have hbb : twB (canonT ys) = b := by rw [← HBB.out, fitB_of hft, Bool.true_and]
      have htold := toldSum_any (some ⟨w1.heap.size, 0, none⟩) n n ys b wr hI (by omega) (fun t ht => by have := hcf t ht; omega) hbb
      have HTo := Lib.hid htold
      have HBr := Lib.hid hB
      clear hfit hown hft hcf hI hbb htold
      go_wp2_with fail
      refine HTo.out.mono ?_
      rintro e w5 ⟨⟨v', rfl, ho⟩, hb5⟩
      have HO := Lib.hid ho
      have HB5 := Lib.hid (HB1.out.trans ((HBr.out.trans (hb5.mono HBr.out.size)).mono hs1))
      have hs5 := HBr.out.size
      clear ho hb5
      go_wp2
      go_ret2
      exact ⟨⟨_, rfl, HO.out.mono (by omega)⟩, HB5.out⟩

/-! ### SumTurned -/
theorem inverse_change (w0 : World) : ChangeOk w0 72 #[] backL := fun W g n cap L _ hl hw hi => by
  have hs := ((wordB_iff _).1 hw).1
  refine (show Calls Try.prog 72 #[.slice (some ⟨g, 0, none⟩) n cap] W _ from wordInverse_yes g n cap L W hl hw hi).mono ?_
  rintro e w' ⟨g4, cap4, rfl, ho, hb⟩
  exact ⟨g4, n, cap4, rfl, by rw [backL_length, hl], by omega, ho, hb⟩
theorem fit_turned {x : List Tm} (h : sumB x = true) : fitB (x.map (mapT backL)) = true := by
  refine List.all_eq_true.2 fun t ht => ?_
  obtain ⟨u, hu, rfl⟩ := List.mem_map.1 ht
  have h1 := (sumB_small h).2.1 u hu
  unfold mapT
  simp only [bstr_size, backL_length]
  have : u.s.data.toList.length = u.s.size := by simp
  simpa [this] using h1.1

def turnedB (x : List Tm) : Bool := sumB x && twB (canonT (x.map (mapT backL)))

set_option maxRecDepth 100000 in
theorem iSumTurned_any (a : Option Addr) (cap n : Nat) (x : List Tm) (b : Bool) (w : World) (hx : IsTerms w a n x) (hb : turnedB x = b) :
    Calls Try.prog 29 #[.slice a n cap] w (ITold w b (canonT (x.map (mapT backL)))) := by
  have HC : Hid (Calls Try.prog 71 #[.slice a n cap, .func (.func 72) #[] #[]] w (ITold w b (canonT (x.map (mapT backL))))) := by
    unfold turnedB at hb
    cases hbx : sumB x with
    | false => rw [hbx] at hb; subst hb; exact Lib.hid (changed_no a cap n x _ w hx hbx)
    | true => rw [hbx, Bool.true_and] at hb; exact Lib.hid (changed_yes _ #[] backL a cap n x b w hx (enters_of Try.func72 (by kernel_rfl) rfl) (inverse_change w) hbx (by rw [fit_turned hbx, Bool.true_and]; exact hb))
  clear hx hb
  go_enter Try.func29, Try.ntmps29
  go_wp2_with fail
  refine HC.out.mono ?_
  rintro e w1 ⟨⟨v', rfl, ho⟩, hb1⟩
  have HO := Lib.hid ho
  clear ho
  go_wp2
  go_ret2
  exact ⟨⟨_, rfl, HO.out⟩, hb1⟩

/-! ### As a law wants them -/
theorem turnedB_tw {x : List Tm} {b : Bool} (h : turnedB x = b) : b = true → twB (canonT (x.map (mapT backL))) = true := by
  intro hb
  subst hb
  unfold turnedB at h
  simp only [Bool.and_eq_true] at h
  exact h.2
theorem sSumTurned_law {g c n : Nat} {x : List Tm} {b : Bool} {w : World} (hx : IsTerms w (some ⟨g, 0, none⟩) n x) (hb : turnedB x = b) :
    Calls Try.prog 28 #[.slice (some ⟨g, 0, none⟩) n c] w (STold w b (canonT (x.map (mapT backL)))) := by
  unfold turnedB at hb
  cases hbx : sumB x with
  | false => rw [hbx] at hb; subst hb; exact sSumTurned_no _ _ _ x w hx hbx
  | true => rw [hbx, Bool.true_and] at hb; exact sSumTurned_yes _ _ _ x b w hx hbx hb
theorem iSumTurned_law {g c n : Nat} {x : List Tm} {b : Bool} {w : World} (hx : IsTerms w (some ⟨g, 0, none⟩) n x) (hb : turnedB x = b) :
    Calls Try.prog 29 #[.slice (some ⟨g, 0, none⟩) n c] w (ITold w b (canonT (x.map (mapT backL)))) := iSumTurned_any _ _ _ x b w hx hb

end Go.Proofs.Ytidmlppbmcphbaa

/- The contracts of the laws' own helpers that mark memory and look the marks up. -/

namespace Go.Proofs.Ytidmlppbmcphbaa
open Go.RowKit Go.Shelf

/-- The text of a mark. -/
def mkB (m : Nat) (t : ByteArray) : ByteArray :=
  if _h : m = 0 then t else mkB (m / 10) (⟨#[UInt8.ofNat (48 + m % 10)]⟩ ++ t)
termination_by m
decreasing_by omega
theorem mkB_zero (t : ByteArray) : mkB 0 t = t := by rw [mkB]; simp
theorem mkB_step {m : Nat} (h : m ≠ 0) (t : ByteArray) : mkB (m / 10) (⟨#[UInt8.ofNat (48 + m % 10)]⟩ ++ t) = mkB m t := by conv => rhs; rw [mkB, dif_neg h]
def mkS (k : Nat) : ByteArray := ⟨#[109]⟩ ++ mkB k ⟨#[]⟩

set_option maxRecDepth 100000 in
set_option maxHeartbeats 1000000 in
theorem markText_any (k : Nat) (w : World) (hk0 : 0 < k) (hk : k ≤ 100000000) :
    Calls Try.prog 64 #[.int .i64 k] w fun e w' => e = .returned (.string (mkS k)) ∧ Below w.heap.size w w' := by
  have hk1 : ¬ k = 0 := by omega
  have hk2 : decide (k = 0) = false := decide_eq_false hk1
  go_enter Try.func64, Try.ntmps64
  go_wp2
  go_loopw [0, 3] (fun p s wr => ∃ (m : Nat) (t : ByteArray), p = .int .i64 m ∧ s = .string t ∧ Hid (mkB m t = mkB k ⟨#[]⟩) ∧ t.size + m ≤ k ∧ Hid (Below w.heap.size w wr)) (fun p _ _ => (intOf p).toNat)
  case atStart => exact ⟨k, ⟨#[]⟩, rfl, rfl, Lib.hid rfl, Nat.le_of_eq (Nat.zero_add k), Lib.hid (Below.refl _ _)⟩
  case round =>
    obtain ⟨m, t, rfl, rfl, HM, hsz, HB⟩ := hrel
    by_cases hm : m = 0
    · subst hm
      go_wp2
      go_ret
      refine ⟨?_, HB.out⟩
      rw [mkS, ← HM.out, mkB_zero]
      rfl
    · have hm0 : 0 < m := by omega
      have hlt : m % 10 < 10 := Nat.mod_lt _ (by omega)
      have hval : ((UInt8.ofNat (48 + m % 10)).toNat : Int) = 48 + (m : Int) % 10 := by
        rw [UInt8.toNat_ofNat']
        rw [Nat.mod_eq_of_lt (by omega)]
        omega
      have hconv : (convert 91 9 (.slice (some ⟨wr.heap.size, 0, none⟩) 1 1)).run Try.prog (wr.alloc (.cells #[.int .u8 (48 + (m : Int) % 10)] 5)) = .ok (.string ⟨#[UInt8.ofNat (48 + m % 10)]⟩) (wr.alloc (.cells #[.int .u8 (48 + (m : Int) % 10)] 5)) := by
        have := run_convert_bytes_back (P := Try.prog) (wr.alloc (.cells #[.int .u8 (48 + (m : Int) % 10)] 5)) 91 9 5 ⟨wr.heap.size, 0, none⟩ 1 [UInt8.ofNat (48 + m % 10)] Try.underlying91 Try.underlying5 Try.underlying9 (fun j hj => by
          have hj0 : j = 0 := by simp at hj; exact hj
          subst hj0
          show (wr.alloc _).cell? ((⟨wr.heap.size, 0, none⟩ : Addr).add 0) = some (.int .u8 ((UInt8.ofNat (48 + m % 10)).toNat : Int))
          rw [hval]
          exact cell_one_new _ _ _ 0 _ rfl)
        exact this
      have hrange : 0 ≤ 48 + (m : Int) % 10 ∧ 48 + (m : Int) % 10 ≤ 255 := by omega
      have hsz2 : ((⟨#[UInt8.ofNat (48 + m % 10)]⟩ : ByteArray) ++ t).size = 1 + t.size := by simp [ByteArray.size_append]; rfl
      obtain ⟨c, hc⟩ : ∃ c : ByteArray, (⟨#[UInt8.ofNat (48 + m % 10)]⟩ : ByteArray) = c := ⟨_, rfl⟩
      rw [hc] at hconv hsz2
      have HCC := Lib.hid hc
      have HVAL := Lib.hid hval
      have HSZ2 := Lib.hid hsz2
      have hcs : c.size = 1 := by rw [← hc]; rfl
      have hnot : ¬ 9223372036854775807 < c.size + t.size := by omega
      clear hc hval hsz2 hcs
      go_wp2
      go_roundw
      case rel =>
        refine ⟨m / 10, c ++ t, by go_num, rfl, Lib.hid ?_, by rw [HSZ2.out]; omega, Lib.hid (HB.out.alloc HB.out.size _)⟩
        rw [← HM.out, ← HCC.out]
        exact mkB_step hm t
      case measure => simp [intOf]; omega

end Go.Proofs.Ytidmlppbmcphbaa

/- The contracts of the laws' 'markTermS' and 'heldTermS'. -/

namespace Go.Proofs.Ytidmlppbmcphbaa
open Go.RowKit Go.Shelf

def markT (k i : Nat) : Tm := ⟨((k + 2 * i : Nat) : Int), mkS (k + 2 * i + 1)⟩
/-- The marks from k on. -/
def marksT (k n : Nat) : List Tm := (List.range n).map (markT k)
theorem marksT_len (k n : Nat) : (marksT k n).length = n := by simp [marksT]
theorem marksT_get (k n i : Nat) (h : i < (marksT k n).length) : (marksT k n)[i] = markT k i := by simp [marksT]
theorem marksT_set (k j n : Nat) (us : List Tm) (hl : us.length = n) (hj : j < n) : (marksT k j ++ us.drop j).set j (markT k j) = marksT k (j + 1) ++ us.drop (j + 1) := by
  rw [List.set_append_right _ _ (by rw [marksT_len]; exact Nat.le_refl _), marksT_len, Nat.sub_self, List.drop_eq_getElem_cons (by omega : j < us.length), List.set_cons_zero]
  unfold marksT
  rw [List.range_succ, List.map_append, List.append_assoc]
  rfl

theorem ownsRow_past {w w' : World} {base : Nat} {e : TypeId} {size : Nat} {v : Value} {n : Nat} {xs : List Value} (h : w.ownsRow base e size v n xs) (hb : Below w.heap.size w w') : w'.ownsRow base e size v n xs :=
  h.kept ⟨hb.os, hb.tape, hb.output, hb.size, fun j hj _ => hb.block j hj⟩ (row := none) (by
    rcases h.2 with ⟨rfl, _⟩ | ⟨g, cap, cur, rfl, _⟩
    · exact .inl rfl
    · exact .inr (by simp [Value.ownBlock]))
theorem marksT_row (k j n : Nat) (us : List Tm) (hl : us.length = n) (hj : j < n) :
    ((termsV (marksT k j ++ us.drop j)).set (j * 2) (.int .i64 ((k + 2 * j : Nat) : Int))).set (j * 2 + 1) (.string (mkS (k + 2 * j + 1))) = termsV (marksT k (j + 1) ++ us.drop (j + 1)) := by
  rw [← marksT_set k j n us hl hj]
  exact set_terms _ j (markT k j) (by rw [List.length_append, marksT_len, List.length_drop]; omega)

theorem grown_trans {a b c : World} {row : Option Nat} (h : a.grownBy b row) (k : b.grownBy c row) : a.grownBy c row :=
  ⟨k.os.trans h.os, k.tape.trans h.tape, k.output.trans h.output, Nat.le_trans h.size k.size, fun i hi hne => (k.block i (Nat.lt_of_lt_of_le hi h.size) hne).trans (h.block i hi hne)⟩
theorem grown_refl (a : World) (row : Option Nat) : a.grownBy a row := ⟨rfl, rfl, rfl, Nat.le_refl _, fun _ _ _ => rfl⟩
theorem grown_below {a b : World} (row : Option Nat) (h : Below a.heap.size a b) : a.grownBy b row := ⟨h.os, h.tape, h.output, h.size, fun i hi _ => h.block i hi⟩
theorem mkB_size : ∀ (m : Nat) (t : ByteArray), (mkB m t).size ≤ t.size + m := by
  intro m
  induction m using Nat.strongRecOn with
  | _ m ih =>
    intro t
    by_cases h : m = 0
    · subst h; rw [mkB_zero]; exact Nat.le_refl _
    · rw [← mkB_step h]
      have h1 := ih (m / 10) (by omega) (⟨#[UInt8.ofNat (48 + m % 10)]⟩ ++ t)
      have h2 : ((⟨#[UInt8.ofNat (48 + m % 10)]⟩ : ByteArray) ++ t).size = 1 + t.size := by simp [ByteArray.size_append]; rfl
      omega
theorem mkS_size (k : Nat) : (mkS k).size ≤ k + 1 := by
  have h := mkB_size k ⟨#[]⟩
  have h0 : (⟨#[]⟩ : ByteArray).size = 0 := rfl
  have h1 : (mkS k).size = 1 + (mkB k ⟨#[]⟩).size := by unfold mkS; simp [ByteArray.size_append]; rfl
  omega
theorem marksT_small (k n : Nat) (hk : k ≤ 1000000) (hn : n ≤ 1048576) : SmallT (marksT k n) :=
  ⟨by rw [marksT_len]; unfold maxLen; omega, fun t ht => by
    unfold marksT at ht
    obtain ⟨i, hi, rfl⟩ := List.mem_map.1 ht
    have hi := List.mem_range.1 hi
    have := mkS_size (k + 2 * i + 1)
    unfold markT maxLen
    dsimp only
    omega⟩

set_option maxRecDepth 100000 in
set_option maxHeartbeats 2000000 in
theorem markTermS_any (base k : Nat) (v : Value) (us : List Tm) (w : World) (h : OwnT base w v us) (hn : us.length ≤ 1048576) (hk0 : 0 < k) (hk : k ≤ 10000000) :
    Calls Try.prog 22 #[v, .int .i64 k] w fun e w' => e = .returned (.int .i64 ((k + 2 * us.length : Nat) : Int)) ∧ OwnT base w' v (marksT k us.length) ∧ w.grownBy w' v.ownBlock := by
  obtain ⟨a, cap, rfl⟩ : ∃ a cap, v = .slice a us.length cap := by
    rcases h.2 with ⟨rfl, h0⟩ | ⟨g, cap, cur, rfl, _⟩
    · exact ⟨none, 0, by rw [h0]⟩
    · exact ⟨_, _, rfl⟩
  obtain ⟨n, hl⟩ : ∃ n, us.length = n := ⟨_, rfl⟩
  unfold OwnT at h ⊢
  rw [hl] at h hn ⊢
  rw [marksT_len]
  have HH := Lib.hid h
  have HL := Lib.hid hl
  clear h hl
  go_enter Try.func22, Try.ntmps22
  go_wp2
  go_loopw [1, 5] (fun q i wr => ∃ j : Nat, j ≤ n ∧ q = .int .i64 ((k + 2 * j : Nat) : Int) ∧ i = .int .i64 j ∧ Hid (wr.ownsRow base TI 2 (.slice a n cap) n (termsV (marksT k j ++ us.drop j))) ∧ Hid (w.grownBy wr (Value.slice a n cap).ownBlock)) (fun _ i _ => n - (intOf i).toNat)
  case atStart => exact ⟨0, Nat.zero_le _, rfl, rfl, Lib.hid (by simpa [marksT] using HH.out), Lib.hid (grown_refl _ _)⟩
  case round =>
    obtain ⟨j, hj, rfl, rfl, HR, HB⟩ := hrel
    by_cases hlt : j < n
    · obtain ⟨g, rfl, hg⟩ : ∃ g, a = some ⟨g, 0, none⟩ ∧ base ≤ g := by
        rcases HR.out.2 with ⟨_, e1⟩ | ⟨g, cap1, cur, e0, hg, _⟩
        · omega
        · simp only [Value.slice.injEq] at e0; exact ⟨g, e0.1, hg⟩
      have hxl : (termsV (marksT k j ++ us.drop j)).length = n * 2 := by rw [termsV_len, List.length_append, marksT_len, List.length_drop, HL.out]; omega
      have hd0 : ∃ u, wr.cell? ⟨g, j * 2, none⟩ = some u := by rw [HR.out.cellAt _ (by omega)]; exact ⟨_, List.getElem?_eq_getElem (by omega)⟩
      obtain ⟨u0, hu0⟩ := hd0
      have hf0 := HR.out.frozenAt (j * 2)
      obtain ⟨m, hm⟩ : ∃ m, k + 2 * j = m := ⟨_, rfl⟩
      have hm1 : m ≤ 20000000 := by omega
      rw [hm]
      have hst := (HR.out.stored (j * 2) (.int .i64 (m : Int))).1
      have hbw := (HR.out.stored (j * 2) (.int .i64 (m : Int))).2
      have HM := Lib.hid hm
      have HST := Lib.hid hst
      have HBW := Lib.hid (grown_trans HB.out hbw)
      clear hm hst hbw hxl
      go_wp2_with fail
      refine (show Calls Try.prog 64 #[.int .i64 ((m : Int) + 1)] _ _ from markText_any (m + 1) _ (by omega) (by omega)).mono ?_
      rintro e w4 ⟨rfl, hb4⟩
      have hr4 := ownsRow_past HST.out hb4
      have hxl4 := hr4.1
      have hd1 : ∃ u, w4.cell? ⟨g, j * 2 + 1, none⟩ = some u := by rw [hr4.cellAt _ (by omega)]; exact ⟨_, List.getElem?_eq_getElem (by omega)⟩
      obtain ⟨u1, hu1⟩ := hd1
      have hf1 := hr4.frozenAt (j * 2 + 1)
      have HR4 := Lib.hid hr4
      have HB4 := Lib.hid (grown_trans HBW.out (grown_below _ hb4))
      clear hr4 hb4 hxl4
      go_wp2
      go_roundw
      case rel =>
        refine ⟨j + 1, by omega, by have := HM.out; go_num, by go_num, Lib.hid ?_, Lib.hid (grown_trans HB4.out (HR4.out.stored (j * 2 + 1) (.string (mkS (m + 1)))).2)⟩
        rw [← marksT_row k j n us HL.out hlt, HM.out]
        exact (HR4.out.stored (j * 2 + 1) (.string (mkS (m + 1)))).1
      case measure => simp [intOf]; omega
    · obtain rfl : j = n := by omega
      go_wp2
      go_ret
      refine ⟨rfl, ?_, HB.out⟩
      have := HR.out
      rw [List.drop_of_length_le (by rw [HL.out]; exact Nat.le_refl _), List.append_nil] at this
      exact this

/-! ### Texts -/
def marksS (k n : Nat) : List ByteArray := (List.range n).map fun i => mkS (k + i)
theorem marksS_len (k n : Nat) : (marksS k n).length = n := by simp [marksS]
theorem marksS_set (k j n : Nat) (us : List ByteArray) (hl : us.length = n) (hj : j < n) : (strsV (marksS k j ++ us.drop j)).set j (.string (mkS (k + j))) = strsV (marksS k (j + 1) ++ us.drop (j + 1)) := by
  have h1 : (marksS k j ++ us.drop j).set j (mkS (k + j)) = marksS k (j + 1) ++ us.drop (j + 1) := by
    rw [List.set_append_right _ _ (by rw [marksS_len]; exact Nat.le_refl _), marksS_len, Nat.sub_self, List.drop_eq_getElem_cons (by omega : j < us.length), List.set_cons_zero]
    unfold marksS
    rw [List.range_succ, List.map_append, List.append_assoc]
    rfl
  rw [← h1]
  unfold strsV
  rw [List.map_set]
def OwnS (base : Nat) (w : World) (v : Value) (zs : List ByteArray) : Prop := w.ownsRow base 9 1 v zs.length (strsV zs)
theorem OwnS.below {base : Nat} {w w' : World} {v : Value} {zs : List ByteArray} (h : OwnS base w v zs) (hb : Below w.heap.size w w') : OwnS base w' v zs := ownsRow_past h hb

set_option maxRecDepth 100000 in
set_option maxHeartbeats 2000000 in
theorem markStringS_any (base k : Nat) (v : Value) (us : List ByteArray) (w : World) (h : OwnS base w v us) (hn : us.length ≤ 1048576) (hk0 : 0 < k) (hk : k ≤ 10000000) :
    Calls Try.prog 37 #[v, .int .i64 k] w fun e w' => e = .returned (.int .i64 ((k + us.length : Nat) : Int)) ∧ OwnS base w' v (marksS k us.length) ∧ w.grownBy w' v.ownBlock := by
  obtain ⟨a, cap, rfl⟩ : ∃ a cap, v = .slice a us.length cap := by
    rcases h.2 with ⟨rfl, h0⟩ | ⟨g, cap, cur, rfl, _⟩
    · exact ⟨none, 0, by rw [h0]⟩
    · exact ⟨_, _, rfl⟩
  obtain ⟨n, hl⟩ : ∃ n, us.length = n := ⟨_, rfl⟩
  unfold OwnS at h ⊢
  rw [hl] at h hn ⊢
  rw [marksS_len]
  have HH := Lib.hid h
  have HL := Lib.hid hl
  clear h hl
  go_enter Try.func37, Try.ntmps37
  go_wp2
  go_loopw [1, 5] (fun q i wr => ∃ j : Nat, j ≤ n ∧ q = .int .i64 ((k + j : Nat) : Int) ∧ i = .int .i64 j ∧ Hid (wr.ownsRow base 9 1 (.slice a n cap) n (strsV (marksS k j ++ us.drop j))) ∧ Hid (w.grownBy wr (Value.slice a n cap).ownBlock)) (fun _ i _ => n - (intOf i).toNat)
  case atStart => exact ⟨0, Nat.zero_le _, rfl, rfl, Lib.hid (by simpa [marksS] using HH.out), Lib.hid (grown_refl _ _)⟩
  case round =>
    obtain ⟨j, hj, rfl, rfl, HR, HB⟩ := hrel
    by_cases hlt : j < n
    · obtain ⟨g, rfl, hg⟩ : ∃ g, a = some ⟨g, 0, none⟩ ∧ base ≤ g := by
        rcases HR.out.2 with ⟨_, e1⟩ | ⟨g, cap1, cur, e0, hg, _⟩
        · omega
        · simp only [Value.slice.injEq] at e0; exact ⟨g, e0.1, hg⟩
      obtain ⟨m, hm⟩ : ∃ m, k + j = m := ⟨_, rfl⟩
      have hm1 : m ≤ 20000000 := by omega
      have hm0 : 0 < m := by omega
      rw [hm]
      have HM := Lib.hid hm
      clear hm
      go_wp2_with fail
      refine (markText_any m _ (by omega) (by omega)).mono ?_
      rintro e w4 ⟨rfl, hb4⟩
      have hr4 := ownsRow_past HR.out hb4
      have hxl : (strsV (marksS k j ++ us.drop j)).length = n := by rw [strsV_len, List.length_append, marksS_len, List.length_drop, HL.out]; omega
      have hd1 : ∃ u, w4.cell? ⟨g, j, none⟩ = some u := by rw [hr4.cellAt _ (by omega)]; exact ⟨_, List.getElem?_eq_getElem (by omega)⟩
      obtain ⟨u1, hu1⟩ := hd1
      have hf1 := hr4.frozenAt j
      have HR4 := Lib.hid hr4
      have HB4 := Lib.hid (grown_trans HB.out (grown_below _ hb4))
      clear hr4 hb4 hxl
      go_wp2
      go_roundw
      case rel =>
        refine ⟨j + 1, by omega, by have := HM.out; go_num, by go_num, Lib.hid ?_, Lib.hid (grown_trans HB4.out (HR4.out.stored j (.string (mkS m))).2)⟩
        rw [← marksS_set k j n us HL.out hlt, HM.out]
        exact (HR4.out.stored j (.string (mkS m))).1
      case measure => simp [intOf]; omega
    · obtain rfl : j = n := by omega
      go_wp2
      go_ret
      refine ⟨rfl, ?_, HB.out⟩
      have := HR.out
      rw [List.drop_of_length_le (by rw [HL.out]; exact Nat.le_refl _), List.append_nil] at this
      exact this

set_option maxRecDepth 100000 in
set_option maxHeartbeats 2000000 in
theorem heldTermS_any (k : Nat) (a : Option Addr) (cap n : Nat) (w : World) (hs : IsTerms w a n (marksT k n)) (hn : n ≤ 1048576) (hk0 : 0 < k) (hk : k ≤ 1000000) :
    Calls Try.prog 23 #[.slice a n cap, .int .i64 k] w fun e w' => e = .returned (.int .i64 ((k + 2 * n : Nat) : Int)) ∧ Below w.heap.size w w' := by
  have HS := Lib.hid hs
  have hmx : Try.prog.follows .mixedOrders = true := by kernel_rfl
  clear hs
  go_enter Try.func23, Try.ntmps23
  go_wp2
  go_loopw [1, 5] (fun q i wr => ∃ j : Nat, j ≤ n ∧ q = .int .i64 ((k + 2 * j : Nat) : Int) ∧ i = .int .i64 j ∧ Below w.heap.size w wr) (fun _ i _ => n - (intOf i).toNat)
  case atStart => exact ⟨0, Nat.zero_le _, rfl, rfl, Below.refl _ _⟩
  case round =>
    obtain ⟨j, hj, rfl, rfl, hB⟩ := hrel
    by_cases hlt : j < n
    · obtain ⟨x, rfl, hx⟩ := HS.out.at_ (by omega)
      have hxw := hx.below hB
      have hc := hxw.2 j (by rw [marksT_len]; exact hlt)
      rw [marksT_get, addr_next] at hc
      obtain ⟨m, hm⟩ : ∃ m, k + 2 * j = m := ⟨_, rfl⟩
      have hm1 : m ≤ 4000000 := by omega
      unfold markT at hc
      rw [hm] at hc ⊢
      obtain ⟨c0, c1⟩ := hc
      dsimp only at c0 c1
      have hbx := hxw.1
      have v1 := BelowBy.cell (w := wr) (by show (x.add (j * 2)).block < _; rw [addr_add_block]; exact hbx) c1
      have HT : Hid (∀ W : World, Calls Try.prog 64 #[.int .i64 ((m : Int) + 1)] W fun e w' => e = .returned (.string (mkS (m + 1))) ∧ Below W.heap.size W w') :=
        Lib.hid fun W => markText_any (m + 1) W (by omega) (by omega)
      have HM := Lib.hid hm
      clear hm hx hxw c1
      go_wp2
      refine wp_region_below hmx (by kernel_rfl) ?_
      repeat (((with_reducible refine wpQuiet_step (fun K hK => ?_)); go_simp; first | ((with_reducible refine hK _ ?_); clear hK K) | (refine (if_neg (by decide)).mpr ?_; (with_reducible refine hK _ ?_); clear hK K) | (apply Exists.intro; (with_reducible refine ⟨fun _ => ?_, hK _ ?_⟩); (go_at_call 64; exact Calls.bel (HT.out _)); clear hK K)))
      with_reducible refine wpQuiet_nil ?_
      rintro W ⟨⟨W, hW⟩, rfl⟩
      clear v1
      have hBW : Below w.heap.size w W := hB.trans (hW.mono hB.size)
      change Exit.then _ _ _ _ W
      go_wp2
      go_roundw
      case rel => exact ⟨j + 1, by omega, by have := HM.out; go_num, by go_num, hBW⟩
      case measure => simp [intOf]; omega
    · obtain rfl : j = n := by omega
      go_wp2
      go_ret
      exact ⟨rfl, hB⟩

end Go.Proofs.Ytidmlppbmcphbaa

/- What the laws on lists of terms need about rows of the call's own. -/

namespace Go.Proofs.Ytidmlppbmcphbaa
open Go.RowKit Go.Shelf

theorem isTerms_owns {w : World} {base g cap n : Nat} {a : Option Addr} {w0 : World} {ts : List Tm} (h0 : IsTerms w0 a n ts) (h : w.ownsRow base TI 2 (.slice (some ⟨g, 0, none⟩) n cap) n (termsV ts)) : IsTerms w (some ⟨g, 0, none⟩) n ts :=
  ⟨h0.len, h0.max, fun _ => ⟨_, rfl, termsAt_of_owns h0.len h⟩, h0.small⟩
theorem ownIsTerms {base : Nat} {w : World} {a : Option Addr} {n c : Nat} {ts : List Tm} (h : OwnT base w (.slice a n c) ts) (hs : SmallT ts) : IsTerms w a n ts := by
  obtain ⟨a', c', e, hI⟩ := h.isTerms hs
  simp only [Value.slice.injEq] at e
  obtain ⟨rfl, rfl, rfl⟩ := e
  exact hI
theorem IsTerms.smallT {w : World} {a : Option Addr} {n : Nat} {ts : List Tm} (h : IsTerms w a n ts) : SmallT ts := ⟨by rw [h.len]; exact h.max, h.small⟩
theorem OwnT.keptBy {base : Nat} {w w' : World} {v : Value} {ts : List Tm} {row : Option Nat} (h : OwnT base w v ts) (hg : w.grownBy w' row) (hne : v.ownBlock = row → False) : OwnT base w' v ts := h.kept hg (.inr hne)
theorem OwnS.keptBy {base : Nat} {w w' : World} {v : Value} {ts : List ByteArray} {row : Option Nat} (h : OwnS base w v ts) (hg : w.grownBy w' row) (hne : v.ownBlock = row → False) : OwnS base w' v ts := h.kept hg (.inr hne)
theorem IsStrs.below {w w' : World} {a : Option Addr} {n : Nat} {zs : List ByteArray} (h : IsStrs w a n zs) (hb : Below w.heap.size w w') : IsStrs w' a n zs := ⟨h.len, h.max, h.at_.below hb⟩
theorem isStrs_owns {w : World} {base g n : Nat} {a : Option Addr} {w0 : World} {zs : List ByteArray} (h0 : IsStrs w0 a n zs) (h : w.ownsRow base 9 1 (.slice (some ⟨g, 0, none⟩) n n) n (strsV zs)) : IsStrs w (some ⟨g, 0, none⟩) n zs :=
  ⟨h0.len, h0.max, (strsAt_of_owns h0.len h h0.at_.small).1⟩
theorem ownIsStrs {base : Nat} {w w0 : World} {a : Option Addr} {g n : Nat} {zs : List ByteArray} (h0 : IsStrs w0 a n zs) (h : OwnS base w (.slice (some ⟨g, 0, none⟩) n n) zs) : StrsAt w (some ⟨g, 0, none⟩) zs := by
  unfold OwnS at h
  rw [h0.len] at h
  exact (strsAt_of_owns h0.len h h0.at_.small).1

end Go.Proofs.Ytidmlppbmcphbaa

/- A slice of terms that came in, opened. -/

namespace Go.Proofs.Ytidmlppbmcphbaa
open Go.RowKit Go.ChangeShapes Go.WideShapes

theorem isTerms_of {H : Type} {enc : TypeId × Value → H} {W : World} {base : Nat} {spare : Nat → Bool} {held : Bool} {fuel : Nat} {a : Option Addr} {len cap : Nat} {x : DataW H × List MemPlace}
    (h : DataW.trod enc Try.prog W base spare held fuel 22 [.slice a len cap] = some x) : ∃ ts, IsTerms W a len ts := by
  rcases Go.Deep.open_slice_pairs Try.underlying22 Try.underlying61 (by kernel_rfl) rfl rfl (by kernel_rfl) (by kernel_rfl) h with ⟨hcs, _⟩ | ⟨y, l, c, m, n, V0, V1, D0, D1, P0, P1, hcs, hb, hl, hm, hmm, _, hx⟩
  · simp at hcs
    obtain ⟨rfl, rfl, rfl⟩ := hcs
    exact ⟨[], rfl, Nat.zero_le _, fun h => absurd h (Nat.lt_irrefl _), fun t h => by cases h⟩
  · simp at hcs
    obtain ⟨rfl, rfl, rfl⟩ := hcs
    have hlm : len ≤ m := by rw [hmm]; split <;> omega
    have each : ∀ i, i < len → ∃ t : Tm, W.cell? (y.add (i * 2)) = some (.int .i64 t.c) ∧ W.cell? (y.add (i * 2 + 1)) = some (.string t.s) ∧ (t.s.size ≤ maxLen ∧ -9223372036854775808 ≤ t.c ∧ t.c ≤ 9223372036854775807) := fun i hi => by
      obtain ⟨h0, h1, h2, h3⟩ := hx i (by omega)
      obtain ⟨k, hk, _, hwf⟩ := DataW.trod_int Try.underlying3 h2
      obtain ⟨s, hs, _, hsm⟩ := DataW.trod_string Try.underlying9 h3
      simp at hk hs
      refine ⟨⟨k, s⟩, by rw [h0, hk], by rw [h1, hs], hsm, ?_⟩
      simp only [Lit.wf, Bool.and_eq_true, decide_eq_true_eq] at hwf
      exact ⟨hwf.1, hwf.2⟩
    obtain ⟨q, hq⟩ := Go.Deep.choose_lt each
    refine ⟨(List.range len).map q, by simp, by omega, fun h0 => ⟨y, rfl, ?_, fun i hi => ?_⟩, fun t ht => ?_⟩
    · have := (hq 0 h0).1
      have h := World.block_lt_of_cell? _ _ this
      rw [addr_add_block] at h
      exact h
    · simp only [List.length_map, List.length_range] at hi
      simp only [List.getElem_map, List.getElem_range]
      exact ⟨(hq i hi).1, (hq i hi).2.1⟩
    · obtain ⟨i, hi, rfl⟩ := List.mem_map.1 ht
      exact (hq i (List.mem_range.1 hi)).2.2

end Go.Proofs.Ytidmlppbmcphbaa

/- The contracts of the program's 'imagesOf' and 'WordPut'. -/

namespace Go.Proofs.Ytidmlppbmcphbaa
open Go.RowKit Go.Shelf

/-- A list of strings from a cell 0 on, as a law copies it. -/
structure StrsIn (w : World) (a : Option Addr) (g : Nat) (n : Nat) (zs : List ByteArray) : Prop where
  len : zs.length = n
  at0 : 0 < n → a = some ⟨g, 0, none⟩
  blk : g < w.heap.size
  cells : ∀ i (h : i < zs.length), w.cell? ⟨g, i, none⟩ = some (.string zs[i])
  small : ∀ s ∈ zs, s.size ≤ maxLen
theorem StrsIn.below {w w' : World} {a : Option Addr} {g n : Nat} {zs : List ByteArray} (h : StrsIn w a g n zs) (hb : Below w.heap.size w w') : StrsIn w' a g n zs :=
  ⟨h.len, h.at0, Nat.lt_of_lt_of_le h.blk hb.size, fun i hi => (hb.cell (p := ⟨g, i, none⟩) h.blk).trans (h.cells i hi), h.small⟩

theorem imagesOf_yes (a : Option Addr) (g cap n : Nat) (zs : List ByteArray) (w : World) (hs : StrsIn w a g n zs) (hf : fourB zs = true) :
    Calls Try.prog 75 #[.slice a n cap] w fun e w' =>
      ∃ (gi : Nat), e = .returned (.tuple #[.slice (some ⟨gi, 0, none⟩) 4 4, .bool true]) ∧ FourAt gi w.heap.size w' zs ∧ Below w.heap.size w w' := by
  obtain ⟨hz4, hz⟩ := (fourB_iff zs).1 hf
  obtain rfl : n = 4 := by have := hs.len; omega
  obtain rfl := hs.at0 (by omega)
  have hw := wordsOf_four g zs w hz4 hs.blk hs.cells hz cap
  have HW := Lib.hid hw
  clear hw hs hz4 hz hf
  go_enter Try.func75, Try.ntmps75
  go_wp2_with fail
  refine HW.out.mono ?_
  rintro e w2 ⟨gi, vals, rfl, hgi, hvals, hb2⟩
  have HV := Lib.hid hvals
  clear hvals
  go_wp2_with fail
  go_ret2
  refine ⟨gi, rfl, ⟨hgi, fun j h => ?_⟩, hb2⟩
  obtain ⟨v, h1, _, h2⟩ := HV.out j h
  exact ⟨v, h1, h2⟩

theorem imagesOf_no (a : Option Addr) (g cap n : Nat) (zs : List ByteArray) (w : World) (hs : StrsIn w a g n zs) (hn : n ≤ maxLen) (hf : fourB zs = false) :
    Calls Try.prog 75 #[.slice a n cap] w fun e w' =>
      e = .returned (.tuple #[.slice none 0 0, .bool false]) ∧ Below w.heap.size w w' := by
  have hnm := hn
  unfold maxLen at hnm
  by_cases h4 : n = 4
  · have hno : ¬ ∀ s ∈ zs, wordB s.data.toList = true := fun h => by
      have := (fourB_iff zs).2 ⟨hs.len.trans h4, h⟩
      rw [hf] at this; cases this
    have hw := wordsOf_any a g 0 cap n zs w hs.len (by omega) hs.at0 hs.blk (fun i h => by rw [Nat.zero_add]; exact hs.cells i h) hs.small
    have HW := Lib.hid hw
    have HN := Lib.hid hno
    clear hw hs hno hf hn hnm
    subst h4
    go_enter Try.func75, Try.ntmps75
    go_wp2_with fail
    refine HW.out.mono ?_
    rintro e w2 ⟨⟨rfl, _⟩ | ⟨_, _, _, h, _⟩, hb2⟩
    · go_wp2_with fail
      go_ret2
      exact ⟨rfl, hb2⟩
    · exact absurd h HN.out
  · clear hs hf hn
    have h4' : ¬ ((n : Int) = 4) := by omega
    go_enter Try.func75, Try.ntmps75
    go_wp2
    go_ret2
    exact ⟨rfl, Below.refl _ _⟩

end Go.Proofs.Ytidmlppbmcphbaa

/- The contracts of the program's 'SumPut'; both SumPuts as a law wants them. -/

namespace Go.Proofs.Ytidmlppbmcphbaa
open Go.RowKit Go.Shelf

theorem StrsIn.strsAt {w : World} {g n : Nat} {zs : List ByteArray} (h : StrsIn w (some ⟨g, 0, none⟩) g n zs) : StrsAt w (some ⟨g, 0, none⟩) zs :=
  ⟨fun _ => ⟨_, rfl, h.blk, fun i hi => by
    have ha : (⟨g, 0, none⟩ : Addr).add i = ⟨g, i, none⟩ := by unfold Addr.add; split <;> simp_all
    rw [ha]; exact h.cells i hi⟩, h.small⟩
theorem strsIn_owns {w : World} {base g n : Nat} {a : Option Addr} {w0 : World} {zs : List ByteArray} (h0 : IsStrs w0 a n zs) (h : w.ownsRow base 9 1 (.slice (some ⟨g, 0, none⟩) n n) n (strsV zs)) : StrsIn w (some ⟨g, 0, none⟩) g n zs := by
  obtain ⟨_, h2, h3⟩ := strsAt_of_owns h0.len h h0.at_.small
  exact ⟨h0.len, fun _ => rfl, h2, h3, h0.at_.small⟩

theorem put_change (w0 : World) (B gi lo : Nat) (zs : List ByteArray) (hB : w0.cell? ⟨B, 0, none⟩ = some (.slice (some ⟨gi, 0, none⟩) 4 4)) (hf : FourAt gi lo w0 zs) (hz4 : zs.length = 4) (hz : ∀ z ∈ zs, wordB z.data.toList = true) :
    ChangeOk w0 76 #[.pointer (some ⟨B, 0, none⟩)] (putF zs) := fun W g n cap L hb hl hw hi => by
  have hBW := (hb.cell (p := ⟨B, 0, none⟩) (World.block_lt_of_cell? _ _ hB)).trans hB
  obtain ⟨p1, p2, _⟩ := (wordB_iff _).1 hw
  have hput := (callsIn_wide (n := 40)).1 (wordPut_in 40 (by omega) g n cap gi 4 lo L zs W hl (by omega) p2 hi hz4 hz (hf.below hb))
  have hX : redX [] (L.map (imgX zs)).flatten = putF zs L := by
    have h1 := redX_eq (putX zs L) [] (letL_putX zs L hz)
    unfold putX at h1
    rw [h1]
    have h2 := (putX_eq zs L hz).1
    unfold putX at h2
    rw [h2]; rfl
  have hXl : (putF zs L).length ≤ 100000 := by
    rw [← hX]
    have h1 := redX_len (L.map (imgX zs)).flatten []
    have h2 := putX_len zs L hz
    unfold putX at h2
    simp only [List.length_nil] at h1
    omega
  rw [hX] at hput
  have HP := Lib.hid hput
  have HXL := Lib.hid hXl
  clear hput hX hXl hi hb hw hf hz hB hl p1 p2
  show Calls Try.prog 76 #[.slice (some ⟨g, 0, none⟩) n cap, .pointer (some ⟨B, 0, none⟩)] W _
  go_enter Try.func76, Try.ntmps76
  go_wp2_with fail
  refine HP.out.mono ?_
  rintro e w3 ⟨g4, m, cap4, rfl, hm, hown, hb3⟩
  have HM := Lib.hid hm
  have HO := Lib.hid hown
  clear hm hown
  go_wp2
  go_ret
  exact ⟨g4, m, cap4, rfl, HM.out, by rw [← HM.out]; exact HXL.out, HO.out, hb3⟩

def sumPutB (x : List Tm) (zs : List ByteArray) : Bool := sumB x && (fourB zs && (fitB (x.map (mapT (putF zs))) && twB (canonT (x.map (mapT (putF zs))))))

set_option maxRecDepth 100000 in
set_option maxHeartbeats 4000000 in
theorem iSumPut_noFour (a : Option Addr) (cap n g2 c2 m : Nat) (zs : List ByteArray) (w : World) (hs : StrsIn w (some ⟨g2, 0, none⟩) g2 m zs) (hm : m ≤ maxLen) (hb : fourB zs = false) :
    Calls Try.prog 35 #[.slice a n cap, .slice (some ⟨g2, 0, none⟩) m c2] w (ITold w false []) := by
  have HS := Lib.hid hs
  have HF := Lib.hid hb
  clear hs hb
  go_enter Try.func35, Try.ntmps35
  go_wp2_with fail
  refine (imagesOf_no _ g2 c2 m zs _ HS.out hm HF.out).mono ?_
  rintro e w1 ⟨rfl, hb1⟩
  have HB1 := Lib.hid hb1
  clear hb1
  go_wp2
  go_ret2
  exact ⟨⟨_, rfl, ownNil _ _⟩, by first | exact HB1.out | exact HB1.out.alloc HB1.out.size _ | exact (HB1.out.alloc HB1.out.size _).setCell (by exact HB1.out.size) _⟩

set_option maxRecDepth 100000 in
set_option maxHeartbeats 4000000 in
theorem iSumPut_four (a : Option Addr) (cap n g2 c2 m : Nat) (x : List Tm) (zs : List ByteArray) (b : Bool) (w : World) (hx : IsTerms w a n x) (hs : StrsIn w (some ⟨g2, 0, none⟩) g2 m zs) (hf : fourB zs = true) (hb : (sumB x && (fitB (x.map (mapT (putF zs))) && twB (canonT (x.map (mapT (putF zs)))))) = b) :
    Calls Try.prog 35 #[.slice a n cap, .slice (some ⟨g2, 0, none⟩) m c2] w (ITold w b (canonT (x.map (mapT (putF zs))))) := by
  obtain ⟨hz4, hz⟩ := (fourB_iff zs).1 hf
  have HX := Lib.hid hx
  have HS := Lib.hid hs
  have HF := Lib.hid hf
  have HBB := Lib.hid hb
  have HZ4 := Lib.hid hz4
  have HZ := Lib.hid hz
  clear hx hs hf hb hz4 hz
  go_enter Try.func35, Try.ntmps35
  go_wp2_with fail
  refine (imagesOf_yes _ g2 c2 m zs _ HS.out HF.out).mono ?_
  rintro e w1 ⟨gi, rfl, hfo, hb1⟩
  have HFo := Lib.hid hfo
  have HB1 := Lib.hid hb1
  clear hfo hb1
  have hba : Below w1.heap.size w1 (w1.alloc (.cells #[.slice (some ⟨gi, 0, none⟩) 4 4] 66)) := (Below.refl _ _).alloc (Nat.le_refl _) _
  have hbx : (w1.alloc (.cells #[.slice (some ⟨gi, 0, none⟩) 4 4] 66)).cell? ⟨w1.heap.size, 0, none⟩ = some (.slice (some ⟨gi, 0, none⟩) 4 4) := by
    rw [World.cell?_alloc_at _ _ _ _ rfl]; rfl
  have hch := put_change _ w1.heap.size gi w.heap.size zs hbx (HFo.out.below hba) HZ4.out HZ.out
  have hxw := HX.out.below (HB1.out.trans (hba.mono HB1.out.size))
  have HC : Hid (Calls Try.prog 71 #[.slice a n cap, .func (.func 76) #[] #[.pointer (some ⟨w1.heap.size, 0, none⟩)]] (w1.alloc (.cells #[.slice (some ⟨gi, 0, none⟩) 4 4] 66)) (ITold (w1.alloc (.cells #[.slice (some ⟨gi, 0, none⟩) 4 4] 66)) b (canonT (x.map (mapT (putF zs)))))) := by
    have h := HBB.out
    cases hbx2 : sumB x with
    | false => rw [hbx2] at h; subst h; exact Lib.hid (changed_no a cap n x _ _ hxw hbx2)
    | true => rw [hbx2, Bool.true_and] at h; exact Lib.hid (changed_yes _ #[.pointer (some ⟨w1.heap.size, 0, none⟩)] (putF zs) a cap n x b _ hxw (enters_of Try.func76 (by kernel_rfl) rfl) hch hbx2 h)
  have HBA := Lib.hid (HB1.out.trans (hba.mono HB1.out.size))
  clear hba hbx hch hxw
  go_wp2_with fail
  with_reducible refine HC.out.mono ?_
  rintro e w4 ⟨⟨v', rfl, ho⟩, hb4⟩
  have HO := Lib.hid ho
  have HB4 := Lib.hid hb4
  clear ho hb4
  go_wp2
  go_ret2
  exact ⟨⟨_, rfl, HO.out.mono HBA.out.size⟩, HBA.out.trans (HB4.out.mono HBA.out.size)⟩

/-! ### As a law wants them -/
theorem sumPutB_tw {x : List Tm} {zs : List ByteArray} {b : Bool} (h : sumPutB x zs = b) : b = true → twB (canonT (x.map (mapT (putF zs)))) = true := by
  intro hb
  subst hb
  unfold sumPutB at h
  simp only [Bool.and_eq_true] at h
  exact h.2.2.2
theorem sSumPut_law {g1 g2 c1 c2 n m : Nat} {x : List Tm} {zs : List ByteArray} {b : Bool} {w : World} (hx : IsTerms w (some ⟨g1, 0, none⟩) n x) (hm : m ≤ maxLen) (hs : StrsIn w (some ⟨g2, 0, none⟩) g2 m zs) (hb : sumPutB x zs = b) :
    Calls Try.prog 33 #[.slice (some ⟨g1, 0, none⟩) n c1, .slice (some ⟨g2, 0, none⟩) m c2] w (STold w b (canonT (x.map (mapT (putF zs))))) := by
  unfold sumPutB at hb
  cases hbx : sumB x with
  | false => rw [hbx] at hb; subst hb; exact sSumPut_no _ _ _ _ _ _ x zs w hx hs.len hm hs.strsAt (.inl hbx)
  | true =>
    cases hbf : fourB zs with
    | false => rw [hbx, hbf] at hb; subst hb; exact sSumPut_no _ _ _ _ _ _ x zs w hx hs.len hm hs.strsAt (.inr hbf)
    | true =>
      rw [hbx, hbf] at hb
      obtain rfl : m = 4 := by have := ((fourB_iff zs).1 hbf).1; have := hs.len; omega
      exact sSumPut_yes _ _ _ _ _ x zs b w hx hs.strsAt hbx hbf hb
theorem iSumPut_law {g1 g2 c1 c2 n m : Nat} {x : List Tm} {zs : List ByteArray} {b : Bool} {w : World} (hx : IsTerms w (some ⟨g1, 0, none⟩) n x) (hm : m ≤ maxLen) (hs : StrsIn w (some ⟨g2, 0, none⟩) g2 m zs) (hb : sumPutB x zs = b) :
    Calls Try.prog 35 #[.slice (some ⟨g1, 0, none⟩) n c1, .slice (some ⟨g2, 0, none⟩) m c2] w (ITold w b (canonT (x.map (mapT (putF zs))))) := by
  unfold sumPutB at hb
  cases hbf : fourB zs with
  | false =>
    have : b = false := by rw [← hb, hbf, Bool.false_and, Bool.and_false]
    subst this
    exact iSumPut_noFour _ _ _ _ _ _ zs w hs hm hbf
  | true => rw [hbf, Bool.true_and] at hb; exact iSumPut_four _ _ _ _ _ _ x zs b w hx hs hbf hb

end Go.Proofs.Ytidmlppbmcphbaa

/- Derivatives of words as lists of terms in the order of letters; sums of such lists. -/

namespace Go.Proofs.Ytidmlppbmcphbaa
open Go.RowKit

/-- The term of one letter behind p. -/
def foxT (g c : Int) (p : List UInt8) (x : UInt8) : List Tm := if (idxB x : Int) = g then [⟨c * sgnB x, bstr (if 97 ≤ x.toNat then p else p ++ [x])⟩] else []
/-- The terms of the first k letters. -/
def foxN (g c : Int) (l : List UInt8) : Nat → List Tm
  | 0 => []
  | k + 1 => foxN g c l k ++ foxT g c (l.take k) (l.getD k 0)
def foxL (g c : Int) (l : List UInt8) : List Tm := foxN g c l l.length
theorem foxN_succ (g c : Int) (l : List UInt8) (k : Nat) (hk : k < l.length) : foxN g c l (k + 1) = foxN g c l k ++ foxT g c (l.take k) l[k] := by
  rw [foxN, List.getD_eq_getElem?_getD, List.getElem?_eq_getElem hk]; rfl
theorem foxT_no {g c : Int} {p : List UInt8} {x : UInt8} (h : (idxB x : Int) ≠ g) : foxT g c p x = [] := if_neg h
theorem foxT_hi {g c : Int} {p : List UInt8} {x : UInt8} (h : (idxB x : Int) = g) (hx : 97 ≤ x.toNat) : foxT g c p x = [⟨c * sgnB x, bstr p⟩] := by
  unfold foxT; rw [if_pos h, if_pos hx]
theorem foxT_lo {g c : Int} {p : List UInt8} {x : UInt8} (h : (idxB x : Int) = g) (hx : ¬ 97 ≤ x.toNat) : foxT g c p x = [⟨c * sgnB x, bstr (p ++ [x])⟩] := by
  unfold foxT; rw [if_pos h, if_neg hx]
theorem sgnB_bnd (x : UInt8) : -1 ≤ sgnB x ∧ sgnB x ≤ 1 := by unfold sgnB; split <;> omega
theorem mul_sgn {c C : Int} (hc : -C ≤ c ∧ c ≤ C) (x : UInt8) : -C ≤ c * sgnB x ∧ c * sgnB x ≤ C := by
  unfold sgnB; split <;> omega
theorem foxN_len (g c : Int) (l : List UInt8) : ∀ k, (foxN g c l k).length ≤ k
  | 0 => Nat.le_refl _
  | k + 1 => by
    have := foxN_len g c l k
    rw [foxN, List.length_append]
    have h2 : (foxT g c (l.take k) (l.getD k 0)).length ≤ 1 := by unfold foxT; split <;> simp
    omega
theorem foxN_mem {g c C : Int} (hc : -C ≤ c ∧ c ≤ C) {l : List UInt8} {t : Tm} : ∀ {k}, k ≤ l.length → t ∈ foxN g c l k → (-C ≤ t.c ∧ t.c ≤ C) ∧ ∃ j, j ≤ k ∧ t.s = bstr (l.take j)
  | 0, _, h => by cases h
  | k + 1, hk, h => by
    rw [foxN_succ g c l k (by omega)] at h
    rcases List.mem_append.1 h with h | h
    · obtain ⟨h1, j, hj, h2⟩ := foxN_mem hc (by omega) h
      exact ⟨h1, j, by omega, h2⟩
    · by_cases hi : (idxB l[k] : Int) = g
      · by_cases hx : 97 ≤ l[k].toNat
        · rw [foxT_hi hi hx] at h
          obtain rfl := List.mem_singleton.1 h
          exact ⟨mul_sgn hc _, k, by omega, rfl⟩
        · rw [foxT_lo hi hx] at h
          obtain rfl := List.mem_singleton.1 h
          refine ⟨mul_sgn hc _, k + 1, by omega, ?_⟩
          show bstr (l.take k ++ [l[k]]) = _
          rw [← take_snoc l k (by omega)]
      · rw [foxT_no hi] at h; cases h
theorem word_take {l : List UInt8} (h : wordB l = true) (j : Nat) : wordB (l.take j) = true := by
  obtain ⟨h1, h2, h3⟩ := (wordB_iff _).1 h
  refine (wordB_iff _).2 ⟨by rw [List.length_take]; omega, letL_of_mem _ _ h2 fun _ hc => List.mem_of_mem_take hc, (red_iff _).2 ?_⟩
  have := (red_iff _).1 h3
  rw [← List.take_append_drop j l] at this
  exact noC_left this

/-! ### Coefficients -/
def scaleT (c : Int) (ts : List Tm) : List Tm := ts.map fun t => ⟨c * t.c, t.s⟩
theorem coefAt_scale (s : ByteArray) (c : Int) : ∀ ts, coefAt s (scaleT c ts) = c * coefAt s ts
  | [] => by simp [scaleT, coefAt]
  | t :: r => by
    have ih := coefAt_scale s c r
    unfold scaleT at *
    rw [List.map_cons, coefAt, coefAt, ih, Int.mul_add]
    show (if t.s = s then c * t.c else 0) + _ = _
    split
    · rfl
    · simp
theorem foxT_scale (g c : Int) (p : List UInt8) (x : UInt8) : foxT g c p x = scaleT c (foxT g 1 p x) := by
  unfold foxT scaleT
  split
  · simp
  · rfl
theorem foxN_scale (g c : Int) (l : List UInt8) : ∀ k, foxN g c l k = scaleT c (foxN g 1 l k)
  | 0 => rfl
  | k + 1 => by
    rw [foxN, foxN, foxN_scale g c l k, foxT_scale]
    unfold scaleT; rw [List.map_append]
theorem foxL_scale (g c : Int) (l : List UInt8) : foxL g c l = scaleT c (foxL g 1 l) := foxN_scale g c l _
theorem coefAt_flat (s : ByteArray) {f h : Tm → List Tm} (hfh : ∀ t, coefAt s (f t) = coefAt s (h t)) : ∀ a : List Tm, coefAt s (a.flatMap f) = coefAt s (a.flatMap h)
  | [] => rfl
  | t :: r => by rw [List.flatMap_cons, List.flatMap_cons, coefAt_append, coefAt_append, hfh, coefAt_flat s hfh r]
theorem canonT_congr {a b : List Tm} (h : ∀ s, coefAt s a = coefAt s b) : canonT a = canonT b :=
  canonT_unique (canonT_spec a).1 fun s => by rw [(canonT_spec a).2, h]

/-- The terms of the derivative of a sum: as the program gathers them, and as the model does. -/
def foxI (g : Int) (a : List Tm) : List Tm := a.flatMap fun t => foxL g t.c t.s.data.toList
def foxM (g : Int) (a : List Tm) : List Tm := a.flatMap fun t => scaleT t.c (canonT (foxL g 1 t.s.data.toList))
theorem foxIM (g : Int) (a : List Tm) : canonT (foxM g a) = canonT (foxI g a) :=
  canonT_congr fun s => coefAt_flat s (fun t => by rw [coefAt_scale, (canonT_spec _).2, foxL_scale g t.c, coefAt_scale]) a

/-! ### Sizes -/
theorem fold_bound {C : Int} (hC : 0 ≤ C) : ∀ (ts acc : List Tm) (B : Int), 0 ≤ B → (∀ t ∈ ts, -C ≤ t.c ∧ t.c ≤ C) → (∀ u ∈ acc, -B ≤ u.c ∧ u.c ≤ B) → ∀ u ∈ ts.foldl addT acc, -(B + C * ts.length) ≤ u.c ∧ u.c ≤ B + C * ts.length
  | [], acc, B, _, _, h, u, hu => by have := h u hu; simpa using this
  | t :: r, acc, B, hB, ht, h, u, hu => by
    have h1 := fold_bound hC r (addT acc t) (B + C) (by omega) (fun v hv => ht v (by simp [hv])) (add_bound hC (ht t (by simp)) h hB) u hu
    rw [List.length_cons, show ((r.length + 1 : Nat) : Int) = (r.length : Int) + 1 by omega, Int.mul_add, Int.mul_one]
    omega
theorem fold_words : ∀ (ts acc : List Tm), ∀ u ∈ ts.foldl addT acc, (∃ v ∈ acc, v.s = u.s) ∨ ∃ v ∈ ts, v.s = u.s
  | [], acc, u, hu => .inl ⟨u, hu, rfl⟩
  | t :: r, acc, u, hu => by
    rcases fold_words r (addT acc t) u hu with ⟨v, hv, e⟩ | ⟨v, hv, e⟩
    · rcases add_words hv with h | ⟨x, hx, h⟩
      · exact .inr ⟨t, by simp, by rw [← h, e]⟩
      · exact .inl ⟨x, hx, by rw [h, e]⟩
    · exact .inr ⟨v, by simp [hv], e⟩
theorem canon_words {ts : List Tm} {u : Tm} (h : u ∈ canonT ts) : ∃ v ∈ ts, v.s = u.s := by
  rcases fold_words ts [] u h with ⟨v, hv, _⟩ | h
  · cases hv
  · exact h
theorem fold_len : ∀ (ts acc : List Tm), (ts.foldl addT acc).length ≤ acc.length + ts.length
  | [], acc => Nat.le_refl _
  | t :: r, acc => by
    have := fold_len r (addT acc t)
    have h2 := add_len t acc
    rw [List.length_cons]
    show (r.foldl addT (addT acc t)).length ≤ _
    omega
/-- A derivative of a word is a sum. -/
theorem fox_tw {g : Int} {l : List UInt8} (h : wordB l = true) : twB (canonT (foxL g 1 l)) = true := by
  have hl := ((wordB_iff _).1 h).1
  have hn := foxN_len g 1 l l.length
  have hlen : (canonT (foxL g 1 l)).length ≤ 60 := by
    have := fold_len (foxL g 1 l) []
    unfold foxL canonT at *
    simp only [List.length_nil] at this
    omega
  refine twB_of (by omega) fun j hj => ?_
  have hm := List.getElem_mem hj
  have hb := fold_bound (C := 1) (by omega) (foxL g 1 l) [] 0 (by omega) (fun t ht => (foxN_mem (C := 1) (by omega) (Nat.le_refl _) ht).1) (fun u hu => by cases hu) _ hm
  have hb2 : (foxL g 1 l).length ≤ 60 := by unfold foxL; omega
  obtain ⟨v, hv, e⟩ := canon_words hm
  obtain ⟨_, k, _, e2⟩ := foxN_mem (C := 1) (by omega) (Nat.le_refl _) hv
  unfold termB
  rw [← e, e2, bstr_toList, word_take h, Bool.true_and]
  unfold inR
  simp only [Bool.and_eq_true, decide_eq_true_eq]
  omega
theorem foxI_succ (g : Int) (a : List Tm) (k : Nat) (h : k < a.length) : foxI g (a.take (k + 1)) = foxI g (a.take k) ++ foxL g a[k].c a[k].s.data.toList := by
  unfold foxI; rw [List.take_succ_eq_append_getElem h, List.flatMap_append]; simp
theorem foxM_succ (g : Int) (a : List Tm) (k : Nat) (h : k < a.length) : foxM g (a.take (k + 1)) = foxM g (a.take k) ++ scaleT a[k].c (canonT (foxL g 1 a[k].s.data.toList)) := by
  unfold foxM; rw [List.take_succ_eq_append_getElem h, List.flatMap_append]; simp
theorem foxI_len (g : Int) : ∀ (a : List Tm), (∀ t ∈ a, t.s.size ≤ 60) → (foxI g a).length ≤ 60 * a.length
  | [], _ => by simp [foxI]
  | t :: r, h => by
    have ih := foxI_len g r fun u hu => h u (by simp [hu])
    have h1 := foxN_len g t.c t.s.data.toList t.s.data.toList.length
    have h2 := h t (by simp)
    unfold foxI foxL at *
    rw [List.flatMap_cons, List.length_append, List.length_cons]
    have h3 : t.s.data.toList.length = t.s.size := by simp
    omega
theorem foxI_mem {g : Int} {a : List Tm} (h : ∀ t ∈ a, t.s.size ≤ 60 ∧ -1000000 ≤ t.c ∧ t.c ≤ 1000000) {u : Tm} (hu : u ∈ foxI g a) : u.s.size ≤ 60 ∧ -1000000 ≤ u.c ∧ u.c ≤ 1000000 := by
  obtain ⟨t, ht, hu⟩ := List.mem_flatMap.1 hu
  obtain ⟨h1, h2⟩ := h t ht
  obtain ⟨h3, j, _, e⟩ := foxN_mem (C := 1000000) h2 (Nat.le_refl _) hu
  refine ⟨?_, h3⟩
  rw [e, bstr_size, List.length_take]
  have : t.s.data.toList.length = t.s.size := by simp
  omega

end Go.Proofs.Ytidmlppbmcphbaa

/- The contracts of the model's 'l3Fox' and 'FoxOf'. -/

namespace Go.Proofs.Ytidmlppbmcphbaa
open Go.RowKit Go.Shelf

theorem Acc.more {base : Nat} {w : World} {v : Value} {acc : List Tm} {N N' : Nat} {B B' : Int} (h : Acc base w v acc N B) (hN : N ≤ N') (hB : B ≤ B') : Acc base w v acc N' B' :=
  ⟨h.own, Nat.le_trans h.len hN, fun u hu => by have := h.bnd u hu; omega, h.sml⟩
theorem extract_take (s : ByteArray) (k : Nat) : s.extract 0 k = bstr (s.data.toList.take k) := by
  apply bytes_ext
  rw [Lib.extract_data, bstr_toList]; simp

set_option maxRecDepth 100000 in
set_option maxHeartbeats 2000000 in
theorem l3Fox_any (s : ByteArray) (g : Int) (w : World) (hs : s.size ≤ 60) (hl : letL s.data.toList = true) :
    Calls Try.prog 78 #[.string s, .int .i64 g] w fun e w' => (∃ v, e = .returned v ∧ Acc w.heap.size w' v (canonT (foxL g 1 s.data.toList)) 60 60) ∧ Below w.heap.size w w' := by
  have HL := Lib.hid hl
  clear hl
  go_enter Try.func78, Try.ntmps78
  go_wp2
  go_loopw [5, 6] (fun v i wr => ∃ k : Nat, k ≤ s.size ∧ i = .int .i64 k ∧ Hid (Acc w.heap.size wr v ((foxN g 1 s.data.toList k).foldl addT []) k k) ∧ Below w.heap.size w wr) (fun _ i _ => s.size - (intOf i).toNat)
  case atStart => exact ⟨0, Nat.zero_le _, rfl, Lib.hid (acc_zero w), (Below.refl _ _).alloc (Nat.le_refl _) _⟩
  case round =>
    obtain ⟨k, hk, rfl, HA, hB⟩ := hrel
    by_cases hlt : k < s.size
    · have hl : k < s.data.toList.length := by simpa using hlt
      have hlet : letB s[k] = true := letL_get _ HL.out k hl
      have HLet := Lib.hid hlet
      have hsucc := foxN_succ g 1 s.data.toList k hl
      rw [show s.data.toList[k] = s[k] from rfl] at hsucc
      obtain ⟨q, hq⟩ : ∃ q, idxB s[k] = q := ⟨_, rfl⟩
      have HQ := Lib.hid hq
      by_cases hg : (q : Int) = g
      · have hgg : (idxB s[k] : Int) = g := by rw [hq]; exact hg
        have hdg : decide ((q : Int) = g) = true := decide_eq_true hg
        by_cases h97 : 97 ≤ s[k].toNat
        · have hsg : sgnB s[k] = 1 := by unfold sgnB; rw [if_pos h97]
          rw [foxT_hi hgg h97, hsg, ← extract_take] at hsucc
          have HS := Lib.hid hsucc
          clear hsucc hgg hlet hq hsg
          obtain ⟨x, hx⟩ : ∃ x, s.extract 0 k = x := ⟨_, rfl⟩
          have hxs : x.size ≤ 60 := by rw [← hx, extract_take, bstr_size, List.length_take]; omega
          have HX := Lib.hid hx
          go_wp2_with fail
          refine (sIndex_any _ _ HLet.out).mono ?_
          rw [HQ.out]
          rintro e w2 ⟨rfl, rfl⟩
          go_wp2_with fail
          clear hx
          refine (step_any w.heap.size u5 _ k k 1 1 x wr HA.out (by omega) (by omega) (by omega) (by omega) (by omega) hxs hB.size).mono ?_
          rintro e w4 ⟨⟨v', rfl, ho⟩, hb4⟩
          have HO := Lib.hid ho
          have hB4 : Below w.heap.size w w4 := hB.trans (hb4.mono hB.size)
          clear ho hb4
          go_wp2
          go_roundw
          case rel =>
            refine ⟨k + 1, by omega, by go_num, Lib.hid ?_, hB4⟩
            rw [HS.out, List.foldl_append, HX.out]
            exact HO.out.more (by omega) (by omega)
          case measure => simp [intOf]; omega
        · have hsg : sgnB s[k] = -1 := by unfold sgnB; rw [if_neg h97]
          rw [foxT_lo hgg h97, hsg, show s[k] = s.data.toList[k] from rfl, ← take_snoc _ k hl, ← extract_take] at hsucc
          have HS := Lib.hid hsucc
          clear hsucc hgg hlet hq hsg
          obtain ⟨x, hx⟩ : ∃ x, s.extract 0 (k + 1) = x := ⟨_, rfl⟩
          have hxs : x.size ≤ 60 := by rw [← hx, extract_take, bstr_size, List.length_take]; omega
          have HX := Lib.hid hx
          go_wp2_with fail
          refine (sIndex_any _ _ HLet.out).mono ?_
          rw [HQ.out]
          rintro e w2 ⟨rfl, rfl⟩
          go_wp2_with fail
          clear hx
          refine (step_any w.heap.size u5 _ k k 1 (-1) x wr HA.out (by omega) (by omega) (by omega) (by omega) (by omega) hxs hB.size).mono ?_
          rintro e w4 ⟨⟨v', rfl, ho⟩, hb4⟩
          have HO := Lib.hid ho
          have hB4 : Below w.heap.size w w4 := hB.trans (hb4.mono hB.size)
          clear ho hb4
          go_wp2
          go_roundw
          case rel =>
            refine ⟨k + 1, by omega, by go_num, Lib.hid ?_, hB4⟩
            rw [HS.out, List.foldl_append, HX.out]
            exact HO.out.more (by omega) (by omega)
          case measure => simp [intOf]; omega
      · have hgg : ¬ (idxB s[k] : Int) = g := by rw [hq]; exact hg
        have hdg : decide ((q : Int) = g) = false := decide_eq_false hg
        rw [foxT_no hgg, List.append_nil] at hsucc
        have HS := Lib.hid hsucc
        clear hsucc hgg hlet hq
        go_wp2_with fail
        refine (sIndex_any _ _ HLet.out).mono ?_
        rw [HQ.out]
        rintro e w2 ⟨rfl, rfl⟩
        go_wp2_with fail
        go_roundw
        case rel =>
          refine ⟨k + 1, by omega, by go_num, Lib.hid ?_, hB⟩
          rw [HS.out]
          exact HA.out.more (by omega) (by omega)
        case measure => simp [intOf]; omega
    · have HE : Hid (s.size = k) := by have : s.size = k := by omega
                                       exact this
      go_wp2_with fail
      go_ret
      refine ⟨⟨_, rfl, ?_⟩, hB⟩
      have h := HA.out
      have hk2 : k = s.data.toList.length := by rw [← HE.out]; simp
      unfold foxL canonT
      rw [← hk2]
      exact h.more (by omega) (by omega)

end Go.Proofs.Ytidmlppbmcphbaa

/- The contract of the model's 'FoxSum'. -/

namespace Go.Proofs.Ytidmlppbmcphbaa
open Go.RowKit Go.Shelf

theorem mul_bnd60 {a b : Int} (ha : -1000000 ≤ a ∧ a ≤ 1000000) (hb : -60 ≤ b ∧ b ≤ 60) : -60000000 ≤ a * b ∧ a * b ≤ 60000000 := by
  have h : (a * b).natAbs ≤ 1000000 * 60 := by
    rw [Int.natAbs_mul]
    exact Nat.mul_le_mul (by omega) (by omega)
  omega
theorem scale_succ (c : Int) (ds acc : List Tm) (j : Nat) (h : j < ds.length) : (scaleT c (ds.take (j + 1))).foldl addT acc = addT ((scaleT c (ds.take j)).foldl addT acc) ⟨c * ds[j].c, ds[j].s⟩ := by
  unfold scaleT
  rw [List.take_succ_eq_append_getElem h, List.map_append, List.foldl_append]; rfl

/-- What FoxSum answers. -/
def foxSumB (x : List Tm) (g : Int) : Bool := sumB x && (inR 0 3 g && twB (canonT (foxI g x)))

set_option maxRecDepth 100000 in
set_option maxHeartbeats 4000000 in
theorem sFoxSum_no (a : Option Addr) (cap n : Nat) (x : List Tm) (g : Int) (w : World) (hx : IsTerms w a n x) (hb : sumB x = false ∨ inR 0 3 g = false) :
    Calls Try.prog 40 #[.slice a n cap, .int .i64 g] w (STold w false []) := by
  have HX := Lib.hid hx
  have hba : Below w.heap.size w (w.alloc (.cells #[] TI)) := (Below.refl _ _).alloc (Nat.le_refl _) _
  have HBA := Lib.hid hba
  clear hx hba
  cases hbx : sumB x with
  | false =>
    have HBX := Lib.hid hbx
    clear hbx hb
    go_enter Try.func40, Try.ntmps40
    go_wp2_with fail
    refine (sSumIn_is a cap n x false _ (HX.out.below HBA.out) HBX.out).mono ?_
    rintro e w1 ⟨rfl, hb1⟩
    have HB1 := Lib.hid (HBA.out.trans (hb1.mono HBA.out.size))
    have HE := Lib.hid ((ownEmpty w).below hb1)
    clear hb1
    go_wp2
    go_ret2
    exact ⟨⟨_, rfl, HE.out⟩, HB1.out⟩
  | true =>
    have hbf : inR 0 3 g = false := by rcases hb with h | h; · rw [h] at hbx; cases hbx
                                       · exact h
    have HBX := Lib.hid hbx
    have HBF := Lib.hid hbf
    clear hbx hbf hb
    go_enter Try.func40, Try.ntmps40
    go_wp2_with fail
    refine (sSumIn_is a cap n x true _ (HX.out.below HBA.out) HBX.out).mono ?_
    rintro e w1 ⟨rfl, hb1⟩
    have HB1 := Lib.hid (HBA.out.trans (hb1.mono HBA.out.size))
    have HE := Lib.hid ((ownEmpty w).below hb1)
    clear hb1
    go_wp2_with fail
    refine (l6In_is _ _ _ false _ HBF.out).mono ?_
    rintro e w2 ⟨rfl, hb2⟩
    have HB2 := Lib.hid (HB1.out.trans (hb2.mono HB1.out.size))
    have HE2 := Lib.hid (HE.out.below hb2)
    clear hb2
    go_wp2
    go_ret2
    exact ⟨⟨_, rfl, HE2.out⟩, HB2.out⟩

set_option maxRecDepth 100000 in
set_option maxHeartbeats 4000000 in
theorem sFoxSum_yes (a : Option Addr) (cap n : Nat) (x : List Tm) (g : Int) (b : Bool) (w : World) (hx : IsTerms w a n x) (hbx : sumB x = true) (hg : inR 0 3 g = true) (hb : twB (canonT (foxI g x)) = b) :
    Calls Try.prog 40 #[.slice a n cap, .int .i64 g] w (STold w b (canonT (foxI g x))) := by
  obtain ⟨htx, hcx⟩ := sumB_parts hbx
  obtain ⟨hlx, hwx⟩ := canon_len_words htx
  have hn : n ≤ 300 := by rw [← hx.len]; exact hlx
  have HX := Lib.hid hx
  have HBX := Lib.hid hbx
  have HG := Lib.hid hg
  have HWX := Lib.hid hwx
  have HBB := Lib.hid hb
  have hmx : Try.prog.follows .mixedOrders = true := by kernel_rfl
  have hba : Below w.heap.size w (w.alloc (.cells #[] TI)) := (Below.refl _ _).alloc (Nat.le_refl _) _
  have HBA := Lib.hid hba
  clear hx hbx htx hcx hlx hwx hb hba hg
  go_enter Try.func40, Try.ntmps40
  go_wp2_with fail
  refine (sSumIn_is a cap n x true _ (HX.out.below HBA.out) HBX.out).mono ?_
  rintro e w1 ⟨rfl, hb1⟩
  have HB1 := Lib.hid (HBA.out.trans (hb1.mono HBA.out.size))
  have HE := Lib.hid ((acc_zero w).below hb1)
  clear hb1
  go_wp2_with fail
  refine (l6In_is _ _ _ true _ HG.out).mono ?_
  rintro e w2 ⟨rfl, hb2⟩
  have HB2 := Lib.hid (HB1.out.trans (hb2.mono HB1.out.size))
  have HE2 := Lib.hid (HE.out.below hb2)
  clear hb2
  go_wp2_with fail
  go_loopw [6, 7] (fun v i wr => ∃ k : Nat, k ≤ n ∧ i = .int .i64 k ∧ Hid (Acc w.heap.size wr v ((foxM g (x.take k)).foldl addT []) (60 * k) (3600000000 * k)) ∧ Below w.heap.size w wr) (fun _ i _ => n - (intOf i).toNat)
  case atStart => exact ⟨0, Nat.zero_le _, rfl, HE2, HB2.out⟩
  case round =>
    obtain ⟨k, hk, rfl, HA, hB⟩ := hrel
    by_cases hlt : k < n
    · have hkx : k < x.length := by rw [HX.out.len]; exact hlt
      obtain ⟨z, rfl, hz⟩ := HX.out.at_ (by omega)
      obtain ⟨t, ht⟩ : ∃ t, x[k] = t := ⟨_, rfl⟩
      have hzw := hz.below hB
      have hc := hzw.2 k hkx
      have hbz := hzw.1
      rw [ht, addr_next] at hc
      obtain ⟨c0, d1⟩ := hc
      have htb := HWX.out _ (List.getElem_mem hkx)
      rw [ht] at htb
      have hti := termB_iff htb
      have HTI := Lib.hid hti
      have hlet := ((wordB_iff _).1 (termB_word htb)).2.1
      have HT := Lib.hid ht
      obtain ⟨ds, hds⟩ : ∃ ds, canonT (foxL g 1 t.s.data.toList) = ds := ⟨_, rfl⟩
      have HF : Hid (∀ W : World, Calls Try.prog 78 #[.string t.s, .int .i64 g] W fun e w' => (∃ v, e = .returned v ∧ Acc W.heap.size w' v ds 60 60) ∧ Below W.heap.size W w') :=
        Lib.hid fun W => by rw [← hds]; exact l3Fox_any t.s g W hti.1 hlet
      have HDS := Lib.hid hds
      have HBZ := Lib.hid hbz
      have HC0 := Lib.hid c0
      clear ht hz hzw htb hti hds hlet c0
      go_wp2_with fail
      refine (HF.out _).mono ?_
      rintro e w3 ⟨⟨vd, rfl, had⟩, hb3⟩
      obtain ⟨gd, capd, rfl, hd1, hd2, hd3, hd4⟩ := had.own.form
      obtain ⟨zd, hzd⟩ : ∃ zd : Addr, (⟨gd, 0, none⟩ : Addr) = zd := ⟨_, rfl⟩
      rw [hzd] at hd1 ⊢
      have HAD := Lib.hid had
      have HD1 := Lib.hid hd1
      have HA3 := Lib.hid (HA.out.below hb3)
      have hB3 : Below w.heap.size w w3 := hB.trans (hb3.mono hB.size)
      have HC3 := Lib.hid ((hb3.cell (p := z.add (k * 2)) (by rw [addr_add_block]; exact HBZ.out)).trans HC0.out)
      have HBZ3 := Lib.hid (Nat.lt_of_lt_of_le HBZ.out hb3.size)
      have hm60 : ds.length ≤ 60 := HAD.out.len
      obtain ⟨m, hm⟩ : ∃ m, ds.length = m := ⟨_, rfl⟩
      rw [hm] at hm60 hd2 ⊢
      have HM := Lib.hid hm
      have hbs3 := hb3.size
      clear had hzd hd1 hb3 hm d1
      go_wp2_with fail
      go_loopw [6, 9] (fun v i wr2 => ∃ j : Nat, j ≤ m ∧ i = .int .i64 j ∧ Hid (Acc w.heap.size wr2 v ((scaleT t.c (ds.take j)).foldl addT ((foxM g (x.take k)).foldl addT [])) (60 * k + j) (3600000000 * k + 60000000 * j)) ∧ Below w3.heap.size w3 wr2) (fun _ i _ => m - (intOf i).toNat)
      case atStart => exact ⟨0, Nat.zero_le _, rfl, Lib.hid (by simpa [scaleT] using HA3.out), Below.refl _ _⟩
      case round =>
        obtain ⟨j, hj, rfl, HAj, hBj⟩ := hrel
        by_cases hltj : j < m
        · have hjd : j < ds.length := by rw [HM.out]; exact hltj
          obtain ⟨u, hu⟩ : ∃ u, ds[j] = u := ⟨_, rfl⟩
          have hzdw := HD1.out.below hBj
          have hcd := hzdw.2 j hjd
          have hbzd := hzdw.1
          rw [hu, addr_next] at hcd
          obtain ⟨e0, f1⟩ := hcd
          have hub := HAD.out.bnd _ (List.getElem_mem hjd)
          have hus := HAD.out.sml _ (List.getElem_mem hjd)
          rw [hu] at hub hus
          have c0 := (hBj.cell (p := z.add (k * 2)) (by rw [addr_add_block]; exact HBZ3.out)).trans HC3.out
          have hbz := Nat.lt_of_lt_of_le HBZ3.out hBj.size
          have HMB := Lib.hid (mul_bnd60 HTI.out.2 hub)
          have hmul : IntKind.i64.wrap (t.c * u.c) = t.c * u.c := by have := HMB.out; exact IntWalk.i64_in _ (by omega)
          have HU := Lib.hid hu
          have hBw : Below w.heap.size w wr := hB3.trans (hBj.mono hB3.size)
          clear hu hzdw hub
          go_wp2
          go_still_tail 17, hmx
          change wpList _ _ _ _ _ wr.drew
          go_wp2_with fail
          refine (step_any w.heap.size u6 _ _ _ 60000000 (t.c * u.c) u.s wr.drew (HAj.out.below (Below.refl _ _).drew) (by omega) (by omega) (by omega) (by omega) HMB.out hus hBw.size).mono ?_
          rintro e w4 ⟨⟨v', rfl, ho⟩, hb4⟩
          have hB4 : Below w3.heap.size w3 w4 := hBj.trans (((Below.refl _ _).drew.trans hb4).mono hBj.size)
          have HO := Lib.hid ho
          clear ho hb4
          go_wp2
          go_roundw
          case rel =>
            refine ⟨j + 1, by omega, by go_num, Lib.hid ?_, hB4⟩
            rw [scale_succ t.c ds _ j hjd, HU.out]
            exact HO.out.more (by omega) (by omega)
          case measure => simp [intOf]; omega
        · obtain rfl : j = m := by omega
          go_wp2
          go_roundw
          case rel =>
            refine ⟨k + 1, by omega, by go_num, Lib.hid ?_, hB3.trans (hBj.mono hB3.size)⟩
            have h := HAj.out
            rw [show ds.take j = ds from List.take_of_length_le (by rw [HM.out]; exact Nat.le_refl _)] at h
            rw [foxM_succ g x k hkx, HT.out, HDS.out, List.foldl_append]
            exact h.more (by omega) (by omega)
          case measure => simp [intOf]; omega
    · obtain rfl : k = n := by omega
      have hacc := HA.out
      rw [List.take_of_length_le (by rw [HX.out.len]; exact Nat.le_refl _)] at hacc
      change Acc _ _ _ (canonT (foxM g x)) _ _ at hacc
      rw [foxIM] at hacc
      have HAcc := Lib.hid hacc
      have HSb : Hid (sumB (canonT (foxI g x)) = b) := Lib.hid (by rw [sumB_canon (canon_of _)]; exact HBB.out)
      clear hacc
      go_wp2_with fail
      refine (sDone_any w.heap.size u6 (canonT (foxI g x)) b wr HAcc.out.own (HAcc.out.small (by omega) (by omega)) hB.size HSb.out).mono ?_
      rintro e w2 ⟨⟨v', rfl, ho⟩, hb2⟩
      have HO := Lib.hid ho
      clear ho
      go_wp2
      go_ret2
      exact ⟨⟨_, rfl, HO.out⟩, hB.trans (hb2.mono hB.size)⟩

/-! ### As a law wants it -/
theorem foxSumB_tw {x : List Tm} {g : Int} {b : Bool} (h : foxSumB x g = b) : b = true → twB (canonT (foxI g x)) = true := by
  intro hb
  subst hb
  unfold foxSumB at h
  simp only [Bool.and_eq_true] at h
  exact h.2.2
theorem sFoxSum_any (a : Option Addr) (cap n : Nat) (x : List Tm) (g : Int) (b : Bool) (w : World) (hx : IsTerms w a n x) (hb : foxSumB x g = b) :
    Calls Try.prog 40 #[.slice a n cap, .int .i64 g] w (STold w b (canonT (foxI g x))) := by
  unfold foxSumB at hb
  cases hbx : sumB x with
  | false => rw [hbx] at hb; subst hb; exact sFoxSum_no _ _ _ x g w hx (.inl hbx)
  | true =>
    cases hbg : inR 0 3 g with
    | false => rw [hbx, hbg] at hb; subst hb; exact sFoxSum_no _ _ _ x g w hx (.inr hbg)
    | true => rw [hbx, hbg] at hb; exact sFoxSum_yes _ _ _ x g b w hx hbx hbg hb

end Go.Proofs.Ytidmlppbmcphbaa

/- The contract of the program's 'beginnings'. -/

namespace Go.Proofs.Ytidmlppbmcphbaa
open Go.RowKit Go.Shelf

theorem row_heap {w : World} {base : Nat} {e : TypeId} {g n : Nat} {xs : List Value} (h : w.ownsRow base e 1 (.slice (some ⟨g, 0, none⟩) n n) n xs) : w.heap[g]? = some (.cells xs.toArray e (0, 0)) := by
  rcases h.2 with ⟨h2, _⟩ | ⟨g', cap, cur, h2, _, hgb, _, _, hcs, htk⟩
  · cases h2
  · cases h2
    rw [hgb]
    have e2 : cur.toList.take (n * 1) = cur.toList := List.take_of_length_le (by simp [hcs])
    rw [e2] at htk
    rw [← htk]
theorem letters_heap {w : World} {g : Nat} {l : List UInt8} {e : TypeId} (h : w.heap[g]? = some (.cells (bytesV l).toArray e (0, 0))) : Letters g 0 l w :=
  ⟨(Array.getElem?_eq_some_iff.1 h).1, fun j hj => by
    unfold World.cell?
    simp only [h]
    simp [bytesV, hj]⟩

/-- A row of all beginnings of the letters l, over one array. -/
def StartsAt (w : World) (B : Nat) (l : List UInt8) : Prop :=
  B < w.heap.size ∧ ∃ G, Letters G 0 l w ∧ ∀ j, j ≤ l.length → w.cell? ⟨B, j, none⟩ = some (.slice (some ⟨G, 0, none⟩) j j)
theorem StartsAt.below {w w' : World} {B : Nat} {l : List UInt8} (h : StartsAt w B l) (hb : Below w.heap.size w w') : StartsAt w' B l := by
  obtain ⟨h1, G, h2, h3⟩ := h
  exact ⟨Nat.lt_of_lt_of_le h1 hb.size, G, h2.below hb, fun j hj => (hb.cell (p := ⟨B, j, none⟩) h1).trans (h3 j hj)⟩
theorem Letters.take {g off : Nat} {l : List UInt8} {w : World} (h : Letters g off l w) (k : Nat) : Letters g off (l.take k) w :=
  ⟨h.1, fun j hj => by
    rw [List.getElem_take]
    exact h.2 j (by rw [List.length_take] at hj; omega)⟩

theorem infoLetter : (Try.prog.info? 106).map (fun i => (i.zero, i.size, i.bytes)) = some (some (.int .u8 0), 1, 1) := by kernel_rfl

set_option maxRecDepth 100000 in
set_option maxHeartbeats 2000000 in
theorem beginnings_any (g off cap n : Nat) (l : List UInt8) (w : World) (hl : l.length = n) (hn : n ≤ 60) (hlet : Letters g off l w) :
    Calls Try.prog 102 #[.slice (some ⟨g, off, none⟩) n cap] w fun e w' => ∃ B, e = .returned (.slice (some ⟨B, 0, none⟩) (n + 1 : Nat) (n + 1 : Nat)) ∧ StartsAt w' B l ∧ Below w.heap.size w w' := by
  obtain ⟨hgs, hcells⟩ := hlet
  have HCe := Lib.hid hcells
  have HL := Lib.hid hl
  clear hcells hl
  obtain ⟨i0, hi, hz0, hz1, hz2⟩ := info_parts infoLetter
  obtain ⟨j0, hj, hy0, hy1, hy2⟩ := info_parts infoWord
  have hone : (Try.prog.info? 106).map (·.size) = some 1 := by kernel_rfl
  obtain ⟨bl, hbl⟩ : ∃ bl, bytesV l = bl := ⟨_, rfl⟩
  have HBL := Lib.hid hbl
  have hbn : bl.length = n := by rw [← hbl, bytesV_length, HL.out]
  clear hbl
  go_enter Try.func102, Try.ntmps102
  have hmk : (madeCells (Value.cells (.int .u8 0)) (n * 1)).toList = List.replicate n (.int .u8 0) := by
    rw [show Value.cells (.int .u8 0) = #[.int .u8 0] from rfl, toList_madeCells_one, Nat.mul_one]
  have hsrc : ∀ w1, Below w.heap.size w w1 → ∀ j v, bl[j]? = some v → w1.cell? ((⟨g, off, none⟩ : Addr).add j) = some v := fun w1 hb1 j v hv => by
    rw [← HBL.out] at hv
    have hjl : j < l.length := by have := (List.getElem?_eq_some_iff.1 hv).1; rwa [bytesV_length] at this
    have hc := (hb1.cell (p := ⟨g, off + j, none⟩) hgs).trans (HCe.out j hjl)
    rw [show (⟨g, off, none⟩ : Addr).add j = ⟨g, off + j, none⟩ by unfold Addr.add; split <;> simp_all]
    rw [hc]
    simp [bytesV, hjl] at hv
    rw [hv]
  have h1c : ∀ v ∈ bl, v.oneCell' = true := fun v hv => by
    rw [← HBL.out] at hv
    unfold bytesV at hv
    obtain ⟨c, _, rfl⟩ := List.mem_map.1 hv
    rfl
  have HMK := Lib.hid hmk
  have HSRC := Lib.hid hsrc
  have H1C := Lib.hid h1c
  clear hsrc h1c hmk
  go_wp2_with (first | (refine wpList_copy_splice rfl _ _ _ _ rfl 106 Try.underlying74 hone _ _ n n n cap rfl rfl w.heap.size 0 (List.replicate n (.int .u8 0)) 106 HH1.out bl (by rw [hbn]; exact (Nat.min_self n).symm) (fun _ => ⟨rfl, _, rfl, HSRC.out _ HB1.out⟩) (by simp [hbn]) H1C.out w.heap.size w HB1.out (Nat.le_refl _) ?_; intro w2 hg2 hb2) | (at_make; refine wpList_make_full _ rfl _ _ 74 rfl w.heap.size 106 i0 (.int .u8 0) 1 Try.underlying74 hi hz0 hz1 .i64 .i64 _ _ n rfl rfl rfl rfl (by rw [hz2]; omega) (by unfold maxLen; omega) (Nat.le_refl _) ?_; intro w1 hrow hgrow; rw [HMK.out] at hrow; have HH1 := Lib.hid (row_heap hrow); have HB1 : Hid (Below w.heap.size w w1) := Lib.hid ((Below.refl _ _).grown hgrow (Nat.le_refl _) (fun k e => by cases e)); clear hrow hgrow) | (at_make; refine wpList_make_full _ rfl _ _ 66 rfl w2.heap.size 74 j0 (.slice none 0 0) 1 Try.underlying66 hj hy0 hy1 .i64 .i64 _ _ (n + 1) rfl rfl rfl rfl (by rw [hy2]; omega) (by unfold maxLen; omega) (Nat.le_refl _) ?_; intro w3 hrow hgrow))
  have hsp : splice (List.replicate n (Value.int .u8 0)) 0 bl = bl := by unfold splice; simp [hbn]
  rw [hsp, ← HBL.out] at hg2
  have HG := Lib.hid (letters_heap hg2.out)
  clear hg2 hsp
  have hb3 : Below w2.heap.size w2 w3 := (Below.refl _ _).grown hgrow (Nat.le_refl _) (fun k e => by cases e)
  have hs3 := (ownsRow_cap hrow).2.2.2
  have HR3 := Lib.hid hrow
  clear hrow hgrow
  go_wp2_with fail
  go_loopw [18] (fun i wr => ∃ (k : Nat) (vals : List Value), k ≤ n + 1 ∧ i = .int .i64 k ∧ Hid (wr.ownsRow w2.heap.size WT 1 (.slice (some ⟨w2.heap.size, 0, none⟩) (n + 1) (n + 1)) (n + 1) vals) ∧ Hid (∀ j, j < k → vals[j]? = some (.slice (some ⟨w.heap.size, 0, none⟩) j j)) ∧ Below w2.heap.size w2 wr)
    (fun i _ => n + 1 - (intOf i).toNat)
  case atStart => exact ⟨0, _, Nat.zero_le _, rfl, HR3, Lib.hid (fun j h => absurd h (Nat.not_lt_zero _)), hb3⟩
  case round =>
    obtain ⟨k, vals, hk, rfl, HR, HV, hB⟩ := hrel
    by_cases hlt : k < n + 1
    · have hl := HR.out.1
      rw [Nat.mul_one] at hl
      have hd : ∃ u, wr.cell? ⟨w2.heap.size, k, none⟩ = some u := by rw [HR.out.cellAt k (by omega)]; exact ⟨_, List.getElem?_eq_getElem (by omega)⟩
      obtain ⟨u, hu⟩ := hd
      have hfr := HR.out.frozenAt k
      have hkn : k ≤ n := by omega
      go_wp2
      go_roundw
      case rel =>
        have hst := HR.out.stored k (.slice (some ⟨w.heap.size, 0, none⟩) k k)
        refine ⟨k + 1, _, by omega, by go_num, Lib.hid hst.1, Lib.hid ?_, hB.setCell (p := ⟨w2.heap.size, k, none⟩) (Nat.le_refl _) _⟩
        intro j hj
        by_cases hjk : j = k
        · subst hjk; rw [List.getElem?_set_self (by omega)]
        · rw [List.getElem?_set_ne (by omega)]; exact HV.out j (by omega)
      case measure => simp [intOf]; omega
    · obtain rfl : k = n + 1 := by omega
      go_wp2_with fail
      go_ret
      refine ⟨w2.heap.size, rfl, ⟨(ownsRow_cap HR.out).2.2.2, w.heap.size, HG.out.below hB, fun j hj => ?_⟩, hb2.trans (hB.mono hb2.size)⟩
      rw [HR.out.cellAt j (by have := HL.out; omega)]
      exact HV.out j (by have := HL.out; omega)

end Go.Proofs.Ytidmlppbmcphbaa

/- The contract of the program's 'derivative'. -/

namespace Go.Proofs.Ytidmlppbmcphbaa
open Go.RowKit Go.Shelf

set_option maxRecDepth 100000 in
set_option maxHeartbeats 4000000 in
theorem derivative_any (g off cap n : Nat) (l : List UInt8) (gi c : Int) (w : World) (hl : l.length = n) (hn : n ≤ 60) (hlet : Letters g off l w) (hll : letL l = true) (hc : -1000000 ≤ c ∧ c ≤ 1000000) :
    Calls Try.prog 79 #[.slice (some ⟨g, off, none⟩) n cap, .int .i64 gi, .int .i64 c] w fun e w' => (∃ v, e = .returned v ∧ OwnT w.heap.size w' v (foxL gi c l)) ∧ Below w.heap.size w w' := by
  have HBg := Lib.hid (beginnings_any g off cap n l w hl hn hlet)
  obtain ⟨hgs, hcells⟩ := hlet
  obtain ⟨i0, hi, hz0, hz1, hz2⟩ := info_parts infoTerm
  have HCe := Lib.hid hcells
  have HL := Lib.hid hl
  have HLL := Lib.hid hll
  have HC := Lib.hid hc
  have hmx : Try.prog.follows .mixedOrders = true := by kernel_rfl
  clear hcells hl hll hc
  go_enter Try.func79, Try.ntmps79
  go_wp2_with fail
  refine HBg.out.mono ?_
  rintro e w1 ⟨B, rfl, hst, hb1⟩
  have HST := Lib.hid hst
  have HB1 := Lib.hid hb1
  clear hst hb1
  go_wp2_with fail
  go_loopw [8, 16] (fun v i wr => ∃ k : Nat, k ≤ n ∧ i = .int .i64 k ∧ Hid (OwnT w1.heap.size wr v (foxN gi c l k)) ∧ Below w1.heap.size w1 wr) (fun _ i _ => n - (intOf i).toNat)
  case atStart => exact ⟨0, Nat.zero_le _, rfl, Lib.hid ⟨rfl, .inl ⟨rfl, rfl⟩⟩, Below.refl _ _⟩
  case round =>
    obtain ⟨k, hk, rfl, HO, hB⟩ := hrel
    by_cases hlt : k < n
    · have hkl : k < l.length := by rw [HL.out]; exact hlt
      obtain ⟨x, hx⟩ : ∃ x, l[k] = x := ⟨_, rfl⟩
      have hsrc : wr.cell? ⟨g, off + k, none⟩ = some (.int .u8 (x.toNat : Int)) := by
        rw [← hx]; exact ((HB1.out.trans (hB.mono HB1.out.size)).cell (p := ⟨g, off + k, none⟩) hgs).trans (HCe.out k hkl)
      have hlet : letB x = true := by rw [← hx]; exact letL_get _ HLL.out k hkl
      have hsucc := foxN_succ gi c l k hkl
      rw [hx] at hsucc
      obtain ⟨q, hq⟩ : ∃ q, idxB x = q := ⟨_, rfl⟩
      have HIX : Hid (∀ W, Calls Try.prog 100 #[.int .u8 (x.toNat : Int)] W fun e w' => e = .returned (.int .i64 (q : Int)) ∧ w' = W) := Lib.hid fun W => by rw [← hq]; exact iIndex_any x W hlet
      obtain ⟨hBs, G, hLG, hcs⟩ := HST.out.below hB
      have c0 := hcs k (by omega)
      have c1 := hcs (k + 1) (by omega)
      obtain ⟨u, hu⟩ : ∃ u, sgnB x = u := ⟨_, rfl⟩
      have hcu : -1000000 ≤ c * u ∧ c * u ≤ 1000000 := by rw [← hu]; exact mul_sgn HC.out x
      have hmul : IntKind.i64.wrap (c * u) = c * u := IntWalk.i64_in _ (by omega)
      have HSX : Hid (∀ W, Calls Try.prog 101 #[.int .u8 (x.toNat : Int)] W fun e w' => e = .returned (.int .i64 u) ∧ w' = W) := Lib.hid fun W => by rw [← hu]; exact iSign_any x W hlet
      have HSB : Hid (∀ p : BelowBy wr, Calls Try.prog 101 #[.int .u8 (x.toNat : Int)] p.world fun e w' => e = .returned (.int .i64 u) ∧ Below p.world.heap.size p.world w') :=
        Lib.hid fun p => (HSX.out p.world).mono fun e w' ⟨h1, h2⟩ => ⟨h1, by rw [h2]; exact Below.refl _ _⟩
      by_cases hg : (q : Int) = gi
      · have hgg : (idxB x : Int) = gi := by rw [hq]; exact hg
        have hlen := foxN_len gi c l k
        obtain ⟨N, hN⟩ : ∃ N, (foxN gi c l k).length = N := ⟨_, rfl⟩
        rw [hN] at hlen
        have hown := HO.out
        unfold OwnT at hown
        rw [hN] at hown
        have HOW := Lib.hid hown
        have HN := Lib.hid hN
        have hbs := hB.size
        clear hown hN
        by_cases h97 : 97 ≤ x.toNat
        · have hu0 : ¬ u < 0 := by rw [← hu]; unfold sgnB; rw [if_pos h97]; omega
          have hdu : decide (u < 0) = false := decide_eq_false hu0
          rw [foxT_hi hgg h97, hu] at hsucc
          obtain ⟨r, hr⟩ : ∃ r, bstr (l.take k) = r := ⟨_, rfl⟩
          rw [hr] at hsucc
          have HTX : Hid (∀ p : BelowBy wr, Calls Try.prog 96 #[.slice (some ⟨G, 0, none⟩) k k] p.world fun e w' => e = .returned (.string r) ∧ Below p.world.heap.size p.world w') :=
            Lib.hid fun p => by rw [← hr]; exact text_letters G 0 k k (l.take k) p.world (by rw [List.length_take]; omega) (by omega) ((hLG.below p.below).take k)
          have HS := Lib.hid hsucc
          have hbk := hBs
          clear hsucc hr hgg hq hu hlet hcs hLG hcu
          go_wp2_with fail
          refine (HIX.out _).mono ?_
          rintro e w2 ⟨rfl, rfl⟩
          go_wp2_with fail
          refine (HSX.out _).mono ?_
          rintro e w2 ⟨rfl, rfl⟩
          go_wp2_with fail
          refine (HSX.out _).mono ?_
          rintro e w2 ⟨rfl, rfl⟩
          go_wp2_with fail
          refine (HTX.out ⟨w2, Below.refl _ _⟩).mono ?_
          rintro e w3 ⟨rfl, hb3⟩
          have HB3 := Lib.hid (hB.trans (hb3.mono hbs))
          have HO3 := Lib.hid (show w3.ownsRow w1.heap.size TI 2 u8 N (termsV (foxN gi c l k)) from ownsRow_past HOW.out hb3)
          have hs3 : w1.heap.size ≤ w3.heap.size := HB3.out.size
          clear hb3
          go_wp2_with (at_builtin; refine wpList_append_lies _ rfl _ _ _ rfl w1.heap.size TI i0 _ 2 24 Try.underlying25 hi hz0 hz1 hz2 rfl (by omega) u8 N (termsV (foxN gi c l k)) rfl (HO3.out.alloc _) ⟨w3.heap.size, 0, none⟩ 1 1 [.int .i64 (c * u), .string r] rfl rfl (World.news_of_block (cs := #[.int .i64 (c * u), .string r]) (t := TI) (fr := (0, 0)) (heap_alloc_new w3 _)) (by simp [Value.oneCell']) (by omega) (by unfold maxLen; omega) (by omega) (by simp; omega) (w3.heap.size + 1) (by simp) ?_; intro gg cap1 w7 hown7 hgrow7 hat hlt7)
          have hlow := ownsRow_low HO3.out
          have hB7 : Below w1.heap.size w1 w7 := HB3.out.trans (((Below.refl w1.heap.size w3).alloc hs3 _).grown hgrow7 (by simp; omega) hlow)
          have HO7 := Lib.hid hown7
          clear hown7 hgrow7 hat hlt7 hlow
          go_wp2
          go_roundw
          case rel =>
            refine ⟨k + 1, by omega, by go_num, Lib.hid ?_, hB7⟩
            rw [HS.out]
            unfold OwnT
            rw [List.length_append, HN.out, termsV_append]
            exact HO7.out
          case measure => simp [intOf]; omega
        · have hu0 : u < 0 := by rw [← hu]; unfold sgnB; rw [if_neg h97]; omega
          have hdu : decide (u < 0) = true := decide_eq_true hu0
          rw [foxT_lo hgg h97, hu, ← hx, ← take_snoc l k hkl] at hsucc
          obtain ⟨r, hr⟩ : ∃ r, bstr (l.take (k + 1)) = r := ⟨_, rfl⟩
          rw [hr] at hsucc
          have HTX : Hid (∀ p : BelowBy wr, Calls Try.prog 96 #[.slice (some ⟨G, 0, none⟩) (k + 1 : Nat) (k + 1 : Nat)] p.world fun e w' => e = .returned (.string r) ∧ Below p.world.heap.size p.world w') :=
            Lib.hid fun p => by rw [← hr]; exact text_letters G 0 (k + 1) (k + 1) (l.take (k + 1)) p.world (by rw [List.length_take]; omega) (by omega) ((hLG.below p.below).take (k + 1))
          have HS := Lib.hid hsucc
          have hbk := hBs
          clear hsucc hr hgg hq hu hlet hcs hLG hcu hx
          go_wp2_with fail
          refine (HIX.out _).mono ?_
          rintro e w2 ⟨rfl, rfl⟩
          go_wp2_with fail
          refine (HSX.out _).mono ?_
          rintro e w2 ⟨rfl, rfl⟩
          go_wp2_with fail
          refine (HSX.out _).mono ?_
          rintro e w2 ⟨rfl, rfl⟩
          go_wp2_with fail
          refine (HTX.out ⟨w2, Below.refl _ _⟩).mono ?_
          rintro e w3 ⟨rfl, hb3⟩
          have HB3 := Lib.hid (hB.trans (hb3.mono hbs))
          have HO3 := Lib.hid (show w3.ownsRow w1.heap.size TI 2 u8 N (termsV (foxN gi c l k)) from ownsRow_past HOW.out hb3)
          have hs3 : w1.heap.size ≤ w3.heap.size := HB3.out.size
          clear hb3
          go_wp2_with (at_builtin; refine wpList_append_lies _ rfl _ _ _ rfl w1.heap.size TI i0 _ 2 24 Try.underlying25 hi hz0 hz1 hz2 rfl (by omega) u8 N (termsV (foxN gi c l k)) rfl (HO3.out.alloc _) ⟨w3.heap.size, 0, none⟩ 1 1 [.int .i64 (c * u), .string r] rfl rfl (World.news_of_block (cs := #[.int .i64 (c * u), .string r]) (t := TI) (fr := (0, 0)) (heap_alloc_new w3 _)) (by simp [Value.oneCell']) (by omega) (by unfold maxLen; omega) (by omega) (by simp; omega) (w3.heap.size + 1) (by simp) ?_; intro gg cap1 w7 hown7 hgrow7 hat hlt7)
          have hlow := ownsRow_low HO3.out
          have hB7 : Below w1.heap.size w1 w7 := HB3.out.trans (((Below.refl w1.heap.size w3).alloc hs3 _).grown hgrow7 (by simp; omega) hlow)
          have HO7 := Lib.hid hown7
          clear hown7 hgrow7 hat hlt7 hlow
          go_wp2
          go_roundw
          case rel =>
            refine ⟨k + 1, by omega, by go_num, Lib.hid ?_, hB7⟩
            rw [HS.out]
            unfold OwnT
            rw [List.length_append, HN.out, termsV_append]
            exact HO7.out
          case measure => simp [intOf]; omega
      · have hgg : ¬ (idxB x : Int) = gi := by rw [hq]; exact hg
        have hdg : decide ((q : Int) = gi) = false := decide_eq_false hg
        rw [foxT_no hgg, List.append_nil] at hsucc
        have HS := Lib.hid hsucc
        clear hsucc hgg hq hu hlet hcs hLG hcu
        go_wp2_with fail
        refine (HIX.out _).mono ?_
        rintro e w2 ⟨rfl, rfl⟩
        go_wp2_with fail
        go_roundw
        case rel => exact ⟨k + 1, by omega, by go_num, Lib.hid (by rw [HS.out]; exact HO.out), hB⟩
        case measure => simp [intOf]; omega
    · obtain rfl : k = n := by omega
      go_wp2_with fail
      go_ret
      refine ⟨⟨_, rfl, ?_⟩, HB1.out.trans (hB.mono HB1.out.size)⟩
      unfold foxL
      rw [HL.out]
      exact HO.out.mono HB1.out.size

end Go.Proofs.Ytidmlppbmcphbaa

/- The contracts of the program's 'FoxSum' and 'FoxOf'. -/

namespace Go.Proofs.Ytidmlppbmcphbaa
open Go.RowKit Go.Shelf

/-- A list of terms of the call's own is put behind another one. -/
theorem wpList_append_terms {w : World} {ops : Array Oper} {rest : List Oper} {o : Oper} {a : Act} {Q : Exit → Act → World → Prop} (hgd : o.guard = none) (s x : Operand)
    (ho : o.op = .call { callee := .builtin .append, args := #[s, x], argTypes := #[25, 25] }) (base b2 : Nat) (v1 v2 : Value) (ts1 ts2 : List Tm) (hs : a.eval s = v1) (hx : a.eval x = v2)
    (h1 : OwnT base w v1 ts1) (h2 : OwnT b2 w v2 ts2) (hl : ts1.length + ts2.length ≤ 1000000) (hbase : base ≤ w.heap.size)
    (h : ∀ v' w', OwnT base w' v' (ts1 ++ ts2) → w.grownBy w' v1.ownBlock → wpList Try.prog ops Q rest (a.put o.dst v') w') : wpList Try.prog ops Q (o :: rest) a w := by
  obtain ⟨i0, hi, hz0, hz1, hz2⟩ := info_parts infoTerm
  rcases h2.2 with ⟨rfl, h0⟩ | ⟨g, cap, cur, rfl, _⟩
  · have h20 : ts2 = [] := List.eq_nil_of_length_eq_zero h0
    subst h20
    refine wpList_append_own_none hgd s x 25 ho base TI i0 2 Try.underlying25 hi v1 ts1.length (termsV ts1) hs h1 hx ?_
    refine h v1 w (by rw [List.append_nil]; exact h1) ⟨rfl, rfl, rfl, Nat.le_refl _, fun _ _ _ => rfl⟩
  · have hat := termsAt_of_owns rfl h2
    have hc : ∀ j u, (termsV ts2)[j]? = some u → w.cell? ((⟨g, 0, none⟩ : Addr).add j) = some u := hat.cells
    refine wpList_append_own _ hgd s x 25 ho base TI i0 (.agg #[.int .i64 0, .string ByteArray.empty]) 2 24 Try.underlying25 hi hz0 hz1 hz2 rfl (by decide) v1 ts1.length (termsV ts1) hs h1
      ⟨g, 0, none⟩ ts2.length cap (termsV ts2) hx (termsV_len ts2) hc (oneCell_terms _) (by unfold maxLen; omega) (by omega) hbase ?_
    intro v' w' h3 h4 _
    refine h v' w' ?_ h4
    unfold OwnT
    rw [List.length_append, termsV_append]
    exact h3

set_option maxRecDepth 100000 in
set_option maxHeartbeats 4000000 in
theorem iFoxSum_noSum (a : Option Addr) (cap n : Nat) (x : List Tm) (g : Int) (w : World) (hx : IsTerms w a n x) (hb : sumB x = false) :
    Calls Try.prog 41 #[.slice a n cap, .int .i64 g] w (ITold w false []) := by
  have HX := Lib.hid hx
  have HBX := Lib.hid hb
  clear hx hb
  go_enter Try.func41, Try.ntmps41
  go_wp2_with fail
  refine (sumWords_any a cap n x _ HX.out).mono ?_
  rintro e w1 ⟨⟨rfl, hf⟩ | ⟨g1, vals, rfl, hf, _, _⟩, hb1⟩
  · have HB1 := Lib.hid hb1
    clear hb1 hf
    go_wp2
    go_ret2
    exact ⟨⟨_, rfl, ownNil _ _⟩, HB1.out⟩
  · rw [HBX.out] at hf; cases hf

set_option maxRecDepth 100000 in
set_option maxHeartbeats 4000000 in
theorem iFoxSum_noGen (a : Option Addr) (cap n : Nat) (x : List Tm) (g : Int) (w : World) (hx : IsTerms w a n x) (hb : inR 0 3 g = false) :
    Calls Try.prog 41 #[.slice a n cap, .int .i64 g] w (ITold w false []) := by
  have HX := Lib.hid hx
  have hgn : ¬ (0 ≤ g ∧ g ≤ 3) := by
    intro h
    unfold inR at hb
    rw [decide_eq_true h.1, decide_eq_true h.2] at hb
    cases hb
  clear hx hb
  by_cases h0 : g < 0
  · have hd : decide (g < 0) = true := decide_eq_true h0
    go_enter Try.func41, Try.ntmps41
    go_wp2_with fail
    refine (sumWords_any a cap n x _ HX.out).mono ?_
    rintro e w1 ⟨⟨rfl, hf⟩ | ⟨g1, vals, rfl, hf, _, _⟩, hb1⟩
    · have HB1 := Lib.hid hb1
      clear hb1 hf
      go_wp2
      go_ret2
      exact ⟨⟨_, rfl, ownNil _ _⟩, HB1.out⟩
    · have HB1 := Lib.hid hb1
      clear hb1 hf
      go_wp2
      go_ret2
      exact ⟨⟨_, rfl, ownNil _ _⟩, HB1.out⟩
  · have hd : decide (g < 0) = false := decide_eq_false h0
    have h4 : 4 ≤ g := by omega
    have hd4 : decide (4 ≤ g) = true := decide_eq_true h4
    go_enter Try.func41, Try.ntmps41
    go_wp2_with fail
    refine (sumWords_any a cap n x _ HX.out).mono ?_
    rintro e w1 ⟨⟨rfl, hf⟩ | ⟨g1, vals, rfl, hf, _, _⟩, hb1⟩
    · have HB1 := Lib.hid hb1
      clear hb1 hf
      go_wp2
      go_ret2
      exact ⟨⟨_, rfl, ownNil _ _⟩, HB1.out⟩
    · have HB1 := Lib.hid hb1
      clear hb1 hf
      go_wp2
      go_ret2
      exact ⟨⟨_, rfl, ownNil _ _⟩, HB1.out⟩

set_option maxRecDepth 100000 in
set_option maxHeartbeats 4000000 in
theorem iFoxSum_yes (a : Option Addr) (cap n : Nat) (x : List Tm) (g : Int) (b : Bool) (w : World) (hx : IsTerms w a n x) (hbx : sumB x = true) (hg : inR 0 3 g = true) (hb : twB (canonT (foxI g x)) = b) :
    Calls Try.prog 41 #[.slice a n cap, .int .i64 g] w (ITold w b (canonT (foxI g x))) := by
  obtain ⟨hlx, hwx⟩ := canon_len_words (sumB_parts hbx).1
  have hn : n ≤ 300 := by rw [← hx.len]; exact hlx
  have HX := Lib.hid hx
  have HBX := Lib.hid hbx
  have HWX := Lib.hid hwx
  have HBB := Lib.hid hb
  obtain ⟨hg0, hg3⟩ : 0 ≤ g ∧ g ≤ 3 := by unfold inR at hg; simpa using hg
  have hd : decide (g < 0) = false := decide_eq_false (by omega)
  have hd4 : decide (4 ≤ g) = false := decide_eq_false (by omega)
  have HLEN : Hid (∀ k, k ≤ n → (foxI g (x.take k)).length ≤ 18000) := Lib.hid fun k hk => by
    have h1 := foxI_len g (x.take k) fun t ht => (termB_iff (hwx t (List.mem_of_mem_take ht))).1
    have h2 : (x.take k).length ≤ 300 := by rw [List.length_take]; omega
    omega
  clear hx hbx hlx hwx hb hg
  go_enter Try.func41, Try.ntmps41
  go_wp2_with fail
  refine (sumWords_any a cap n x _ HX.out).mono ?_
  rintro e w1 ⟨⟨rfl, hf⟩ | ⟨g1, vals, rfl, hf, hr1, hv1⟩, hb1⟩
  · rw [HBX.out] at hf; cases hf
  have HB1 := Lib.hid hb1
  have HW1 := Lib.hid (wordsAt_of HX.out.len hr1 hv1)
  clear hb1 hf hr1 hv1
  go_wp2_with fail
  go_loopw [8, 28] (fun v i wr => ∃ k : Nat, k ≤ n ∧ i = .int .i64 k ∧ Hid (OwnT w1.heap.size wr v (foxI g (x.take k))) ∧ Below w1.heap.size w1 wr) (fun _ i _ => n - (intOf i).toNat)
  case atStart => exact ⟨0, Nat.zero_le _, rfl, Lib.hid ⟨rfl, .inl ⟨rfl, rfl⟩⟩, Below.refl _ _⟩
  case round =>
    obtain ⟨k, hk, rfl, HO, hB⟩ := hrel
    by_cases hlt : k < n
    · have hkx : k < x.length := by rw [HX.out.len]; exact hlt
      obtain ⟨z, rfl, hz⟩ := HX.out.at_ (by omega)
      obtain ⟨t, ht⟩ : ∃ t, x[k] = t := ⟨_, rfl⟩
      have htb := HWX.out _ (List.getElem_mem hkx)
      obtain ⟨gw, cw, hcw, hiw⟩ := (HW1.out.below hB).2 k hkx
      have hzw := hz.below (HB1.out.trans (hB.mono HB1.out.size))
      have hc := hzw.2 k hkx
      rw [ht] at htb hcw hiw hc
      obtain ⟨c0, _⟩ := hc
      have hti := termB_iff htb
      have hlet := ((wordB_iff _).1 (termB_word htb)).2.1
      obtain ⟨_, offw, _, heq, hgw, hq0, hcells⟩ := hiw
      simp only [Value.slice.injEq, Option.some.injEq, Addr.mk.injEq] at heq
      obtain ⟨⟨rfl, rfl, hq1⟩, hq2, rfl⟩ := heq
      clear hq0 hq1 hq2
      have hlw : Letters gw 0 t.s.data.toList wr := ⟨hgw, hcells⟩
      have HD : Hid (Calls Try.prog 79 #[.slice (some ⟨gw, 0, none⟩) t.s.size cw, .int .i64 g, .int .i64 t.c] wr fun e w' => (∃ v, e = .returned v ∧ OwnT wr.heap.size w' v (foxL g t.c t.s.data.toList)) ∧ Below wr.heap.size wr w') :=
        Lib.hid (derivative_any gw 0 cw t.s.size t.s.data.toList g t.c wr (by simp) hti.1 hlw hlet hti.2)
      have hsucc := foxI_succ g x k hkx
      rw [ht] at hsucc
      have hlen := HLEN.out (k + 1) (by omega)
      rw [hsucc, List.length_append] at hlen
      have HS := Lib.hid hsucc
      have HLE := Lib.hid hlen
      have hbs := hB.size
      clear ht htb hzw hti hlet hcells hlw hsucc hlen hz
      go_wp2_with fail
      refine HD.out.mono ?_
      rintro e w3 ⟨⟨vd, rfl, hod⟩, hb3⟩
      have HOD := Lib.hid hod
      have HO3 := Lib.hid (HO.out.below hb3)
      have HB3 := Lib.hid (hB.trans (hb3.mono hbs))
      have hs3 : w1.heap.size ≤ w3.heap.size := HB3.out.size
      clear hod hb3
      go_wp2_with (at_builtin; refine wpList_append_terms rfl _ _ rfl w1.heap.size wr.heap.size _ _ _ _ rfl rfl HO3.out HOD.out (by have := HLE.out; omega) hs3 ?_; intro v' w5 ho5 hg5)
      have hB5 : Below w1.heap.size w1 w5 := HB3.out.trans ((Below.refl w1.heap.size w3).grown hg5 hs3 (ownsRow_low HO3.out))
      have HO5 := Lib.hid ho5
      clear ho5 hg5
      go_wp2
      go_roundw
      case rel => exact ⟨k + 1, by omega, by go_num, Lib.hid (by rw [HS.out]; exact HO5.out), hB5⟩
      case measure => simp [intOf]; omega
    · obtain rfl : k = n := by omega
      have hown := HO.out
      rw [List.take_of_length_le (by rw [HX.out.len]; exact Nat.le_refl _)] at hown
      have hcf : ∀ t ∈ foxI g x, t.s.size ≤ 60 ∧ -1000000 ≤ t.c ∧ t.c ≤ 1000000 := fun t ht => foxI_mem (fun u hu => termB_iff (HWX.out u hu)) ht
      have hlen := HLEN.out k (Nat.le_refl _)
      rw [List.take_of_length_le (by rw [HX.out.len]; exact Nat.le_refl _)] at hlen
      have hsm : SmallT (foxI g x) := ⟨by unfold maxLen; omega, fun t ht => by have := hcf t ht; unfold maxLen; omega⟩
      obtain ⟨av, cv, rfl, hI⟩ := hown.isTerms hsm
      obtain ⟨N, hN⟩ : ∃ N, (foxI g x).length = N := ⟨_, rfl⟩
      rw [hN] at hI hlen ⊢
      have htold := toldSum_any av cv N (foxI g x) b wr hI (by omega) (fun t ht => by have := hcf t ht; omega) HBB.out
      have HTo := Lib.hid htold
      have HBr := Lib.hid hB
      clear hown hcf hsm hI hN htold
      go_wp2_with fail
      refine HTo.out.mono ?_
      rintro e w5 ⟨⟨v', rfl, ho⟩, hb5⟩
      have HO := Lib.hid ho
      have HB5 := Lib.hid (HB1.out.trans ((HBr.out.trans (hb5.mono HBr.out.size)).mono HB1.out.size))
      have hs5 := HBr.out.size
      have hs1 := HB1.out.size
      clear ho hb5
      go_wp2
      go_ret2
      exact ⟨⟨_, rfl, HO.out.mono (by omega)⟩, HB5.out⟩

end Go.Proofs.Ytidmlppbmcphbaa

/- The contracts of the model's and of the program's 'SumPlain'. -/

namespace Go.Proofs.Ytidmlppbmcphbaa
open Go.RowKit Go.Shelf

/-- The sum of all coefficients. -/
def plainZ (ts : List Tm) : Int := (ts.map Tm.c).sum
theorem plainZ_succ (ts : List Tm) (k : Nat) (h : k < ts.length) : plainZ (ts.take (k + 1)) = plainZ (ts.take k) + ts[k].c := by
  unfold plainZ; rw [List.take_succ_eq_append_getElem h, List.map_append, List.sum_append]; simp
theorem sumB_coef {ts : List Tm} (h : sumB ts = true) : ts.length ≤ 300 ∧ ∀ j (hj : j < ts.length), -1000000 ≤ ts[j].c ∧ ts[j].c ≤ 1000000 := by
  unfold sumB allGood at h
  simp only [Bool.and_eq_true, List.all_eq_true, List.mem_range, decide_eq_true_eq] at h
  refine ⟨h.2, fun j hj => ?_⟩
  have := h.1 j hj
  unfold goodAt inR at this
  rw [List.getD_eq_getElem?_getD, List.getElem?_eq_getElem hj] at this
  simp at this
  exact this.1.1.2
theorem ret_plain {z z' : Int} (h : z' = z) : Ending.returned (.tuple #[.int .i64 z, .bool true]) = .returned (.tuple #[.int .i64 z', .bool true]) := by rw [h]
def plainV (b : Bool) (z : Int) : Value := if b then .tuple #[.int .i64 z, .bool true] else .tuple #[.int .i64 0, .bool false]

set_option maxRecDepth 100000 in
set_option maxHeartbeats 1000000 in
theorem sSumPlain_yes (a : Option Addr) (cap n : Nat) (ts : List Tm) (w : World) (hs : IsTerms w a n ts) (hb : sumB ts = true) :
    Calls Try.prog 30 #[.slice a n cap] w fun e w' => e = .returned (.tuple #[.int .i64 (plainZ ts), .bool true]) ∧ Below w.heap.size w w' := by
  obtain ⟨h300, hcf⟩ := sumB_coef hb
  have hn : n ≤ 300 := by rw [← hs.len]; exact h300
  have HN := Lib.hid hs.len
  have HS := Lib.hid hs
  have HB := Lib.hid hb
  have HC := Lib.hid hcf
  clear hs hb hcf h300
  go_enter Try.func30, Try.ntmps30
  go_wp2_with fail
  refine (sSumIn_any a cap n ts _ HS.out).mono ?_
  rintro e w1 ⟨rfl, hb1⟩
  have hbb := HB.out
  rw [hbb]
  clear hbb
  go_wp2
  go_loopw [4, 5] (fun q i wr => ∃ (k : Nat) (z : Int), k ≤ n ∧ i = .int .i64 k ∧ q = .int .i64 z ∧ -1000000 * (k : Int) ≤ z ∧ z ≤ 1000000 * (k : Int) ∧ Hid (z = plainZ (ts.take k)) ∧ Below w.heap.size w wr) (fun _ i _ => n - (intOf i).toNat)
  case atStart => exact ⟨0, 0, Nat.zero_le _, rfl, rfl, by omega, by omega, Lib.hid rfl, hb1⟩
  case round =>
    obtain ⟨k, z, hk, rfl, rfl, hz1, hz2, HZ, hB⟩ := hrel
    by_cases hlt : k < n
    · have hkz : k < ts.length := by rw [HN.out]; exact hlt
      obtain ⟨x, rfl, hx⟩ := HS.out.at_ (by omega)
      obtain ⟨t, ht⟩ : ∃ t, ts[k] = t := ⟨_, rfl⟩
      have hcc := HC.out k hkz
      rw [ht] at hcc
      obtain ⟨hc1, hc2⟩ := hcc
      have hc := (hx.below hB).2 k hkz
      rw [ht, addr_next] at hc
      obtain ⟨c0, c1⟩ := hc
      have HT := Lib.hid ht
      clear ht hx
      go_wp2
      go_roundw
      case rel => exact ⟨k + 1, _, by omega, by go_num, rfl, by omega, by omega, Lib.hid (by rw [plainZ_succ ts k hkz, HT.out, HZ.out]), by first | exact hB | exact hB.alloc hB.size _⟩
      case measure => simp [intOf]; omega
    · obtain rfl : k = n := by omega
      have hz : plainZ ts = z := by rw [HZ.out, List.take_of_length_le (by rw [HN.out]; exact Nat.le_refl _)]
      have HZ2 := Lib.hid hz
      clear hz
      go_wp2
      go_ret2
      exact ⟨ret_plain HZ2.out, hB⟩

theorem sSumPlain_no (a : Option Addr) (cap n : Nat) (ts : List Tm) (w : World) (hs : IsTerms w a n ts) (hb : sumB ts = false) :
    Calls Try.prog 30 #[.slice a n cap] w fun e w' => e = .returned (.tuple #[.int .i64 0, .bool false]) ∧ Below w.heap.size w w' := by
  have HS := Lib.hid hs
  have HB := Lib.hid hb
  clear hs hb
  go_enter Try.func30, Try.ntmps30
  go_wp2_with fail
  refine (sSumIn_any a cap n ts _ HS.out).mono ?_
  rintro e w1 ⟨rfl, hb1⟩
  have hbb := HB.out
  rw [hbb]
  clear hbb
  go_wp2
  go_ret2
  exact ⟨rfl, hb1⟩

theorem sSumPlain_is (a : Option Addr) (cap n : Nat) (ts : List Tm) (b : Bool) (z : Int) (w : World) (hs : IsTerms w a n ts) (h : plainV (sumB ts) (plainZ ts) = .tuple #[.int .i64 z, .bool b]) :
    Calls Try.prog 30 #[.slice a n cap] w fun e w' => e = .returned (.tuple #[.int .i64 z, .bool b]) ∧ Below w.heap.size w w' := by
  rw [← h]
  cases hb : sumB ts with
  | true => exact sSumPlain_yes a cap n ts w hs hb
  | false => exact sSumPlain_no a cap n ts w hs hb

set_option maxRecDepth 100000 in
set_option maxHeartbeats 1000000 in
theorem iSumPlain_yes (a : Option Addr) (cap n : Nat) (ts : List Tm) (w : World) (hs : IsTerms w a n ts) (hb : sumB ts = true) :
    Calls Try.prog 31 #[.slice a n cap] w fun e w' => e = .returned (.tuple #[.int .i64 (plainZ ts), .bool true]) ∧ Below w.heap.size w w' := by
  obtain ⟨h300, hcf⟩ := sumB_coef hb
  have hn : n ≤ 300 := by rw [← hs.len]; exact h300
  have HN := Lib.hid hs.len
  have HS := Lib.hid hs
  have HB := Lib.hid hb
  have HC := Lib.hid hcf
  clear hs hb hcf h300
  go_enter Try.func31, Try.ntmps31
  go_wp2_with fail
  refine (iSumIn_any a cap n ts _ HS.out).mono ?_
  rintro e w1 ⟨rfl, hb1⟩
  have hbb := HB.out
  rw [hbb]
  clear hbb
  go_wp2
  go_loopw [4, 12] (fun q i wr => ∃ (k : Nat) (z : Int), k ≤ n ∧ i = .int .i64 k ∧ q = .int .i64 z ∧ -1000000 * (k : Int) ≤ z ∧ z ≤ 1000000 * (k : Int) ∧ Hid (z = plainZ (ts.take k)) ∧ Below w.heap.size w wr) (fun _ i _ => n - (intOf i).toNat)
  case atStart => exact ⟨0, 0, Nat.zero_le _, rfl, rfl, by omega, by omega, Lib.hid rfl, hb1⟩
  case round =>
    obtain ⟨k, z, hk, rfl, rfl, hz1, hz2, HZ, hB⟩ := hrel
    by_cases hlt : k < n
    · have hkz : k < ts.length := by rw [HN.out]; exact hlt
      obtain ⟨x, rfl, hx⟩ := HS.out.at_ (by omega)
      obtain ⟨t, ht⟩ : ∃ t, ts[k] = t := ⟨_, rfl⟩
      have hcc := HC.out k hkz
      rw [ht] at hcc
      obtain ⟨hc1, hc2⟩ := hcc
      have hc := (hx.below hB).2 k hkz
      rw [ht, addr_next] at hc
      obtain ⟨c0, c1⟩ := hc
      have HT := Lib.hid ht
      clear ht hx
      go_wp2
      go_roundw
      case rel => exact ⟨k + 1, _, by omega, by go_num, rfl, by omega, by omega, Lib.hid (by rw [plainZ_succ ts k hkz, HT.out, HZ.out]), by first | exact hB | exact hB.alloc hB.size _⟩
      case measure => simp [intOf]; omega
    · obtain rfl : k = n := by omega
      have hz : plainZ ts = z := by rw [HZ.out, List.take_of_length_le (by rw [HN.out]; exact Nat.le_refl _)]
      have HZ2 := Lib.hid hz
      clear hz
      go_wp2
      go_ret2
      exact ⟨ret_plain HZ2.out, hB⟩

theorem iSumPlain_no (a : Option Addr) (cap n : Nat) (ts : List Tm) (w : World) (hs : IsTerms w a n ts) (hb : sumB ts = false) :
    Calls Try.prog 31 #[.slice a n cap] w fun e w' => e = .returned (.tuple #[.int .i64 0, .bool false]) ∧ Below w.heap.size w w' := by
  have HS := Lib.hid hs
  have HB := Lib.hid hb
  clear hs hb
  go_enter Try.func31, Try.ntmps31
  go_wp2_with fail
  refine (iSumIn_any a cap n ts _ HS.out).mono ?_
  rintro e w1 ⟨rfl, hb1⟩
  have hbb := HB.out
  rw [hbb]
  clear hbb
  go_wp2
  go_ret2
  exact ⟨rfl, hb1⟩

theorem iSumPlain_is (a : Option Addr) (cap n : Nat) (ts : List Tm) (b : Bool) (z : Int) (w : World) (hs : IsTerms w a n ts) (h : plainV (sumB ts) (plainZ ts) = .tuple #[.int .i64 z, .bool b]) :
    Calls Try.prog 31 #[.slice a n cap] w fun e w' => e = .returned (.tuple #[.int .i64 z, .bool b]) ∧ Below w.heap.size w w' := by
  rw [← h]
  cases hb : sumB ts with
  | true => exact iSumPlain_yes a cap n ts w hs hb
  | false => exact iSumPlain_no a cap n ts w hs hb

end Go.Proofs.Ytidmlppbmcphbaa

/- The contracts of both 'FoxOf' and both 'FoxTwice'. -/

namespace Go.Proofs.Ytidmlppbmcphbaa
open Go.RowKit Go.Shelf

theorem iFoxSum_any (a : Option Addr) (cap n : Nat) (x : List Tm) (g : Int) (b : Bool) (w : World) (hx : IsTerms w a n x) (hb : foxSumB x g = b) :
    Calls Try.prog 41 #[.slice a n cap, .int .i64 g] w (ITold w b (canonT (foxI g x))) := by
  unfold foxSumB at hb
  cases hbx : sumB x with
  | false => rw [hbx] at hb; subst hb; exact iFoxSum_noSum _ _ _ x g w hx hbx
  | true =>
    cases hbg : inR 0 3 g with
    | false => rw [hbx, hbg] at hb; subst hb; exact iFoxSum_noGen _ _ _ x g w hx hbg
    | true => rw [hbx, hbg] at hb; exact iFoxSum_yes _ _ _ x g b w hx hbx hbg hb

/-- What FoxOf answers. -/
def foxOfB (s : ByteArray) (g : Int) : Bool := wordB s.data.toList && inR 0 3 g
theorem sum_one (s : ByteArray) : sumB [⟨1, s⟩] = wordB s.data.toList := by
  rw [sumB_canon ⟨by simp, fun t ht => by rw [List.mem_singleton.1 ht]; exact Int.one_ne_zero⟩]
  unfold twB termB inR
  simp
theorem foxI_one (s : ByteArray) (g : Int) : foxI g [⟨1, s⟩] = foxL g 1 s.data.toList := by simp [foxI]
theorem foxOf_sum {s : ByteArray} {g : Int} : foxSumB [⟨1, s⟩] g = foxOfB s g := by
  unfold foxSumB foxOfB
  rw [sum_one, foxI_one]
  cases h : wordB s.data.toList with
  | false => rfl
  | true => rw [fox_tw h, Bool.and_true]
theorem foxOfB_tw {s : ByteArray} {g : Int} {b : Bool} (h : foxOfB s g = b) : b = true → twB (canonT (foxL g 1 s.data.toList)) = true := by
  intro hb
  subst hb
  unfold foxOfB at h
  simp only [Bool.and_eq_true] at h
  exact fox_tw h.1
theorem isTerms_one (w : World) (c : Int) (s : ByteArray) (hs : s.size ≤ maxLen) (hc : -9223372036854775808 ≤ c ∧ c ≤ 9223372036854775807) :
    IsTerms (w.alloc (.cells #[.int .i64 c, .string s] TI)) (some ⟨w.heap.size, 0, none⟩) 1 [⟨c, s⟩] :=
  ⟨rfl, by unfold maxLen; omega, fun _ => ⟨_, rfl, by simp, fun i hi => by
    have hi0 : i = 0 := by simp at hi; exact hi
    subst hi0
    have ha : ∀ j, (⟨w.heap.size, 0, none⟩ : Addr).add j = ⟨w.heap.size, j, none⟩ := fun j => by unfold Addr.add; split <;> simp_all
    rw [ha, ha]
    exact ⟨(World.cell?_alloc_at _ _ _ _ (by simp)).trans rfl, (World.cell?_alloc_at _ _ _ _ (by simp)).trans rfl⟩⟩,
    fun t ht => by rw [List.mem_singleton.1 ht]; exact ⟨hs, hc⟩⟩

set_option maxRecDepth 100000 in
set_option maxHeartbeats 2000000 in
theorem iFoxOf_any (s : ByteArray) (g : Int) (b : Bool) (w : World) (hs : s.size ≤ maxLen) (hb : foxOfB s g = b) :
    Calls Try.prog 39 #[.string s, .int .i64 g] w (ITold w b (canonT (foxL g 1 s.data.toList))) := by
  have hc := iFoxSum_any (some ⟨w.heap.size, 0, none⟩) 1 1 [⟨1, s⟩] g b (w.alloc (.cells #[.int .i64 1, .string s] TI)) (isTerms_one w 1 s hs (by omega)) (by rw [foxOf_sum]; exact hb)
  rw [foxI_one] at hc
  have HC := Lib.hid hc
  clear hc hb
  go_enter Try.func39, Try.ntmps39
  go_wp2_with fail
  refine HC.out.mono ?_
  rintro e w1 ⟨⟨v', rfl, ho⟩, hb1⟩
  have HO := Lib.hid ho
  have HB1 := Lib.hid hb1
  clear ho hb1
  go_wp2
  go_ret2
  exact ⟨⟨_, rfl, HO.out.mono (by simp)⟩, ((Below.refl w.heap.size w).alloc (Nat.le_refl _) _).trans (HB1.out.mono (by simp))⟩

set_option maxRecDepth 100000 in
set_option maxHeartbeats 2000000 in
theorem sFoxOf_any (s : ByteArray) (g : Int) (b : Bool) (w : World) (hs : s.size ≤ maxLen) (hb : foxOfB s g = b) :
    Calls Try.prog 38 #[.string s, .int .i64 g] w (STold w b (canonT (foxL g 1 s.data.toList))) := by
  unfold foxOfB at hb
  cases hw : wordB s.data.toList with
  | false =>
    rw [hw] at hb
    obtain rfl : false = b := hb
    have HW := Lib.hid hw
    clear hw
    go_enter Try.func38, Try.ntmps38
    go_wp2_with fail
    refine (sWordIn_is _ false _ hs HW.out).mono ?_
    rintro e w1 ⟨rfl, hb1⟩
    have HB1 := Lib.hid hb1
    clear hb1
    go_wp2
    go_ret2
    exact ⟨⟨_, rfl, (ownEmpty w1).mono HB1.out.size⟩, HB1.out.alloc HB1.out.size _⟩
  | true =>
    cases hg : inR 0 3 g with
    | false =>
      rw [hw, hg] at hb
      obtain rfl : false = b := hb
      have HW := Lib.hid hw
      have HG := Lib.hid hg
      clear hw hg
      go_enter Try.func38, Try.ntmps38
      go_wp2_with fail
      refine (sWordIn_is _ true _ hs HW.out).mono ?_
      rintro e w1 ⟨rfl, hb1⟩
      have HB1 := Lib.hid hb1
      clear hb1
      go_wp2_with fail
      refine (l6In_is _ _ _ false _ HG.out).mono ?_
      rintro e w2 ⟨rfl, hb2⟩
      have HB2 := Lib.hid (HB1.out.trans (hb2.mono HB1.out.size))
      clear hb2
      go_wp2
      go_ret2
      exact ⟨⟨_, rfl, (ownEmpty w2).mono HB2.out.size⟩, HB2.out.alloc HB2.out.size _⟩
    | true =>
      rw [hw, hg] at hb
      obtain rfl : true = b := hb
      obtain ⟨hw1, hw2, _⟩ := (wordB_iff _).1 hw
      have HF : Hid (∀ W, Calls Try.prog 78 #[.string s, .int .i64 g] W fun e w' => (∃ v, e = .returned v ∧ Acc W.heap.size w' v (canonT (foxL g 1 s.data.toList)) 60 60) ∧ Below W.heap.size W w') :=
        Lib.hid fun W => l3Fox_any s g W (by simpa using hw1) hw2
      have HW := Lib.hid hw
      have HG := Lib.hid hg
      clear hw hg hw1 hw2
      go_enter Try.func38, Try.ntmps38
      go_wp2_with fail
      refine (sWordIn_is _ true _ hs HW.out).mono ?_
      rintro e w1 ⟨rfl, hb1⟩
      have HB1 := Lib.hid hb1
      clear hb1
      go_wp2_with fail
      refine (l6In_is _ _ _ true _ HG.out).mono ?_
      rintro e w2 ⟨rfl, hb2⟩
      have HB2 := Lib.hid (HB1.out.trans (hb2.mono HB1.out.size))
      clear hb2
      go_wp2_with fail
      refine (HF.out _).mono ?_
      rintro e w3 ⟨⟨v, rfl, ho⟩, hb3⟩
      have HO := Lib.hid ho.own
      have HB3 := Lib.hid (HB2.out.trans (hb3.mono HB2.out.size))
      have hs2 := HB2.out.size
      clear ho hb3
      go_wp2
      go_ret2
      exact ⟨⟨_, rfl, HO.out.mono hs2⟩, HB3.out⟩

/-! ### FoxTwice -/
structure Twice (s : ByteArray) (g h : Int) (b1 b2 : Bool) (us us2 : List Tm) (z : Int) (b : Bool) : Prop where
  h1 : foxOfB s g = b1
  hus : cond b1 (canonT (foxL g 1 s.data.toList)) [] = us
  h2 : foxSumB us h = b2
  hus2 : cond b2 (canonT (foxI h us)) [] = us2
  hz : cond (b1 && b2) (plainZ us2) 0 = z
  hb : (b1 && b2) = b
theorem Twice.small {s : ByteArray} {g h : Int} {b1 b2 : Bool} {us us2 : List Tm} {z : Int} {b : Bool} (t : Twice s g h b1 b2 us us2 z b) : SmallT us := (told_small (foxOfB_tw t.h1) t.hus).1
theorem Twice.small2 {s : ByteArray} {g h : Int} {b1 b2 : Bool} {us us2 : List Tm} {z : Int} {b : Bool} (t : Twice s g h b1 b2 us us2 z b) : SmallT us2 := (told_small (foxSumB_tw t.h2) t.hus2).1
theorem Twice.sum2 {s : ByteArray} {g h : Int} {b1 b2 : Bool} {us us2 : List Tm} {z : Int} {b : Bool} (t : Twice s g h b1 b2 us us2 z b) (hb : b2 = true) : sumB us2 = true := by
  have h2 := t.hus2
  rw [hb] at h2
  have h2 : canonT (foxI h us) = us2 := h2
  rw [← h2, sumB_canon (canon_of _)]
  exact foxSumB_tw t.h2 hb

set_option maxRecDepth 100000 in
set_option maxHeartbeats 2000000 in
theorem sFoxTwice_any (s : ByteArray) (g h : Int) (b1 b2 : Bool) (us us2 : List Tm) (z : Int) (b : Bool) (w : World) (hs : s.size ≤ maxLen) (ht : Twice s g h b1 b2 us us2 z b) :
    Calls Try.prog 51 #[.string s, .int .i64 g, .int .i64 h] w fun e w' => e = .returned (.tuple #[.int .i64 z, .bool b]) ∧ Below w.heap.size w w' := by
  have HT := Lib.hid ht
  clear ht
  obtain ⟨n, hn⟩ : ∃ n, us.length = n := ⟨_, rfl⟩
  obtain ⟨n2, hn2⟩ : ∃ n, us2.length = n := ⟨_, rfl⟩
  have HN := Lib.hid hn
  have HN2 := Lib.hid hn2
  clear hn hn2
  go_enter Try.func51, Try.ntmps51
  go_wp2_with fail
  refine (sFoxOf_any s g b1 w hs HT.out.h1).mono ?_
  rintro e w1 ⟨⟨v1, rfl, ho1⟩, hb1⟩
  rw [HT.out.hus] at ho1
  obtain ⟨a1, c1, rfl, hI1⟩ := ho1.own.isTerms HT.out.small
  rw [HN.out] at hI1 ⊢
  have HI1 := Lib.hid hI1
  have HB1 := Lib.hid hb1
  clear ho1 hI1 hb1
  go_wp2_with fail
  refine (sFoxSum_any a1 c1 n us h b2 _ HI1.out HT.out.h2).mono ?_
  rintro e w2 ⟨⟨v2, rfl, ho2⟩, hb2⟩
  rw [HT.out.hus2] at ho2
  obtain ⟨a2, c2, rfl, hI2⟩ := ho2.own.isTerms HT.out.small2
  rw [HN2.out] at hI2 ⊢
  have HI2 := Lib.hid hI2
  have HB2 := Lib.hid (HB1.out.trans (hb2.mono HB1.out.size))
  clear ho2 hI2 hb2
  cases b1 with
  | false =>
    obtain rfl : b = false := HT.out.hb.symm
    obtain rfl : z = 0 := HT.out.hz.symm
    go_wp2
    go_ret2
    exact ⟨rfl, HB2.out⟩
  | true =>
    cases b2 with
    | false =>
      obtain rfl : b = false := HT.out.hb.symm
      obtain rfl : z = 0 := HT.out.hz.symm
      go_wp2
      go_ret2
      exact ⟨rfl, HB2.out⟩
    | true =>
      obtain rfl : b = true := HT.out.hb.symm
      have HZ : Hid (plainZ us2 = z) := Lib.hid HT.out.hz
      have HS2 := Lib.hid (HT.out.sum2 rfl)
      go_wp2_with fail
      refine (sSumPlain_yes a2 c2 n2 us2 _ HI2.out HS2.out).mono ?_
      rw [HZ.out]
      rintro e w3 ⟨rfl, hb3⟩
      go_wp2
      go_ret2
      exact ⟨rfl, HB2.out.trans (hb3.mono HB2.out.size)⟩

set_option maxRecDepth 100000 in
set_option maxHeartbeats 2000000 in
theorem iFoxTwice_any (s : ByteArray) (g h : Int) (b1 b2 : Bool) (us us2 : List Tm) (z : Int) (b : Bool) (w : World) (hs : s.size ≤ maxLen) (ht : Twice s g h b1 b2 us us2 z b) :
    Calls Try.prog 52 #[.string s, .int .i64 g, .int .i64 h] w fun e w' => e = .returned (.tuple #[.int .i64 z, .bool b]) ∧ Below w.heap.size w w' := by
  have HT := Lib.hid ht
  clear ht
  obtain ⟨n, hn⟩ : ∃ n, us.length = n := ⟨_, rfl⟩
  obtain ⟨n2, hn2⟩ : ∃ n, us2.length = n := ⟨_, rfl⟩
  have HN := Lib.hid hn
  have HN2 := Lib.hid hn2
  clear hn hn2
  go_enter Try.func52, Try.ntmps52
  go_wp2_with fail
  refine (iFoxOf_any s g b1 w hs HT.out.h1).mono ?_
  rintro e w1 ⟨⟨v1, rfl, ho1⟩, hb1⟩
  rw [HT.out.hus] at ho1
  obtain ⟨a1, c1, rfl, hI1⟩ := ho1.isTerms HT.out.small
  rw [HN.out] at hI1 ⊢
  have HI1 := Lib.hid hI1
  have HB1 := Lib.hid hb1
  clear ho1 hI1 hb1
  cases b1 with
  | false =>
    obtain rfl : b = false := HT.out.hb.symm
    obtain rfl : z = 0 := HT.out.hz.symm
    go_wp2
    go_ret2
    exact ⟨rfl, HB1.out⟩
  | true =>
    go_wp2_with fail
    refine (iFoxSum_any a1 c1 n us h b2 _ HI1.out HT.out.h2).mono ?_
    rintro e w2 ⟨⟨v2, rfl, ho2⟩, hb2⟩
    rw [HT.out.hus2] at ho2
    obtain ⟨a2, c2, rfl, hI2⟩ := ho2.isTerms HT.out.small2
    rw [HN2.out] at hI2 ⊢
    have HI2 := Lib.hid hI2
    have HB2 := Lib.hid (HB1.out.trans (hb2.mono HB1.out.size))
    clear ho2 hI2 hb2
    cases b2 with
    | false =>
      obtain rfl : b = false := HT.out.hb.symm
      obtain rfl : z = 0 := HT.out.hz.symm
      go_wp2
      go_ret2
      exact ⟨rfl, HB2.out⟩
    | true =>
      obtain rfl : b = true := HT.out.hb.symm
      have HZ : Hid (plainZ us2 = z) := Lib.hid HT.out.hz
      have HS2 := Lib.hid (HT.out.sum2 rfl)
      go_wp2_with fail
      refine (iSumPlain_yes a2 c2 n2 us2 _ HI2.out HS2.out).mono ?_
      rw [HZ.out]
      rintro e w3 ⟨rfl, hb3⟩
      go_wp2
      go_ret2
      exact ⟨rfl, HB2.out.trans (hb3.mono HB2.out.size)⟩

/-! ### As a law wants them -/
theorem sFoxSum_law {gn c n : Nat} {x : List Tm} {g : Int} {b : Bool} {w : World} (hx : IsTerms w (some ⟨gn, 0, none⟩) n x) (hb : foxSumB x g = b) :
    Calls Try.prog 40 #[.slice (some ⟨gn, 0, none⟩) n c, .int .i64 g] w (STold w b (canonT (foxI g x))) := sFoxSum_any _ _ _ x g b w hx hb
theorem iFoxSum_law {gn c n : Nat} {x : List Tm} {g : Int} {b : Bool} {w : World} (hx : IsTerms w (some ⟨gn, 0, none⟩) n x) (hb : foxSumB x g = b) :
    Calls Try.prog 41 #[.slice (some ⟨gn, 0, none⟩) n c, .int .i64 g] w (ITold w b (canonT (foxI g x))) := iFoxSum_any _ _ _ x g b w hx hb
theorem sFoxOf_law {s : ByteArray} {g : Int} {b : Bool} {w : World} (hs : s.size ≤ maxLen) (hb : foxOfB s g = b) :
    Calls Try.prog 38 #[.string s, .int .i64 g] w (STold w b (canonT (foxL g 1 s.data.toList))) := sFoxOf_any s g b w hs hb
theorem iFoxOf_law {s : ByteArray} {g : Int} {b : Bool} {w : World} (hs : s.size ≤ maxLen) (hb : foxOfB s g = b) :
    Calls Try.prog 39 #[.string s, .int .i64 g] w (ITold w b (canonT (foxL g 1 s.data.toList))) := iFoxOf_any s g b w hs hb

end Go.Proofs.Ytidmlppbmcphbaa

/- Lists of lists of terms in memory; the contracts of the laws' own helpers on them. -/

namespace Go.Proofs.Ytidmlppbmcphbaa
open Go.RowKit Go.Shelf

abbrev TT : TypeId := 25
theorem infoTerms : (Try.prog.info? TT).map (fun i => (i.zero, i.size, i.bytes)) = some (some (.slice none 0 0), 1, 24) := by kernel_rfl

def total (rows : List (List Tm)) : Nat := (rows.map List.length).sum
theorem total_succ (rows : List (List Tm)) (k : Nat) (h : k < rows.length) : total (rows.take (k + 1)) = total (rows.take k) + rows[k].length := by
  unfold total; rw [List.take_succ_eq_append_getElem h, List.map_append, List.sum_append]; simp
theorem total_take_le : ∀ (rows : List (List Tm)) (k : Nat), total (rows.take k) ≤ total rows
  | [], k => by simp [total]
  | r :: rs, 0 => by simp [total]
  | r :: rs, k + 1 => by have := total_take_le rs k; unfold total at *; simp only [List.take_succ_cons, List.map_cons, List.sum_cons]; omega
theorem total_get (rows : List (List Tm)) (k : Nat) (h : k < rows.length) : total (rows.take k) + rows[k].length ≤ total rows := by
  rw [← total_succ rows k h]; exact total_take_le rows (k + 1)

/-- A slice of slices of terms. -/
structure IsTT (w : World) (a : Option Addr) (n : Nat) (rows : List (List Tm)) : Prop where
  len : rows.length = n
  max : n ≤ maxLen
  at_ : 0 < n → ∃ x, a = some x ∧ x.block < w.heap.size ∧ ∀ i (h : i < rows.length), ∃ ai ci, w.cell? (x.add i) = some (.slice ai rows[i].length ci) ∧ IsTerms w ai rows[i].length rows[i]
theorem IsTT.below {w w' : World} {a : Option Addr} {n : Nat} {rows : List (List Tm)} (h : IsTT w a n rows) (hb : Below w.heap.size w w') : IsTT w' a n rows :=
  ⟨h.len, h.max, fun h0 => by
    obtain ⟨x, e, hx, hc⟩ := h.at_ h0
    refine ⟨x, e, Nat.lt_of_lt_of_le hx hb.size, fun i hi => ?_⟩
    obtain ⟨ai, ci, h1, h2⟩ := hc i hi
    exact ⟨ai, ci, (hb.cell (p := x.add i) (by rw [addr_add_block]; exact hx)).trans h1, h2.below hb⟩⟩
theorem IsTT.none (w : World) (a : Option Addr) : IsTT w a 0 [] := ⟨rfl, Nat.zero_le _, fun h => absurd h (Nat.lt_irrefl _)⟩

/-! ### Rows of the call's own -/
theorem ownsRow_touched {w w' : World} {base : Nat} {e : TypeId} {size : Nat} {v : Value} {n : Nat} {xs : List Value} (h : w.ownsRow base e size v n xs) (ht : ∀ b, v.ownBlock = some b → b < w.heap.size → w'.heap[b]? = w.heap[b]?) : w'.ownsRow base e size v n xs := by
  refine ⟨h.1, ?_⟩
  rcases h.2 with ⟨rfl, h0⟩ | ⟨g, cap, cur, rfl, hb, hg, h3⟩
  · exact .inl ⟨rfl, h0⟩
  · exact .inr ⟨g, cap, cur, rfl, hb, (ht g rfl (Array.getElem?_eq_some_iff.1 hg).1).trans hg, h3⟩
structure OwnTT (lo : Nat) (w : World) (v : Value) (vals : List Value) (rows : List (List Tm)) : Prop where
  row : w.ownsRow lo TT 1 v rows.length vals
  each : ∀ (i : Nat) (h : i < rows.length) (u : Value), vals[i]? = some u → OwnT lo w u rows[i]
  apart : ∀ (i j : Nat) (u x : Value) (b : Nat), vals[i]? = some u → vals[j]? = some x → i ≠ j → u.ownBlock = some b → x.ownBlock = some b → False
  head : ∀ (i : Nat) (u : Value) (b : Nat), vals[i]? = some u → v.ownBlock = some b → u.ownBlock = some b → False
theorem OwnTT.val {lo : Nat} {w : World} {v : Value} {vals : List Value} {rows : List (List Tm)} (h : OwnTT lo w v vals rows) {i : Nat} (hi : i < rows.length) : ∃ u, vals[i]? = some u := by
  have := h.row.1
  rw [Nat.mul_one] at this
  exact ⟨_, List.getElem?_eq_getElem (by omega)⟩
/-- What lies elsewhere is as it was. -/
structure Touched (S : Nat → Prop) (w w' : World) : Prop where
  os : w'.os = w.os
  tape : w'.tape = w.tape
  output : w'.output = w.output
  size : w.heap.size ≤ w'.heap.size
  block : ∀ i, i < w.heap.size → ¬ S i → w'.heap[i]? = w.heap[i]?
theorem Touched.refl (S : Nat → Prop) (w : World) : Touched S w w := ⟨rfl, rfl, rfl, Nat.le_refl _, fun _ _ _ => rfl⟩
theorem Touched.grown {S : Nat → Prop} {w w1 w2 : World} {row : Option Nat} (h : Touched S w w1) (hg : w1.grownBy w2 row) (hS : ∀ b, row = some b → S b) : Touched S w w2 :=
  ⟨hg.os.trans h.os, hg.tape.trans h.tape, hg.output.trans h.output, Nat.le_trans h.size hg.size, fun i hi hn => by
    rw [hg.block i (Nat.lt_of_lt_of_le hi h.size) (fun e => hn (hS i e.symm)), h.block i hi hn]⟩
theorem Touched.below {S : Nat → Prop} {lo : Nat} {w w' : World} (h : Touched S w w') (hl : lo ≤ w.heap.size) (hS : ∀ i, S i → lo ≤ i) : Below lo w w' :=
  ⟨h.os, h.tape, h.output, h.size, fun i hi => h.block i (by omega) fun hs => by have := hS i hs; omega⟩
/-- The blocks of the rows. -/
def InRows (vals : List Value) (b : Nat) : Prop := ∃ (i : Nat) (u : Value), vals[i]? = some u ∧ u.ownBlock = some b
theorem OwnTT.low {lo : Nat} {w : World} {v : Value} {vals : List Value} {rows : List (List Tm)} (h : OwnTT lo w v vals rows) {b : Nat} (hb : InRows vals b) : lo ≤ b ∧ b < w.heap.size := by
  obtain ⟨i, u, hu, e⟩ := hb
  have hi : i < rows.length := by
    have h1 := (List.getElem?_eq_some_iff.1 hu).1
    have := h.row.1
    rw [Nat.mul_one] at this
    omega
  exact (h.each i hi u hu).lt b e
theorem OwnTT.below {lo : Nat} {w w' : World} {v : Value} {vals : List Value} {rows : List (List Tm)} (h : OwnTT lo w v vals rows) (hb : Below w.heap.size w w') : OwnTT lo w' v vals rows :=
  ⟨ownsRow_past h.row hb, fun i hi u hu => (h.each i hi u hu).below hb, h.apart, h.head⟩
theorem OwnTT.touched {lo : Nat} {w w' : World} {S : Nat → Prop} {v : Value} {vals : List Value} {rows : List (List Tm)} (h : OwnTT lo w v vals rows) (ht : Touched S w w') (hv : ∀ b, v.ownBlock = some b → ¬ S b) (hr : ∀ b, InRows vals b → ¬ S b) : OwnTT lo w' v vals rows :=
  ⟨ownsRow_touched h.row fun b hb hl => ht.block b hl (hv b hb), fun i hi u hu => ownsRow_touched (h.each i hi u hu) fun b hb hl => ht.block b hl (hr b ⟨i, u, hu, hb⟩), h.apart, h.head⟩
theorem OwnT.touched {lo : Nat} {w w' : World} {S : Nat → Prop} {v : Value} {ts : List Tm} (h : OwnT lo w v ts) (ht : Touched S w w') (hv : ∀ b, v.ownBlock = some b → ¬ S b) : OwnT lo w' v ts :=
  ownsRow_touched h fun b hb hl => ht.block b hl (hv b hb)
theorem OwnTT.isTT {lo : Nat} {w : World} {v : Value} {vals : List Value} {rows : List (List Tm)} (h : OwnTT lo w v vals rows) (hs : ∀ r ∈ rows, SmallT r) (hn : rows.length ≤ maxLen) : ∃ a cap, v = .slice a rows.length cap ∧ IsTT w a rows.length rows := by
  rcases h.row.2 with ⟨rfl, h0⟩ | ⟨g, cap, cur, rfl, hb, hg, h3⟩
  · exact ⟨none, 0, by rw [h0], rfl, hn, fun hp => absurd hp (by omega)⟩
  · refine ⟨_, cap, rfl, rfl, hn, fun _ => ⟨_, rfl, (Array.getElem?_eq_some_iff.1 hg).1, fun i hi => ?_⟩⟩
    obtain ⟨u, hu⟩ := h.val hi
    obtain ⟨ai, ci, rfl, hI⟩ := (h.each i hi u hu).isTerms (hs _ (List.getElem_mem hi))
    refine ⟨ai, ci, ?_, hI⟩
    exact h.row.cells rfl i _ hu

/-! ### The laws' helpers -/
set_option maxRecDepth 100000 in
set_option maxHeartbeats 1000000 in
theorem szTermS_sum (a : Option Addr) (cap n left : Nat) (ts : List Tm) (w : World) (hs : IsTerms w a n ts) (hl : left ≤ 1048576) :
    Calls Try.prog 15 #[.slice a n cap, .int .i64 left] w fun e w' =>
      (∃ k : Int, e = .returned (.int .i64 k) ∧ (k < 0 ∨ (0 ≤ k ∧ k + n ≤ left))) ∧ Below w.heap.size w w' := by
  have hm := hs.max
  have HN := Lib.hid hs.len
  have HS := Lib.hid hs
  clear hs
  unfold maxLen at hm
  by_cases h0 : left < n
  · go_enter Try.func15, Try.ntmps15
    go_wp2
    go_ret
    exact ⟨⟨-1, rfl, .inl (by omega)⟩, Below.refl _ _⟩
  · go_enter Try.func15, Try.ntmps15
    go_wp2
    go_loopw [1, 5] (fun q i wr => ∃ (k : Nat) (m : Int), k ≤ n ∧ q = .int .i64 m ∧ i = .int .i64 k ∧ 0 ≤ m ∧ m + n ≤ left ∧ Below w.heap.size w wr) (fun _ i _ => n - (intOf i).toNat)
    case atStart => exact ⟨0, _, Nat.zero_le _, rfl, rfl, by omega, by omega, Below.refl _ _⟩
    case round =>
      obtain ⟨k, m, hk, rfl, rfl, hm0, hm1, hB⟩ := hrel
      by_cases hlt : k < n
      · have hkz : k < ts.length := by rw [HN.out]; exact hlt
        obtain ⟨x, rfl, hx⟩ := HS.out.at_ (by omega)
        obtain ⟨t, ht⟩ : ∃ t, ts[k] = t := ⟨_, rfl⟩
        have hc := (hx.below hB).2 k hkz
        rw [ht, addr_next] at hc
        obtain ⟨hc0, hc1⟩ := hc
        have hsm : t.s.size ≤ maxLen := by rw [← ht]; exact (HS.out.small _ (List.getElem_mem hkz)).1
        clear ht hx
        go_wp2_with fail
        refine (szTerm_any _ _ m _ hsm (by omega) (by omega)).mono ?_
        rintro e w2 ⟨rfl, hb2⟩
        by_cases h2 : m < t.s.size
        · rw [if_pos h2]
          go_wp2
          go_ret
          exact ⟨⟨_, rfl, .inl (by omega)⟩, hB.trans (hb2.mono hB.size)⟩
        · rw [if_neg h2]
          have h3 : 0 ≤ m - t.s.size := by omega
          go_wp2
          go_roundw
          case rel => exact ⟨k + 1, _, by omega, rfl, by go_num, by omega, by omega, hB.trans (hb2.mono hB.size)⟩
          case measure => simp [intOf]; omega
      · obtain rfl : k = n := by omega
        go_wp2
        go_ret
        exact ⟨⟨_, rfl, .inr ⟨by omega, by omega⟩⟩, hB⟩

set_option maxRecDepth 100000 in
set_option maxHeartbeats 1000000 in
theorem szTermSS_any (a : Option Addr) (cap n left : Nat) (rows : List (List Tm)) (w : World) (hs : IsTT w a n rows) (hl : left ≤ 1048576) :
    Calls Try.prog 42 #[.slice a n cap, .int .i64 left] w fun e w' =>
      (∃ k : Int, e = .returned (.int .i64 k) ∧ (k < 0 ∨ (0 ≤ k ∧ k + n + total rows ≤ left))) ∧ Below w.heap.size w w' := by
  have hm := hs.max
  have HN := Lib.hid hs.len
  have HS := Lib.hid hs
  clear hs
  unfold maxLen at hm
  by_cases h0 : left < n
  · go_enter Try.func42, Try.ntmps42
    go_wp2
    go_ret
    exact ⟨⟨-1, rfl, .inl (by omega)⟩, Below.refl _ _⟩
  · go_enter Try.func42, Try.ntmps42
    go_wp2
    go_loopw [1, 5] (fun q i wr => ∃ (k m : Nat), k ≤ n ∧ q = .int .i64 m ∧ i = .int .i64 k ∧ m + n + total (rows.take k) ≤ left ∧ Below w.heap.size w wr) (fun _ i _ => n - (intOf i).toNat)
    case atStart => exact ⟨0, left - n, Nat.zero_le _, by go_num, rfl, by simp [total]; omega, Below.refl _ _⟩
    case round =>
      obtain ⟨k, m, hk, rfl, rfl, hm1, hB⟩ := hrel
      by_cases hlt : k < n
      · have hkz : k < rows.length := by rw [HN.out]; exact hlt
        obtain ⟨x, rfl, hxb, hx⟩ := HS.out.at_ (by omega)
        obtain ⟨ai, ci, hc, hI⟩ := hx k hkz
        have hc0 := (hB.cell (p := x.add k) (by rw [addr_add_block]; exact hxb)).trans hc
        have HI := Lib.hid (hI.below hB)
        have hsucc := total_succ rows k hkz
        obtain ⟨r, hr⟩ : ∃ r, rows[k].length = r := ⟨_, rfl⟩
        rw [hr] at hsucc hc0 HI
        obtain ⟨t0, ht0⟩ : ∃ t, total (rows.take k) = t := ⟨_, rfl⟩
        rw [ht0] at hm1 hsucc
        have HT := Lib.hid hsucc
        clear hx hc hI hsucc hr ht0
        go_wp2_with fail
        refine (szTermS_sum ai ci r m _ _ HI.out (by omega)).mono ?_
        rintro e w2 ⟨⟨q, rfl, hq⟩, hb2⟩
        by_cases h2 : q < 0
        · clear hq
          go_wp2
          go_ret
          exact ⟨⟨_, rfl, .inl (by omega)⟩, hB.trans (hb2.mono hB.size)⟩
        · obtain ⟨p, rfl, hp⟩ : ∃ p : Nat, q = (p : Int) ∧ p + r ≤ m := by
            rcases hq with h | ⟨h3, h4⟩
            · omega
            · exact ⟨q.toNat, by omega, by omega⟩
          clear hq
          go_wp2
          go_roundw
          case rel => exact ⟨k + 1, p, by omega, rfl, by go_num, by rw [HT.out]; omega, hB.trans (hb2.mono hB.size)⟩
          case measure => simp [intOf]; omega
      · obtain rfl : k = n := by omega
        have ht : rows.take k = rows := List.take_of_length_le (by rw [HN.out]; exact Nat.le_refl _)
        rw [ht] at hm1
        go_wp2
        go_ret
        exact ⟨⟨_, rfl, .inr ⟨by omega, by omega⟩⟩, hB⟩

end Go.Proofs.Ytidmlppbmcphbaa

/- The contract of the program's 'push'. -/
import Derived.Test.YtidmlppbmcphbaaTt
import Derived.Deep.RegionWith
namespace Go.Proofs.Ytidmlppbmcphbaa
open Go.RowKit Go.Shelf

theorem set_last (pre : List Tm) (l : Tm) (c : Int) (k : Nat) (hk : pre.length = k) :
    ((termsV (pre ++ [l])).set (k * 2) (.int .i64 c)).set (k * 2 + 1) (.string l.s) = termsV (pre ++ [⟨c, l.s⟩]) := by
  have hl := termsV_len pre
  rw [hk] at hl
  rw [termsV_append, termsV_append, List.set_append_right _ _ (by omega), List.set_append_right _ _ (by omega), hl, Nat.sub_self, show k * 2 + 1 - k * 2 = 1 by omega]
  rfl
/-- What the join that is stored leaves. -/
theorem join_done {base bs g k cap : Nat} {w W w2 : World} {pre us : List Tm} {l : Tm} {c : Int} (HBB : BelowBut bs base w W) (hb2 : Below W.drew.heap.size W.drew w2)
    (hbx : W.heap[bs]? = some (.cells #[.slice (some ⟨g, 0, none⟩) (k + 1) cap, CF] SrT (0, 0))) (hrow : W.ownsRow base TI 2 (.slice (some ⟨g, 0, none⟩) (k + 1) cap) (k + 1) (termsV us))
    (hus : pre ++ [l] = us) (hk : pre.length = k) (hbs : bs < base) (hgb : base ≤ g) (hbase : base ≤ W.heap.size) :
    HoldS base bs (pre ++ [⟨c, l.s⟩]) ((w2.setCell ⟨g, k * 2, none⟩ (.int .i64 c)).setCell ⟨g, k * 2 + 1, none⟩ (.string l.s)) ∧
      BelowBut bs base w ((w2.setCell ⟨g, k * 2, none⟩ (.int .i64 c)).setCell ⟨g, k * 2 + 1, none⟩ (.string l.s)) := by
  subst hus
  have hB : Below W.heap.size W w2 := (Below.refl _ W).drew.trans hb2
  have hll : (pre ++ [l]).length = k + 1 := by rw [List.length_append, hk]; rfl
  have hr2 : w2.ownsRow base TI 2 (.slice (some ⟨g, 0, none⟩) (k + 1) cap) (k + 1) (termsV (pre ++ [l])) := by
    rw [← hll] at hrow ⊢
    exact OwnT.below hrow hB
  have hst := ((hr2.stored (k * 2) (.int .i64 c)).1.stored (k * 2 + 1) (.string l.s)).1
  rw [set_last pre l c k hk] at hst
  have hb3 : Below base W ((w2.setCell ⟨g, k * 2, none⟩ (.int .i64 c)).setCell ⟨g, k * 2 + 1, none⟩ (.string l.s)) :=
    ((hB.mono hbase).setCell (p := ⟨g, k * 2, none⟩) hgb _).setCell (p := ⟨g, k * 2 + 1, none⟩) hgb _
  have hl2 : (pre ++ [(⟨c, l.s⟩ : Tm)]).length = k + 1 := by rw [List.length_append, hk]; rfl
  exact ⟨⟨_, (hb3.block bs hbs).trans hbx, by rw [hl2]; exact hst⟩, HBB.trans (BelowBut.of bs hb3)⟩

set_option maxRecDepth 100000 in
set_option maxHeartbeats 4000000 in
theorem push_join (base bs : Nat) (pre : List Tm) (l x : Tm) (w : World) (h : HoldS base bs (pre ++ [l]) w) (hls : l.s = x.s) (hsum : -9223372036854775808 ≤ l.c + x.c ∧ l.c + x.c ≤ 9223372036854775807) (hlen : pre.length ≤ 1000000) (hbs : bs < base) (hbase : base ≤ w.heap.size) :
    Calls Try.prog 111 #[.pointer (some ⟨bs, 0, none⟩), .agg #[.int .i64 x.c, .string x.s], .func (.func 91) #[] #[]] w fun e w' =>
      e = .returned (.tuple #[]) ∧ HoldS base bs (pre ++ [⟨l.c + x.c, l.s⟩]) w' ∧ BelowBut bs base w w' := by
  have hmx : Try.prog.follows .mixedOrders = true := by kernel_rfl
  obtain ⟨i0, hi, hz0, hz1, hz2⟩ := info_parts infoTerm
  obtain ⟨v, s0, s1, x0, x1, hrow, hbx, hblk⟩ := push_cells h hbs hbase x
  obtain ⟨g, cap, rfl⟩ : ∃ g cap, v = .slice (some ⟨g, 0, none⟩) (pre ++ [l]).length cap := by
    rcases hrow.2 with ⟨rfl, h0⟩ | ⟨g, cap, cur, rfl, _⟩
    · rw [List.length_append] at h0; simp at h0
    · exact ⟨_, _, rfl⟩
  have hta := termsAt_of_owns rfl hrow
  obtain ⟨hgb, hgN⟩ := hblk g rfl
  obtain ⟨l0, l1⟩ := hta.2 pre.length (by rw [List.length_append]; exact Nat.lt_succ_self _)
  rw [List.getElem_append_right (Nat.le_refl _)] at l0 l1
  simp only [Nat.sub_self, List.getElem_cons_zero] at l0 l1
  rw [addr_next] at l1
  obtain ⟨k, hk⟩ : ∃ k, pre.length = k := ⟨_, rfl⟩
  have hll : (pre ++ [l]).length = k + 1 := by rw [List.length_append, hk]; rfl
  have hw1 : IntKind.i64.wrap (((k + 1 : Nat) : Int) - 1) = (k : Int) := by rw [IntWalk.i64_in _ (by omega)]; omega
  have hw2 : IntKind.i64.wrap ((k : Int) + 1 - 1) = (k : Int) := by rw [IntWalk.i64_in _ (by omega)]; omega
  rw [hk] at l0 l1 hlen
  rw [hll] at hrow s0 hbx hblk
  obtain ⟨us, hus⟩ : ∃ us, pre ++ [l] = us := ⟨_, rfl⟩
  rw [hus] at hrow
  have HLL := Lib.hid hll
  have HUS := Lib.hid hus
  have HK := Lib.hid hk
  clear hll hus hta hk
  obtain ⟨N, hN⟩ : ∃ N, w.heap.size = N := ⟨_, rfl⟩
  have hs : (w.alloc (.cells #[.int .i64 x.c, .string x.s] TI)).heap.size = N + 1 := by simp [hN]
  have hbw : Below w.heap.size w (w.alloc (.cells #[.int .i64 x.c, .string x.s] TI)) := (Below.refl _ _).alloc (Nat.le_refl _) _
  rw [hN] at x0 x1 hbase hbw
  have HR := Lib.hid hrow
  have HBX := Lib.hid hbx
  have HS := Lib.hid hs
  have HBW := Lib.hid hbw
  have HN := Lib.hid hN
  have HC : Hid (∀ W : World, Calls Try.prog 83 #[.agg #[.int .i64 l.c, .string l.s], .agg #[.int .i64 x.c, .string x.s]] W fun e w' => e = .returned (.int .i64 0) ∧ Below W.heap.size W w') := Lib.hid (fun W => by
    have hv0 : cmpW l.s x.s = 0 := by rw [hls]; exact cmpW_self _
    rw [← hv0]
    exact (compareTerms_any l x W).mono fun _ _ ⟨h1, h2⟩ => ⟨h1, h2.below⟩)
  have HLS := Lib.hid hls
  have HSUM := Lib.hid hsum
  have hk0 : (0 : Int) ≤ (k : Int) := Int.natCast_nonneg _
  have hk1 : (k : Int) < (k : Int) + 1 := by omega
  have hk2 : (k : Int) < ((k + 1 : Nat) : Int) := by omega
  have v0 := BelowBy.cell (a := ⟨bs, 0, none⟩) (by show bs < _; rw [hs]; omega) s0
  have v1 := BelowBy.cell (a := ⟨bs, 1, none⟩) (by show bs < _; rw [hs]; omega) s1
  have v2 := BelowBy.cell (a := ⟨N, 0, none⟩) (by show N < _; rw [hs]; omega) x0
  have v3 := BelowBy.cell (a := ⟨N, 1, none⟩) (by show N < _; rw [hs]; omega) x1
  simp only [add_off] at l0 l1
  have v4 := BelowBy.cell (a := ⟨g, k * 2, none⟩) (by rw [hs]; show g < _; omega) l0
  have v5 := BelowBy.cell (a := ⟨g, k * 2 + 1, none⟩) (by rw [hs]; show g < _; omega) l1
  clear hrow hbx hs h hbw hls hsum
  go_enter Try.func111, Try.ntmps111
  go_wp2_with fail
  try rw [hN]
  generalize (w.alloc (.cells #[.int .i64 x.c, .string x.s] TI)) = V at *
  refine wp_region_below hmx (by kernel_rfl) ?_
  repeat (((with_reducible refine wpQuiet_step (fun K hK => ?_)); go_simp; first | ((with_reducible refine hK _ ?_); clear hK K) | (refine (if_neg (by decide)).mpr ?_; (with_reducible refine hK _ ?_); clear hK K) | (apply Exists.intro; (with_reducible refine ⟨fun _ => ?_, hK _ ?_⟩); (go_at_call 83; exact Calls.bel (HC.out _)); clear hK K)))
  with_reducible refine wpQuiet_nil ?_
  rintro W ⟨⟨W, hW⟩, rfl⟩
  have y0 := (hW.cell (p := ⟨bs, 0, none⟩) (by show bs < _; rw [HS.out]; omega)).trans s0
  have y1 := (hW.cell (p := ⟨N, 0, none⟩) (by show N < _; rw [HS.out]; omega)).trans x0
  have y2 := (hW.cell (p := ⟨N, 1, none⟩) (by show N < _; rw [HS.out]; omega)).trans x1
  have hrW : W.ownsRow base TI 2 (.slice (some ⟨g, 0, none⟩) (k + 1) cap) (k + 1) (termsV us) := by
    have := HR.out
    rw [← HLL.out, HUS.out] at this ⊢
    exact OwnT.below this hW
  have hbW : W.heap[bs]? = some (.cells #[.slice (some ⟨g, 0, none⟩) (k + 1) cap, CF] SrT (0, 0)) := (hW.block bs (by rw [HS.out]; omega)).trans HBX.out
  have hsz : N + 1 ≤ W.heap.size := by rw [← HS.out]; exact hW.size
  have HBB : Hid (BelowBut bs base w W) := Lib.hid ((BelowBut.of bs (HBW.out.mono hbase)).trans (BelowBut.of bs (hW.mono (by rw [HS.out]; omega))))
  change Exit.then _ _ _ _ W
  have y3 := (hW.cell (p := ⟨g, k * 2, none⟩) (by show g < _; rw [HS.out]; omega)).trans l0
  have y4 := (hW.cell (p := ⟨g, k * 2 + 1, none⟩) (by show g < _; rw [HS.out]; omega)).trans l1
  clear s0 s1 x0 x1 l0 l1 v0 v1 v2 v3 v4 v5 hW HR HBX HS HBW
  have HRW := Lib.hid hrW
  have HBXW := Lib.hid hbW
  have hf3 : W.frozen? ⟨g, k * 2, none⟩ = false := hrW.frozenAt (k * 2)
  have hf4 : W.frozen? ⟨g, k * 2 + 1, none⟩ = false := hrW.frozenAt (k * 2 + 1)
  clear hrW hbW
  have hbs2 : bs < W.heap.size := by omega
  have hg2 : g < W.heap.size := by omega
  clear hblk
  go_wp2_with fail
  go_region_with ((go_at_call 91; refine (joinTerms_any l x _ HSUM.out).mono ?_; rintro e w2 ⟨rfl, hb2⟩; have z0 := (hb2.cell (p := ⟨bs, 0, none⟩) hbs2).trans y0; have z3 := (hb2.cell (p := ⟨g, k * 2, none⟩) hg2).trans y3; have z4 := (hb2.cell (p := ⟨g, k * 2 + 1, none⟩) hg2).trans y4; have f3 := (hb2.frozen (p := ⟨g, k * 2, none⟩) hg2).trans hf3; have f4 := (hb2.frozen (p := ⟨g, k * 2 + 1, none⟩) hg2).trans hf4))
  all_goals
    go_wp2
    exact bodyPost_ret (results_none rfl _ _ _) rfl ⟨rfl, join_done HBB.out hb2 HBXW.out HRW.out HUS.out HK.out hbs hgb (by omega)⟩

end Go.Proofs.Ytidmlppbmcphbaa

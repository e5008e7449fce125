/- The contract of the program's 'reduced': the letters of all parts, one part behind the other, reduced. -/
import Derived.Test.YtaaeiogdhmiaaaaIb
namespace Go.Proofs.Ytaaeiogdhmiaaaa
open Go.RowKit Go.Shelf

attribute [local go_sem] Oper.semAt_some

structure Part where
  gf : Nat
  lb : Array Value
  xs : List UInt8

def cat (ps : List Part) : List UInt8 := (ps.map Part.xs).flatten
theorem cat_take_succ (ps : List Part) (k : Nat) (h : k < ps.length) : cat (ps.take (k + 1)) = cat (ps.take k) ++ ps[k].xs := by
  unfold cat; rw [List.take_succ_eq_append_getElem h]; simp only [List.map_append, List.flatten_append, List.map_cons, List.map_nil, List.flatten_cons, List.flatten_nil, List.append_nil]

/-- The marks that loops over iterators leave among the deferred calls. -/
def mk (D : Nat) : Deferred := { target := .collected D, args := #[] }
def Marked (base : Nat) (Ds : List Nat) (W : World) : Prop := Ds.Nodup ∧ ∀ D ∈ Ds, base ≤ D ∧ W.heap[D]? = some (.deferred (some []))

theorem leaves_marks {F : Fence} {n : Nat} {P : Program} {fn : Func} {tmps : Array Value} {R : Ending → World → Prop} {base : Nat} (Q : World → Prop)
    (hQ : ∀ W D o', Q W → base ≤ D → W.heap[D]? = some (.deferred (some [])) → Q (W.putObj D o')) (hend : ∀ W, Q W → LeavesIn F n P fn tmps R [] .returning W) :
    ∀ (Ds : List Nat) (W : World), Q W → Marked base Ds W → LeavesInM F n P fn tmps R (Ds.map mk) .returning W
  | [], W, hq, _ => hend W hq
  | D :: Ds, W, hq, hm => by
    obtain ⟨hnd, hall⟩ := hm
    obtain ⟨hb, hK⟩ := hall D (by simp)
    rw [List.nodup_cons] at hnd
    refine ⟨by simp, .inl ⟨D, _, rfl, run_takeDeferred hK, leaves_marks Q hQ hend Ds _ (hQ _ _ _ hq hb hK) ⟨hnd.2, fun E hE => ?_⟩⟩⟩
    obtain ⟨h1, h2⟩ := hall E (by simp [hE])
    exact ⟨h1, (World.putObj_heap_other (fun e => hnd.1 (by rw [← e]; exact hE))).trans h2⟩

/-- The box B holds a slice that owns the letters L. -/
def Hold (base B : Nat) (L : List UInt8) (W : World) : Prop :=
  ∃ v, Boxed W B 87 v ∧ W.ownsRow base 77 1 v L.length (bytesV L) ∧ ∃ g cap, v = .slice (some ⟨g, 0, none⟩) L.length cap

theorem Hold.own (base B : Nat) (f : List UInt8 → List UInt8) : Own (fun pre W => Hold base B (f pre) W) :=
  holdsRow_own base B _ _ 1 (fun pre => (f pre).length) (fun pre => bytesV (f pre)) (fun pre v => ∃ g cap, v = .slice (some ⟨g, 0, none⟩) (f pre).length cap)

theorem Hold.putObj {base B : Nat} {L : List UInt8} {W : World} (h : Hold base B L W) {D : Nat} {o : Obj} (o' : Obj) (hD : W.heap[D]? = some o) (ho : o.isCells = false) : Hold base B L (W.putObj D o') :=
  (Hold.own base B id) L W _ (some D) h (grownBy_putObj' W D o') (fun r e => by cases e; exact ⟨o, hD, ho⟩)

theorem Hold.step {base B : Nat} {W w1 : World} {g m cap g' m' cap' : Nat} {xs ys : List Value} (hv : Boxed W B 87 (.slice (some ⟨g, 0, none⟩) m cap)) (hrow : W.ownsRow base 77 1 (.slice (some ⟨g, 0, none⟩) m cap) m xs)
    (hn₀ : base ≤ W.heap.size) (hB : base ≤ B) (hown' : w1.ownsRow base 77 1 (.slice (some ⟨g', 0, none⟩) m' cap') m' ys) (hgrow : W.grownBy w1 (some g)) :
    Boxed w1 B 87 (.slice (some ⟨g, 0, none⟩) m cap) ∧ Boxed (w1.setCell ⟨B, 0, none⟩ (.slice (some ⟨g', 0, none⟩) m' cap')) B 87 (.slice (some ⟨g', 0, none⟩) m' cap') ∧
    (w1.setCell ⟨B, 0, none⟩ (.slice (some ⟨g', 0, none⟩) m' cap')).ownsRow base 77 1 (.slice (some ⟨g', 0, none⟩) m' cap') m' ys ∧
    KeepsOthers W (w1.setCell ⟨B, 0, none⟩ (.slice (some ⟨g', 0, none⟩) m' cap')) ∧ Below base W (w1.setCell ⟨B, 0, none⟩ (.slice (some ⟨g', 0, none⟩) m' cap')) ∧
    KeepT B W (w1.setCell ⟨B, 0, none⟩ (.slice (some ⟨g', 0, none⟩) m' cap')) := by
  have hv1 : Boxed w1 B 87 (.slice (some ⟨g, 0, none⟩) m cap) := hv.kept hgrow (hv.not_row (by decide) hrow)
  refine ⟨hv1, hv1.set _, hown'.kept (grownBy_setCell' w1 B _) (.inr (hv1.not_row (by decide) hown').symm), ?_, ?_, ?_⟩
  · refine (KeepsOthers.of_grownBy hgrow fun j o ej hj => ?_).trans (KeepsOthers.setCell _ _ _)
    rcases hrow.2 with ⟨h, _⟩ | ⟨g1, cap1, cur, h, _, hgb, _⟩
    · cases h
    · cases h; cases ej
      rw [hgb] at hj; cases hj; rfl
  · refine ((Below.refl base W).grown hgrow hn₀ fun j ej => ?_).setCell (p := ⟨B, 0, none⟩) hB _
    cases ej; exact (ownsRow_cap hrow).2.2.1
  · intro k cs t r hk ht hkB
    rw [Below.heap_setCell _ _ _ k hkB, hgrow.block k (Array.getElem?_eq_some_iff.1 hk).1 (fun e => ?_), hk]
    cases e
    rcases hrow.2 with ⟨h, _⟩ | ⟨g1, cap1, cur, h, _, hgb, _⟩
    · cases h
    · cases h
      rw [hgb] at hk; cases hk; exact ht rfl

set_option maxRecDepth 100000 in
set_option maxHeartbeats 1000000 in
theorem reduced_in (n : Nat) (hn : 20 ≤ n) (a : Option Addr) (b off cap : Nat) (ps : List Part) (w : World) (ha : 0 < ps.length → a = some ⟨b, off, none⟩) (hb : b < w.heap.size)
    (hc : ∀ i (h : i < ps.length), w.cell? ⟨b, off + i, none⟩ = some (.func (.func ps[i].gf) #[] ps[i].lb))
    (hs : ∀ p ∈ ps, SeqO w.heap.size w p.gf p.lb p.xs ∧ ∀ args w, (callFunc p.gf args).run Try.prog w = .ok (.enter p.gf args) w)
    (hl : (cat ps).length ≤ 100000000) (hps : ps.length ≤ 1000000) :
    CallsIn Fence.wide n Try.prog 104 #[.slice a ps.length cap] w fun e w' =>
      ∃ g m cap', e = .returned (.slice (some ⟨g, 0, none⟩) m cap') ∧ (redX [] (cat ps)).length = m ∧ w'.ownsRow w.heap.size 77 1 (.slice (some ⟨g, 0, none⟩) m cap') m (bytesV (redX [] (cat ps))) ∧ Below w.heap.size w w' := by
  refine callsIn_of_wp_marks Try.func104 rfl trivial ?_ rfl
  simp only [Try.ntmps104, List.size_toArray, List.length_cons, List.length_nil, Nat.reduceAdd, Nat.reduceSub, Array.replicate_succ, Array.replicate_zero, List.push_toArray, List.append_toArray, List.nil_append, List.cons_append]
  have HC := Lib.hid hc
  have HS := Lib.hid hs
  have HA := Lib.hid ha
  clear hc hs ha
  gi_wp2
  refine wpIn_loop (fun a' W => ∃ (k : Nat) (u5 u6 u11 u12 u13 u14 u15 u16 u17 u18 u19 u20 : Value) (Ds : List Nat),
      a' = { tmps := #[.slice a ps.length cap, undef, .slice none 0 0, .pointer (some ⟨w.heap.size + 1, 0, none⟩), undef, u5, u6, .slice (some ⟨w.heap.size, 0, none⟩) 0 0, .slice a ps.length cap, .int .i64 ps.length, .int .i64 k, u11, u12, u13, u14, u15, u16, u17, u18, u19, u20], defers := Ds.map mk }
      ∧ k ≤ ps.length ∧ Marked w.heap.size Ds W ∧ Hold w.heap.size (w.heap.size + 1) (redX [] (cat (ps.take k))) W ∧ Below w.heap.size w W)
    (fun a' _ => ps.length - (intOf (a'.tmps.getD 10 undef)).toNat) ?start ?round
  case start =>
    refine ⟨0, _, _, _, _, _, _, _, _, _, _, _, _, [], rfl, Nat.zero_le _, ⟨List.nodup_nil, fun D h => by cases h⟩, ?_, ((Below.refl _ w).alloc (Nat.le_refl _) _).alloc (by simp) _⟩
    have hbx := Boxed.new (w.alloc (.cells #[] 77)) 87 (.slice (some ⟨w.heap.size, 0, none⟩) 0 0)
    rw [World.size_alloc] at hbx
    exact ⟨_, hbx, (World.ownsRow_made w #[] 0 (Nat.le_refl _) (Nat.zero_le _) rfl).alloc _, _, _, rfl⟩
  case round =>
    rintro a' wr ⟨k, u5, u6, u11, u12, u13, u14, u15, u16, u17, u18, u19, u20, Ds, rfl, hk, hM, hH, hB⟩
    by_cases hlt : k < ps.length
    · obtain ⟨hseq, hent⟩ := HS.out ps[k] (List.getElem_mem hlt)
      obtain rfl := HA.out (by omega)
      have hck := HC.out k hlt
      have hck' : wr.cell? ⟨b, off + k, none⟩ = some (.func (.func ps[k].gf) #[] ps[k].lb) := (hB.cell (p := ⟨b, off + k, none⟩) hb).trans hck
      clear hck
      have HE := Lib.hid hent
      clear hent
      have hHk := hH
      have hcat := cat_take_succ ps k hlt
      have hlen0 : (cat (ps.take k)).length + ps[k].xs.length ≤ 100000000 := by
        have h1 : (cat (ps.take (k + 1))).length ≤ (cat ps).length := by
          have : cat ps = cat (ps.take (k + 1)) ++ cat (ps.drop (k + 1)) := by
            unfold cat; rw [← List.flatten_append, ← List.map_append, List.take_append_drop]
          rw [this]; simp
        rw [hcat, List.length_append] at h1; omega
      have HCat := Lib.hid hcat
      clear hcat
      have hML : ∀ D ∈ Ds, D < wr.heap.size := fun D hD => (Array.getElem?_eq_some_iff.1 (hM.2 D hD).2).1
      have HML := Lib.hid hML
      have HM := Lib.hid hM
      clear hML hM hH
      gi_wp2
      refine range_letters (by omega) (gf := ps[k].gf) (lb := ps[k].lb) rfl HE.out
        (hseq.later hB (Nat.le_refl _)) hB.size (B := w.heap.size + 1) (by omega) (by obtain ⟨v, h1, _⟩ := hHk; exact h1.lt)
        (fun pre W => Hold w.heap.size (w.heap.size + 1) (redX (redX [] (cat (ps.take k))) pre) W ∧ Marked w.heap.size Ds W ∧ Below w.heap.size w W)
        (OwnFrom.and (Own.from (Hold.own w.heap.size (w.heap.size + 1) (redX (redX [] (cat (ps.take k))))) _)
          (OwnFrom.and (fun s W W' row hs hg hr => ⟨hs.1, fun D hD => ⟨(hs.2 D hD).1, (hg.block D (Array.getElem?_eq_some_iff.1 (hs.2 D hD).2).1 (fun e => by have := (hr D e.symm).1; have := HML.out D hD; omega)).trans (hs.2 D hD).2⟩⟩)
            (ownFrom_below (Nat.le_refl _) hB.size)))
        ⟨hHk, HM.out, hB⟩
        (fun x => { tmps := #[.slice (some ⟨b, off, none⟩) ps.length cap, undef, .slice none 0 0, .pointer (some ⟨w.heap.size + 1, 0, none⟩), undef, .func (.func ps[k].gf) #[] ps[k].lb, .int .u8 (x.toNat : Int), .slice (some ⟨w.heap.size, 0, none⟩) 0 0, .slice (some ⟨b, off, none⟩) ps.length cap, .int .i64 ps.length, .int .i64 k, .bool true, .pointer (some ⟨b, off + k, none⟩), .func (.func ps[k].gf) #[] ps[k].lb, .func (.func ps[k].gf) #[] ps[k].lb, .int .u8 (x.toNat : Int), u16, u17, u18, u19, u20], defers := [] }) ?assign ?body ?done
      case assign =>
        intro l x W K hK
        gi_wp2
        exact hK
      case body =>
        rintro l pre x W ⟨⟨v, hbx, hrow, g, cap', rfl⟩, hM', hB'⟩ hpre
        have hlen := prefix_len hpre
        clear hpre
        have hcell := hbx.cell
        have hL : (redX (redX [] (cat (ps.take k))) pre).length ≤ 100000000 := by
          have h1 := redX_len pre (redX [] (cat (ps.take k)))
          have h2 := redX_len (cat (ps.take k)) []
          simp at h2
          omega
        have HL := Lib.hid hL
        have hrow0 := Lib.hid hrow
        have hbx0 := Lib.hid hbx
        have HM' := Lib.hid hM'
        clear hL hM' hbx
        gi_wp2_with fail
        refine ⟨trivial, fun _ => by omega, ?_⟩
        have hbs : w.heap.size ≤ W.heap.size := hB'.size
        refine (CallsIn.inRound l (callsIn_wide.2 (with_any _ _ _ w.heap.size _ x _ rfl (by have := HL.out; omega) hbs hrow0.out))).mono ?_
        rintro e w1 ⟨g', n', cap'', rfl, hl', hown', hgrow⟩
        obtain ⟨b1, b2, b3, b4, b5, b6⟩ := Hold.step hbx0.out hrow0.out hbs (by omega) hown' hgrow
        have hc1 := b1.cell
        have hf1 := b1.frozen
        gi_wp2
        refine ⟨b4.from _, ⟨b5, b6, b4.from _⟩, ⟨?_, ⟨HM'.out.1, fun D hD => ⟨(HM'.out.2 D hD).1, b4.same D _ (HM'.out.2 D hD).2 rfl⟩⟩, hB'.trans b5⟩⟩
        obtain rfl := hl'
        rw [redX_snoc]
        exact ⟨_, b2, b3, g', cap'', rfl⟩
      case done =>
        rintro D W hD ⟨hHo, hM', hB'⟩ hK
        have hM2 : Marked w.heap.size (D :: Ds) W := ⟨List.nodup_cons.2 ⟨fun h => by have := HML.out D h; omega, hM'.1⟩, fun E hE => by
          rcases List.mem_cons.1 hE with rfl | hE
          · exact ⟨Nat.le_trans hB.size hD, hK⟩
          · exact hM'.2 E hE⟩
        have HM2 := Lib.hid hM2
        clear hM' hM2 hK
        have hHo' : Hold w.heap.size (w.heap.size + 1) (redX [] (cat (ps.take (k + 1)))) W := by
          rw [HCat.out, redX_append]; exact hHo
        clear hHo
        gi_wp2
        refine ⟨⟨k + 1, _, _, _, _, _, _, _, _, _, _, _, _, D :: Ds, rfl, by omega, HM2.out, hHo', hB'⟩, ?_⟩
        simp [intOf]
        omega
    · obtain rfl : k = ps.length := by omega
      rw [List.take_of_length_le (Nat.le_refl _)] at hH
      have hH0 := Lib.hid hH
      have HM := Lib.hid hM
      obtain ⟨v, hbx, hrow, g, cap', rfl⟩ := hH
      have hcell := hbx.cell
      clear hrow hbx hM
      gi_wp2
      refine leaves_marks (base := w.heap.size) (fun W => W.ownsRow w.heap.size 77 1 (.slice (some ⟨g, 0, none⟩) (redX [] (cat ps)).length cap') (redX [] (cat ps)).length (bytesV (redX [] (cat ps))) ∧ Below w.heap.size w W) ?_ ?_ Ds wr ?_ HM.out
      · rintro W D o' ⟨q1, q2⟩ hD hK
        exact ⟨ownsRow_putObj q1 o' hK rfl, q2.trans (belowK_b (w := w) (Nat.le_refl _) W D _ _ hD hK rfl rfl)⟩
      · rintro W ⟨q1, q2⟩
        exact ⟨_, results_tmp rfl _ _ _, g, _, cap', rfl, rfl, q1, q2⟩
      · obtain ⟨v, h1, h2, g2, cap2, rfl⟩ := hH0.out
        have := h1.cell
        rw [hcell] at this
        cases this
        exact ⟨h2, hB⟩

end Go.Proofs.Ytaaeiogdhmiaaaa

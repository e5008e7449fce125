/- The contracts of the program's 'text', 'told', 'reduceText' and 'wordOf'. -/
import Derived.Test.YtaaeiogdhmiaaaaIc
namespace Go.Proofs.Ytaaeiogdhmiaaaa
open Go.RowKit Go.Shelf

attribute [local go_sem] Oper.semAt_some

/-- The cells from an address on are the letters l. -/
def Letters (g off : Nat) (l : List UInt8) (w : World) : Prop := g < w.heap.size ∧ ∀ j (h : j < l.length), w.cell? ⟨g, off + j, none⟩ = some (.int .u8 (l[j].toNat : Int))

theorem letters_of_owns {base g cap n : Nat} {e : TypeId} {l : List UInt8} {w : World} (hown : w.ownsRow base e 1 (.slice (some ⟨g, 0, none⟩) n cap) n (bytesV l)) : Letters g 0 l w :=
  ⟨(ownsRow_cap hown).2.2.2, fun j h => by
    have := hown.cells rfl j (.int .u8 (l[j].toNat : Int)) (by simp [bytesV, h])
    rw [show (⟨g, 0 + j, none⟩ : Addr) = (⟨g, 0, none⟩ : Addr).add j by simp [Addr.add]]
    exact this⟩
theorem Letters.below {g off : Nat} {l : List UInt8} {w w' : World} (h : Letters g off l w) (hb : Below w.heap.size w w') : Letters g off l w' :=
  ⟨Nat.lt_of_lt_of_le h.1 hb.size, fun j hj => (hb.cell (p := ⟨g, off + j, none⟩) h.1).trans (h.2 j hj)⟩

set_option maxRecDepth 100000 in
set_option maxHeartbeats 1000000 in
theorem text_letters (g off cap n : Nat) (l : List UInt8) (w : World) (hl : l.length = n) (hn : n ≤ 60) (hlet : Letters g off l w) :
    Calls Try.prog 115 #[.slice (some ⟨g, off, none⟩) n cap] w fun e w' => e = .returned (.string (bstr l)) ∧ Below w.heap.size w w' := by
  obtain ⟨hgs, hcells⟩ := hlet
  have HCe := Lib.hid hcells
  clear hcells
  obtain ⟨i0, hi, hz0, hz1, hz2⟩ := info_parts infoU8
  go_enter Try.func115, Try.ntmps115
  go_wp2_with (at_make; refine wpList_make_full _ rfl _ _ 62 rfl w.heap.size 5 i0 (.int .u8 0) 1 Try.underlying62 hi hz0 hz1 .i64 .i64 _ _ n rfl rfl rfl rfl (by rw [hz2]; omega) (by unfold maxLen; omega) (Nat.le_refl _) ?_; intro w1 hrow hgrow)
  rw [show (madeCells (Value.cells (.int .u8 0)) (n * 1)).toList = bytesV (l.take 0 ++ List.replicate (n - 0) 0) by
    rw [show Value.cells (.int .u8 0) = #[.int .u8 0] from rfl, toList_madeCells_one]; simp [bytesV]] at hrow
  go_loopw [11] (fun i wr => ∃ k : Nat, k ≤ n ∧ i = .int .i64 k ∧ wr.ownsRow w.heap.size 5 1 (.slice (some ⟨w.heap.size, 0, none⟩) n n) n (bytesV (l.take k ++ List.replicate (n - k) 0)) ∧ Below w.heap.size w wr)
    (fun i _ => n - (intOf i).toNat)
  case atStart => exact ⟨0, Nat.zero_le _, rfl, hrow, (Below.refl _ _).grown hgrow (Nat.le_refl _) (fun k e => by cases e)⟩
  case round =>
    obtain ⟨k, hk, rfl, hr, hB⟩ := hrel
    by_cases hlt : k < n
    · have hsrc : wr.cell? ⟨g, off + k, none⟩ = some (.int .u8 ((l[k]'(by omega)).toNat : Int)) := (hB.cell (p := ⟨g, off + k, none⟩) hgs).trans (HCe.out k (by omega))
      have hfil := fill_set l n k hl hlt
      have hlen : (l.take k ++ List.replicate (n - k) (0 : UInt8)).length = n := by simp; omega
      have hdst : wr.cell? ⟨w.heap.size, k, none⟩ = some (.int .u8 0) := by
        rw [hr.cellAt k (by omega)]
        simp only [bytesV, List.getElem?_map]
        rw [List.getElem?_append_right (by simp; omega), List.getElem?_replicate]
        simp
        omega
      have hfr := hr.frozenAt k
      have HR := Lib.hid hr
      have HF := Lib.hid hfil
      clear hr hfil hlen
      go_wp2
      go_roundw
      case rel =>
        have hst := HR.out.stored k (.int .u8 ((l[k]'(by omega)).toNat : Int))
        refine ⟨k + 1, by omega, by go_num, ?_, hB.setCell (p := ⟨w.heap.size, k, none⟩) (Nat.le_refl _) _⟩
        rw [← HF.out, ← bytesV_set]
        exact hst.1
      case measure => simp [intOf]; omega
    · obtain rfl : k = n := by omega
      have hconv : (convert 62 9 (.slice (some ⟨w.heap.size, 0, none⟩) k k)).run Try.prog wr = .ok (.string (bstr l)) wr := by
        have := run_convert_bytes_back (P := Try.prog) wr 62 9 5 ⟨w.heap.size, 0, none⟩ k l Try.underlying62 Try.underlying5 Try.underlying9 (fun j hj => hr.cells rfl j _ (by
          have : l.take k = l := List.take_of_length_le (by omega)
          rw [this]; simp [bytesV, hj]))
        rw [hl] at this
        exact this
      clear hr
      go_wp2
      go_ret
      exact ⟨rfl, hB⟩

set_option maxRecDepth 100000 in
set_option maxHeartbeats 1000000 in
theorem told_letters (g off cap n : Nat) (l : List UInt8) (w : World) (hl : l.length = n) (hn : n ≤ 60) (hlet : Letters g off l w) :
    Calls Try.prog 81 #[.slice (some ⟨g, off, none⟩) n cap] w fun e w' => e = .returned (.tuple #[.string (bstr l), .bool true]) ∧ Below w.heap.size w w' := by
  have HT := Lib.hid (text_letters g off cap n l w hl hn hlet)
  clear hl hlet
  go_enter Try.func81, Try.ntmps81
  go_wp2_with fail
  refine HT.out.mono ?_
  rintro e w1 ⟨rfl, hb⟩
  go_wp2
  go_ret2
  exact ⟨rfl, hb⟩

theorem told_yes (base g cap n : Nat) (l : List UInt8) (w : World) (hl : l.length = n) (hn : n ≤ 60)
    (hown : w.ownsRow base 77 1 (.slice (some ⟨g, 0, none⟩) n cap) n (bytesV l)) :
    Calls Try.prog 81 #[.slice (some ⟨g, 0, none⟩) n cap] w fun e w' => e = .returned (.tuple #[.string (bstr l), .bool true]) ∧ Below w.heap.size w w' :=
  told_letters g 0 cap n l w hl hn (letters_of_owns hown)

set_option maxRecDepth 100000 in
set_option maxHeartbeats 1000000 in
theorem told_no (a : Option Addr) (cap n : Nat) (w : World) (hn : 60 < n) (hm : n ≤ maxLen) :
    Calls Try.prog 81 #[.slice a n cap] w fun e w' => e = .returned (.tuple #[.string ByteArray.empty, .bool false]) ∧ w = w' := by
  unfold maxLen at hm
  go_enter Try.func81, Try.ntmps81
  go_wp2
  go_ret2
  exact ⟨rfl, rfl⟩

set_option maxRecDepth 100000 in
set_option maxHeartbeats 1000000 in
theorem reduceText_in (n : Nat) (hn : 30 ≤ n) (s : ByteArray) (w : World) (hs : s.size ≤ 1048576) :
    CallsIn Fence.wide n Try.prog 113 #[.string s] w fun e w' =>
      ((letL s.data.toList = false ∧ e = .returned (.tuple #[.slice none 0 0, .bool false])) ∨
       (letL s.data.toList = true ∧ ∃ g m cap, e = .returned (.tuple #[.slice (some ⟨g, 0, none⟩) m cap, .bool true]) ∧ (redL [] s.data.toList).length = m ∧
          w'.ownsRow w.heap.size 77 1 (.slice (some ⟨g, 0, none⟩) m cap) m (bytesV (redL [] s.data.toList)))) ∧ Below w.heap.size w w' := by
  refine callsIn_of_wp_marks Try.func113 rfl trivial ?_ rfl
  simp only [Try.ntmps113, List.size_toArray, List.length_cons, List.length_nil, Nat.reduceAdd, Nat.reduceSub, Array.replicate_succ, Array.replicate_zero, List.push_toArray, List.append_toArray, List.nil_append, List.cons_append]
  gi_wp2_with fail
  refine ⟨trivial, fun _ => by omega, ?_⟩
  refine (callsIn_wide.2 (signsOf_any s _)).mono ?_
  rintro e w1 ⟨rfl, rfl⟩
  have b0 := ((Boxed.new w 87 (.slice none 0 0)).alloc (.cells #[.bool false] 4)).alloc (.cells #[.string s] 9)
  have b1 := (Boxed.new (w.alloc (.cells #[.slice none 0 0] 87)) 4 (.bool false)).alloc (.cells #[.string s] 9)
  rw [World.size_alloc] at b1
  have b2 := Boxed.new ((w.alloc (.cells #[.slice none 0 0] 87)).alloc (.cells #[.bool false] 4)) 9 (.string s)
  rw [World.size_alloc, World.size_alloc] at b2
  have hB0 : Below w.heap.size w (((w.alloc (.cells #[.slice none 0 0] 87)).alloc (.cells #[.bool false] 4)).alloc (.cells #[.string s] 9)) := (((Below.refl _ w).alloc (Nat.le_refl _) _).alloc (by simp) _).alloc (by simp; omega) _
  have hsz : (((w.alloc (.cells #[.slice none 0 0] 87)).alloc (.cells #[.bool false] 4)).alloc (.cells #[.string s] 9)).heap.size = w.heap.size + 3 := by simp
  obtain ⟨W0, hW0⟩ : ∃ W0, (((w.alloc (.cells #[.slice none 0 0] 87)).alloc (.cells #[.bool false] 4)).alloc (.cells #[.string s] 9)) = W0 := ⟨_, rfl⟩
  simp only [World.size_alloc]
  rw [hW0] at b0 b1 b2 hB0 hsz ⊢
  clear hW0
  gi_wp2
  refine wpIn_rangeFunc_ownG rfl (by omega) (gf := 106) (lb := #[.pointer (some ⟨w.heap.size + 1 + 1, 0, none⟩)]) rfl trivial (enters_of Try.func106 (by kernel_rfl) rfl)
    (signs_seq s hs W0 (w.heap.size + 1 + 1) W0.heap.size (by omega) (Nat.le_refl _) b2.cell (n - 1) (by omega)) belowK_t (belowK_b (Nat.le_refl _)) (Below.refl _ _) (fun _ => rfl)
    (fun pre W => (Boxed W w.heap.size 87 (.slice none 0 0) ∧ Boxed W (w.heap.size + 1) 4 (.bool false)) ∧ letL pre = true ∧ Below W0.heap.size W0 W)
    (fun c pre W => ((c = .ret ∧ letL pre = false) ∧ Boxed W w.heap.size 87 (.slice none 0 0) ∧ Boxed W (w.heap.size + 1) 4 (.bool false)) ∧ Below w.heap.size w W)
    (OwnFrom.and (Own.from (fun s A B row hs hg hr => ⟨boxed_own w.heap.size _ (fun _ : Unit => .slice none 0 0) () A B row hs.1 hg hr, boxed_own (w.heap.size + 1) _ (fun _ : Unit => .bool false) () A B row hs.2 hg hr⟩) _) (OwnFrom.and (ownFrom_pure _ _) (ownFrom_below (Nat.le_refl _) (Nat.le_refl _))))
    (fun c => OwnFrom.and (Own.from (fun s A B row hs hg hr => ⟨hs.1, boxed_own w.heap.size _ (fun _ : Unit => .slice none 0 0) () A B row hs.2.1 hg hr, boxed_own (w.heap.size + 1) _ (fun _ : Unit => .bool false) () A B row hs.2.2 hg hr⟩) _) (ownFrom_below (Nat.le_refl _) (by omega)))
    ⟨⟨b0, b1⟩, rfl, Below.refl _ _⟩
    (fun x => { tmps := #[.string s, undef, .pointer (some ⟨w.heap.size, 0, none⟩), .pointer (some ⟨w.heap.size + 1, 0, none⟩), .int .u8 (x.toNat : Int), .string s, .func (.func 106) #[] #[.pointer (some ⟨w.heap.size + 1 + 1, 0, none⟩)], .int .u8 (x.toNat : Int), undef, undef, undef, undef, undef, undef, undef], defers := [] }) ?assign ?body ?done ?stop
  case assign =>
    intro l x W K hK
    gi_wp2
    exact hK
  case body =>
    rintro l pre x W ⟨⟨c0, c1⟩, hl, hB⟩ hlen
    have d0 := c0.cell
    have d1 := c1.cell
    have f0 := c0.frozen
    have f1 := c1.frozen
    have C0 := Lib.hid c0
    have C1 := Lib.hid c1
    have HL := Lib.hid hl
    clear c0 c1 hl
    cases hx : letB x with
    | true =>
      have HX := Lib.hid hx
      clear hx
      gi_wp2_with fail
      refine ⟨trivial, fun _ => by omega, ?_⟩
      refine (CallsIn.inRound l (callsIn_wide.2 (known_is x true W HX.out))).mono ?_
      rintro e w1 ⟨rfl, rfl⟩
      gi_wp2
      exact ⟨KeepsFrom.refl _ _, Below.refl _ _, ⟨C0.out, C1.out⟩, by rw [letL_append, HL.out]; simp [letL, HX.out], hB⟩
    | false =>
      have HX := Lib.hid hx
      clear hx
      gi_wp2_with fail
      refine ⟨trivial, fun _ => by omega, ?_⟩
      refine (CallsIn.inRound l (callsIn_wide.2 (known_is x false W HX.out))).mono ?_
      rintro e w1 ⟨rfl, rfl⟩
      gi_wp2
      have hB1 : Below w.heap.size w w1 := hB0.trans (hB.mono (by omega))
      exact ⟨((KeepsOthers.setCell _ _ _).trans (KeepsOthers.setCell _ _ _)).from _, ⟨⟨rfl, by rw [letL_append]; simp [letL, HX.out]⟩, (C0.out.set _).other (by omega) _, (C1.out.other (by omega) _).set _⟩, (hB1.setCell (p := ⟨w.heap.size, 0, none⟩) (Nat.le_refl _) _).setCell (p := ⟨w.heap.size + 1, 0, none⟩) (by show w.heap.size ≤ w.heap.size + 1; omega) _⟩
  case done =>
    rintro D ys W hD rfl ⟨⟨c0, c1⟩, hl, hB⟩ hK
    gi_wp2_with fail
    refine ⟨trivial, fun _ => by omega, ?_⟩
    refine (callsIn_wide.2 (signsOf_any s _)).mono ?_
    rintro e w1 ⟨rfl, rfl⟩
    have hBW : Below w.heap.size w W := hB0.trans (hB.mono (by omega))
    have hbs := Boxed.new W 9 (.string s)
    have hWs : W0.heap.size ≤ W.heap.size := hB.size
    have hDlt : D < W.heap.size := (Array.getElem?_eq_some_iff.1 hK).1
    have b0W := Lib.hid c0
    have b1W := Lib.hid c1
    have HK := Lib.hid hK
    have HL := Lib.hid hl
    clear c0 c1 hK hl
    gi_wp2_with fail
    refine ⟨trivial, fun _ => by omega, ?_⟩
    have hrd := reduced_in (n - 1) (by omega) (some ⟨W.heap.size + 1, 0, none⟩) (W.heap.size + 1) 0 1 [⟨106, #[.pointer (some ⟨W.heap.size, 0, none⟩)], s.data.toList⟩]
      ((W.alloc (.cells #[.string s] 9)).alloc (.cells #[.func (.func 106) #[] #[.pointer (some ⟨W.heap.size, 0, none⟩)]] 75)) (fun _ => rfl) (by simp)
      (fun i h => by
        obtain rfl : i = 0 := by simpa using h
        exact (World.cell?_alloc_at _ _ _ _ (by simp)).trans rfl)
      (fun p hp => by
        obtain rfl := List.mem_singleton.1 hp
        exact ⟨signs_seqO s hs _ W.heap.size _ (by simp; omega) (Nat.le_refl _) (hbs.alloc _).cell, enters_of Try.func106 (by kernel_rfl) rfl⟩)
      (by simp [cat]; omega) (by simp)
    refine hrd.mono ?_
    clear hrd
    rintro e w4 ⟨g, m, cap', rfl, hm, hown, hb4⟩
    simp only [cat, List.map_cons, List.map_nil, List.flatten_cons, List.flatten_nil, List.append_nil] at hm hown
    rw [redX_eq _ _ HL.out] at hm hown
    have hWb : Below W.heap.size W w4 := (((Below.refl _ W).alloc (Nat.le_refl _) _).alloc (by simp) _).trans (hb4.mono (by simp; omega))
    have c0 : Boxed w4 w.heap.size 87 (.slice none 0 0) := (hWb.block _ (by omega)).trans b0W.out
    have c1 : Boxed w4 (w.heap.size + 1) 4 (.bool false) := (hWb.block _ (by omega)).trans b1W.out
    have hK4 : w4.heap[D]? = some (.deferred (some [])) := (hWb.block _ hDlt).trans HK.out
    have hgs := (ownsRow_cap hown).2.2.1
    simp only [World.size_alloc] at hgs
    have d0 := c0.cell
    have d1 := c1.cell
    have f0 := c0.frozen
    have f1 := c1.frozen
    have C0 := Lib.hid c0
    have C1 := Lib.hid c1
    have HK4 := Lib.hid hK4
    have Hm := Lib.hid hm
    have HO := Lib.hid hown
    clear c0 c1 hK4 hm hown hb4 hbs
    gi_wp2
    obtain ⟨W5, hW5⟩ : ∃ W5, (w4.setCell ⟨w.heap.size, 0, none⟩ (.slice (some ⟨g, 0, none⟩) m cap')).setCell ⟨w.heap.size + 1, 0, none⟩ (.bool true) = W5 := ⟨_, rfl⟩
    have e0 : Boxed W5 w.heap.size 87 (.slice (some ⟨g, 0, none⟩) m cap') := by rw [← hW5]; exact (C0.out.set _).other (by omega) _
    have e1 : Boxed W5 (w.heap.size + 1) 4 (.bool true) := by rw [← hW5]; exact (C1.out.other (by omega) _).set _
    have hK5 : W5.heap[D]? = some (.deferred (some [])) := by rw [← hW5]; exact ((KeepsOthers.setCell _ _ _).trans (KeepsOthers.setCell _ _ _)).same D _ HK4.out rfl
    have hB5 : Below w.heap.size w W5 := by rw [← hW5]; exact ((hBW.trans (hWb.mono (by omega))).setCell (p := ⟨w.heap.size, 0, none⟩) (Nat.le_refl _) _).setCell (p := ⟨w.heap.size + 1, 0, none⟩) (by show w.heap.size ≤ w.heap.size + 1; omega) _
    have hO5 : W5.ownsRow w.heap.size 77 1 (.slice (some ⟨g, 0, none⟩) m cap') m (bytesV (redL [] s.data.toList)) := by
      rw [← hW5]
      refine ownsRow_base (((HO.out.kept (grownBy_setCell' _ _ _) (.inr (fun e => by simp [Value.ownBlock] at e; omega))).kept (grownBy_setCell' _ _ _) (.inr (fun e => by simp [Value.ownBlock] at e; omega)))) (by simp; omega)
    rw [hW5]
    clear hW5
    refine ⟨by simp, .inl ⟨_, _, rfl, run_takeDeferred hK5, ?_⟩⟩
    have g0 := (e0.kept (grownBy_putObj' W5 D (.deferred none)) (fun e => by cases e; omega)).cell
    have g1 := (e1.kept (grownBy_putObj' W5 D (.deferred none)) (fun e => by cases e; omega)).cell
    refine ⟨.tuple #[.slice (some ⟨g, 0, none⟩) m cap', .bool true], by simp [results, Try.f113, go_sem, g0, g1], .inr ⟨HL.out, g, m, cap', rfl, Hm.out, ownsRow_putObj hO5 _ hK5 rfl⟩, hB5.trans (belowK_b (w := w) (Nat.le_refl _) W5 D _ _ (by omega) hK5 rfl rfl)⟩
  case stop =>
    rintro D c pre W hD hpre ⟨⟨⟨rfl, hl⟩, c0, c1⟩, hB⟩ hK
    gi_wp2
    refine ⟨by simp, .inl ⟨_, _, rfl, run_takeDeferred hK, ?_⟩⟩
    have e0 := (c0.kept (grownBy_putObj' W D (.deferred none)) (fun e => by cases e; omega)).cell
    have e1 := (c1.kept (grownBy_putObj' W D (.deferred none)) (fun e => by cases e; omega)).cell
    refine ⟨.tuple #[.slice none 0 0, .bool false], by simp [results, Try.f113, go_sem, e0, e1], .inl ⟨letL_prefix hpre hl, rfl⟩, hB.trans (belowK_b (w := w) (Nat.le_refl _) W D _ _ (by omega) hK rfl rfl)⟩

end Go.Proofs.Ytaaeiogdhmiaaaa

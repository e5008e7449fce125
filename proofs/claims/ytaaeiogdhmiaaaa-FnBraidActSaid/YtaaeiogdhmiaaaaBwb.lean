/- What the laws' proofs stand on, part 2 of several. -/
import Derived.IntWalk
import Derived.Deep.RegionHeld3
import Derived.Test.YtaaeiogdhmiaaaaBwa

/- The contracts of the program's 'text', 'told', 'reduceText' and 'wordOf'. -/

namespace Go.Proofs.Ytaaeiogdhmiaaaa
open Go.RowKit Go.Shelf

attribute [local go_sem] Oper.semAt_some

/-- The cells from an address on are the letters l. -/
def Letters (g off : Nat) (l : List UInt8) (w : World) : Prop := g < w.heap.size ∧ ∀ j (h : j < l.length), w.cell? ⟨g, off + j, none⟩ = some (.int .u8 (l[j].toNat : Int))

theorem letters_of_owns {base g cap n : Nat} {e : TypeId} {l : List UInt8} {w : World} (hown : w.ownsRow base e 1 (.slice (some ⟨g, 0, none⟩) n cap) n (bytesV l)) : Letters g 0 l w :=
  ⟨(ownsRow_cap hown).2.2.2, fun j h => by
    have := hown.cells rfl j (.int .u8 (l[j].toNat : Int)) (by simp [bytesV, h])
    rw [show (⟨g, 0 + j, none⟩ : Addr) = (⟨g, 0, none⟩ : Addr).add j by simp [Addr.add]]
    exact this⟩
theorem Letters.below {g off : Nat} {l : List UInt8} {w w' : World} (h : Letters g off l w) (hb : Below w.heap.size w w') : Letters g off l w' :=
  ⟨Nat.lt_of_lt_of_le h.1 hb.size, fun j hj => (hb.cell (p := ⟨g, off + j, none⟩) h.1).trans (h.2 j hj)⟩

set_option maxRecDepth 100000 in
set_option maxHeartbeats 1000000 in
theorem text_letters (g off cap n : Nat) (l : List UInt8) (w : World) (hl : l.length = n) (hn : n ≤ 60) (hlet : Letters g off l w) :
    Calls Try.prog 115 #[.slice (some ⟨g, off, none⟩) n cap] w fun e w' => e = .returned (.string (bstr l)) ∧ Below w.heap.size w w' := by
  obtain ⟨hgs, hcells⟩ := hlet
  have HCe := Lib.hid hcells
  clear hcells
  obtain ⟨i0, hi, hz0, hz1, hz2⟩ := info_parts infoU8
  go_enter Try.func115, Try.ntmps115
  go_wp2_with (at_make; refine wpList_make_full _ rfl _ _ 62 rfl w.heap.size 5 i0 (.int .u8 0) 1 Try.underlying62 hi hz0 hz1 .i64 .i64 _ _ n rfl rfl rfl rfl (by rw [hz2]; omega) (by unfold maxLen; omega) (Nat.le_refl _) ?_; intro w1 hrow hgrow)
  rw [show (madeCells (Value.cells (.int .u8 0)) (n * 1)).toList = bytesV (l.take 0 ++ List.replicate (n - 0) 0) by
    rw [show Value.cells (.int .u8 0) = #[.int .u8 0] from rfl, toList_madeCells_one]; simp [bytesV]] at hrow
  go_loopw [11] (fun i wr => ∃ k : Nat, k ≤ n ∧ i = .int .i64 k ∧ wr.ownsRow w.heap.size 5 1 (.slice (some ⟨w.heap.size, 0, none⟩) n n) n (bytesV (l.take k ++ List.replicate (n - k) 0)) ∧ Below w.heap.size w wr)
    (fun i _ => n - (intOf i).toNat)
  case atStart => exact ⟨0, Nat.zero_le _, rfl, hrow, (Below.refl _ _).grown hgrow (Nat.le_refl _) (fun k e => by cases e)⟩
  case round =>
    obtain ⟨k, hk, rfl, hr, hB⟩ := hrel
    by_cases hlt : k < n
    · have hsrc : wr.cell? ⟨g, off + k, none⟩ = some (.int .u8 ((l[k]'(by omega)).toNat : Int)) := (hB.cell (p := ⟨g, off + k, none⟩) hgs).trans (HCe.out k (by omega))
      have hfil := fill_set l n k hl hlt
      have hlen : (l.take k ++ List.replicate (n - k) (0 : UInt8)).length = n := by simp; omega
      have hdst : wr.cell? ⟨w.heap.size, k, none⟩ = some (.int .u8 0) := by
        rw [hr.cellAt k (by omega)]
        simp only [bytesV, List.getElem?_map]
        rw [List.getElem?_append_right (by simp; omega), List.getElem?_replicate]
        simp
        omega
      have hfr := hr.frozenAt k
      have HR := Lib.hid hr
      have HF := Lib.hid hfil
      clear hr hfil hlen
      go_wp2
      go_roundw
      case rel =>
        have hst := HR.out.stored k (.int .u8 ((l[k]'(by omega)).toNat : Int))
        refine ⟨k + 1, by omega, by go_num, ?_, hB.setCell (p := ⟨w.heap.size, k, none⟩) (Nat.le_refl _) _⟩
        rw [← HF.out, ← bytesV_set]
        exact hst.1
      case measure => simp [intOf]; omega
    · obtain rfl : k = n := by omega
      have hconv : (convert 62 9 (.slice (some ⟨w.heap.size, 0, none⟩) k k)).run Try.prog wr = .ok (.string (bstr l)) wr := by
        have := run_convert_bytes_back (P := Try.prog) wr 62 9 5 ⟨w.heap.size, 0, none⟩ k l Try.underlying62 Try.underlying5 Try.underlying9 (fun j hj => hr.cells rfl j _ (by
          have : l.take k = l := List.take_of_length_le (by omega)
          rw [this]; simp [bytesV, hj]))
        rw [hl] at this
        exact this
      clear hr
      go_wp2
      go_ret
      exact ⟨rfl, hB⟩

set_option maxRecDepth 100000 in
set_option maxHeartbeats 1000000 in
theorem told_letters (g off cap n : Nat) (l : List UInt8) (w : World) (hl : l.length = n) (hn : n ≤ 60) (hlet : Letters g off l w) :
    Calls Try.prog 81 #[.slice (some ⟨g, off, none⟩) n cap] w fun e w' => e = .returned (.tuple #[.string (bstr l), .bool true]) ∧ Below w.heap.size w w' := by
  have HT := Lib.hid (text_letters g off cap n l w hl hn hlet)
  clear hl hlet
  go_enter Try.func81, Try.ntmps81
  go_wp2_with fail
  refine HT.out.mono ?_
  rintro e w1 ⟨rfl, hb⟩
  go_wp2
  go_ret2
  exact ⟨rfl, hb⟩

theorem told_yes (base g cap n : Nat) (l : List UInt8) (w : World) (hl : l.length = n) (hn : n ≤ 60)
    (hown : w.ownsRow base 77 1 (.slice (some ⟨g, 0, none⟩) n cap) n (bytesV l)) :
    Calls Try.prog 81 #[.slice (some ⟨g, 0, none⟩) n cap] w fun e w' => e = .returned (.tuple #[.string (bstr l), .bool true]) ∧ Below w.heap.size w w' :=
  told_letters g 0 cap n l w hl hn (letters_of_owns hown)

set_option maxRecDepth 100000 in
set_option maxHeartbeats 1000000 in
theorem told_no (a : Option Addr) (cap n : Nat) (w : World) (hn : 60 < n) (hm : n ≤ maxLen) :
    Calls Try.prog 81 #[.slice a n cap] w fun e w' => e = .returned (.tuple #[.string ByteArray.empty, .bool false]) ∧ w = w' := by
  unfold maxLen at hm
  go_enter Try.func81, Try.ntmps81
  go_wp2
  go_ret2
  exact ⟨rfl, rfl⟩

set_option maxRecDepth 100000 in
set_option maxHeartbeats 1000000 in
theorem reduceText_in (n : Nat) (hn : 30 ≤ n) (s : ByteArray) (w : World) (hs : s.size ≤ 1048576) :
    CallsIn Fence.wide n Try.prog 113 #[.string s] w fun e w' =>
      ((letL s.data.toList = false ∧ e = .returned (.tuple #[.slice none 0 0, .bool false])) ∨
       (letL s.data.toList = true ∧ ∃ g m cap, e = .returned (.tuple #[.slice (some ⟨g, 0, none⟩) m cap, .bool true]) ∧ (redL [] s.data.toList).length = m ∧
          w'.ownsRow w.heap.size 77 1 (.slice (some ⟨g, 0, none⟩) m cap) m (bytesV (redL [] s.data.toList)))) ∧ Below w.heap.size w w' := by
  refine callsIn_of_wp_marks Try.func113 rfl trivial ?_ rfl
  simp only [Try.ntmps113, List.size_toArray, List.length_cons, List.length_nil, Nat.reduceAdd, Nat.reduceSub, Array.replicate_succ, Array.replicate_zero, List.push_toArray, List.append_toArray, List.nil_append, List.cons_append]
  gi_wp2_with fail
  refine ⟨trivial, fun _ => by omega, ?_⟩
  refine (callsIn_wide.2 (signsOf_any s _)).mono ?_
  rintro e w1 ⟨rfl, rfl⟩
  have b0 := ((Boxed.new w 87 (.slice none 0 0)).alloc (.cells #[.bool false] 4)).alloc (.cells #[.string s] 9)
  have b1 := (Boxed.new (w.alloc (.cells #[.slice none 0 0] 87)) 4 (.bool false)).alloc (.cells #[.string s] 9)
  rw [World.size_alloc] at b1
  have b2 := Boxed.new ((w.alloc (.cells #[.slice none 0 0] 87)).alloc (.cells #[.bool false] 4)) 9 (.string s)
  rw [World.size_alloc, World.size_alloc] at b2
  have hB0 : Below w.heap.size w (((w.alloc (.cells #[.slice none 0 0] 87)).alloc (.cells #[.bool false] 4)).alloc (.cells #[.string s] 9)) := (((Below.refl _ w).alloc (Nat.le_refl _) _).alloc (by simp) _).alloc (by simp; omega) _
  have hsz : (((w.alloc (.cells #[.slice none 0 0] 87)).alloc (.cells #[.bool false] 4)).alloc (.cells #[.string s] 9)).heap.size = w.heap.size + 3 := by simp
  obtain ⟨W0, hW0⟩ : ∃ W0, (((w.alloc (.cells #[.slice none 0 0] 87)).alloc (.cells #[.bool false] 4)).alloc (.cells #[.string s] 9)) = W0 := ⟨_, rfl⟩
  simp only [World.size_alloc]
  rw [hW0] at b0 b1 b2 hB0 hsz ⊢
  clear hW0
  gi_wp2
  refine wpIn_rangeFunc_ownG rfl (by omega) (gf := 106) (lb := #[.pointer (some ⟨w.heap.size + 1 + 1, 0, none⟩)]) rfl trivial (enters_of Try.func106 (by kernel_rfl) rfl)
    (signs_seq s hs W0 (w.heap.size + 1 + 1) W0.heap.size (by omega) (Nat.le_refl _) b2.cell (n - 1) (by omega)) belowK_t (belowK_b (Nat.le_refl _)) (Below.refl _ _) (fun _ => rfl)
    (fun pre W => (Boxed W w.heap.size 87 (.slice none 0 0) ∧ Boxed W (w.heap.size + 1) 4 (.bool false)) ∧ letL pre = true ∧ Below W0.heap.size W0 W)
    (fun c pre W => ((c = .ret ∧ letL pre = false) ∧ Boxed W w.heap.size 87 (.slice none 0 0) ∧ Boxed W (w.heap.size + 1) 4 (.bool false)) ∧ Below w.heap.size w W)
    (OwnFrom.and (Own.from (fun s A B row hs hg hr => ⟨boxed_own w.heap.size _ (fun _ : Unit => .slice none 0 0) () A B row hs.1 hg hr, boxed_own (w.heap.size + 1) _ (fun _ : Unit => .bool false) () A B row hs.2 hg hr⟩) _) (OwnFrom.and (ownFrom_pure _ _) (ownFrom_below (Nat.le_refl _) (Nat.le_refl _))))
    (fun c => OwnFrom.and (Own.from (fun s A B row hs hg hr => ⟨hs.1, boxed_own w.heap.size _ (fun _ : Unit => .slice none 0 0) () A B row hs.2.1 hg hr, boxed_own (w.heap.size + 1) _ (fun _ : Unit => .bool false) () A B row hs.2.2 hg hr⟩) _) (ownFrom_below (Nat.le_refl _) (by omega)))
    ⟨⟨b0, b1⟩, rfl, Below.refl _ _⟩
    (fun x => { tmps := #[.string s, undef, .pointer (some ⟨w.heap.size, 0, none⟩), .pointer (some ⟨w.heap.size + 1, 0, none⟩), .int .u8 (x.toNat : Int), .string s, .func (.func 106) #[] #[.pointer (some ⟨w.heap.size + 1 + 1, 0, none⟩)], .int .u8 (x.toNat : Int), undef, undef, undef, undef, undef, undef, undef], defers := [] }) ?assign ?body ?done ?stop
  case assign =>
    intro l x W K hK
    gi_wp2
    exact hK
  case body =>
    rintro l pre x W ⟨⟨c0, c1⟩, hl, hB⟩ hlen
    have d0 := c0.cell
    have d1 := c1.cell
    have f0 := c0.frozen
    have f1 := c1.frozen
    have C0 := Lib.hid c0
    have C1 := Lib.hid c1
    have HL := Lib.hid hl
    clear c0 c1 hl
    cases hx : letB x with
    | true =>
      have HX := Lib.hid hx
      clear hx
      gi_wp2_with fail
      refine ⟨trivial, fun _ => by omega, ?_⟩
      refine (CallsIn.inRound l (callsIn_wide.2 (known_is x true W HX.out))).mono ?_
      rintro e w1 ⟨rfl, rfl⟩
      gi_wp2
      exact ⟨KeepsFrom.refl _ _, Below.refl _ _, ⟨C0.out, C1.out⟩, by rw [letL_append, HL.out]; simp [letL, HX.out], hB⟩
    | false =>
      have HX := Lib.hid hx
      clear hx
      gi_wp2_with fail
      refine ⟨trivial, fun _ => by omega, ?_⟩
      refine (CallsIn.inRound l (callsIn_wide.2 (known_is x false W HX.out))).mono ?_
      rintro e w1 ⟨rfl, rfl⟩
      gi_wp2
      have hB1 : Below w.heap.size w w1 := hB0.trans (hB.mono (by omega))
      exact ⟨((KeepsOthers.setCell _ _ _).trans (KeepsOthers.setCell _ _ _)).from _, ⟨⟨rfl, by rw [letL_append]; simp [letL, HX.out]⟩, (C0.out.set _).other (by omega) _, (C1.out.other (by omega) _).set _⟩, (hB1.setCell (p := ⟨w.heap.size, 0, none⟩) (Nat.le_refl _) _).setCell (p := ⟨w.heap.size + 1, 0, none⟩) (by show w.heap.size ≤ w.heap.size + 1; omega) _⟩
  case done =>
    rintro D ys W hD rfl ⟨⟨c0, c1⟩, hl, hB⟩ hK
    gi_wp2_with fail
    refine ⟨trivial, fun _ => by omega, ?_⟩
    refine (callsIn_wide.2 (signsOf_any s _)).mono ?_
    rintro e w1 ⟨rfl, rfl⟩
    have hBW : Below w.heap.size w W := hB0.trans (hB.mono (by omega))
    have hbs := Boxed.new W 9 (.string s)
    have hWs : W0.heap.size ≤ W.heap.size := hB.size
    have hDlt : D < W.heap.size := (Array.getElem?_eq_some_iff.1 hK).1
    have b0W := Lib.hid c0
    have b1W := Lib.hid c1
    have HK := Lib.hid hK
    have HL := Lib.hid hl
    clear c0 c1 hK hl
    gi_wp2_with fail
    refine ⟨trivial, fun _ => by omega, ?_⟩
    have hrd := reduced_in (n - 1) (by omega) (some ⟨W.heap.size + 1, 0, none⟩) (W.heap.size + 1) 0 1 [⟨106, #[.pointer (some ⟨W.heap.size, 0, none⟩)], s.data.toList⟩]
      ((W.alloc (.cells #[.string s] 9)).alloc (.cells #[.func (.func 106) #[] #[.pointer (some ⟨W.heap.size, 0, none⟩)]] 75)) (fun _ => rfl) (by simp)
      (fun i h => by
        obtain rfl : i = 0 := by simpa using h
        exact (World.cell?_alloc_at _ _ _ _ (by simp)).trans rfl)
      (fun p hp => by
        obtain rfl := List.mem_singleton.1 hp
        exact ⟨signs_seqO s hs _ W.heap.size _ (by simp; omega) (Nat.le_refl _) (hbs.alloc _).cell, enters_of Try.func106 (by kernel_rfl) rfl⟩)
      (by simp [cat]; omega) (by simp)
    refine hrd.mono ?_
    clear hrd
    rintro e w4 ⟨g, m, cap', rfl, hm, hown, hb4⟩
    simp only [cat, List.map_cons, List.map_nil, List.flatten_cons, List.flatten_nil, List.append_nil] at hm hown
    rw [redX_eq _ _ HL.out] at hm hown
    have hWb : Below W.heap.size W w4 := (((Below.refl _ W).alloc (Nat.le_refl _) _).alloc (by simp) _).trans (hb4.mono (by simp; omega))
    have c0 : Boxed w4 w.heap.size 87 (.slice none 0 0) := (hWb.block _ (by omega)).trans b0W.out
    have c1 : Boxed w4 (w.heap.size + 1) 4 (.bool false) := (hWb.block _ (by omega)).trans b1W.out
    have hK4 : w4.heap[D]? = some (.deferred (some [])) := (hWb.block _ hDlt).trans HK.out
    have hgs := (ownsRow_cap hown).2.2.1
    simp only [World.size_alloc] at hgs
    have d0 := c0.cell
    have d1 := c1.cell
    have f0 := c0.frozen
    have f1 := c1.frozen
    have C0 := Lib.hid c0
    have C1 := Lib.hid c1
    have HK4 := Lib.hid hK4
    have Hm := Lib.hid hm
    have HO := Lib.hid hown
    clear c0 c1 hK4 hm hown hb4 hbs
    gi_wp2
    obtain ⟨W5, hW5⟩ : ∃ W5, (w4.setCell ⟨w.heap.size, 0, none⟩ (.slice (some ⟨g, 0, none⟩) m cap')).setCell ⟨w.heap.size + 1, 0, none⟩ (.bool true) = W5 := ⟨_, rfl⟩
    have e0 : Boxed W5 w.heap.size 87 (.slice (some ⟨g, 0, none⟩) m cap') := by rw [← hW5]; exact (C0.out.set _).other (by omega) _
    have e1 : Boxed W5 (w.heap.size + 1) 4 (.bool true) := by rw [← hW5]; exact (C1.out.other (by omega) _).set _
    have hK5 : W5.heap[D]? = some (.deferred (some [])) := by rw [← hW5]; exact ((KeepsOthers.setCell _ _ _).trans (KeepsOthers.setCell _ _ _)).same D _ HK4.out rfl
    have hB5 : Below w.heap.size w W5 := by rw [← hW5]; exact ((hBW.trans (hWb.mono (by omega))).setCell (p := ⟨w.heap.size, 0, none⟩) (Nat.le_refl _) _).setCell (p := ⟨w.heap.size + 1, 0, none⟩) (by show w.heap.size ≤ w.heap.size + 1; omega) _
    have hO5 : W5.ownsRow w.heap.size 77 1 (.slice (some ⟨g, 0, none⟩) m cap') m (bytesV (redL [] s.data.toList)) := by
      rw [← hW5]
      refine ownsRow_base (((HO.out.kept (grownBy_setCell' _ _ _) (.inr (fun e => by simp [Value.ownBlock] at e; omega))).kept (grownBy_setCell' _ _ _) (.inr (fun e => by simp [Value.ownBlock] at e; omega)))) (by simp; omega)
    rw [hW5]
    clear hW5
    refine ⟨by simp, .inl ⟨_, _, rfl, run_takeDeferred hK5, ?_⟩⟩
    have g0 := (e0.kept (grownBy_putObj' W5 D (.deferred none)) (fun e => by cases e; omega)).cell
    have g1 := (e1.kept (grownBy_putObj' W5 D (.deferred none)) (fun e => by cases e; omega)).cell
    refine ⟨.tuple #[.slice (some ⟨g, 0, none⟩) m cap', .bool true], by simp [results, Try.f113, go_sem, g0, g1], .inr ⟨HL.out, g, m, cap', rfl, Hm.out, ownsRow_putObj hO5 _ hK5 rfl⟩, hB5.trans (belowK_b (w := w) (Nat.le_refl _) W5 D _ _ (by omega) hK5 rfl rfl)⟩
  case stop =>
    rintro D c pre W hD hpre ⟨⟨⟨rfl, hl⟩, c0, c1⟩, hB⟩ hK
    gi_wp2
    refine ⟨by simp, .inl ⟨_, _, rfl, run_takeDeferred hK, ?_⟩⟩
    have e0 := (c0.kept (grownBy_putObj' W D (.deferred none)) (fun e => by cases e; omega)).cell
    have e1 := (c1.kept (grownBy_putObj' W D (.deferred none)) (fun e => by cases e; omega)).cell
    refine ⟨.tuple #[.slice none 0 0, .bool false], by simp [results, Try.f113, go_sem, e0, e1], .inl ⟨letL_prefix hpre hl, rfl⟩, hB.trans (belowK_b (w := w) (Nat.le_refl _) W D _ _ (by omega) hK rfl rfl)⟩

end Go.Proofs.Ytaaeiogdhmiaaaa

/- The iterators over the letters of a word, forwards and backwards, and over those of its inverse. -/

namespace Go.Proofs.Ytaaeiogdhmiaaaa
open Go.RowKit Go.Shelf

attribute [local go_sem] Oper.semAt_some

/-- The slice value sv is a word with the letters l. -/
def IsWord (n₀ : Nat) (w : World) (sv : Value) (l : List UInt8) : Prop :=
  ∃ g off cap, sv = .slice (some ⟨g, off, none⟩) l.length cap ∧ g < n₀ ∧ l.length ≤ 100000 ∧ ∀ j (h : j < l.length), w.cell? ⟨g, off + j, none⟩ = some (.int .u8 (l[j].toNat : Int))
theorem IsWord.below {n₀ : Nat} {w w' : World} {sv : Value} {l : List UInt8} (h : IsWord n₀ w sv l) (hb : Below n₀ w w') : IsWord n₀ w' sv l := by
  obtain ⟨g, off, cap, rfl, hg, hl, hc⟩ := h
  exact ⟨g, off, cap, rfl, hg, hl, fun j hj => (hb.cell (p := ⟨g, off + j, none⟩) hg).trans (hc j hj)⟩
theorem IsWord.mono {n₀ n₁ : Nat} {w : World} {sv : Value} {l : List UInt8} (h : IsWord n₀ w sv l) (hb : n₀ ≤ n₁) : IsWord n₁ w sv l := by
  obtain ⟨g, off, cap, rfl, hg, hl, hc⟩ := h
  exact ⟨g, off, cap, rfl, by omega, hl, hc⟩

set_option maxRecDepth 100000 in
set_option maxHeartbeats 1000000 in
/-- slices.Values at a word. -/
theorem values1_in (n : Nat) (hn : 1 ≤ n) (l Bs n₀ : Nat) (L : List UInt8) (sv : Value) (J Jx : List UInt8 → World → Prop)
    (hY : ∀ pre x W, J pre W → pre ++ [x] <+: L → YieldAt Fence.wide (n - 1) Try.prog l (encB x) W fun e W' =>
      (e = .returned (.bool true) ∧ J (pre ++ [x]) W' ∧ Below n₀ W W') ∨ (e = .returned (.bool false) ∧ Jx (pre ++ [x]) W'))
    (W : World) (hBs : W.cell? ⟨Bs, 0, none⟩ = some sv) (hw : IsWord n₀ W sv L) (h0 : J [] W) :
    CallsIn Fence.wide n Try.prog 139 #[.func (.yield l) #[] #[], .pointer (some ⟨Bs, 0, none⟩)] W fun e W' => (∃ v, e = .returned v) ∧
      ((∃ ys, ys = L ∧ J ys W') ∨ (∃ pre, pre <+: L ∧ Jx pre W')) := by
  obtain ⟨g, off, cap, rfl, hg, hL, hc⟩ := hw
  obtain ⟨len, hlen⟩ : ∃ len, L.length = len := ⟨_, rfl⟩
  rw [hlen] at hBs hL
  have HC := Lib.hid hc
  have HL := Lib.hid hlen
  clear hc hlen
  refine callsIn_of_wp Try.func139 rfl trivial ?_ rfl
  simp only [Try.ntmps139, List.size_toArray, List.length_cons, List.length_nil, Nat.reduceAdd, Nat.reduceSub, Array.replicate_succ, Array.replicate_zero, List.push_toArray, List.append_toArray, List.nil_append, List.cons_append]
  gi_wp2
  gi_loopw [7] (fun i wr => ∃ k : Nat, k ≤ len ∧ i = .int .i64 k ∧ J (L.take k) wr ∧ Below n₀ W wr)
    (fun i _ => len - (intOf i).toNat)
  case atStart => exact ⟨0, Nat.zero_le _, rfl, h0, Below.refl _ _⟩
  case round =>
    obtain ⟨k, hk, rfl, hJs, hnx⟩ := hrel
    by_cases hlt : k < len
    · have hkl : k < L.length := by rw [HL.out]; exact hlt
      obtain ⟨x, hx⟩ : ∃ x, L[k] = x := ⟨_, rfl⟩
      have hcx : wr.cell? ⟨g, off + k, none⟩ = some (.int .u8 (x.toNat : Int)) := by rw [← hx]; exact (hnx.cell (p := ⟨g, off + k, none⟩) hg).trans (HC.out k hkl)
      have HS : Hid (L.take (k + 1) = L.take k ++ [x]) := by rw [← hx]; exact take_snoc _ k hkl
      obtain ⟨fn, tmps, assign, body, hy, hR⟩ := hY _ x wr hJs (by rw [← HS.out]; exact List.take_prefix _ _)
      clear hx hkl
      gi_wp2
      refine hR.mono ?_
      rintro e W3 (⟨rfl, hJ3, hk3⟩ | ⟨rfl, hJx3⟩)
      · gi_wp2
        go_roundw
        case rel => exact ⟨k + 1, by omega, by simp, by rw [HS.out]; exact hJ3, hnx.trans hk3⟩
        case measure => simp [intOf]; omega
      · gi_wp2
        refine bodyPost_ret (results_none rfl _ _ _) rfl ?_
        exact ⟨⟨_, rfl⟩, .inr ⟨_, by rw [← HS.out]; exact List.take_prefix _ _, hJx3⟩⟩
    · have HA : Hid (L.take k = L) := List.take_of_length_le (by rw [HL.out]; omega)
      gi_wp2
      go_end0
      exact ⟨⟨_, rfl⟩, .inl ⟨_, HA.out, hJs⟩⟩

theorem values_any (a : Option Addr) (len cap : Nat) (w : World) :
    Calls Try.prog 127 #[.slice a len cap] w fun e w' => e = .returned (.func (.func 139) #[] #[.pointer (some ⟨w.heap.size, 0, none⟩)]) ∧ w' = w.alloc (.cells #[.slice a len cap] 87) := by
  go_enter Try.func127, Try.ntmps127
  go_wp2
  go_ret
  exact ⟨rfl, rfl⟩

theorem values_seq (L : List UInt8) (sv : Value) (w : World) (Bs n₀ : Nat) (hB : Bs < w.heap.size) (hn₀ : n₀ ≤ w.heap.size) (hc : w.cell? ⟨Bs, 0, none⟩ = some sv) (hw : IsWord n₀ w sv L) :
    SeqO n₀ w 139 #[.pointer (some ⟨Bs, 0, none⟩)] L := seqO_of fun n h3 l J Jx W hW hY h0 =>
  values1_in n (by omega) l Bs n₀ L sv J Jx hY W ((hW.cell (p := ⟨Bs, 0, none⟩) hB).trans hc) (hw.below (hW.mono hn₀)) h0

abbrev encI (x : Nat × UInt8) : Array Value := #[.int .i64 (x.1 : Int), .int .u8 (x.2.toNat : Int)]
/-- What slices.Backward gives when the letters from the place k on have come. -/
def bk (L : List UInt8) (k : Nat) : List (Nat × UInt8) := ((L.zipIdx.drop k).map fun p => (p.2, p.1)).reverse
theorem bk_step (L : List UInt8) (k : Nat) (h : k < L.length) : bk L k = bk L (k + 1) ++ [(k, L[k])] := by
  unfold bk
  rw [List.drop_eq_getElem_cons (by simpa using h)]
  simp
theorem bk_prefix (L : List UInt8) (k : Nat) : bk L k <+: bk L 0 := by
  unfold bk
  rw [List.reverse_prefix, List.drop_zero]
  exact (List.drop_suffix k _).map _
theorem bk_len (L : List UInt8) (k : Nat) : (bk L k).length = L.length - k := by simp [bk]
theorem bk_snd (L : List UInt8) (f : UInt8 → UInt8) : (bk L 0).map (fun p => f p.2) = L.reverse.map f := by
  unfold bk
  rw [List.drop_zero, List.map_reverse, List.map_map, List.map_reverse]
  congr 1
  have : L.map f = L.zipIdx.map (f ∘ Prod.fst) := by rw [← List.map_map]; simp
  rw [this]; rfl

set_option maxRecDepth 100000 in
set_option maxHeartbeats 1000000 in
/-- slices.Backward at a word. -/
theorem backward1_in (n : Nat) (hn : 1 ≤ n) (l Bs : Nat) (n₀ : Nat) (Kp : World → World → Prop) (hKt : ∀ {A B C : World}, Kp A B → Kp B C → Kp A C) (hKr : ∀ A, Kp A A) (L : List UInt8) (sv : Value) (J : List (Nat × UInt8) → World → Prop)
    (hY : ∀ pre x W, J pre W → pre ++ [x] <+: bk L 0 → YieldAt Fence.wide (n - 1) Try.prog l (encI x) W fun e W' => e = .returned (.bool true) ∧ J (pre ++ [x]) W' ∧ Kp W W')
    (W : World) (hBs : ∀ W', Kp W W' → W'.cell? ⟨Bs, 0, none⟩ = some sv) (hw : ∀ W', Kp W W' → IsWord n₀ W' sv L) (h0 : J [] W) :
    CallsIn Fence.wide n Try.prog 145 #[.func (.yield l) #[] #[], .pointer (some ⟨Bs, 0, none⟩)] W fun e W' => (∃ v, e = .returned v) ∧ J (bk L 0) W' := by
  obtain ⟨g, off, cap, rfl, hg, hL, hc⟩ := hw W (hKr W)
  obtain ⟨len, hlen⟩ : ∃ len, L.length = len := ⟨_, rfl⟩
  have hBs0 := hBs W (hKr W)
  have hBs1 : Hid (∀ W', Kp W W' → W'.cell? ⟨Bs, 0, none⟩ = some (.slice (some ⟨g, off, none⟩) len cap)) := by rw [← hlen]; exact hBs
  rw [hlen] at hBs0 hL
  have HW : Hid (∀ W', Kp W W' → ∀ j (h : j < L.length), W'.cell? ⟨g, off + j, none⟩ = some (.int .u8 (L[j].toNat : Int))) := fun W' hk j h => by
    obtain ⟨g2, off2, cap2, e, _, _, hc2⟩ := hw W' hk
    cases e
    exact hc2 j h
  have HL := Lib.hid hlen
  clear hc hlen hw hBs hg
  refine callsIn_of_wp Try.func145 rfl trivial ?_ rfl
  simp only [Try.ntmps145, List.size_toArray, List.length_cons, List.length_nil, Nat.reduceAdd, Nat.reduceSub, Array.replicate_succ, Array.replicate_zero, List.push_toArray, List.append_toArray, List.nil_append, List.cons_append]
  gi_wp2
  gi_loopw [3] (fun i wr => ∃ k : Nat, k ≤ len ∧ i = .int .i64 ((k : Int) - 1) ∧ J (bk L k) wr ∧ Kp W wr)
    (fun i _ => (intOf i + 1).toNat)
  case atStart => exact ⟨len, Nat.le_refl _, rfl, by unfold bk; rw [List.drop_of_length_le (by simp; rw [HL.out]; exact Nat.le_refl _)]; exact h0, hKr W⟩
  case round =>
    obtain ⟨k, hk, rfl, hJs, hnx⟩ := hrel
    have hcB := hBs1.out wr hnx
    by_cases hlt : 0 < k
    · obtain ⟨j, rfl⟩ : ∃ j, k = j + 1 := ⟨k - 1, by omega⟩
      have hkl : j < L.length := by rw [HL.out]; omega
      obtain ⟨x, hx⟩ : ∃ x, L[j] = x := ⟨_, rfl⟩
      have hcx : wr.cell? ⟨g, off + j, none⟩ = some (.int .u8 (x.toNat : Int)) := by rw [← hx]; exact HW.out wr hnx j hkl
      have HS : Hid (bk L j = bk L (j + 1) ++ [(j, x)]) := by rw [← hx]; exact bk_step _ j hkl
      obtain ⟨fn, tmps, assign, body, hy, hR⟩ := hY _ (j, x) wr hJs (by rw [← HS.out]; exact bk_prefix L j)
      clear hx hkl
      gi_wp2
      refine hR.mono ?_
      rintro e W3 ⟨rfl, hJ3, hk3⟩
      gi_wp2
      go_roundw
      case rel => exact ⟨j, by omega, by go_num, by rw [HS.out]; exact hJ3, hKt hnx hk3⟩
      case measure => simp [intOf]
    · have hk0 : k ≤ 0 := by omega
      have HA : Hid (bk L k = bk L 0) := by rw [show k = 0 by omega]; exact Lib.hid rfl
      gi_wp2
      go_end0
      exact ⟨⟨_, rfl⟩, by rw [← HA.out]; exact hJs⟩

theorem backward_any (a : Option Addr) (len cap : Nat) (w : World) :
    Calls Try.prog 138 #[.slice a len cap] w fun e w' => e = .returned (.func (.func 145) #[] #[.pointer (some ⟨w.heap.size, 0, none⟩)]) ∧ w' = w.alloc (.cells #[.slice a len cap] 87) := by
  go_enter Try.func138, Try.ntmps138
  go_wp2
  go_ret
  exact ⟨rfl, rfl⟩

theorem iTurned_any (a : Option Addr) (len cap : Nat) (w : World) :
    Calls Try.prog 126 #[.slice a len cap] w fun e w' => e = .returned (.func (.func 137) #[] #[.pointer (some ⟨w.heap.size, 0, none⟩)]) ∧ w' = w.alloc (.cells #[.slice a len cap] 87) := by
  go_enter Try.func126, Try.ntmps126
  go_wp2
  go_ret
  exact ⟨rfl, rfl⟩

end Go.Proofs.Ytaaeiogdhmiaaaa

/- The iterator over the letters of a word's inverse: a loop over slices.Backward that hands each letter's inverse on. -/

namespace Go.Proofs.Ytaaeiogdhmiaaaa
open Go.RowKit Go.Shelf

attribute [local go_sem] Oper.semAt_some

abbrev YT : TypeId := 124
abbrev WT : TypeId := 87

set_option maxRecDepth 100000 in
set_option maxHeartbeats 1000000 in
theorem turned_seq (L : List UInt8) (sv : Value) (w : World) (Bs n₀ : Nat) (hBs : Bs < n₀) (hn₀ : n₀ ≤ w.heap.size) (hc : w.cell? ⟨Bs, 0, none⟩ = some sv) (hw : IsWord n₀ w sv L) :
    SeqO n₀ w 137 #[.pointer (some ⟨Bs, 0, none⟩)] (L.reverse.map invB) := fun n h8 l B J W hW hnB hB hJ hY h0 => by
  have hcW : W.cell? ⟨Bs, 0, none⟩ = some sv := (hW.cell (p := ⟨Bs, 0, none⟩) (by show Bs < w.heap.size; omega)).trans hc
  have hwW : IsWord n₀ W sv L := hw.below (hW.mono hn₀)
  obtain ⟨g, off, cap, rfl, hg, hL, hcc⟩ := hwW
  obtain ⟨len, hlen⟩ : ∃ len, L.length = len := ⟨_, rfl⟩
  rw [hlen] at hcW hL
  have hBW : Bs < W.heap.size := by have := hW.size; omega
  have hcY : (W.alloc (.cells #[.func (.yield l) #[] #[]] YT)).cell? ⟨Bs, 0, none⟩ = some (.slice (some ⟨g, off, none⟩) len cap) := (World.cell?_alloc_past _ _ _ hBW).trans hcW
  have HLen := Lib.hid hlen
  have HW0 := Lib.hid hw
  clear hw
  clear hcc hc hlen
  refine callsIn_of_wp_marks Try.func137 rfl trivial ?_ rfl
  simp only [Try.ntmps137, List.size_toArray, List.length_cons, List.length_nil, Nat.reduceAdd, Nat.reduceSub, Array.replicate_succ, Array.replicate_zero, List.push_toArray, List.append_toArray, List.nil_append, List.cons_append]
  gi_wp2_with fail
  refine ⟨trivial, fun _ => by omega, ?_⟩
  refine (callsIn_wide.2 (backward_any _ _ _ _)).mono ?_
  rintro e w1 ⟨rfl, rfl⟩
  gi_wp2_with fail
  have hW1 : Below W.heap.size W ((W.alloc (.cells #[.func (.yield l) #[] #[]] YT)).alloc (.cells #[.slice (some ⟨g, off, none⟩) len cap] WT)) := ((Below.refl _ W).alloc (Nat.le_refl _) _).alloc (by simp) _
  have hJ1 : J [] ((W.alloc (.cells #[.func (.yield l) #[] #[]] YT)).alloc (.cells #[.slice (some ⟨g, off, none⟩) len cap] WT)) := hJ.alloc _ (hJ.alloc _ h0)
  have bY := (Boxed.new W YT (.func (.yield l) #[] #[])).alloc (.cells #[.slice (some ⟨g, off, none⟩) len cap] WT)
  have bS := Boxed.new (W.alloc (.cells #[.func (.yield l) #[] #[]] YT)) WT (.slice (some ⟨g, off, none⟩) len cap)
  rw [World.size_alloc] at bS
  have hsz : ((W.alloc (.cells #[.func (.yield l) #[] #[]] YT)).alloc (.cells #[.slice (some ⟨g, off, none⟩) len cap] WT)).heap.size = W.heap.size + 2 := by simp
  generalize ((W.alloc (.cells #[.func (.yield l) #[] #[]] YT)).alloc (.cells #[.slice (some ⟨g, off, none⟩) len cap] WT)) = V at hW1 hJ1 bY bS hsz ⊢
  have hnW : n₀ ≤ W.heap.size := Nat.le_trans hn₀ hW.size
  have hwV : IsWord n₀ V (.slice (some ⟨g, off, none⟩) len cap) L := by
    have := (HW0.out.below (hW.mono hn₀)).below (hW1.mono hnW)
    rw [HLen.out] at this
    exact this
  refine range_law (by omega) (gf := 145) (lb := #[.pointer (some ⟨W.heap.size + 1, 0, none⟩)]) rfl (enters_of Try.func145 (by kernel_rfl) rfl)
    (encs := encI) (fun _ => rfl) (fun _ A C => Below n₀ A C ∧ KeepT B A C) (fun h k => ⟨h.1.trans k.1, h.2.trans k.2⟩)
    (fun N X k o o' _ hk hX ho hwk => ⟨belowK_b (w := V) (by omega) X k o o' hk hX ho hwk, KeepT.putObj _ hX ho⟩) (fun h => h) (xs := bk L 0)
    (fun l' J' V' hV' _ _ hY' h0' => backward1_in (n - 1) (by omega) l' (W.heap.size + 1) n₀ _ (fun h k => ⟨h.1.trans k.1, h.2.trans k.2⟩) (fun A => ⟨Below.refl _ _, KeepT.refl _ _⟩) L (.slice (some ⟨g, off, none⟩) len cap) J' hY' V'
      (fun W' hk => (hk.2.boxed ((hV'.block _ (by omega)).trans bS) (by decide) (by omega)).cell) (fun W' hk => (hwV.below (hV'.mono (by omega))).below hk.1) h0')
    (fun pre X => J (pre.map fun p => invB p.2) X ∧ Boxed X W.heap.size YT (.func (.yield l) #[] #[]) ∧ V.heap.size ≤ X.heap.size)
    (fun s X Y row hs hgr hr => ⟨hJ (s.map fun p => invB p.2) X Y row hs.1 hgr (fun r e => by obtain ⟨q1, q2⟩ := hr r e; exact ⟨by omega, q2⟩), boxed_own W.heap.size _ (fun _ : Unit => .func (.yield l) #[] #[]) () X Y row hs.2.1 hgr (fun r e => (hr r e).2), Nat.le_trans hs.2.2 hgr.size⟩)
    ⟨hJ1, bY, Nat.le_refl _⟩
    (fun x => { tmps := #[.func (.yield l) #[] #[], .pointer (some ⟨Bs, 0, none⟩), .pointer (some ⟨W.heap.size, 0, none⟩), undef, .int .u8 (x.2.toNat : Int), .slice (some ⟨g, off, none⟩) len cap, .func (.func 145) #[] #[.pointer (some ⟨W.heap.size + 1, 0, none⟩)], .int .i64 (x.1 : Int), .int .u8 (x.2.toNat : Int), undef, undef, undef, undef, undef], defers := [] }) ?assign ?body ?done
  case assign =>
    intro l x W K hK
    gi_wp2
    exact hK
  case body =>
    rintro l' pre x X ⟨hj, hbx, hsX⟩ hpre
    have hpm : (pre.map fun p => invB p.2) ++ [invB x.2] <+: L.reverse.map invB := by
      have := hpre.map (fun p : Nat × UInt8 => invB p.2)
      rw [bk_snd, List.map_append] at this
      exact this
    have hcy := hbx.cell
    have hd : 1 ≤ n - 1 - 1 := by omega
    have hmx : Try.prog.follows .mixedOrders = true := by kernel_rfl
    have hjd : J (pre.map fun p => invB p.2) X.drew := hJ _ X X.drew none hj ⟨rfl, rfl, rfl, Nat.le_refl _, fun _ _ _ => rfl⟩ (fun r e => by cases e)
    obtain ⟨fn, tmps, asg, bd, hy, hR0⟩ := hY (pre.map fun p => invB p.2) (invB x.2) X.drew hjd hpm
    have hR := Lib.hid (roundIn_inRound (l' := l') (roundIn_any (m' := n - 1 - 1 - 1) hR0))
    have HJ := Lib.hid hj
    clear hR0 hj hjd hpm hpre
    gi_wp2
    gi_region_with_o (first
      | (refine ⟨trivial, ?_⟩; gi_at_call 75; refine (CallsIn.inRound l' (callsIn_wide.2 (inverse_any _ _))).mono ?_; rintro e w' ⟨rfl, rfl⟩)
      | (refine hR.out.mono ?_; rintro e W3 ⟨rfl, hJ3, hk3⟩))
    all_goals gi_wp2
    all_goals
      have hkf : KeepsFrom W.heap.size X W3 := ⟨hk3.2.2.size, hk3.2.2.same⟩
      have hkt : KeepT B X W3 := hk3.2.1
      refine ⟨keepsFrom_mono hkf (by omega), ⟨(Below.refl n₀ X).drew.trans hk3.1, hkt⟩, ?_, hkt.boxed hbx (by decide) (by omega), Nat.le_trans hsX hkf.size⟩
      rw [List.map_append]
      exact hJ3
  case done =>
    rintro D X hD ⟨hj, _, _⟩ hK
    rw [bk_snd] at hj
    gi_wp2
    refine ⟨by simp, .inl ⟨_, _, rfl, run_takeDeferred hK, ?_⟩⟩
    exact ⟨_, results_none rfl _ _ _, ⟨_, rfl⟩, hJ.putObj _ hj (by omega) hK rfl⟩

end Go.Proofs.Ytaaeiogdhmiaaaa

/- The contracts of the program's 'wordOf', 'WordIn' and 'WordReduce'. -/

namespace Go.Proofs.Ytaaeiogdhmiaaaa
open Go.RowKit Go.Shelf

theorem reduceText_no (s : ByteArray) (w : World) (hs : s.size ≤ 1048576) (h : letL s.data.toList = false) :
    Calls Try.prog 113 #[.string s] w fun e w' => e = .returned (.tuple #[.slice none 0 0, .bool false]) ∧ Below w.heap.size w w' := by
  refine ((callsIn_wide (n := 30)).1 (reduceText_in 30 (by omega) s w hs)).mono ?_
  rintro e w' ⟨⟨_, rfl⟩ | ⟨h2, _⟩, hb⟩
  · exact ⟨rfl, hb⟩
  · rw [h] at h2; cases h2

theorem reduceText_yes (s : ByteArray) (w : World) (hs : s.size ≤ 1048576) (h : letL s.data.toList = true) :
    Calls Try.prog 113 #[.string s] w fun e w' => ∃ g m cap, e = .returned (.tuple #[.slice (some ⟨g, 0, none⟩) m cap, .bool true]) ∧ (redL [] s.data.toList).length = m ∧
      w'.ownsRow w.heap.size 77 1 (.slice (some ⟨g, 0, none⟩) m cap) m (bytesV (redL [] s.data.toList)) ∧ Below w.heap.size w w' := by
  refine ((callsIn_wide (n := 30)).1 (reduceText_in 30 (by omega) s w hs)).mono ?_
  rintro e w' ⟨⟨h2, _⟩ | ⟨_, g, m, cap, rfl, hm, ho⟩, hb⟩
  · rw [h] at h2; cases h2
  · exact ⟨g, m, cap, rfl, hm, ho, hb⟩

set_option maxHeartbeats 400000 in
theorem wordOf_yes (s : ByteArray) (w : World) (h : wordB s.data.toList = true) :
    Calls Try.prog 78 #[.string s] w fun e w' => ∃ g cap, e = .returned (.tuple #[.slice (some ⟨g, 0, none⟩) s.size cap, .bool true]) ∧
      w'.ownsRow w.heap.size 77 1 (.slice (some ⟨g, 0, none⟩) s.size cap) s.size (bytesV s.data.toList) ∧ Below w.heap.size w w' := by
  obtain ⟨h1, h2, h3⟩ := (wordB_iff _).1 h
  have hs : s.size ≤ 60 := by simpa using h1
  have H2 := Lib.hid h2
  have H3 := Lib.hid h3
  clear h h1 h2 h3
  go_enter Try.func78, Try.ntmps78
  go_wp2_with (go_at_call 113; refine (reduceText_yes _ _ (by omega) H2.out).mono ?_; rintro e w1 ⟨g, m, cap, rfl, hm, hown, hb⟩; have hm2 : m = s.size := (by rw [← hm, H3.out]; simp); subst hm2; rw [H3.out] at hown; clear hm)
  go_ret2
  exact ⟨_, _, rfl, by assumption, by assumption⟩

set_option maxHeartbeats 400000 in
theorem wordOf_no (s : ByteArray) (w : World) (hm : s.size ≤ maxLen) (h : wordB s.data.toList = false) :
    Calls Try.prog 78 #[.string s] w fun e w' => e = .returned (.tuple #[.slice none 0 0, .bool false]) ∧ Below w.heap.size w w' := by
  unfold maxLen at hm
  by_cases hs : s.size ≤ 60
  · cases h2 : letL s.data.toList with
    | false =>
      have H2 := Lib.hid h2
      clear h2 h
      go_enter Try.func78, Try.ntmps78
      go_wp2_with (go_at_call 113; refine (reduceText_no _ _ (by omega) H2.out).mono ?_; rintro e w1 ⟨rfl, hb⟩)
      go_ret2
      exact ⟨rfl, by assumption⟩
    | true =>
      have hlt : (redL [] s.data.toList).length < s.size := by
        have h3 : redL [] s.data.toList ≠ s.data.toList := fun h3 => by
          have := (wordB_iff s.data.toList).2 ⟨by simpa using hs, h2, h3⟩
          rw [h] at this; cases this
        have h4 := redL_len s.data.toList []
        have h5 : (redL [] s.data.toList).length ≠ s.size := fun h5 => h3 (by
          have := redL_full s.data.toList [] (by rw [h5]; simp)
          simpa using this)
        simp at h4
        omega
      have H2 := Lib.hid h2
      have H3 := Lib.hid hlt
      clear h2 h hlt
      go_enter Try.func78, Try.ntmps78
      go_wp2_with (go_at_call 113; refine (reduceText_yes _ _ (by omega) H2.out).mono ?_; rintro e w1 ⟨g, m, cap, rfl, hm, hown, hb⟩; have hm2 : m < s.size := (by rw [← hm]; exact H3.out); clear hm hown)
      go_ret2
      exact ⟨rfl, by assumption⟩
  · clear h
    go_enter Try.func78, Try.ntmps78
    go_wp2
    go_ret2
    exact ⟨rfl, Below.refl _ _⟩

end Go.Proofs.Ytaaeiogdhmiaaaa

/- The contract of the program's 'WordTurned'. -/

namespace Go.Proofs.Ytaaeiogdhmiaaaa
open Go.RowKit Go.Shelf

theorem isWord_of_owns {base g cap n n₀ : Nat} {e : TypeId} {l : List UInt8} {w : World} (hl : l.length = n) (hn : n ≤ 100000) (hown : w.ownsRow base e 1 (.slice (some ⟨g, 0, none⟩) n cap) n (bytesV l)) (hg : w.heap.size ≤ n₀) :
    IsWord n₀ w (.slice (some ⟨g, 0, none⟩) n cap) l := by
  subst hl
  obtain ⟨h1, h2⟩ := letters_of_owns hown
  exact ⟨g, 0, cap, rfl, by omega, hn, h2⟩

abbrev IT : TypeId := 75

set_option maxRecDepth 100000 in
set_option maxHeartbeats 1000000 in
theorem wordInverse_yes (g n cap : Nat) (L : List UInt8) (w1 : World) (hl : L.length = n) (h : wordB L = true) (hw : IsWord w1.heap.size w1 (.slice (some ⟨g, 0, none⟩) n cap) L) :
    Calls Try.prog 102 #[.slice (some ⟨g, 0, none⟩) n cap] w1 fun e w' => ∃ g4 cap4, e = .returned (.slice (some ⟨g4, 0, none⟩) n cap4) ∧
      w'.ownsRow w1.heap.size 77 1 (.slice (some ⟨g4, 0, none⟩) n cap4) n (bytesV (backL L)) ∧ Below w1.heap.size w1 w' := by
  obtain ⟨h1, h2, h3⟩ := (wordB_iff _).1 h
  have hs : L.length ≤ 60 := h1
  rw [hl] at hs
  have H := Lib.hid h
  have HR := Lib.hid (redX_back _ h2 h3)
  have HW := Lib.hid hw
  have HL := Lib.hid hl
  clear h h1 h2 h3 hw hl
  go_enter Try.func102, Try.ntmps102
  go_wp2_with fail
  refine (iTurned_any _ _ _ _).mono ?_
  rintro e w2 ⟨rfl, rfl⟩
  go_wp2_with fail
  have hrd := reduced_in 20 (by omega) (some ⟨w1.heap.size + 1, 0, none⟩) (w1.heap.size + 1) 0 1 [⟨137, #[.pointer (some ⟨w1.heap.size, 0, none⟩)], L.reverse.map invB⟩]
    ((w1.alloc (.cells #[.slice (some ⟨g, 0, none⟩) n cap] WT)).alloc (.cells #[.func (.func 137) #[] #[.pointer (some ⟨w1.heap.size, 0, none⟩)]] IT)) (fun _ => rfl) (by simp)
    (fun i h => by
      obtain rfl : i = 0 := by simpa using h
      exact (World.cell?_alloc_at _ _ _ _ (by simp)).trans rfl)
    (fun p hp => by
      obtain rfl := List.mem_singleton.1 hp
      exact ⟨turned_seq L (.slice (some ⟨g, 0, none⟩) n cap) _ w1.heap.size _ (by simp; omega) (Nat.le_refl _) ((Boxed.new w1 WT _).alloc _).cell (((HW.out.below (((Below.refl _ w1).alloc (Nat.le_refl _) _).alloc (by simp) _))).mono (by simp; omega)), enters_of Try.func137 (by kernel_rfl) rfl⟩)
    (by simp [cat]; rw [HL.out]; omega) (by simp)
  refine ((callsIn_wide (n := 20)).1 hrd).mono ?_
  clear hrd
  rintro e w4 ⟨g4, m, cap4, rfl, hm, hown, hb4⟩
  simp only [cat, List.map_cons, List.map_nil, List.flatten_cons, List.flatten_nil, List.append_nil] at hm hown
  rw [HR.out] at hm hown
  have hb : Below w1.heap.size w1 w4 := (((Below.refl _ w1).alloc (Nat.le_refl _) _).alloc (by simp) _).trans (hb4.mono (by simp; omega))
  obtain rfl : n = m := by rw [← hm, backL_length]; exact HL.out.symm
  have HO := Lib.hid (ownsRow_base hown (by simp; omega) : w4.ownsRow w1.heap.size 77 1 _ n _)
  clear hm hown hb4
  go_wp2_with fail
  go_ret
  exact ⟨g4, cap4, rfl, HO.out, hb⟩

set_option maxHeartbeats 1000000 in
theorem iWordTurned_yes (s : ByteArray) (w : World) (h : wordB s.data.toList = true) :
    Calls Try.prog 61 #[.string s] w fun e w' => e = .returned (.tuple #[.string (bstr (backL s.data.toList)), .bool true]) ∧ Below w.heap.size w w' := by
  have hs : s.size ≤ 60 := by have := ((wordB_iff _).1 h).1; simpa using this
  have H := Lib.hid h
  clear h
  go_enter Try.func61, Try.ntmps61
  go_wp2_with fail
  refine (wordOf_yes _ _ H.out).mono ?_
  rintro e w1 ⟨g, cap, rfl, hown, hb1⟩
  have hw := Lib.hid (isWord_of_owns (n₀ := w1.heap.size) (l := s.data.toList) (by simp) (by omega) hown (Nat.le_refl _))
  clear hown
  go_wp2_with fail
  refine (wordInverse_yes g s.size cap s.data.toList w1 (by simp) H.out hw.out).mono ?_
  rintro e w4 ⟨g4, cap4, rfl, hown, hb⟩
  have HO := Lib.hid hown
  clear hown
  go_wp2_with fail
  refine (told_yes _ _ _ _ _ _ (by rw [backL_length]; simp) hs HO.out).mono ?_
  rintro e w5 ⟨rfl, hb5⟩
  go_wp2_with fail
  go_ret2
  exact ⟨rfl, hb1.trans ((hb.trans (hb5.mono hb.size)).mono hb1.size)⟩

theorem iWordTurned_no (s : ByteArray) (w : World) (hs : s.size ≤ maxLen) (h : wordB s.data.toList = false) :
    Calls Try.prog 61 #[.string s] w fun e w' => e = .returned (.tuple #[.string ByteArray.empty, .bool false]) ∧ Below w.heap.size w w' := by
  have H := Lib.hid h
  clear h
  go_enter Try.func61, Try.ntmps61
  go_wp2_with fail
  refine (wordOf_no _ _ hs H.out).mono ?_
  rintro e w1 ⟨rfl, hb1⟩
  go_wp2_with fail
  go_ret2
  exact ⟨rfl, hb1⟩

end Go.Proofs.Ytaaeiogdhmiaaaa

/- The contracts of the program's 'wordsOf' and 'letters'. -/

namespace Go.Proofs.Ytaaeiogdhmiaaaa
open Go.RowKit Go.Shelf

theorem letters_fwd (a : Option Addr) (len cap : Nat) (k : Int) (w : World) (hk : 0 ≤ k) :
    Calls Try.prog 103 #[.slice a len cap, .int .i64 k] w fun e w' => e = .returned (.func (.func 139) #[] #[.pointer (some ⟨w.heap.size, 0, none⟩)]) ∧ w' = w.alloc (.cells #[.slice a len cap] WT) := by
  go_enter Try.func103, Try.ntmps103
  go_wp2_with fail
  refine (values_any _ _ _ _).mono ?_
  rintro e w1 ⟨rfl, rfl⟩
  go_wp2_with fail
  go_ret
  exact ⟨rfl, rfl⟩

theorem letters_bwd (a : Option Addr) (len cap : Nat) (k : Int) (w : World) (hk : k < 0) :
    Calls Try.prog 103 #[.slice a len cap, .int .i64 k] w fun e w' => e = .returned (.func (.func 137) #[] #[.pointer (some ⟨w.heap.size, 0, none⟩)]) ∧ w' = w.alloc (.cells #[.slice a len cap] WT) := by
  go_enter Try.func103, Try.ntmps103
  go_wp2_with fail
  refine (iTurned_any _ _ _ _).mono ?_
  rintro e w1 ⟨rfl, rfl⟩
  go_wp2_with fail
  go_ret
  exact ⟨rfl, rfl⟩

theorem infoWord : (Try.prog.info? 87).map (fun i => (i.zero, i.size, i.bytes)) = some (some (.slice none 0 0), 1, 24) := by kernel_rfl

/-- The slice value v is a word with the letters l, in a block from lo on. -/
def WordAt (lo : Nat) (w : World) (v : Value) (l : List UInt8) : Prop :=
  ∃ g cap, v = .slice (some ⟨g, 0, none⟩) l.length cap ∧ lo ≤ g ∧ g < w.heap.size ∧ l.length ≤ 60 ∧ ∀ j (h : j < l.length), w.cell? ⟨g, j, none⟩ = some (.int .u8 (l[j].toNat : Int))
theorem WordAt.below {lo : Nat} {w w' : World} {v : Value} {l : List UInt8} (h : WordAt lo w v l) (hb : Below w.heap.size w w') : WordAt lo w' v l := by
  obtain ⟨g, cap, rfl, h1, h2, h3, h4⟩ := h
  exact ⟨g, cap, rfl, h1, Nat.lt_of_lt_of_le h2 hb.size, h3, fun j hj => (hb.cell (p := ⟨g, j, none⟩) h2).trans (h4 j hj)⟩
theorem WordAt.setCell {lo : Nat} {w : World} {v : Value} {l : List UInt8} (h : WordAt lo w v l) {a : Addr} (ha : a.block < lo) (u : Value) : WordAt lo (w.setCell a u) v l := by
  obtain ⟨g, cap, rfl, h1, h2, h3, h4⟩ := h
  exact ⟨g, cap, rfl, h1, Nat.lt_of_lt_of_le h2 (KeepsWalks.setCell w a u).size, h3, fun j hj => (World.cell?_of_block (a := ⟨g, j, none⟩) (Below.heap_setCell w a u g (by omega))).trans (h4 j hj)⟩
theorem WordAt.isWord {lo : Nat} {w : World} {v : Value} {l : List UInt8} (h : WordAt lo w v l) : IsWord w.heap.size w v l := by
  obtain ⟨g, cap, rfl, h1, h2, h3, h4⟩ := h
  exact ⟨g, 0, cap, rfl, h2, by omega, fun j hj => by rw [Nat.zero_add]; exact h4 j hj⟩
theorem WordAt.slice {lo : Nat} {w : World} {v : Value} {l : List UInt8} (h : WordAt lo w v l) : ∃ g cap, v = .slice (some ⟨g, 0, none⟩) l.length cap := by
  obtain ⟨g, cap, rfl, _⟩ := h; exact ⟨g, cap, rfl⟩

set_option maxRecDepth 100000 in
set_option maxHeartbeats 1000000 in
theorem wordsOf_any (a : Option Addr) (b off cap n : Nat) (ss : List ByteArray) (w : World) (hn : ss.length = n) (hn2 : n ≤ 1000000) (ha : 0 < n → a = some ⟨b, off, none⟩) (hb : b < w.heap.size)
    (hc : ∀ i (h : i < ss.length), w.cell? ⟨b, off + i, none⟩ = some (.string ss[i])) (hm : ∀ s ∈ ss, s.size ≤ maxLen) :
    Calls Try.prog 123 #[.slice a n cap] w fun e w' =>
      ((e = .returned (.tuple #[.slice none 0 0, .bool false]) ∧ ∃ s ∈ ss, wordB s.data.toList = false) ∨
       (∃ g vals, e = .returned (.tuple #[.slice (some ⟨g, 0, none⟩) n n, .bool true]) ∧ (∀ s ∈ ss, wordB s.data.toList = true) ∧ w'.ownsRow w.heap.size WT 1 (.slice (some ⟨g, 0, none⟩) n n) n vals ∧
        ∀ j (h : j < ss.length) v, vals[j]? = some v → WordAt w.heap.size w' v ss[j].data.toList)) ∧ Below w.heap.size w w' := by
  obtain ⟨i0, hi, hz0, hz1, hz2⟩ := info_parts infoWord
  have HC := Lib.hid hc
  have HM := Lib.hid hm
  have HA := Lib.hid ha
  have HN := Lib.hid hn
  clear hc hm ha hn
  go_enter Try.func123, Try.ntmps123
  go_wp2_with (at_make; refine wpList_make_full _ rfl _ _ 99 rfl w.heap.size 87 i0 (.slice none 0 0) 1 Try.underlying99 hi hz0 hz1 .i64 .i64 _ _ n rfl rfl rfl rfl (by rw [hz2]; omega) (by unfold maxLen; omega) (Nat.le_refl _) ?_; intro w1 hrow hgrow)
  have hB1 : Below w.heap.size w w1 := (Below.refl _ _).grown hgrow (Nat.le_refl _) (fun k e => by cases e)
  have hgs1 := (ownsRow_cap hrow).2.2.2
  go_loopw [14] (fun i wr => ∃ (k : Nat) (vals : List Value), k ≤ n ∧ i = .int .i64 k ∧ wr.ownsRow w.heap.size WT 1 (.slice (some ⟨w.heap.size, 0, none⟩) n n) n vals ∧ Hid (∀ j (h : j < ss.length), j < k → wordB ss[j].data.toList = true ∧ ∀ v, vals[j]? = some v → WordAt (w.heap.size + 1) wr v ss[j].data.toList) ∧ Below w.heap.size w wr)
    (fun i _ => n - (intOf i).toNat)
  case atStart => exact ⟨0, _, Nat.zero_le _, rfl, hrow, Lib.hid (fun j _ h => absurd h (Nat.not_lt_zero _)), hB1⟩
  case round =>
    obtain ⟨k, vals, hk, rfl, hr, HV, hB⟩ := hrel
    by_cases hlt : k < n
    · have hks : k < ss.length := by rw [HN.out]; exact hlt
      obtain ⟨s, hs⟩ : ∃ s, ss[k] = s := ⟨_, rfl⟩
      obtain rfl := HA.out (by omega)
      have hcs : wr.cell? ⟨b, off + k, none⟩ = some (.string s) := by rw [← hs]; exact (hB.cell (p := ⟨b, off + k, none⟩) hb).trans (HC.out k hks)
      have hsm : s.size ≤ maxLen := by rw [← hs]; exact HM.out _ (List.getElem_mem hks)
      have HS := Lib.hid hs
      clear hs
      have hgs := (ownsRow_cap hr).2.2.2
      have HR := Lib.hid hr
      clear hr
      cases hw : wordB s.data.toList with
      | true =>
        have HW := Lib.hid hw
        clear hw
        go_wp2_with fail
        refine (wordOf_yes s wr HW.out).mono ?_
        rintro e w2 ⟨g, cap2, rfl, hown, hb2⟩
        have hr2 : w2.ownsRow w.heap.size WT 1 (.slice (some ⟨w.heap.size, 0, none⟩) n n) n vals := HR.out.kept ⟨hb2.os, hb2.tape, hb2.output, hb2.size, fun j hj _ => hb2.block j hj⟩ (row := none) (.inr (by simp [Value.ownBlock]))
        have hWA : WordAt (w.heap.size + 1) w2 (.slice (some ⟨g, 0, none⟩) s.size cap2) s.data.toList := by
          obtain ⟨h1, h2⟩ := letters_of_owns hown
          have h3 := (ownsRow_cap hown).2.2.1
          exact ⟨g, cap2, by simp, by omega, h1, by have := ((wordB_iff _).1 HW.out).1; exact this, fun j hj => by have := h2 j hj; rw [Nat.zero_add] at this; exact this⟩
        have hB2 : Below w.heap.size w w2 := hB.trans (hb2.mono hB.size)
        obtain ⟨u, hu⟩ : ∃ u, w2.cell? ⟨w.heap.size, k, none⟩ = some u := by
          have hl := hr2.1
          rw [Nat.mul_one] at hl
          rw [hr2.cellAt k (by omega)]
          exact ⟨vals[k]'(by omega), List.getElem?_eq_getElem (by omega)⟩
        have hfr := hr2.frozenAt k
        have HR2 := Lib.hid hr2
        have HWA := Lib.hid hWA
        have HB2 := Lib.hid hb2
        clear hown hr2 hWA hb2
        go_wp2_with fail
        go_roundw
        case rel =>
          have hst := HR2.out.stored k (.slice (some ⟨g, 0, none⟩) s.size cap2)
          refine ⟨k + 1, _, by omega, by go_num, hst.1, Lib.hid ?_, hB2.setCell (p := ⟨w.heap.size, k, none⟩) (Nat.le_refl _) _⟩
          intro j hj hjk
          by_cases hjk2 : j = k
          · subst hjk2
            refine ⟨by rw [HS.out]; exact HW.out, fun v hv => ?_⟩
            have hl := HR2.out.1
            rw [Nat.mul_one] at hl
            rw [List.getElem?_set_self (by omega)] at hv
            cases hv
            rw [HS.out]
            exact HWA.out.setCell (by show w.heap.size < w.heap.size + 1; omega) _
          · obtain ⟨q1, q2⟩ := HV.out j hj (by omega)
            refine ⟨q1, fun v hv => ?_⟩
            rw [List.getElem?_set_ne (by omega)] at hv
            exact ((q2 v hv).below HB2.out).setCell (by show w.heap.size < w.heap.size + 1; omega) _
        case measure => simp [intOf]; omega
      | false =>
        have HW := Lib.hid hw
        clear hw
        go_wp2_with fail
        refine (wordOf_no s wr hsm HW.out).mono ?_
        rintro e w2 ⟨rfl, hb2⟩
        go_wp2_with fail
        go_ret2
        exact ⟨.inl ⟨rfl, s, by rw [← HS.out]; exact List.getElem_mem hks, HW.out⟩, hB.trans (hb2.mono hB.size)⟩
    · obtain rfl : k = n := by omega
      have HR := Lib.hid hr
      clear hr
      go_wp2_with fail
      go_ret2
      refine ⟨.inr ⟨w.heap.size, vals, rfl, fun s hs => ?_, HR.out, fun j hj v hv => ?_⟩, hB⟩
      · obtain ⟨j, hj, rfl⟩ := List.getElem_of_mem hs
        exact (HV.out j hj (by rw [← HN.out]; exact hj)).1
      · obtain ⟨g, cap2, h1, h2, h3⟩ := (HV.out j hj (by rw [← HN.out]; exact hj)).2 v hv
        exact ⟨g, cap2, h1, by omega, h3⟩

end Go.Proofs.Ytaaeiogdhmiaaaa

/- The contracts of the laws' own helpers on slices of ints: are two equal, put marks in, are the marks still there. -/

namespace Go.Proofs.Ytaaeiogdhmiaaaa
open Go.RowKit

def intsV (zs : List Int) : List Value := zs.map (Value.int .i64)
theorem intsV_len (zs : List Int) : (intsV zs).length = zs.length := by simp [intsV]
theorem infoInt : (Try.prog.info? 3).map (fun i => (i.zero, i.size, i.bytes)) = some (some (.int .i64 0), 1, 8) := by kernel_rfl

/-- The value v is a slice of the call's own that holds the ints zs, in a block from base on. -/
def IntRow (base : Nat) (w : World) (v : Value) (zs : List Int) : Prop := w.ownsRow base 3 1 v zs.length (intsV zs)

theorem IntRow.shape {base : Nat} {w : World} {v : Value} {zs : List Int} (h : IntRow base w v zs) :
    ∃ a g cap, v = .slice a zs.length cap ∧ (0 < zs.length → a = some ⟨g, 0, none⟩ ∧ base ≤ g ∧ g < w.heap.size) ∧ zs.length ≤ maxLen ∧ ∀ j (hj : j < zs.length), w.cell? ⟨g, j, none⟩ = some (.int .i64 zs[j]) ∧ w.frozen? ⟨g, j, none⟩ = false := by
  rcases h.2 with ⟨rfl, h0⟩ | ⟨g, cap, cur, rfl, hb, hg, hn, hc, _⟩
  · exact ⟨none, 0, 0, by rw [h0], fun h => by omega, by rw [h0]; exact Nat.zero_le _, fun j hj => by omega⟩
  · refine ⟨some ⟨g, 0, none⟩, g, cap, rfl, fun _ => ⟨rfl, hb, (Array.getElem?_eq_some_iff.1 hg).1⟩, Nat.le_trans hn hc, fun j hj => ⟨?_, h.frozenAt j⟩⟩
    rw [h.cellAt j (by omega)]
    simp [intsV, hj]
theorem IntRow.below {base : Nat} {w w' : World} {v : Value} {zs : List Int} (h : IntRow base w v zs) (hb : Below w.heap.size w w') : IntRow base w' v zs :=
  h.kept ⟨hb.os, hb.tape, hb.output, hb.size, fun j hj _ => hb.block j hj⟩ (row := none) (by
    rcases h.2 with ⟨rfl, _⟩ | ⟨g, cap, cur, rfl, _⟩
    · exact .inl rfl
    · exact .inr (by simp [Value.ownBlock]))
theorem IntRow.mono {b1 b2 : Nat} {w : World} {v : Value} {zs : List Int} (h : IntRow b1 w v zs) (hb : b2 ≤ b1) : IntRow b2 w v zs := ownsRow_base h hb

set_option maxRecDepth 100000 in
set_option maxHeartbeats 1000000 in
theorem eqIntS_yes (b1 b2 : Nat) (v1 v2 : Value) (zs : List Int) (w : World) (h1 : IntRow b1 w v1 zs) (h2 : IntRow b2 w v2 zs) :
    Calls Try.prog 35 #[v1, v2] w fun e w' => e = .returned (.bool true) ∧ Below w.heap.size w w' := by
  obtain ⟨a1, g1, c1, rfl, hs1, hm, hc1⟩ := h1.shape
  obtain ⟨a2, g2, c2, rfl, hs2, _, hc2⟩ := h2.shape
  obtain ⟨n, hn⟩ : ∃ n, zs.length = n := ⟨_, rfl⟩
  rw [hn] at hs1 hs2 hm ⊢
  have HC1 := Lib.hid hc1
  have HC2 := Lib.hid hc2
  have HS1 := Lib.hid hs1
  have HS2 := Lib.hid hs2
  have HN := Lib.hid hn
  clear hc1 hc2 hs1 hs2 hn h1 h2
  unfold maxLen at hm
  go_enter Try.func35, Try.ntmps35
  go_wp2
  go_loopw [5] (fun i wr => ∃ k : Nat, k ≤ n ∧ i = .int .i64 k ∧ Below w.heap.size w wr) (fun i _ => n - (intOf i).toNat)
  case atStart => exact ⟨0, Nat.zero_le _, rfl, Below.refl _ _⟩
  case round =>
    obtain ⟨k, hk, rfl, hB⟩ := hrel
    by_cases hlt : k < n
    · obtain ⟨rfl, _, hg1⟩ := HS1.out (by omega)
      obtain ⟨rfl, _, hg2⟩ := HS2.out (by omega)
      have hkz : k < zs.length := by rw [HN.out]; exact hlt
      obtain ⟨z, hz⟩ : ∃ z, zs[k] = z := ⟨_, rfl⟩
      have d1 : wr.cell? ⟨g1, k, none⟩ = some (.int .i64 z) := by rw [← hz]; exact (hB.cell (p := ⟨g1, k, none⟩) hg1).trans (HC1.out k hkz).1
      have d2 : wr.cell? ⟨g2, k, none⟩ = some (.int .i64 z) := by rw [← hz]; exact (hB.cell (p := ⟨g2, k, none⟩) hg2).trans (HC2.out k hkz).1
      clear hz hkz
      go_wp2
      go_quiet (fail)
      go_wp2
      go_roundw
      case rel => exact ⟨k + 1, by omega, by go_num, below_drewN hB _⟩
      case measure => simp [intOf]; omega
    · go_wp2
      go_ret
      exact ⟨rfl, hB⟩

/-- The marks k, k + 1, .. -/
def marks (k n : Nat) : List Int := (List.range n).map fun i => ((k + i : Nat) : Int)
theorem marks_succ (k j : Nat) : marks k (j + 1) = marks k j ++ [((k + j : Nat) : Int)] := by simp [marks, List.range_succ]
theorem marks_len (k n : Nat) : (marks k n).length = n := by simp [marks]

set_option maxRecDepth 100000 in
set_option maxHeartbeats 1000000 in
theorem markIntS_any (base : Nat) (v : Value) (zs : List Int) (k : Nat) (w : World) (h : IntRow base w v zs) (hk : k ≤ 1000000000000) (hn2 : zs.length ≤ 1000000000000) :
    Calls Try.prog 36 #[v, .int .i64 k] w fun e w' => e = .returned (.int .i64 ((k + zs.length : Nat) : Int)) ∧ IntRow base w' v (marks k zs.length) ∧ w.grownBy w' v.ownBlock := by
  by_cases h0 : zs.length = 0
  · obtain ⟨a1, g1, c1, rfl, hs1, hm, hc1⟩ := h.shape
    rw [h0] at h ⊢
    have H := Lib.hid h
    clear h hc1 hs1 hm
    go_enter Try.func36, Try.ntmps36
    go_wp2
    go_loopw [1, 5] (fun q i wr => q = .int .i64 k ∧ i = .int .i64 0 ∧ w = wr) (fun _ _ _ => 0)
    case atStart => exact ⟨rfl, rfl, rfl⟩
    case round =>
      obtain ⟨rfl, rfl, rfl⟩ := hrel
      go_wp2
      go_ret
      refine ⟨by simp, ?_, World.grownBy.refl _ _⟩
      have hz : zs = [] := List.length_eq_zero_iff.1 h0
      have := H.out
      subst hz
      exact this
  · obtain ⟨n, hn⟩ : ∃ n, zs.length = n := ⟨_, rfl⟩
    rcases h.2 with ⟨rfl, h0'⟩ | ⟨g, cap, cur, rfl, hb, hg, hnc, hcm, _⟩
    · exact absurd h0' h0
    rw [hn] at h0 hn2 hnc ⊢
    have h' : w.ownsRow base 3 1 (.slice (some ⟨g, 0, none⟩) n cap) n (intsV (marks k 0 ++ zs.drop 0)) := by
      have := h; unfold IntRow at this; rw [hn] at this; simpa [marks] using this
    have HN := Lib.hid hn
    clear h hn hg
    unfold maxLen at hcm
    go_enter Try.func36, Try.ntmps36
    go_wp2
    go_loopw [1, 5] (fun q i wr => ∃ j : Nat, j ≤ n ∧ q = .int .i64 ((k + j : Nat) : Int) ∧ i = .int .i64 j ∧ wr.ownsRow base 3 1 (.slice (some ⟨g, 0, none⟩) n cap) n (intsV (marks k j ++ zs.drop j)) ∧ w.grownBy wr (some g)) (fun _ i _ => n - (intOf i).toNat)
    case atStart => exact ⟨0, Nat.zero_le _, by simp, rfl, h', World.grownBy.refl _ _⟩
    case round =>
      obtain ⟨j, hj, rfl, rfl, hr, hG⟩ := hrel
      by_cases hlt : j < n
      · have hjz : j < zs.length := by rw [HN.out]; exact hlt
        have hcl : wr.cell? ⟨g, j, none⟩ = some (.int .i64 zs[j]) := by
          rw [hr.cellAt j (by omega)]
          simp only [intsV, List.getElem?_map]
          rw [List.getElem?_append_right (by rw [marks_len]; exact Nat.le_refl _), marks_len, Nat.sub_self, List.getElem?_drop, Nat.add_zero, List.getElem?_eq_getElem hjz]
          rfl
        have hfr := hr.frozenAt j
        have HR := Lib.hid hr
        have HG := Lib.hid hG
        clear hr hG
        go_wp2
        go_roundw
        case rel =>
          have hst := HR.out.stored j (.int .i64 ((k + j : Nat) : Int))
          refine ⟨j + 1, by omega, by go_num, by go_num, ?_, HG.out.trans hst.2⟩
          have e : (intsV (marks k j ++ zs.drop j)).set j (.int .i64 ((k + j : Nat) : Int)) = intsV (marks k (j + 1) ++ zs.drop (j + 1)) := by
            unfold intsV
            rw [List.map_append, List.set_append_right _ _ (by simp [marks_len]), List.length_map, marks_len, Nat.sub_self, List.drop_eq_getElem_cons hjz, List.map_cons, List.set_cons_zero, marks_succ, List.map_append, List.map_append, List.append_assoc]
            rfl
          rw [← e]
          exact hst.1
        case measure => simp [intOf]; omega
      · obtain rfl : j = n := by omega
        rw [List.drop_of_length_le (by rw [HN.out]; exact Nat.le_refl _), List.append_nil] at hr
        have HR := Lib.hid hr
        have HG := Lib.hid hG
        clear hr hG h'
        go_wp2
        go_ret
        refine ⟨rfl, ?_, HG.out⟩
        unfold IntRow
        rw [marks_len]
        exact HR.out

set_option maxRecDepth 100000 in
set_option maxHeartbeats 1000000 in
theorem heldIntS_any (base : Nat) (v : Value) (n k : Nat) (w : World) (h : IntRow base w v (marks k n)) (hk : k ≤ 1000000000000) (hn2 : n ≤ 1000000000000) :
    Calls Try.prog 37 #[v, .int .i64 k] w fun e w' => e = .returned (.int .i64 ((k + n : Nat) : Int)) ∧ w = w' := by
  obtain ⟨a, g, cap, rfl, hs, hm, hc⟩ := h.shape
  simp only [marks_len] at hs hc ⊢
  have HC := Lib.hid hc
  have HS := Lib.hid hs
  clear hc hs hm h
  go_enter Try.func37, Try.ntmps37
  go_wp2
  go_loop [1, 5] (fun q i => ∃ j : Nat, j ≤ n ∧ q = .int .i64 ((k + j : Nat) : Int) ∧ i = .int .i64 j) (fun _ i => n - (intOf i).toNat)
  case atStart => exact ⟨0, Nat.zero_le _, by simp, rfl⟩
  case round =>
    obtain ⟨j, hj, rfl, rfl⟩ := hrel
    by_cases hlt : j < n
    · obtain ⟨rfl, _, hg⟩ := HS.out (by omega)
      have hcl : w.cell? ⟨g, j, none⟩ = some (.int .i64 ((k + j : Nat) : Int)) := by
        have := (HC.out j hlt).1
        simpa [marks] using this
      go_wp2
      go_round
      case rel => exact ⟨j + 1, by omega, by go_num, by go_num⟩
      case measure => simp [intOf]; omega
    · obtain rfl : j = n := by omega
      go_wp2
      go_ret
      exact ⟨rfl, rfl⟩

end Go.Proofs.Ytaaeiogdhmiaaaa

/- The contract of the program's 'WordSums'. -/

namespace Go.Proofs.Ytaaeiogdhmiaaaa
open Go.RowKit Go.Shelf

attribute [local go_sem] Oper.semAt_some

theorem idx_tab : ((List.range 256).all fun n => !(decide ((97 ≤ n ∧ n ≤ 100) ∨ (65 ≤ n ∧ n ≤ 68))) || (decide (bits BinOp.or IntKind.u8 (n : Int) 32 = ((if 97 ≤ n then n - 97 else n - 65 : Nat) : Int) + 97) && decide (bits BinOp.and IntKind.u8 (n : Int) 32 = if 97 ≤ n then 32 else 0))) = true := by kernel_rfl
theorem idx_let (c : UInt8) (h : letB c = true) : bits BinOp.or IntKind.u8 (c.toNat : Int) 32 = (idxB c : Int) + 97 ∧ bits BinOp.and IntKind.u8 (c.toNat : Int) 32 = if 97 ≤ c.toNat then 32 else 0 := by
  have := List.all_eq_true.1 idx_tab c.toNat (List.mem_range.2 c.toNat_lt)
  simp only [Bool.or_eq_true, Bool.and_eq_true, Bool.not_eq_true', decide_eq_false_iff_not, decide_eq_true_eq] at this
  exact this.resolve_left (fun h2 => h2 ((letB_iff c).1 h))

theorem iIndex_any (c : UInt8) (w : World) (h : letB c = true) :
    Calls Try.prog 107 #[.int .u8 (c.toNat : Int)] w fun e w' => e = .returned (.int .i64 (idxB c : Int)) ∧ w' = w := by
  have hb := (idx_let c h).1
  have hj := idxB_lt c h
  obtain ⟨j, hje⟩ : ∃ j, idxB c = j := ⟨_, rfl⟩
  rw [hje] at hb hj ⊢
  clear hje h
  go_enter Try.func107, Try.ntmps107
  go_wp2
  go_ret
  exact ⟨rfl, rfl⟩

theorem iSign_any (c : UInt8) (w : World) (h : letB c = true) :
    Calls Try.prog 83 #[.int .u8 (c.toNat : Int)] w fun e w' => e = .returned (.int .i64 (sgnB c)) ∧ w' = w := by
  have hb := (idx_let c h).2
  by_cases h97 : 97 ≤ c.toNat
  · rw [if_pos h97] at hb
    have hs : Hid (sgnB c = 1) := by unfold sgnB; rw [if_pos h97]; exact Lib.hid rfl
    clear h h97
    go_enter Try.func83, Try.ntmps83
    go_wp2
    go_ret
    exact ⟨ret_int hs.out.symm, rfl⟩
  · rw [if_neg h97] at hb
    have hs : Hid (sgnB c = -1) := by unfold sgnB; rw [if_neg h97]; exact Lib.hid rfl
    clear h h97
    go_enter Try.func83, Try.ntmps83
    go_wp2
    go_ret
    exact ⟨ret_int hs.out.symm, rfl⟩

set_option maxRecDepth 100000 in
set_option maxHeartbeats 2000000 in
theorem iSums_in (n : Nat) (hn : 40 ≤ n) (g0 cap0 : Nat) (s : ByteArray) (w : World) (h : wordB s.data.toList = true) (hw : IsWord w.heap.size w (.slice (some ⟨g0, 0, none⟩) s.size cap0) s.data.toList) :
    CallsIn Fence.wide n Try.prog 125 #[.slice (some ⟨g0, 0, none⟩) s.size cap0] w fun e w' => e = .returned (.slice (some ⟨w.heap.size, 0, none⟩) 4 4) ∧ IntRow w.heap.size w' (.slice (some ⟨w.heap.size, 0, none⟩) 4 4) (sumsL s.data.toList) ∧ Below w.heap.size w w' := by
  obtain ⟨h1, h2, _⟩ := (wordB_iff _).1 h
  have hs : s.size ≤ 60 := by simpa using h1
  have H2 := Lib.hid h2
  have HW0 := Lib.hid hw
  clear h h1 h2 hw
  have hmk : ∀ w, (Instr.makeSlice 37 (.int .i64 4) (.int .i64 4)).run Try.prog w = .ok (.slice (some ⟨w.heap.size, 0, none⟩) 4 4) (w.alloc (.cells #[.int .i64 0, .int .i64 0, .int .i64 0, .int .i64 0] 3)) := fun _ => by kernel_rfl
  refine callsIn_of_wp_marks Try.func125 rfl trivial ?_ rfl
  simp only [Try.ntmps125, List.size_toArray, List.length_cons, List.length_nil, Nat.reduceAdd, Nat.reduceSub, Array.replicate_succ, Array.replicate_zero, List.push_toArray, List.append_toArray, List.nil_append, List.cons_append]
  gi_wp2_with fail
  refine ⟨trivial, fun _ => by omega, ?_⟩
  refine (callsIn_wide.2 (letters_fwd _ _ _ 1 _ (by decide))).mono ?_
  rintro e w2 ⟨rfl, rfl⟩
  have hrow : (w.alloc (.cells #[.int .i64 0, .int .i64 0, .int .i64 0, .int .i64 0] 3)).ownsRow w.heap.size 3 1 (.slice (some ⟨w.heap.size, 0, none⟩) 4 4) 4 (intsV (sumsL [])) :=
    ⟨rfl, .inr ⟨_, 4, #[.int .i64 0, .int .i64 0, .int .i64 0, .int .i64 0], rfl, Nat.le_refl _, heap_alloc_new w _, Nat.le_refl _, by decide, rfl, rfl⟩⟩
  have hrow2 := (hrow.alloc (.cells #[.slice (some ⟨w.heap.size, 0, none⟩) 4 4] 37)).alloc (.cells #[.slice (some ⟨g0, 0, none⟩) s.size cap0] WT)
  have hbx := (Boxed.new (w.alloc (.cells #[.int .i64 0, .int .i64 0, .int .i64 0, .int .i64 0] 3)) 37 (.slice (some ⟨w.heap.size, 0, none⟩) 4 4)).alloc (.cells #[.slice (some ⟨g0, 0, none⟩) s.size cap0] WT)
  have hbi := Boxed.new ((w.alloc (.cells #[.int .i64 0, .int .i64 0, .int .i64 0, .int .i64 0] 3)).alloc (.cells #[.slice (some ⟨w.heap.size, 0, none⟩) 4 4] 37)) WT (.slice (some ⟨g0, 0, none⟩) s.size cap0)
  have hBv : Below w.heap.size w (((w.alloc (.cells #[.int .i64 0, .int .i64 0, .int .i64 0, .int .i64 0] 3)).alloc (.cells #[.slice (some ⟨w.heap.size, 0, none⟩) 4 4] 37)).alloc (.cells #[.slice (some ⟨g0, 0, none⟩) s.size cap0] WT)) := (((Below.refl _ w).alloc (Nat.le_refl _) _).alloc (by simp) _).alloc (by simp; omega) _
  have hsz : (((w.alloc (.cells #[.int .i64 0, .int .i64 0, .int .i64 0, .int .i64 0] 3)).alloc (.cells #[.slice (some ⟨w.heap.size, 0, none⟩) 4 4] 37)).alloc (.cells #[.slice (some ⟨g0, 0, none⟩) s.size cap0] WT)).heap.size = w.heap.size + 3 := by simp
  simp only [World.size_alloc] at hbx hbi ⊢
  generalize (((w.alloc (.cells #[.int .i64 0, .int .i64 0, .int .i64 0, .int .i64 0] 3)).alloc (.cells #[.slice (some ⟨w.heap.size, 0, none⟩) 4 4] 37)).alloc (.cells #[.slice (some ⟨g0, 0, none⟩) s.size cap0] WT)) = V at hrow2 hbx hbi hBv hsz ⊢
  have hwV : IsWord w.heap.size V (.slice (some ⟨g0, 0, none⟩) s.size cap0) s.data.toList := HW0.out.below hBv
  have HBI := Lib.hid hbi
  have HBX := Lib.hid hbx
  have HR2 := Lib.hid hrow2
  have HWV := Lib.hid hwV
  clear hrow hrow2 hbx hbi hwV hmk
  gi_wp2_with fail
  refine range_letters (by omega) (gf := 139) (lb := #[.pointer (some ⟨w.heap.size + 1 + 1, 0, none⟩)]) rfl (enters_of Try.func139 (by kernel_rfl) rfl)
    (n₀ := w.heap.size) (B := w.heap.size) (xs := s.data.toList) (values_seq s.data.toList _ V (w.heap.size + 1 + 1) w.heap.size (by omega) (by omega) HBI.out.cell HWV.out) (by omega) (Nat.le_refl _) (by omega)
    (fun pre X => (∃ v, Boxed X (w.heap.size + 1) 37 v ∧ X.ownsRow w.heap.size 3 1 v 4 (intsV (sumsL pre)) ∧ v = .slice (some ⟨w.heap.size, 0, none⟩) 4 4) ∧ Below w.heap.size w X)
    (OwnFrom.and (Own.from (holdsRow_own w.heap.size (w.heap.size + 1) 37 3 1 (fun _ => 4) (fun pre => intsV (sumsL pre)) (fun _ v => v = .slice (some ⟨w.heap.size, 0, none⟩) 4 4)) _) (ownFrom_below (Nat.le_refl _) (by omega)))
    ⟨⟨_, HBX.out, HR2.out, rfl⟩, hBv⟩
    (fun x => { tmps := #[.slice (some ⟨g0, 0, none⟩) s.size cap0, undef, .slice none 0 0, .pointer (some ⟨w.heap.size + 1, 0, none⟩), .int .u8 (x.toNat : Int), .slice (some ⟨w.heap.size, 0, none⟩) 4 4, .slice (some ⟨g0, 0, none⟩) s.size cap0, .func (.func 139) #[] #[.pointer (some ⟨w.heap.size + 1 + 1, 0, none⟩)], .int .u8 (x.toNat : Int), undef, undef, undef, undef, undef, undef, undef, undef, undef, undef], defers := [] }) ?assign ?body ?done
  case assign =>
    intro l x W K hK
    gi_wp2
    exact hK
  case body =>
    rintro l pre x X ⟨⟨v, hbx, hrow, rfl⟩, hB⟩ hpre
    have hlet : letB x = true := List.all_eq_true.1 H2.out x (prefix_mem hpre)
    have hlp : letL pre = true := letL_of_mem _ _ H2.out (fun c hc => hpre.subset (by simp [hc]))
    have hplen := prefix_len hpre
    rw [show s.data.toList.length = s.size by simp] at hplen
    obtain ⟨hz4, hzb⟩ := sumsL_inv _ hlp
    obtain ⟨j, hj⟩ : ∃ j, idxB x = j := ⟨_, rfl⟩
    have hj4 : j < 4 := by rw [← hj]; exact idxB_lt _ hlet
    obtain ⟨z, hz⟩ : ∃ z, (sumsL pre)[j]'(by omega) = z := ⟨_, rfl⟩
    have hzm := hzb z (by rw [← hz]; exact List.getElem_mem _)
    have hz1' : -(1048576 : Int) ≤ z := by omega
    have hz2' : z ≤ 1048576 := by omega
    have hcl : X.cell? ⟨w.heap.size, j, none⟩ = some (.int .i64 z) := by
      rw [hrow.cellAt j (by omega), ← hz]
      simp [intsV, hz4, hj4]
    have hfr := hrow.frozenAt j
    have hj4' : (j : Int) < 4 := by omega
    have hbc := hbx.cell
    have hstep : (intsV (sumsL pre)).set j (.int .i64 (z + sgnB x)) = intsV (sumsL (pre ++ [x])) := by
      rw [sumsL_snoc]
      unfold sumsStep intsV
      rw [hj, List.getElem?_eq_getElem (by omega), Option.getD_some, hz, List.map_set]
    have hsg : -1 ≤ sgnB x ∧ sgnB x ≤ 1 := by unfold sgnB; split <;> omega
    obtain ⟨u, hu⟩ : ∃ u, sgnB x = u := ⟨_, rfl⟩
    rw [hu] at hstep hsg
    obtain ⟨hu1, hu2⟩ := hsg
    have HST := Lib.hid hstep
    have HLet := Lib.hid hlet
    have HJ := Lib.hid hj
    have HU := Lib.hid hu
    have HR := Lib.hid hrow
    have HBX' := Lib.hid hbx
    have hd : 1 ≤ n - 1 - 1 := by omega
    have hmx : Try.prog.follows .mixedOrders = true := by kernel_rfl
    have hix : ∀ W, Calls Try.prog 107 #[.int .u8 (x.toNat : Int)] W fun e w' => e = .returned (.int .i64 (j : Int)) ∧ w' = W := fun W => by rw [← hj]; exact iIndex_any x W hlet
    have hsx : ∀ W, Calls Try.prog 83 #[.int .u8 (x.toNat : Int)] W fun e w' => e = .returned (.int .i64 u) ∧ w' = W := fun W => by rw [← hu]; exact iSign_any x W hlet
    have HIX := Lib.hid hix
    have HSX := Lib.hid hsx
    clear hstep hlet hlp hz4 hzb hz hzm hrow hj hu hbx hpre hplen hix hsx
    gi_wp2
    gi_region_with_o (first | (refine ⟨trivial, ?_⟩; gi_at_call 107; refine (CallsIn.inRound l (callsIn_wide.2 (HIX.out _))).mono ?_; rintro e w' ⟨rfl, rfl⟩) | (refine ⟨trivial, ?_⟩; gi_at_call 83; refine (CallsIn.inRound l (callsIn_wide.2 (HSX.out _))).mono ?_; rintro e w' ⟨rfl, rfl⟩))
    all_goals gi_wp2
    all_goals
      have hwrap : IntKind.i64.wrap (z + u) = z + u := IntWalk.i64_in _ (by omega)
      rw [hwrap]
      have hst := HR.out.stored j (.int .i64 (z + u))
      rw [HST.out] at hst
      have hko : KeepsOthers X (X.setCell ⟨w.heap.size, j, none⟩ (.int .i64 (z + u))).drew := (KeepsOthers.setCell _ _ _).trans (KeepsOthers.drew _)
      exact ⟨hko.from _, ⟨((Below.refl _ X).setCell (p := ⟨w.heap.size, j, none⟩) (Nat.le_refl _) _).drew, fun k cs t r hk _ hkB => (Below.heap_setCell _ _ _ k hkB).trans hk, hko.from _⟩,
        ⟨_, (Below.heap_setCell X ⟨w.heap.size, j, none⟩ _ (w.heap.size + 1) (by show w.heap.size + 1 ≠ w.heap.size; omega)).trans HBX'.out, hst.1, rfl⟩, (hB.setCell (p := ⟨w.heap.size, j, none⟩) (Nat.le_refl _) _).drew⟩
  case done =>
    rintro D X hD ⟨⟨v, hbx, hrow, rfl⟩, hB⟩ hK
    have hbc := hbx.cell
    have HR := Lib.hid hrow
    clear hrow hbx
    gi_wp2
    refine ⟨by simp, .inl ⟨_, _, rfl, run_takeDeferred hK, ?_⟩⟩
    refine ⟨.slice (some ⟨w.heap.size, 0, none⟩) 4 4, by simp [results, Try.f125, go_sem], rfl, ?_, hB.trans (belowK_b (w := w) (Nat.le_refl _) X D _ _ (by omega) hK rfl rfl)⟩
    have := ownsRow_putObj HR.out (.deferred none) hK rfl
    unfold IntRow
    rw [(sumsL_inv _ H2.out).1]
    exact this

theorem iSums_any (g0 cap0 : Nat) (s : ByteArray) (w : World) (h : wordB s.data.toList = true) (hw : IsWord w.heap.size w (.slice (some ⟨g0, 0, none⟩) s.size cap0) s.data.toList) :
    Calls Try.prog 125 #[.slice (some ⟨g0, 0, none⟩) s.size cap0] w fun e w' => e = .returned (.slice (some ⟨w.heap.size, 0, none⟩) 4 4) ∧ IntRow w.heap.size w' (.slice (some ⟨w.heap.size, 0, none⟩) 4 4) (sumsL s.data.toList) ∧ Below w.heap.size w w' :=
  (callsIn_wide (n := 50)).1 (iSums_in 50 (by omega) g0 cap0 s w h hw)

end Go.Proofs.Ytaaeiogdhmiaaaa

/- The contracts of the program's 'WordTimes' and 'WordComm'. -/

namespace Go.Proofs.Ytaaeiogdhmiaaaa
open Go.RowKit Go.Shelf

/-- Two words out of a list of two texts. -/
theorem wordsOf_two (a b : ByteArray) (w : World) (ha : wordB a.data.toList = true) (hb : wordB b.data.toList = true) :
    Calls Try.prog 123 #[.slice (some ⟨w.heap.size, 0, none⟩) 2 2] (w.alloc (.cells #[.string a, .string b] 9)) fun e w' =>
      ∃ g ga ca gb cb, e = .returned (.tuple #[.slice (some ⟨g, 0, none⟩) 2 2, .bool true]) ∧ w'.cell? ⟨g, 0, none⟩ = some (.slice (some ⟨ga, 0, none⟩) a.size ca) ∧ w'.cell? ⟨g, 1, none⟩ = some (.slice (some ⟨gb, 0, none⟩) b.size cb) ∧ g < w'.heap.size ∧
        Hid (IsWord w'.heap.size w' (.slice (some ⟨ga, 0, none⟩) a.size ca) a.data.toList) ∧ Hid (IsWord w'.heap.size w' (.slice (some ⟨gb, 0, none⟩) b.size cb) b.data.toList) ∧ Below w.heap.size w w' := by
  have hs : a.size ≤ 60 := by have := ((wordB_iff _).1 ha).1; simpa using this
  have hs2 : b.size ≤ 60 := by have := ((wordB_iff _).1 hb).1; simpa using this
  have hcells := cell_two_new w (.string a) (.string b) 9
  refine (wordsOf_any (some ⟨w.heap.size, 0, none⟩) w.heap.size 0 2 2 [a, b] _ rfl (by omega) (fun _ => rfl) (by simp) ?_ ?_).mono ?_
  · intro i h
    have hi : i = 0 ∨ i = 1 := by simp at h; omega
    rcases hi with rfl | rfl
    · exact hcells 0 (.string a) rfl
    · exact hcells 1 (.string b) rfl
  · intro s h
    unfold maxLen
    rcases List.mem_cons.1 h with rfl | h
    · omega
    · obtain rfl := List.mem_singleton.1 h; omega
  · rintro e w' ⟨⟨_, s, h, hf⟩ | ⟨g, vals, rfl, _, hown, hv⟩, hB⟩
    · rcases List.mem_cons.1 h with rfl | h
      · rw [ha] at hf; cases hf
      · obtain rfl := List.mem_singleton.1 h; rw [hb] at hf; cases hf
    · have hl := hown.1
      match vals, hl with
      | [v0, v1], _ =>
        have h0 := hv 0 (by simp) v0 rfl
        have h1 := hv 1 (by simp) v1 rfl
        obtain ⟨ga, ca, e0⟩ := h0.slice
        obtain ⟨gb, cb, e1⟩ := h1.slice
        have i0 := h0.isWord
        have i1 := h1.isWord
        subst e0 e1
        refine ⟨g, ga, ca, gb, cb, rfl, ?_, ?_, (ownsRow_cap hown).2.2.2, ?_, ?_, ((Below.refl _ w).alloc (Nat.le_refl _) _).trans (hB.mono (by simp))⟩
        · rw [hown.cellAt 0 (by omega)]; simp
        · rw [hown.cellAt 1 (by omega)]; simp
        · have := i0; simp at this; exact this
        · have := i1; simp at this; exact this

theorem wordsOf_two_no (a b : ByteArray) (w : World) (hma : a.size ≤ maxLen) (hmb : b.size ≤ maxLen) (h : ¬ (wordB a.data.toList = true ∧ wordB b.data.toList = true)) :
    Calls Try.prog 123 #[.slice (some ⟨w.heap.size, 0, none⟩) 2 2] (w.alloc (.cells #[.string a, .string b] 9)) fun e w' =>
      e = .returned (.tuple #[.slice none 0 0, .bool false]) ∧ Below w.heap.size w w' := by
  have hcells := cell_two_new w (.string a) (.string b) 9
  refine (wordsOf_any (some ⟨w.heap.size, 0, none⟩) w.heap.size 0 2 2 [a, b] _ rfl (by omega) (fun _ => rfl) (by simp) ?_ ?_).mono ?_
  · intro i h
    have hi : i = 0 ∨ i = 1 := by simp at h; omega
    rcases hi with rfl | rfl
    · exact hcells 0 (.string a) rfl
    · exact hcells 1 (.string b) rfl
  · intro s h
    rcases List.mem_cons.1 h with rfl | h
    · exact hma
    · obtain rfl := List.mem_singleton.1 h; exact hmb
  · rintro e w' ⟨⟨he, _⟩ | ⟨g, vals, rfl, hall, _⟩, hB⟩
    · exact ⟨he, ((Below.refl _ w).alloc (Nat.le_refl _) _).trans (hB.mono (by simp))⟩
    · exact absurd ⟨hall a (by simp), hall b (by simp)⟩ h

/-- A word in a box, and the function that gives letters out of it. -/
structure Item where
  gf : Nat
  sv : Value
  L : List UInt8
  xs : List UInt8
def Gives (it : Item) : Prop :=
  (∀ (W : World) (Bs n₀ : Nat), Bs < n₀ → n₀ ≤ W.heap.size → W.cell? ⟨Bs, 0, none⟩ = some it.sv → IsWord n₀ W it.sv it.L → SeqO n₀ W it.gf #[.pointer (some ⟨Bs, 0, none⟩)] it.xs) ∧
  ∀ args w, (callFunc it.gf args).run Try.prog w = .ok (.enter it.gf args) w
theorem gives_fwd (sv : Value) (L : List UInt8) : Gives ⟨139, sv, L, L⟩ :=
  ⟨fun W Bs n₀ h1 h2 h3 h4 => values_seq L sv W Bs n₀ (by omega) h2 h3 h4, enters_of Try.func139 (by kernel_rfl) rfl⟩
theorem gives_bwd (sv : Value) (L : List UInt8) : Gives ⟨137, sv, L, L.reverse.map invB⟩ :=
  ⟨fun W Bs n₀ h1 h2 h3 h4 => turned_seq L sv W Bs n₀ h1 h2 h3 h4, enters_of Try.func137 (by kernel_rfl) rfl⟩

def boxes : World → List Item → World
  | w, [] => w
  | w, it :: r => boxes (w.alloc (.cells #[it.sv] WT)) r
def funcs : Nat → List Item → List Value
  | _, [] => []
  | k, it :: r => .func (.func it.gf) #[] #[.pointer (some ⟨k, 0, none⟩)] :: funcs (k + 1) r
def partsOf : Nat → List Item → List Part
  | _, [] => []
  | k, it :: r => ⟨it.gf, #[.pointer (some ⟨k, 0, none⟩)], it.xs⟩ :: partsOf (k + 1) r
theorem boxes_size : ∀ (its : List Item) (w : World), (boxes w its).heap.size = w.heap.size + its.length
  | [], _ => rfl
  | it :: r, w => by rw [boxes, boxes_size r]; simp; omega
theorem boxes_below : ∀ (its : List Item) (w : World), Below w.heap.size w (boxes w its)
  | [], w => Below.refl _ _
  | it :: r, w => ((Below.refl _ w).alloc (Nat.le_refl _) _).trans ((boxes_below r _).mono (by simp))
theorem partsOf_len : ∀ (its : List Item) (k : Nat), (partsOf k its).length = its.length
  | [], _ => rfl
  | it :: r, k => by simp [partsOf, partsOf_len r]
theorem funcs_get : ∀ (its : List Item) (k i : Nat) (h : i < (partsOf k its).length), (funcs k its)[i]? = some (.func (.func (partsOf k its)[i].gf) #[] (partsOf k its)[i].lb)
  | [], _, _, h => by simp [partsOf] at h
  | it :: r, k, 0, _ => rfl
  | it :: r, k, i + 1, h => by
    simp only [partsOf, List.length_cons] at h
    simpa [partsOf, funcs] using funcs_get r (k + 1) i (by omega)
theorem parts_mem : ∀ (its : List Item) (w : World) (p : Part), p ∈ partsOf w.heap.size its → ∃ it ∈ its, ∃ B, p = ⟨it.gf, #[.pointer (some ⟨B, 0, none⟩)], it.xs⟩ ∧ B < (boxes w its).heap.size ∧ (boxes w its).cell? ⟨B, 0, none⟩ = some it.sv
  | [], _, _, h => by simp [partsOf] at h
  | it :: r, w, p, h => by
    rcases List.mem_cons.1 h with rfl | h
    · refine ⟨it, by simp, w.heap.size, rfl, by rw [boxes_size]; simp, ?_⟩
      exact ((boxes_below r (w.alloc (.cells #[it.sv] WT))).cell (p := ⟨w.heap.size, 0, none⟩) (by simp)).trans (Boxed.new w WT it.sv).cell
    · have h2 : p ∈ partsOf (w.alloc (.cells #[it.sv] WT)).heap.size r := by simpa using h
      obtain ⟨it2, hm, B, hp, hB, hc⟩ := parts_mem r _ p h2
      exact ⟨it2, by simp [hm], B, hp, hB, hc⟩
theorem cat_parts : ∀ (its : List Item) (k : Nat), cat (partsOf k its) = (its.map Item.xs).flatten
  | [], _ => rfl
  | it :: r, k => by
    have := cat_parts r (k + 1)
    simp only [cat] at this ⊢
    simp only [partsOf, List.map_cons, List.flatten_cons, this]
theorem cell_past {w : World} {p : Addr} {v : Value} (h : w.cell? p = some v) (o : Obj) : (w.alloc o).cell? p = some v := (World.cell?_alloc_lt w o p (World.block_lt_of_cell? w _ h)).trans h
theorem cell_drawn {w : World} {p : Addr} {v : Value} (h : w.cell? p = some v) : w.drew.cell? p = some v := h

/-- 'reduced' over boxed words. -/
theorem reduced_boxes (w : World) (its : List Item) (hG : ∀ it ∈ its, Gives it ∧ IsWord w.heap.size w it.sv it.L) (hl : (its.map Item.xs).flatten.length ≤ 100000000) (hn : its.length ≤ 1000000) :
    Calls Try.prog 104 #[.slice (some ⟨w.heap.size + its.length, 0, none⟩) its.length its.length] ((boxes w its).alloc (.cells (funcs w.heap.size its).toArray IT)).drew fun e w' =>
      ∃ g m cap', e = .returned (.slice (some ⟨g, 0, none⟩) m cap') ∧ (redX [] (its.map Item.xs).flatten).length = m ∧ w'.ownsRow w.heap.size 77 1 (.slice (some ⟨g, 0, none⟩) m cap') m (bytesV (redX [] (its.map Item.xs).flatten)) ∧ Below w.heap.size w w' := by
  have hbw := boxes_below its w
  have hsz := boxes_size its w
  have hbW : Below w.heap.size w ((boxes w its).alloc (.cells (funcs w.heap.size its).toArray IT)).drew := (hbw.alloc (by omega) _).drew
  have hr := reduced_in 20 (by omega) (some ⟨w.heap.size + its.length, 0, none⟩) (w.heap.size + its.length) 0 its.length (partsOf w.heap.size its) ((boxes w its).alloc (.cells (funcs w.heap.size its).toArray IT)).drew (fun _ => rfl)
    (by show _ < ((boxes w its).alloc (.cells (funcs w.heap.size its).toArray IT)).heap.size; simp; omega)
    (fun i h => by
      show ((boxes w its).alloc (.cells (funcs w.heap.size its).toArray IT)).cell? _ = _
      rw [World.cell?_alloc_at _ _ _ _ (by show _ = _; omega)]
      rw [Nat.zero_add, List.getElem?_toArray]
      exact funcs_get its _ i h)
    (fun p hp => by
      obtain ⟨it, hm, B, rfl, hB, hc⟩ := parts_mem its w p hp
      obtain ⟨hg, hw⟩ := hG it hm
      refine ⟨hg.1 _ B _ ?_ (Nat.le_refl _) (cell_drawn (cell_past hc _)) ((hw.below hbW).mono ?_), hg.2⟩
      · show B < ((boxes w its).alloc (.cells (funcs w.heap.size its).toArray IT)).heap.size; simp; omega
      · show _ ≤ ((boxes w its).alloc (.cells (funcs w.heap.size its).toArray IT)).heap.size; simp; omega)
    (by rw [cat_parts]; exact hl) (by rw [partsOf_len]; exact hn)
  rw [cat_parts, partsOf_len] at hr
  refine ((callsIn_wide (n := 20)).1 hr).mono ?_
  rintro e w' ⟨g, m, cap', rfl, hm, hown, hb⟩
  have hsW : w.heap.size ≤ ((boxes w its).alloc (.cells (funcs w.heap.size its).toArray IT)).drew.heap.size := hbW.size
  exact ⟨g, m, cap', rfl, hm, ownsRow_base hown hsW, hbW.trans (hb.mono hsW)⟩

end Go.Proofs.Ytaaeiogdhmiaaaa

/- The contracts of the model's sums of letters. -/

namespace Go.Proofs.Ytaaeiogdhmiaaaa
open Go.RowKit

theorem sIndex_any (c : UInt8) (w : World) (h : letB c = true) :
    Calls Try.prog 122 #[.int .u8 (c.toNat : Int)] w fun e w' => e = .returned (.int .i64 (idxB c : Int)) ∧ w = w' := by
  have hc := (letB_iff c).1 h
  clear h
  by_cases h97 : 97 ≤ c.toNat
  · have H : Hid ((idxB c : Int) = (c.toNat : Int) - 97) := Lib.hid (by unfold idxB; rw [if_pos h97]; omega)
    have h2 : c.toNat ≤ 100 := by omega
    clear hc
    go_enter Try.func122, Try.ntmps122
    go_wp2
    go_ret
    exact ⟨ret_int H.out.symm, rfl⟩
  · have H : Hid ((idxB c : Int) = (c.toNat : Int) - 65) := Lib.hid (by unfold idxB; rw [if_neg h97]; omega)
    have h2 : c.toNat ≤ 68 := by omega
    have h3 : 65 ≤ c.toNat := by omega
    clear hc
    go_enter Try.func122, Try.ntmps122
    go_wp2
    go_ret
    exact ⟨ret_int H.out.symm, rfl⟩

set_option maxRecDepth 100000 in
set_option maxHeartbeats 1000000 in
theorem sSums_any (s : ByteArray) (w : World) (hs : s.size ≤ 1048576) (hl : letL s.data.toList = true) :
    Calls Try.prog 94 #[.string s] w fun e w' => ∃ v, e = .returned v ∧ IntRow w.heap.size w' v (sumsL s.data.toList) ∧ Below w.heap.size w w' := by
  have HL := Lib.hid hl
  clear hl
  obtain ⟨i0, hi, hz0, hz1, hz2⟩ := info_parts infoInt
  go_enter Try.func94, Try.ntmps94
  go_wp2_with (at_make; refine wpList_make_full _ rfl _ _ 37 rfl w.heap.size 3 i0 (.int .i64 0) 1 Try.underlying37 hi hz0 hz1 .i64 .i64 _ _ 4 rfl rfl rfl rfl (by rw [hz2]; decide) (by unfold maxLen; decide) (Nat.le_refl _) ?_; intro w1 hrow hgrow)
  have hB1 : Below w.heap.size w w1 := (Below.refl _ _).grown hgrow (Nat.le_refl _) (fun k e => by cases e)
  have hrow0 : w1.ownsRow w.heap.size 3 1 (.slice (some ⟨w.heap.size, 0, none⟩) 4 4) 4 (intsV (sumsL (s.data.toList.take 0))) := by
    have e : (madeCells (Value.cells (.int .i64 0)) (4 * 1)).toList = intsV (sumsL (s.data.toList.take 0)) := by
      rw [show Value.cells (.int .i64 0) = #[.int .i64 0] from rfl, toList_madeCells_one]; rfl
    rw [← e]; exact hrow
  clear hrow hgrow
  go_loopw [4] (fun i wr => ∃ k : Nat, k ≤ s.size ∧ i = .int .i64 k ∧ wr.ownsRow w.heap.size 3 1 (.slice (some ⟨w.heap.size, 0, none⟩) 4 4) 4 (intsV (sumsL (s.data.toList.take k))) ∧ Below w.heap.size w wr)
    (fun i _ => s.size - (intOf i).toNat)
  case atStart => exact ⟨0, Nat.zero_le _, rfl, hrow0, hB1⟩
  case round =>
    obtain ⟨k, hk, rfl, hr, hB⟩ := hrel
    by_cases hlt : k < s.size
    · have hl : k < s.data.toList.length := by simpa using hlt
      have hlet : letB s[k] = true := letL_get _ HL.out k hl
      have hlk : letL (s.data.toList.take k) = true := letL_of_mem _ _ HL.out (fun _ h => List.mem_of_mem_take h)
      obtain ⟨hz4, hzb⟩ := sumsL_inv _ hlk
      obtain ⟨j, hj⟩ : ∃ j, idxB s[k] = j := ⟨_, rfl⟩
      have hj4 : j < 4 := by rw [← hj]; exact idxB_lt _ hlet
      obtain ⟨z, hz⟩ : ∃ z, (sumsL (s.data.toList.take k))[j]'(by omega) = z := ⟨_, rfl⟩
      have hzm := hzb z (by rw [← hz]; exact List.getElem_mem _)
      have htl : (s.data.toList.take k).length ≤ k := List.length_take_le _ _
      have hz1' : -(1048576 : Int) ≤ z := by omega
      have hz2' : z ≤ 1048576 := by omega
      have hcl : wr.cell? ⟨w.heap.size, j, none⟩ = some (.int .i64 z) := by
        rw [hr.cellAt j (by omega), ← hz]
        simp [intsV, hz4, hj4]
      have hfr := hr.frozenAt j
      have hstep : ∀ u : Int, u = z + sgnB s[k] → (intsV (sumsL (s.data.toList.take k))).set j (.int .i64 u) = intsV (sumsL (s.data.toList.take (k + 1))) := by
        intro u hu
        rw [take_snoc _ k hl, sumsL_snoc]
        unfold sumsStep intsV
        have e1 : s.data.toList[k] = s[k] := rfl
        rw [e1, hj, List.getElem?_eq_getElem (by omega), Option.getD_some, hz, ← hu, List.map_set]
      have HST := Lib.hid hstep
      have HLet := Lib.hid hlet
      have HJ := Lib.hid hj
      have HR := Lib.hid hr
      clear hstep hlet hlk hz4 hzb hz hzm htl hr hj
      by_cases h97 : 97 ≤ s[k].toNat
      · have HG : Hid (sgnB s[k] = 1) := by unfold sgnB; rw [if_pos h97]; exact Lib.hid rfl
        go_wp2_with fail
        refine (sIndex_any _ _ HLet.out).mono ?_
        rw [HJ.out]
        rintro e w2 ⟨rfl, rfl⟩
        go_wp2_with fail
        go_roundw
        case rel =>
          have hst := HR.out.stored j (.int .i64 (z + 1))
          refine ⟨k + 1, by omega, by go_num, ?_, hB.setCell (p := ⟨w.heap.size, j, none⟩) (Nat.le_refl _) _⟩
          rw [← HST.out (z + 1) (by rw [HG.out])]
          exact hst.1
        case measure => simp [intOf]; omega
      · have HG : Hid (sgnB s[k] = -1) := by unfold sgnB; rw [if_neg h97]; exact Lib.hid rfl
        go_wp2_with fail
        refine (sIndex_any _ _ HLet.out).mono ?_
        rw [HJ.out]
        rintro e w2 ⟨rfl, rfl⟩
        go_wp2_with fail
        go_roundw
        case rel =>
          have hst := HR.out.stored j (.int .i64 (z - 1))
          refine ⟨k + 1, by omega, by go_num, ?_, hB.setCell (p := ⟨w.heap.size, j, none⟩) (Nat.le_refl _) _⟩
          rw [← HST.out (z - 1) (by rw [HG.out]; omega)]
          exact hst.1
        case measure => simp [intOf]; omega
    · have HE : Hid (s.data.toList.take k = s.data.toList) := List.take_of_length_le (by simp; omega)
      have HR := Lib.hid hr
      clear hr
      go_wp2_with fail
      go_ret
      refine ⟨_, rfl, ?_, hB⟩
      have := HR.out
      rw [HE.out] at this
      unfold IntRow
      rw [(sumsL_inv _ HL.out).1]
      exact this

end Go.Proofs.Ytaaeiogdhmiaaaa

/- The contracts of the laws' own helpers on slices of strings: the size they take, a copy of them, are two equal. -/

namespace Go.Proofs.Ytaaeiogdhmiaaaa
open Go.RowKit

def strsV (zs : List ByteArray) : List Value := zs.map Value.string
theorem strsV_len (zs : List ByteArray) : (strsV zs).length = zs.length := by simp [strsV]
theorem infoStr : (Try.prog.info? 9).map (fun i => (i.zero, i.size, i.bytes)) = some (some (.string ByteArray.empty), 1, 16) := by kernel_rfl

theorem addr_add_block (x : Addr) (i : Nat) : (x.add i).block = x.block := by
  obtain ⟨b, off, sb⟩ := x
  unfold Addr.add
  split <;> rfl

/-- A slice at a whose first cells are the strings zs. -/
structure StrsAt (w : World) (a : Option Addr) (zs : List ByteArray) : Prop where
  cells : 0 < zs.length → ∃ x : Addr, a = some x ∧ x.block < w.heap.size ∧ ∀ i (h : i < zs.length), w.cell? (x.add i) = some (.string zs[i])
  small : ∀ s ∈ zs, s.size ≤ maxLen
theorem StrsAt.below {w w' : World} {a : Option Addr} {zs : List ByteArray} (h : StrsAt w a zs) (hb : Below w.heap.size w w') : StrsAt w' a zs :=
  ⟨fun h0 => by
    obtain ⟨x, e, h1, h2⟩ := h.cells h0
    exact ⟨x, e, Nat.lt_of_lt_of_le h1 hb.size, fun i hi => (hb.cell (p := x.add i) (by rw [addr_add_block]; exact h1)).trans (h2 i hi)⟩, h.small⟩

set_option maxRecDepth 100000 in
set_option maxHeartbeats 1000000 in
theorem szStringS_any (a : Option Addr) (cap n left : Nat) (zs : List ByteArray) (w : World) (hn : zs.length = n) (hm : n ≤ maxLen) (hs : StrsAt w a zs) (hl : left ≤ 1048576) :
    Calls Try.prog 93 #[.slice a n cap, .int .i64 left] w fun e w' =>
      (∃ k : Int, e = .returned (.int .i64 k) ∧ (k < 0 ∨ (0 ≤ k ∧ n ≤ left ∧ Hid (∀ s ∈ zs, s.size ≤ left)))) ∧ w = w' := by
  have HS := Lib.hid hs
  have HN := Lib.hid hn
  clear hs hn
  unfold maxLen at hm
  by_cases h0 : left < n
  · go_enter Try.func93, Try.ntmps93
    go_wp2
    go_ret
    exact ⟨⟨-1, rfl, .inl (by omega)⟩, rfl⟩
  · go_enter Try.func93, Try.ntmps93
    go_wp2
    go_loop [1, 5] (fun q i => ∃ (k : Nat) (m : Int), k ≤ n ∧ q = .int .i64 m ∧ i = .int .i64 k ∧ 0 ≤ m ∧ m ≤ left ∧ Hid (∀ j (h : j < zs.length), j < k → zs[j].size ≤ left)) (fun _ i => n - (intOf i).toNat)
    case atStart => exact ⟨0, _, Nat.zero_le _, rfl, rfl, by omega, by omega, Lib.hid (fun j _ h => absurd h (Nat.not_lt_zero _))⟩
    case round =>
      obtain ⟨k, m, hk, rfl, rfl, hm0, hm1, HJ⟩ := hrel
      by_cases hlt : k < n
      · have hkz : k < zs.length := by rw [HN.out]; exact hlt
        obtain ⟨x, rfl, hb, hc⟩ := HS.out.cells (by omega)
        obtain ⟨s, hs⟩ : ∃ s, zs[k] = s := ⟨_, rfl⟩
        have hck : w.cell? (x.add k) = some (.string s) := by rw [← hs]; exact hc k hkz
        have hsm : s.size ≤ maxLen := by rw [← hs]; exact HS.out.small _ (List.getElem_mem hkz)
        have HE := Lib.hid hs
        clear hs hc
        unfold maxLen at hsm
        by_cases hlt2 : m < s.size
        · go_wp2
          go_ret
          exact ⟨⟨_, rfl, .inl (by omega)⟩, rfl⟩
        · go_wp2
          go_round
          case rel =>
            refine ⟨k + 1, _, by omega, rfl, by go_num, by omega, by omega, Lib.hid ?_⟩
            intro j hj hjk
            by_cases e : j = k
            · subst e; rw [HE.out]; omega
            · exact HJ.out j hj (by omega)
          case measure => simp [intOf]; omega
      · obtain rfl : k = n := by omega
        go_wp2
        go_ret
        refine ⟨⟨_, rfl, .inr ⟨by omega, by omega, Lib.hid ?_⟩⟩, rfl⟩
        intro s hs
        obtain ⟨j, hj, rfl⟩ := List.mem_iff_getElem.1 hs
        exact HJ.out j hj (by rw [← HN.out]; exact hj)

theorem fillS_set (zs : List ByteArray) (n k : Nat) (hl : zs.length = n) (hk : k < n) :
    (strsV (zs.take k ++ List.replicate (n - k) ByteArray.empty)).set k (.string (zs[k]'(by omega))) = strsV (zs.take (k + 1) ++ List.replicate (n - (k + 1)) ByteArray.empty) := by
  unfold strsV
  rw [List.map_append, List.set_append_right _ _ (by simp; omega), List.length_map, List.length_take, Nat.min_eq_left (by omega), Nat.sub_self, List.take_succ_eq_append_getElem (by omega : k < zs.length), show n - k = (n - (k + 1)) + 1 by omega, List.replicate_succ, List.map_cons, List.set_cons_zero, List.map_append, List.map_append, List.append_assoc]
  rfl

set_option maxRecDepth 100000 in
set_option maxHeartbeats 1000000 in
theorem toStringS_any (a : Option Addr) (cap n : Nat) (zs : List ByteArray) (w : World) (hn : zs.length = n) (hm : n ≤ 1048576) (hs : StrsAt w a zs) :
    Calls Try.prog 95 #[.slice a n cap] w fun e w' =>
      e = .returned (.slice (some ⟨w.heap.size, 0, none⟩) n n) ∧ w'.ownsRow w.heap.size 9 1 (.slice (some ⟨w.heap.size, 0, none⟩) n n) n (strsV zs) ∧ Below w.heap.size w w' := by
  obtain ⟨i0, hi, hz0, hz1, hz2⟩ := info_parts infoStr
  have HS := Lib.hid hs
  have HN := Lib.hid hn
  clear hs hn
  go_enter Try.func95, Try.ntmps95
  go_wp2_with (at_make; refine wpList_make_full _ rfl _ _ 46 rfl w.heap.size 9 i0 (.string ByteArray.empty) 1 Try.underlying46 hi hz0 hz1 .i64 .i64 _ _ n rfl rfl rfl rfl (by rw [hz2]; omega) (by unfold maxLen; omega) (Nat.le_refl _) ?_; intro w1 hrow hgrow)
  rw [show (madeCells (Value.cells (.string ByteArray.empty)) (n * 1)).toList = strsV (zs.take 0 ++ List.replicate (n - 0) ByteArray.empty) by
    rw [show Value.cells (.string ByteArray.empty) = #[.string ByteArray.empty] from rfl, toList_madeCells_one]; simp [strsV]] at hrow
  have hB1 : Below w.heap.size w w1 := (Below.refl _ _).grown hgrow (Nat.le_refl _) (fun k e => by cases e)
  go_loopw [4] (fun i wr => ∃ k : Nat, k ≤ n ∧ i = .int .i64 k ∧ wr.ownsRow w.heap.size 9 1 (.slice (some ⟨w.heap.size, 0, none⟩) n n) n (strsV (zs.take k ++ List.replicate (n - k) ByteArray.empty)) ∧ Below w.heap.size w wr)
    (fun i _ => n - (intOf i).toNat)
  case atStart => exact ⟨0, Nat.zero_le _, rfl, hrow, hB1⟩
  case round =>
    obtain ⟨k, hk, rfl, hr, hB⟩ := hrel
    by_cases hlt : k < n
    · have hkz : k < zs.length := by rw [HN.out]; exact hlt
      obtain ⟨x, rfl, hb, hc⟩ := HS.out.cells (by omega)
      obtain ⟨s, hs⟩ : ∃ s, zs[k] = s := ⟨_, rfl⟩
      have hsrc : wr.cell? (x.add k) = some (.string s) := by rw [← hs]; exact (hB.cell (p := x.add k) (by rw [addr_add_block]; exact hb)).trans (hc k hkz)
      have hfil := fillS_set zs n k HN.out hlt
      rw [hs] at hfil
      have hdst : wr.cell? ⟨w.heap.size, k, none⟩ = some (.string ByteArray.empty) := by
        rw [hr.cellAt k (by omega)]
        simp only [strsV, List.getElem?_map]
        rw [List.getElem?_append_right (by simp; omega), List.getElem?_replicate]
        simp
        omega
      have hfr := hr.frozenAt k
      have HR := Lib.hid hr
      have HF := Lib.hid hfil
      have HE := Lib.hid hs
      clear hr hfil hs hc
      go_wp2
      go_roundw
      case rel =>
        have hst := HR.out.stored k (.string s)
        refine ⟨k + 1, by omega, by go_num, ?_, hB.setCell (p := ⟨w.heap.size, k, none⟩) (Nat.le_refl _) _⟩
        rw [← HF.out]
        exact hst.1
      case measure => simp [intOf]; omega
    · obtain rfl : k = n := by omega
      rw [Nat.sub_self, List.replicate_zero, List.append_nil, List.take_of_length_le (by rw [HN.out]; exact Nat.le_refl _)] at hr
      have HR := Lib.hid hr
      clear hr hrow
      go_wp2
      go_ret
      exact ⟨rfl, HR.out, hB⟩

set_option maxRecDepth 100000 in
set_option maxHeartbeats 1000000 in
theorem eqStringS_yes (a1 a2 : Option Addr) (c1 c2 n : Nat) (zs : List ByteArray) (w : World) (hn : zs.length = n) (hm : n ≤ maxLen) (h1 : StrsAt w a1 zs) (h2 : StrsAt w a2 zs) :
    Calls Try.prog 90 #[.slice a1 n c1, .slice a2 n c2] w fun e w' => e = .returned (.bool true) ∧ Below w.heap.size w w' := by
  have H1 := Lib.hid h1
  have H2 := Lib.hid h2
  have HN := Lib.hid hn
  clear h1 h2 hn
  unfold maxLen at hm
  go_enter Try.func90, Try.ntmps90
  go_wp2
  go_loopw [5] (fun i wr => ∃ k : Nat, k ≤ n ∧ i = .int .i64 k ∧ Below w.heap.size w wr) (fun i _ => n - (intOf i).toNat)
  case atStart => exact ⟨0, Nat.zero_le _, rfl, Below.refl _ _⟩
  case round =>
    obtain ⟨k, hk, rfl, hB⟩ := hrel
    by_cases hlt : k < n
    · have hkz : k < zs.length := by rw [HN.out]; exact hlt
      obtain ⟨x1, rfl, hb1, hc1⟩ := H1.out.cells (by omega)
      obtain ⟨x2, rfl, hb2, hc2⟩ := H2.out.cells (by omega)
      obtain ⟨z, hz⟩ : ∃ z, zs[k] = z := ⟨_, rfl⟩
      have d1 : wr.cell? (x1.add k) = some (.string z) := by rw [← hz]; exact (hB.cell (p := x1.add k) (by rw [addr_add_block]; exact hb1)).trans (hc1 k hkz)
      have d2 : wr.cell? (x2.add k) = some (.string z) := by rw [← hz]; exact (hB.cell (p := x2.add k) (by rw [addr_add_block]; exact hb2)).trans (hc2 k hkz)
      clear hz hkz hc1 hc2
      go_wp2
      go_quiet (fail)
      go_wp2
      go_roundw
      case rel => exact ⟨k + 1, by omega, by go_num, below_drewN hB _⟩
      case measure => simp [intOf]; omega
    · go_wp2
      go_ret
      exact ⟨rfl, hB⟩

end Go.Proofs.Ytaaeiogdhmiaaaa

/- The contracts of the model's 'l1Four', 'l1Put' and 'WordPut'. -/

namespace Go.Proofs.Ytaaeiogdhmiaaaa
open Go.RowKit

def wordsB (zs : List ByteArray) : Bool := zs.all fun s => wordB s.data.toList
/-- Are these four words? -/
def fourB (zs : List ByteArray) : Bool := wordsB zs && decide (zs.length = 4)

theorem wordsB_false (zs : List ByteArray) (k : Nat) (hk : k < zs.length) (h : wordB zs[k].data.toList = false) : wordsB zs = false :=
  List.all_eq_false.2 ⟨_, List.getElem_mem hk, by simp [h]⟩
theorem wordsB_of (zs : List ByteArray) (h : ∀ j (hj : j < zs.length), wordB zs[j].data.toList = true) : wordsB zs = true :=
  List.all_eq_true.2 fun s hs => by
    obtain ⟨j, hj, rfl⟩ := List.mem_iff_getElem.1 hs
    exact h j hj

/-- The image of a letter, and of a row of letters. -/
def imgL (zs : List ByteArray) (c : UInt8) : List UInt8 := if c.toNat < 97 then backL (zs.getD (idxB c) ByteArray.empty).data.toList else (zs.getD (idxB c) ByteArray.empty).data.toList
def putL (zs : List ByteArray) (l : List UInt8) : List UInt8 := (l.map (imgL zs)).flatten
theorem putL_snoc (zs : List ByteArray) (l : List UInt8) (c : UInt8) : putL zs (l ++ [c]) = putL zs l ++ imgL zs c := by simp [putL]
theorem imgL_len (zs : List ByteArray) (c : UInt8) (h : ∀ z ∈ zs, z.size ≤ 60) (hc : idxB c < zs.length) : (imgL zs c).length ≤ 60 := by
  have h1 : (zs.getD (idxB c) ByteArray.empty) ∈ zs := by
    rw [List.getD_eq_getElem?_getD, List.getElem?_eq_getElem hc]; exact List.getElem_mem hc
  have h2 := h _ h1
  unfold imgL
  split
  · rw [backL_length]; simpa using h2
  · simpa using h2

set_option maxRecDepth 100000 in
set_option maxHeartbeats 1000000 in
theorem put_any (s : ByteArray) (a : Option Addr) (cap : Nat) (zs : List ByteArray) (w : World) (hs : s.size ≤ 60) (hl : letL s.data.toList = true) (hn : zs.length = 4) (hz : ∀ z ∈ zs, z.size ≤ 60) (hst : StrsAt w a zs) :
    Calls Try.prog 111 #[.string s, .slice a 4 cap] w fun e w' => e = .returned (.string (bstr (redL [] (putL zs s.data.toList)))) ∧ Below w.heap.size w w' := by
  obtain ⟨x, rfl, hb, hc⟩ := hst.cells (by omega)
  have HL := Lib.hid hl
  have HN := Lib.hid hn
  have HZ := Lib.hid hz
  have HC := Lib.hid hc
  clear hl hn hz hc hst
  go_enter Try.func111, Try.ntmps111
  go_wp2
  go_loopw [5, 6, 7] (fun o i q7 wr => ∃ (k : Nat) (t : ByteArray), k ≤ s.size ∧ o = .string t ∧ i = .int .i64 k ∧ t.size ≤ 60 * k ∧ Hid (t = bstr (redL [] (putL zs (s.data.toList.take k))) ∧ (putL zs (s.data.toList.take k)).length ≤ 60 * k) ∧ Below w.heap.size w wr) (fun _ i _ _ => s.size - (intOf i).toNat)
  case atStart => exact ⟨0, ByteArray.empty, Nat.zero_le _, rfl, rfl, by simp, Lib.hid ⟨rfl, by simp [putL]⟩, Below.refl _ _⟩
  case round =>
    obtain ⟨k, t, hk, rfl, rfl, htz, HT, hB⟩ := hrel
    by_cases hlt : k < s.size
    · have hl : k < s.data.toList.length := by simpa using hlt
      have hlet : letB s[k] = true := letL_get _ HL.out k hl
      have hid := idxB_lt _ hlet
      obtain ⟨z, hzz⟩ : ∃ z, zs[idxB s[k]]'(by rw [HN.out]; exact hid) = z := ⟨_, rfl⟩
      have hck : wr.cell? (x.add (idxB s[k])) = some (.string z) := by rw [← hzz]; exact (hB.cell (p := x.add (idxB s[k])) (by rw [addr_add_block]; exact hb)).trans (HC.out _ (by rw [HN.out]; exact hid))
      have hz60 : z.size ≤ 60 := by rw [← hzz]; exact HZ.out _ (List.getElem_mem _)
      have hgd : zs.getD (idxB s[k]) ByteArray.empty = z := by
        rw [List.getD_eq_getElem?_getD, List.getElem?_eq_getElem (by rw [HN.out]; exact hid)]; exact hzz
      have hpn : putL zs (s.data.toList.take (k + 1)) = putL zs (s.data.toList.take k) ++ imgL zs s[k] := by rw [take_snoc _ k hl, putL_snoc]; rfl
      have himl := imgL_len zs s[k] HZ.out (by rw [HN.out]; exact hid)
      have HP := Lib.hid hpn
      have HG := Lib.hid hgd
      have HLt := Lib.hid hlet
      have HI := Lib.hid himl
      clear hpn hgd hlet himl hzz
      by_cases hc97 : s[k].toNat < 97
      · have himg : imgL zs s[k] = backL z.data.toList := by unfold imgL; rw [if_pos hc97, HG.out]
        have HM := Lib.hid himg
        obtain ⟨bz, hbz⟩ : ∃ b, bstr (backL z.data.toList) = b := ⟨_, rfl⟩
        have hbs : bz.size ≤ 60 := by rw [← hbz, bstr_size, backL_length]; simpa using hz60
        have hbl : bz.data.toList = backL z.data.toList := by rw [← hbz, bstr_toList]
        have hbk : ∀ W, Calls Try.prog 73 #[.string z] W fun e w' => e = .returned (.string bz) ∧ Below W.heap.size W w' := fun W => by rw [← hbz]; exact back_any z W (by omega)
        have HBK := Lib.hid hbk
        have HBL := Lib.hid hbl
        clear himg hbz hbl hbk
        go_wp2_with fail
        refine (sIndex_any s[k] _ HLt.out).mono ?_
        rintro e w1 ⟨rfl, rfl⟩
        go_wp2_with fail
        refine (HBK.out _).mono ?_
        rintro e w2 ⟨rfl, hb2⟩
        go_wp2_with fail
        refine (reduce_any (t ++ bz) _ (by rw [append_size]; omega)).mono ?_
        rintro e w3 ⟨rfl, hb3⟩
        go_wp2_with fail
        go_roundw
        case rel =>
          have hlen2 : (putL zs (s.data.toList.take (k + 1))).length ≤ 60 * (k + 1) := by rw [HP.out, List.length_append]; have := HT.out.2; have := HI.out; omega
          have he : redL [] (t.data.toList ++ bz.data.toList) = redL [] (putL zs (s.data.toList.take (k + 1))) := by
            rw [HT.out.1, bstr_toList, HBL.out, red_append, HP.out, HM.out]
          refine ⟨k + 1, _, by omega, rfl, by go_num, ?_, Lib.hid ⟨by rw [he], hlen2⟩, hB.trans ((hb2.trans (hb3.mono hb2.size)).mono hB.size)⟩
          simp only [bstr_size]
          rw [he]
          exact Nat.le_trans (redL_len _ []) (by simpa using hlen2)
        case measure => simp [intOf]; omega
      · have himg : imgL zs s[k] = z.data.toList := by unfold imgL; rw [if_neg hc97, HG.out]
        have HM := Lib.hid himg
        clear himg
        go_wp2_with fail
        refine (sIndex_any s[k] _ HLt.out).mono ?_
        rintro e w1 ⟨rfl, rfl⟩
        go_wp2_with fail
        refine (reduce_any (t ++ z) _ (by rw [append_size]; omega)).mono ?_
        rintro e w3 ⟨rfl, hb3⟩
        go_wp2_with fail
        go_roundw
        case rel =>
          have hlen2 : (putL zs (s.data.toList.take (k + 1))).length ≤ 60 * (k + 1) := by rw [HP.out, List.length_append]; have := HT.out.2; have := HI.out; omega
          have he : redL [] (t.data.toList ++ z.data.toList) = redL [] (putL zs (s.data.toList.take (k + 1))) := by
            rw [HT.out.1, bstr_toList, red_append, HP.out, HM.out]
          refine ⟨k + 1, _, by omega, rfl, by go_num, ?_, Lib.hid ⟨by rw [he], hlen2⟩, hB.trans (hb3.mono hB.size)⟩
          simp only [bstr_size]
          rw [he]
          exact Nat.le_trans (redL_len _ []) (by simpa using hlen2)
        case measure => simp [intOf]; omega
    · obtain rfl : k = s.size := by omega
      go_wp2
      go_ret
      exact ⟨ret_string (by rw [HT.out.1, List.take_of_length_le (by simp)]), hB⟩

theorem put_is (r : ByteArray) (s : ByteArray) (a : Option Addr) (cap : Nat) (zs : List ByteArray) (w : World) (hs : s.size ≤ 60) (hl : letL s.data.toList = true) (hn : zs.length = 4) (hz : ∀ z ∈ zs, z.size ≤ 60) (hst : StrsAt w a zs) (h : bstr (redL [] (putL zs s.data.toList)) = r) :
    Calls Try.prog 111 #[.string s, .slice a 4 cap] w fun e w' => e = .returned (.string r) ∧ Below w.heap.size w w' := by
  rw [← h]; exact put_any s a cap zs w hs hl hn hz hst

theorem fourB_iff (zs : List ByteArray) : fourB zs = true ↔ zs.length = 4 ∧ ∀ z ∈ zs, wordB z.data.toList = true := by
  unfold fourB wordsB
  rw [Bool.and_eq_true, List.all_eq_true, decide_eq_true_iff, and_comm]

end Go.Proofs.Ytaaeiogdhmiaaaa

/- A law for a region that draws its order, inside a fence, by what stands when some of its operations have come up: each operation is met once, in whatever order they come. -/

namespace Go.Proofs.Ytaaeiogdhmiaaaa
open Go.RowKit Go.Shelf

theorem count_set (l : List Bool) : ∀ i, l[i]? = some false → (l.set i true).count false + 1 = l.count false := by
  induction l with
  | nil => intro i h; simp at h
  | cons b r ih =>
    intro i h
    cases i with
    | zero => simp at h; subst h; simp
    | succ i =>
      simp only [List.getElem?_cons_succ] at h
      have := ih i h
      simp only [List.set_cons_succ, List.count_cons]
      omega
theorem listed_false {l : Array Bool} {i : Nat} (h : l.getD i true = false) : l.toList[i]? = some false := by
  rw [Array.getD_eq_getD_getElem?] at h
  rw [Array.getElem?_toList]
  cases e : l[i]? with
  | none => rw [e] at h; cases h
  | some b => rw [e] at h; simp at h; rw [h]

theorem wpAnyIn_inv {F : Fence} {n : Nat} {P : Program} {md : Region.Mode} {ops : Array Oper} {Q : Exit → Act → World → Prop} (Inv : Array Bool → Act → World → Prop)
    (hstep : ∀ listed a w i, Inv listed a w → listed.getD i true = false → (∀ o, ops[i]? = some o → ∀ e ∈ o.after, Region.binds md e = true → listed.getD e.on false = true) → i < ops.size →
      wpOpIn F n P ops Q i (fun a' w' => Inv (listed.setIfInBounds i true) a' w') a w)
    (hdone : ∀ listed a w, Inv listed a w → (∀ i o, ops[i]? = some o → (∀ e ∈ o.after, Region.binds md e = true → listed.getD e.on false = true) → listed.getD i true = true) → Q .normal a w) :
    ∀ (fuel : Nat) (listed : Array Bool) (a : Act) (w : World), listed.toList.count false ≤ fuel → Inv listed a w → wpAnyIn F n P md ops Q fuel listed a w := by
  have hd : ∀ listed a w, Inv listed a w → Region.ready md ops listed = [] → Q .normal a w := fun listed a w hI hr => hdone listed a w hI fun i o ho hall => by
    cases h : listed.getD i true with
    | true => rfl
    | false =>
      have : i ∈ Region.ready md ops listed := mem_ready.2 ⟨h, o, ho, hall⟩
      rw [hr] at this; cases this
  intro fuel
  induction fuel with
  | zero =>
    intro listed a w hc hI
    have hr : Region.ready md ops listed = [] := by
      rw [List.eq_nil_iff_forall_not_mem]
      intro j hj
      have h1 := listed_false (mem_ready.1 hj).1
      have := count_set _ _ h1
      omega
    exact ⟨hr, hd _ _ _ hI hr⟩
  | succ fuel ih =>
    intro listed a w hc hI
    refine ⟨fun h => hd _ _ _ hI h, fun i hi => ?_⟩
    obtain ⟨h1, o, ho, hall⟩ := mem_ready.1 hi
    refine wpOpIn_mono (fun a' w' h => ih _ a' w' ?_ h) (hstep listed a w i hI h1 (fun o' ho' => by rw [ho] at ho'; cases ho'; exact hall) (Array.getElem?_eq_some_iff.1 ho).1)
    have := count_set _ _ (listed_false h1)
    rw [Array.toList_setIfInBounds]
    omega

end Go.Proofs.Ytaaeiogdhmiaaaa

/- The contracts of the program's 'known' (of a monomial), 'ofSeries' and 'SeriesIn'. -/
import Derived.Test.YtmbffbjopehllaaIe
import Derived.Test.YtmbffbjopehllaaIy
import Derived.Test.YtmbffbjopehllaaWb
import Derived.Test.YtmbffbjopehllaaTh
namespace Go.Proofs.Ytmbffbjopehllaa
open Go.RowKit Go.Shelf

attribute [local go_sem] Oper.semAt_some

def genL (l : List UInt8) : Bool := l.all genB
theorem genL_append (a b : List UInt8) : genL (a ++ b) = (genL a && genL b) := by simp [genL]
theorem genL_prefix {p l : List UInt8} (hp : p <+: l) (h : genL p = false) : genL l = false := by
  obtain ⟨r, rfl⟩ := hp
  rw [genL_append, h]; rfl
theorem genB_let (c : UInt8) : genB c = (letB c && decide (0 ≤ sgnB c)) := by
  have h : ∀ n : Fin 256, genB (UInt8.ofNat n.val) = (letB (UInt8.ofNat n.val) && decide (0 ≤ sgnB (UInt8.ofNat n.val))) := by decide +kernel
  have := h ⟨c.toNat, c.toNat_lt⟩
  simpa using this

set_option maxRecDepth 100000 in
set_option maxHeartbeats 1000000 in
theorem known4_in (n : Nat) (hn : 30 ≤ n) (s : ByteArray) (w : World) (hs : s.size ≤ 4) :
    CallsIn Fence.wide n Try.prog 52 #[.string s] w fun e w' => e = .returned (.bool (genL s.data.toList)) ∧ Below w.heap.size w w' := by
  refine callsIn_of_wp_marks Try.func52 rfl trivial ?_ rfl
  simp only [Try.ntmps52, List.size_toArray, List.length_cons, List.length_nil, Nat.reduceAdd, Nat.reduceSub, Array.replicate_succ, Array.replicate_zero, List.push_toArray, List.append_toArray, List.nil_append, List.cons_append]
  gi_wp2_with fail
  refine ⟨trivial, fun _ => by omega, ?_⟩
  refine (callsIn_wide.2 (signsOf_any s _)).mono ?_
  rintro e w1 ⟨rfl, rfl⟩
  have b1 := (Boxed.new w 4 (.bool false)).alloc (.cells #[.string s] 9)
  have b2 := Boxed.new (w.alloc (.cells #[.bool false] 4)) 9 (.string s)
  rw [World.size_alloc] at b2
  have hB0 : Below w.heap.size w ((w.alloc (.cells #[.bool false] 4)).alloc (.cells #[.string s] 9)) := ((Below.refl _ w).alloc (Nat.le_refl _) _).alloc (by simp) _
  have hsz : ((w.alloc (.cells #[.bool false] 4)).alloc (.cells #[.string s] 9)).heap.size = w.heap.size + 2 := by simp
  obtain ⟨W0, hW0⟩ : ∃ W0, ((w.alloc (.cells #[.bool false] 4)).alloc (.cells #[.string s] 9)) = W0 := ⟨_, rfl⟩
  simp only [World.size_alloc]
  rw [hW0] at b1 b2 hB0 hsz ⊢
  clear hW0
  gi_wp2
  refine wpIn_rangeFunc_ownG rfl (by omega) (gf := 99) (lb := #[.pointer (some ⟨w.heap.size + 1, 0, none⟩)]) rfl trivial (enters_of Try.func99 (by kernel_rfl) rfl)
    (signs_seq s (by omega) W0 (w.heap.size + 1) W0.heap.size (by omega) (Nat.le_refl _) b2.cell (n - 1) (by omega)) belowK_t (belowK_b (Nat.le_refl _)) (Below.refl _ _) (fun _ => rfl)
    (fun pre W => Boxed W w.heap.size 4 (.bool false) ∧ genL pre = true ∧ Below W0.heap.size W0 W)
    (fun c pre W => ((c = .ret ∧ genL pre = false) ∧ Boxed W w.heap.size 4 (.bool false)) ∧ Below w.heap.size w W)
    (OwnFrom.and (Own.from (fun s A B row hs hg hr => boxed_own w.heap.size _ (fun _ : Unit => .bool false) () A B row hs hg hr) _) (OwnFrom.and (ownFrom_pure _ _) (ownFrom_below (Nat.le_refl _) (Nat.le_refl _))))
    (fun c => OwnFrom.and (Own.from (fun s A B row hs hg hr => ⟨hs.1, boxed_own w.heap.size _ (fun _ : Unit => .bool false) () A B row hs.2 hg hr⟩) _) (ownFrom_below (Nat.le_refl _) (by omega)))
    ⟨b1, rfl, Below.refl _ _⟩
    (fun x => { tmps := #[.string s, undef, .pointer (some ⟨w.heap.size, 0, none⟩), .int .u8 (x.toNat : Int), .string s, .int .i64 (s.size : Int), .bool (decide ((4 : Int) < (s.size : Int))), .string s, .func (.func 99) #[] #[.pointer (some ⟨w.heap.size + 1, 0, none⟩)], .int .u8 (x.toNat : Int), undef, undef, undef, undef, undef, undef, undef, undef], defers := [] }) ?assign ?body ?done ?stop
  case assign =>
    intro l x W K hK
    gi_wp2
    exact hK
  case body =>
    rintro l pre x W ⟨c1, hl, hB⟩ hlen
    have d1 := c1.cell
    have f1 := c1.frozen
    have C1 := Lib.hid c1
    have HL := Lib.hid hl
    have hBw : Below w.heap.size w W := hB0.trans (hB.mono (by omega))
    have HBw := Lib.hid hBw
    clear c1 hl hBw
    cases hx : letB x with
    | true =>
      have HX := Lib.hid hx
      by_cases hsg : 0 ≤ sgnB x
      · have hg : genB x = true := by rw [genB_let, hx]; simp [hsg]
        have HG := Lib.hid hg
        obtain ⟨u, hu⟩ : ∃ u, sgnB x = u := ⟨_, rfl⟩
        have HSX := Lib.hid (show ∀ W, Calls Try.prog 82 #[.int .u8 (x.toNat : Int)] W fun e w' => e = .returned (.int .i64 u) ∧ w' = W from fun W => by rw [← hu]; exact iSign_any x W hx)
        rw [hu] at hsg
        have hneg : ¬ u < 0 := by omega
        have hdu : decide (u < 0) = false := decide_eq_false hneg
        clear hx hg hu
        gi_wp2_with fail
        refine ⟨trivial, fun _ => by omega, ?_⟩
        refine (CallsIn.inRound l (callsIn_wide.2 (known_is x true W HX.out))).mono ?_
        rintro e w1 ⟨rfl, rfl⟩
        gi_wp2_with fail
        refine ⟨trivial, fun _ => by omega, ?_⟩
        refine (CallsIn.inRound l (callsIn_wide.2 (HSX.out _))).mono ?_
        rintro e w2 ⟨rfl, rfl⟩
        gi_wp2
        exact ⟨KeepsFrom.refl _ _, Below.refl _ _, C1.out, by rw [genL_append, HL.out]; simp [genL, HG.out], hB⟩
      · have hg : genB x = false := by rw [genB_let, hx]; simp [hsg]
        have HG := Lib.hid hg
        obtain ⟨u, hu⟩ : ∃ u, sgnB x = u := ⟨_, rfl⟩
        have HSX := Lib.hid (show ∀ W, Calls Try.prog 82 #[.int .u8 (x.toNat : Int)] W fun e w' => e = .returned (.int .i64 u) ∧ w' = W from fun W => by rw [← hu]; exact iSign_any x W hx)
        rw [hu] at hsg
        have hneg : u < 0 := by omega
        have hdu : decide (u < 0) = true := decide_eq_true hneg
        clear hx hg hu
        gi_wp2_with fail
        refine ⟨trivial, fun _ => by omega, ?_⟩
        refine (CallsIn.inRound l (callsIn_wide.2 (known_is x true W HX.out))).mono ?_
        rintro e w1 ⟨rfl, rfl⟩
        gi_wp2_with fail
        refine ⟨trivial, fun _ => by omega, ?_⟩
        refine (CallsIn.inRound l (callsIn_wide.2 (HSX.out _))).mono ?_
        rintro e w2 ⟨rfl, rfl⟩
        gi_wp2
        exact ⟨(KeepsOthers.setCell _ _ _).from _, ⟨⟨rfl, by rw [genL_append]; simp [genL, HG.out]⟩, C1.out.set _⟩, HBw.out.setCell (p := ⟨w.heap.size, 0, none⟩) (Nat.le_refl _) _⟩
    | false =>
      have HX := Lib.hid hx
      have HG := Lib.hid (show genB x = false by rw [genB_let, hx]; rfl)
      clear hx
      gi_wp2_with fail
      refine ⟨trivial, fun _ => by omega, ?_⟩
      refine (CallsIn.inRound l (callsIn_wide.2 (known_is x false W HX.out))).mono ?_
      rintro e w1 ⟨rfl, rfl⟩
      gi_wp2_with fail
      refine ⟨trivial, ?_⟩
      gi_wp2
      exact ⟨(KeepsOthers.setCell _ _ _).from _, ⟨⟨rfl, by rw [genL_append]; simp [genL, HG.out]⟩, C1.out.set _⟩, HBw.out.setCell (p := ⟨w.heap.size, 0, none⟩) (Nat.le_refl _) _⟩
  case done =>
    rintro D ys W hD rfl ⟨c1, hl, hB⟩ hK
    have hBW : Below w.heap.size w W := hB0.trans (hB.mono (by omega))
    have hDlt : D < W.heap.size := (Array.getElem?_eq_some_iff.1 hK).1
    have d1 := c1.cell
    have f1 := c1.frozen
    have C1 := Lib.hid c1
    have HK := Lib.hid hK
    have HL := Lib.hid hl
    clear c1 hK hl
    gi_wp2
    obtain ⟨W5, hW5⟩ : ∃ W5, W.setCell ⟨w.heap.size, 0, none⟩ (.bool true) = W5 := ⟨_, rfl⟩
    have e1 : Boxed W5 w.heap.size 4 (.bool true) := by rw [← hW5]; exact C1.out.set _
    have hK5 : W5.heap[D]? = some (.deferred (some [])) := by rw [← hW5]; exact (KeepsOthers.setCell _ _ _).same D _ HK.out rfl
    have hB5 : Below w.heap.size w W5 := by rw [← hW5]; exact hBW.setCell (p := ⟨w.heap.size, 0, none⟩) (Nat.le_refl _) _
    rw [hW5]
    clear hW5
    refine ⟨by simp, .inl ⟨_, _, rfl, run_takeDeferred hK5, ?_⟩⟩
    have g1 := (e1.kept (grownBy_putObj' W5 D (.deferred none)) (fun e => by cases e; omega)).cell
    refine ⟨.bool true, by simp [results, Try.f52, go_sem, g1], by rw [HL.out], hB5.trans (belowK_b (w := w) (Nat.le_refl _) W5 D _ _ (by omega) hK5 rfl rfl)⟩
  case stop =>
    rintro D c pre W hD hpre ⟨⟨⟨rfl, hl⟩, c1⟩, hB⟩ hK
    gi_wp2
    refine ⟨by simp, .inl ⟨_, _, rfl, run_takeDeferred hK, ?_⟩⟩
    have e1 := (c1.kept (grownBy_putObj' W D (.deferred none)) (fun e => by cases e; omega)).cell
    refine ⟨.bool false, by simp [results, Try.f52, go_sem, e1], by rw [genL_prefix hpre hl], hB.trans (belowK_b (w := w) (Nat.le_refl _) W D _ _ (by omega) hK rfl rfl)⟩

set_option maxRecDepth 100000 in
set_option maxHeartbeats 1000000 in
theorem known4_any (s : ByteArray) (w : World) (hs : s.size ≤ maxLen) :
    Calls Try.prog 52 #[.string s] w fun e w' => e = .returned (.bool (monoB s)) ∧ Below w.heap.size w w' := by
  by_cases h : s.size ≤ 4
  · refine ((callsIn_wide (n := 30)).1 (known4_in 30 (by omega) s w h)).mono ?_
    rintro e w' ⟨rfl, hb⟩
    refine ⟨?_, hb⟩
    unfold monoB genL
    rw [decide_eq_true h, Bool.and_true]
  · have hm : monoB s = false := by unfold monoB; rw [decide_eq_false h, Bool.and_false]
    rw [hm]
    unfold maxLen at hs
    clear hm
    go_enter Try.func52, Try.ntmps52
    go_wp2
    refine bodyPost_ret (by simp [results, Try.f52, go_sem]; rfl) rfl ?_
    exact ⟨rfl, (Below.refl _ w).alloc (Nat.le_refl _) _⟩
theorem known4_is (s : ByteArray) (b : Bool) (w : World) (hs : s.size ≤ maxLen) (hb : monoB s = b) :
    Calls Try.prog 52 #[.string s] w fun e w' => e = .returned (.bool b) ∧ Below w.heap.size w w' := by rw [← hb]; exact known4_any s w hs

end Go.Proofs.Ytmbffbjopehllaa

/- The contracts of the program's 'place' and 'BraidIn'. -/
import Derived.Test.YtaaeiogdhmiaaaaCb
import Derived.Test.YtaaeiogdhmiaaaaIy
import Derived.Sort.QuietIn
namespace Go.Proofs.Ytaaeiogdhmiaaaa
open Go.RowKit Go.Shelf

attribute [local go_sem] Oper.semAt_some

theorem or120 : bits BinOp.or IntKind.u8 120 32 = 120 := by kernel_rfl
theorem index_120 (w : World) :
    Calls Try.prog 107 #[.int .u8 120] w fun e w' => e = .returned (.int .i64 23) ∧ w' = w := by
  have hb := or120
  go_enter Try.func107, Try.ntmps107
  go_wp2
  go_ret
  exact ⟨rfl, rfl⟩
theorem index_all (c : UInt8) (w : World) :
    Calls Try.prog 107 #[.int .u8 (c.toNat : Int)] w fun e w' => e = .returned (.int .i64 (plI c + 23)) ∧ w' = w := by
  obtain ⟨o, ho⟩ : ∃ o, bits BinOp.or IntKind.u8 (c.toNat : Int) 32 = o := ⟨_, rfl⟩
  obtain ⟨h1, h2⟩ := or_bnd c
  have hp : Hid (plI c = o - 120) := Lib.hid (by unfold plI; rw [ho])
  rw [ho] at h1 h2
  go_enter Try.func107, Try.ntmps107
  go_wp2
  go_ret
  exact ⟨ret_int (by rw [hp.out]; omega), rfl⟩
set_option maxRecDepth 100000 in
theorem place_any (c : UInt8) (w : World) :
    Calls Try.prog 71 #[.int .u8 (c.toNat : Int)] w fun e w' => e = .returned (.int .i64 (plI c)) ∧ w' = w := by
  have h1 : -120 ≤ plI c ∧ plI c ≤ 200 := by have := or_bnd c; unfold plI; omega
  have HI := Lib.hid (fun w => index_all c w)
  obtain ⟨p, hp⟩ : ∃ p, plI c = p := ⟨_, rfl⟩
  rw [hp] at h1 HI ⊢
  obtain ⟨h1, h2⟩ := h1
  clear hp
  go_enter Try.func71, Try.ntmps71
  go_wp2_with (first
    | (go_at_call 107; refine (HI.out _).mono ?_; rintro e w' ⟨rfl, rfl⟩)
    | (go_at_call 107; refine (index_120 _).mono ?_; rintro e w' ⟨rfl, rfl⟩))
  go_ret
  exact ⟨ret_int (by omega), rfl⟩

def brP (n : Int) (l : List UInt8) : Bool := l.all (brL n)
theorem brP_append (n : Int) (a b : List UInt8) : brP n (a ++ b) = (brP n a && brP n b) := by simp [brP]
theorem brP_prefix {n : Int} {p l : List UInt8} (hp : p <+: l) (h : brP n p = false) : brP n l = false := by
  obtain ⟨r, rfl⟩ := hp
  rw [brP_append, h]; rfl

set_option maxRecDepth 100000 in
set_option maxHeartbeats 1000000 in
theorem braidIn_in (m : Nat) (hn : 30 ≤ m) (n : Int) (s : ByteArray) (w : World) (h1 : 2 ≤ n) (h2 : n ≤ 4) (hs : s.size ≤ 30) :
    CallsIn Fence.wide m Try.prog 25 #[brV n s] w fun e w' => e = .returned (.bool (brP n s.data.toList)) ∧ Below w.heap.size w w' := by
  refine callsIn_of_wp_marks Try.func25 rfl trivial ?_ rfl
  simp only [Try.ntmps25, List.size_toArray, List.length_cons, List.length_nil, Nat.reduceAdd, Nat.reduceSub, Array.replicate_succ, Array.replicate_zero, List.push_toArray, List.append_toArray, List.nil_append, List.cons_append]
  gi_wp2_with fail
  refine ⟨trivial, fun _ => by omega, ?_⟩
  refine (callsIn_wide.2 (signsOf_any s _)).mono ?_
  rintro e w1 ⟨rfl, rfl⟩
  have hk : (((w.alloc (.cells #[.int .i64 n, .string s] 26)).alloc (.cells #[.bool false] 4)).alloc (.cells #[.string s] 9)).heap[w.heap.size]? = some (.cells #[.int .i64 n, .string s] 26 (0, 0)) := by
    rw [Below.heap_alloc _ _ _ (by simp; omega), Below.heap_alloc _ _ _ (by simp)]
    exact World.alloc_heap_new w _
  have b1 := (Boxed.new (w.alloc (.cells #[.int .i64 n, .string s] 26)) 4 (.bool false)).alloc (.cells #[.string s] 9)
  have b2 := Boxed.new ((w.alloc (.cells #[.int .i64 n, .string s] 26)).alloc (.cells #[.bool false] 4)) 9 (.string s)
  rw [World.size_alloc] at b1
  rw [World.size_alloc, World.size_alloc] at b2
  have hB0 : Below w.heap.size w (((w.alloc (.cells #[.int .i64 n, .string s] 26)).alloc (.cells #[.bool false] 4)).alloc (.cells #[.string s] 9)) := (((Below.refl _ w).alloc (Nat.le_refl _) _).alloc (by simp) _).alloc (by simp; omega) _
  have hsz : (((w.alloc (.cells #[.int .i64 n, .string s] 26)).alloc (.cells #[.bool false] 4)).alloc (.cells #[.string s] 9)).heap.size = w.heap.size + 3 := by simp
  obtain ⟨W0, hW0⟩ : ∃ W0, (((w.alloc (.cells #[.int .i64 n, .string s] 26)).alloc (.cells #[.bool false] 4)).alloc (.cells #[.string s] 9)) = W0 := ⟨_, rfl⟩
  simp only [World.size_alloc]
  rw [hW0] at hk b1 b2 hB0 hsz ⊢
  clear hW0
  have e0 : W0.cell? ⟨w.heap.size, 0, none⟩ = some (.int .i64 n) := by simp [World.cell?, hk]
  clear hk
  gi_wp2
  refine wpIn_rangeFunc_ownG rfl (by omega) (gf := 106) (lb := #[.pointer (some ⟨w.heap.size + 1 + 1, 0, none⟩)]) rfl trivial (enters_of Try.func106 (by kernel_rfl) rfl)
    (signs_seq s (by omega) W0 (w.heap.size + 1 + 1) W0.heap.size (by omega) (Nat.le_refl _) b2.cell (m - 1) (by omega)) belowK_t (belowK_b (Nat.le_refl _)) (Below.refl _ _) (fun _ => rfl)
    (fun pre W => Boxed W (w.heap.size + 1) 4 (.bool false) ∧ brP n pre = true ∧ Below W0.heap.size W0 W)
    (fun c pre W => ((c = .ret ∧ brP n pre = false) ∧ Boxed W (w.heap.size + 1) 4 (.bool false)) ∧ Below w.heap.size w W)
    (OwnFrom.and (Own.from (fun s A B row hs hg hr => boxed_own (w.heap.size + 1) _ (fun _ : Unit => .bool false) () A B row hs hg hr) _) (OwnFrom.and (ownFrom_pure _ _) (ownFrom_below (Nat.le_refl _) (Nat.le_refl _))))
    (fun c => OwnFrom.and (Own.from (fun s A B row hs hg hr => ⟨hs.1, boxed_own (w.heap.size + 1) _ (fun _ : Unit => .bool false) () A B row hs.2 hg hr⟩) _) (ownFrom_below (Nat.le_refl _) (by omega)))
    ⟨b1, rfl, Below.refl _ _⟩
    ?a1 ?assign ?body ?done ?stop
  case assign =>
    intro l x W K hK
    gi_wp2
    exact hK
  case body =>
    rintro l pre x W ⟨c1, hl, hB⟩ hlen
    have d1 := c1.cell
    have f1 := c1.frozen
    have g0 := (hB.cell (p := ⟨w.heap.size, 0, none⟩) (by show w.heap.size < W0.heap.size; omega)).trans e0
    have C1 := Lib.hid c1
    have HL := Lib.hid hl
    have HBr := Lib.hid (brL_place n h2 x)
    have HP := Lib.hid (fun w => place_any x w)
    have hBw : Below w.heap.size w W := hB0.trans (hB.mono (by omega))
    have HBw := Lib.hid hBw
    have HB := Lib.hid hB
    have HS : Hid (brP n (pre ++ [x]) = brL n x) := Lib.hid (by rw [brP_append, hl]; simp [brP])
    obtain ⟨p, hp⟩ : ∃ p, plI x = p := ⟨_, rfl⟩
    rw [hp] at HP HBr
    have hpb : -120 ≤ p ∧ p ≤ 200 := by have := or_bnd x; rw [← hp]; unfold plI; omega
    obtain ⟨hp1, hp2⟩ := hpb
    clear c1 hl hBw hp hB
    have hd : 1 ≤ m - 1 - 1 := by omega
    have hwr : IntKind.i64.wrap (n - 1) = n - 1 := IntWalk.i64_in _ (by omega)
    have hmx : Try.prog.follows .mixedOrders = true := by kernel_rfl
    by_cases hneg : p < 0
    · have hdn : decide (p < 0) = true := decide_eq_true hneg
      have hf := Lib.hid (HBr.out.trans (show _ = false by rw [decide_eq_false (show ¬ 0 ≤ p by omega)]; rfl))
      gi_wp2
      gi_region_with_o (first | (refine ⟨trivial, ?_⟩; gi_at_call 71; refine (CallsIn.inRound l (callsIn_wide.2 (HP.out _))).mono ?_; rintro e w' ⟨rfl, rfl⟩) | (refine ⟨trivial, ?_⟩))
      all_goals gi_wp2
      all_goals exact ⟨((KeepsOthers.setCell _ _ _).trans (KeepsOthers.drew _)).from _, ⟨⟨rfl, by rw [HS.out]; exact hf.out⟩, C1.out.set _⟩, (HBw.out.setCell (p := ⟨w.heap.size + 1, 0, none⟩) (by show w.heap.size ≤ w.heap.size + 1; omega) _).drew⟩
    · have hpos : 0 ≤ p := by omega
      have hdn : decide (p < 0) = false := decide_eq_false hneg
      by_cases hlt : p < n - 1
      · have hf := Lib.hid (HBr.out.trans (show _ = true by rw [decide_eq_true hpos, decide_eq_true hlt]; rfl))
        have hge : ¬ n - 1 ≤ p := by omega
        have hdg : decide (n - 1 ≤ p) = false := decide_eq_false hge
        gi_wp2
        gi_region_with_o (first | (refine ⟨trivial, ?_⟩; gi_at_call 71; refine (CallsIn.inRound l (callsIn_wide.2 (HP.out _))).mono ?_; rintro e w' ⟨rfl, rfl⟩) | (refine ⟨trivial, ?_⟩))
        all_goals gi_wp2
        all_goals exact ⟨(KeepsOthers.drew _).from _, (Below.refl _ _).drew, C1.out, by rw [HS.out]; exact hf.out, HB.out.drew⟩
      · have hf := Lib.hid (HBr.out.trans (show _ = false by rw [decide_eq_false hlt, Bool.and_false]))
        have hge : n - 1 ≤ p := by omega
        have hdg : decide (n - 1 ≤ p) = true := decide_eq_true hge
        gi_wp2
        gi_region_with_o (first | (refine ⟨trivial, ?_⟩; gi_at_call 71; refine (CallsIn.inRound l (callsIn_wide.2 (HP.out _))).mono ?_; rintro e w' ⟨rfl, rfl⟩) | (refine ⟨trivial, ?_⟩))
        all_goals gi_wp2
        all_goals exact ⟨((KeepsOthers.setCell _ _ _).trans (KeepsOthers.drew _)).from _, ⟨⟨rfl, by rw [HS.out]; exact hf.out⟩, C1.out.set _⟩, (HBw.out.setCell (p := ⟨w.heap.size + 1, 0, none⟩) (by show w.heap.size ≤ w.heap.size + 1; omega) _).drew⟩
  case done =>
    rintro D ys W hD rfl ⟨c1, hl, hB⟩ hK
    have hBW : Below w.heap.size w W := hB0.trans (hB.mono (by omega))
    have hDlt : D < W.heap.size := (Array.getElem?_eq_some_iff.1 hK).1
    have d1 := c1.cell
    have f1 := c1.frozen
    have C1 := Lib.hid c1
    have HK := Lib.hid hK
    have HL := Lib.hid hl
    clear c1 hK hl
    gi_wp2
    obtain ⟨W5, hW5⟩ : ∃ W5, W.setCell ⟨w.heap.size + 1, 0, none⟩ (.bool true) = W5 := ⟨_, rfl⟩
    have e1 : Boxed W5 (w.heap.size + 1) 4 (.bool true) := by rw [← hW5]; exact C1.out.set _
    have hK5 : W5.heap[D]? = some (.deferred (some [])) := by rw [← hW5]; exact (KeepsOthers.setCell _ _ _).same D _ HK.out rfl
    have hB5 : Below w.heap.size w W5 := by rw [← hW5]; exact hBW.setCell (p := ⟨w.heap.size + 1, 0, none⟩) (by show w.heap.size ≤ w.heap.size + 1; omega) _
    rw [hW5]
    clear hW5
    refine ⟨by simp, .inl ⟨_, _, rfl, run_takeDeferred hK5, ?_⟩⟩
    have g1 := (e1.kept (grownBy_putObj' W5 D (.deferred none)) (fun e => by cases e; omega)).cell
    refine ⟨.bool true, by simp [results, Try.f25, go_sem, g1], by rw [HL.out], hB5.trans (belowK_b (w := w) (Nat.le_refl _) W5 D _ _ (by omega) hK5 rfl rfl)⟩
  case stop =>
    rintro D c pre W hD hpre ⟨⟨⟨rfl, hl⟩, c1⟩, hB⟩ hK
    gi_wp2
    refine ⟨by simp, .inl ⟨_, _, rfl, run_takeDeferred hK, ?_⟩⟩
    have e1 := (c1.kept (grownBy_putObj' W D (.deferred none)) (fun e => by cases e; omega)).cell
    refine ⟨.bool false, by simp [results, Try.f25, go_sem, e1], by rw [brP_prefix hpre hl], hB.trans (belowK_b (w := w) (Nat.le_refl _) W D _ _ (by omega) hK rfl rfl)⟩

end Go.Proofs.Ytaaeiogdhmiaaaa

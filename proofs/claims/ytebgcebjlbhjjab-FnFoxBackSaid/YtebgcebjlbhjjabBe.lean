/- What the laws' proofs stand on, part 5 of 5. -/
import Derived.Deep.AppendLies
import Derived.Shelf.SlMaps.Clone
import Derived.Shelf.Bits.Mul64
import Derived.Laws.CopyOwn
import Derived.RegionTactic
import Derived.Test.YtebgcebjlbhjjabBa
import Derived.Test.YtebgcebjlbhjjabBb
import Derived.Test.YtebgcebjlbhjjabBc
import Derived.Test.YtebgcebjlbhjjabBd

/- The contracts of the model's 'l91Gen' and 'DrawFoxTwice'. -/

namespace Go.Proofs.Ytebgcebjlbhjjab
open Go.RowKit Go.Shelf

set_option maxRecDepth 100000 in
set_option maxHeartbeats 2000000 in
theorem l91Gen_grown (base rb : Nat) (a : Option Addr) (n cap : Nat) (zs : List Int) (p : Nat) (w : World) (h : Rd base w rb a n cap zs p) (hp : p ≤ 90000) :
    Calls Try.prog 81 #[.pointer (some ⟨rb, 0, none⟩)] w fun e w' => (∃ g : Int, e = .returned (.int .i64 g) ∧ -1 ≤ g ∧ g ≤ 4) ∧ (∃ p', p' ≤ p + 2 ∧ Rd base w' rb a n cap zs p') ∧ Below base w w' ∧ w.grownBy w' (some rb) := by
  have hlo := h.lo
  have hrl := h.lt
  have HP := Lib.hid (pick_any base rb a n cap zs p 24 w h (by omega) (by omega) (by omega))
  clear h
  go_enter Try.func81, Try.ntmps81
  go_wp2_with fail
  refine HP.out.mono ?_
  rintro e w1 ⟨⟨N, rfl, hN⟩, hR1, hB1, hG1⟩
  have HR1 := Lib.hid hR1
  have HB1 := Lib.hid hB1
  have hbl := hR1.lt
  have HG1 := Lib.hid hG1
  clear hR1 hB1 hG1
  by_cases hN0 : N = 0
  · subst hN0
    have hb2 : Below w1.heap.size w1 (w1.alloc (.cells #[.int .i64 (-1), .int .i64 4] 3)) := (Below.refl _ w1).alloc (Nat.le_refl _) _
    have HR2 := Lib.hid (HR1.out.below hb2)
    have HB2 := Lib.hid (HB1.out.trans (hb2.mono (by omega)))
    have HG2 := Lib.hid (HG1.out.trans (grownAny_of_below hb2 _))
    have c0 : (w1.alloc (.cells #[.int .i64 (-1), .int .i64 4] 3)).cell? ⟨w1.heap.size, 0, none⟩ = some (.int .i64 (-1)) := (World.cell?_alloc_at _ _ _ _ (by simp)).trans rfl
    have c1 : (w1.alloc (.cells #[.int .i64 (-1), .int .i64 4] 3)).cell? ⟨w1.heap.size, 1, none⟩ = some (.int .i64 4) := (World.cell?_alloc_at _ _ _ _ (by simp)).trans rfl
    have hsz : (w1.alloc (.cells #[.int .i64 (-1), .int .i64 4] 3)).heap.size = w1.heap.size + 1 := by simp
    have HP2 := Lib.hid (pick_any base rb a n cap zs (p + 1) 2 _ HR2.out (by omega) (by omega) (by omega))
    have HC0 := Lib.hid c0
    have HC1 := Lib.hid c1
    have HSZ := Lib.hid hsz
    clear hb2 c0 c1 hsz
    go_wp2_with fail
    refine HP2.out.mono ?_
    rintro e w5 ⟨⟨z, rfl, hz⟩, hR5, hB5, hG⟩
    have hcz : w5.cell? ⟨w1.heap.size, z, none⟩ = some (.int .i64 (if z = 0 then -1 else 4)) := by
      have h2 : z = 0 ∨ z = 1 := by omega
      unfold World.cell?
      rw [hG.block w1.heap.size (by rw [HSZ.out]; omega) (fun e => by cases e; omega)]
      rcases h2 with rfl | rfl
      · exact HC0.out
      · exact HC1.out
    obtain ⟨g, hg⟩ : ∃ g : Int, (if z = 0 then (-1 : Int) else 4) = g := ⟨_, rfl⟩
    rw [hg] at hcz
    have hgb : -1 ≤ g ∧ g ≤ 4 := by rw [← hg]; split <;> omega
    have hzi : (z : Int) < 2 := by omega
    have HR5 := Lib.hid hR5
    have HB5 := Lib.hid (HB2.out.trans hB5)
    have HG5 := Lib.hid (HG2.out.trans hG)
    clear hR5 hB5 hG hg
    go_wp2_with fail
    go_ret
    exact ⟨⟨_, rfl, hgb⟩, ⟨_, by omega, HR5.out⟩, HB5.out, HG5.out⟩
  · have hni : ((N : Int) == 0) = false := by simpa using hN0
    have hnn : ¬ (N : Int) = 0 := by omega
    have HP2 := Lib.hid (pick_any base rb a n cap zs (p + 1) 3 _ HR1.out (by omega) (by omega) (by omega))
    go_wp2_with fail
    refine HP2.out.mono ?_
    rintro e w5 ⟨⟨z, rfl, hz⟩, hR5, hB5, hG⟩
    have HR5 := Lib.hid hR5
    have HB5 := Lib.hid (HB1.out.trans hB5)
    have HG5 := Lib.hid (HG1.out.trans hG)
    clear hR5 hB5 hG
    go_wp2_with fail
    go_ret
    exact ⟨⟨_, rfl, by omega⟩, ⟨_, by omega, HR5.out⟩, HB5.out, HG5.out⟩

theorem l91Gen_any (base rb : Nat) (a : Option Addr) (n cap : Nat) (zs : List Int) (p : Nat) (w : World) (h : Rd base w rb a n cap zs p) (hp : p ≤ 90000) :
    Calls Try.prog 81 #[.pointer (some ⟨rb, 0, none⟩)] w fun e w' => (∃ g : Int, e = .returned (.int .i64 g) ∧ -1 ≤ g ∧ g ≤ 4) ∧ (∃ p', p' ≤ p + 2 ∧ Rd base w' rb a n cap zs p') ∧ Below base w w' :=
  (l91Gen_grown base rb a n cap zs p w h hp).mono fun _ _ ⟨h1, h2, h3, _⟩ => ⟨h1, h2, h3⟩

set_option maxRecDepth 100000 in
set_option maxHeartbeats 2000000 in
theorem drawFoxTwice_any (a : Option Addr) (n cap : Nat) (zs : List Int) (w : World) (h : BsAt w.heap.size w a n cap zs) :
    Calls Try.prog 26 #[.slice a n cap] w fun e w' => (∃ (s : ByteArray) (g k : Int), e = .returned (.tuple #[.string s, .int .i64 g, .int .i64 k]) ∧ s.size ≤ 9 ∧ -1 ≤ g ∧ g ≤ 4 ∧ -1 ≤ k ∧ k ≤ 4) ∧ Below w.heap.size w w' := by
  have HO := Lib.hid (open_any a n cap zs w h)
  clear h
  go_enter Try.func26, Try.ntmps26
  go_wp2_with fail
  refine HO.out.mono ?_
  rintro e w1 ⟨n', zs', rfl, hR1, hB1⟩
  have HR1 := Lib.hid hR1
  have HB1 := Lib.hid hB1
  clear hR1 hB1
  go_wp2_with fail
  refine (l91Word_any w.heap.size w.heap.size a n' cap zs' 0 8 2 w1 HR1.out (by omega) (by omega) (by omega) (by omega)).mono ?_
  rintro e w2 ⟨⟨s, rfl, hs⟩, ⟨p2, hp2, hR2⟩, hB2⟩
  have HR2 := Lib.hid hR2
  have HB2 := Lib.hid (HB1.out.trans hB2)
  clear hR2 hB2
  go_wp2_with fail
  refine (l91Gen_any w.heap.size w.heap.size a n' cap zs' p2 w2 HR2.out (by omega)).mono ?_
  rintro e w3 ⟨⟨g, rfl, hg1, hg2⟩, ⟨p3, hp3, hR3⟩, hB3⟩
  have HR3 := Lib.hid hR3
  have HB3 := Lib.hid (HB2.out.trans hB3)
  clear hR3 hB3
  go_wp2_with fail
  refine (l91Gen_any w.heap.size w.heap.size a n' cap zs' p3 w3 HR3.out (by omega)).mono ?_
  rintro e w4 ⟨⟨k, rfl, hk1, hk2⟩, _, hB4⟩
  have HB4 := Lib.hid (HB3.out.trans hB4)
  clear hB4
  go_wp2
  go_ret3
  exact ⟨⟨s, g, k, rfl, by omega, hg1, hg2, hk1, hk2⟩, HB4.out⟩

end Go.Proofs.Ytebgcebjlbhjjab

/- The contracts of the program's 'known' (of a monomial), 'ofSeries' and 'SeriesIn'. -/

namespace Go.Proofs.Ytebgcebjlbhjjab
open Go.RowKit Go.Shelf

attribute [local go_sem] Oper.semAt_some

def genL (l : List UInt8) : Bool := l.all genB
theorem genL_append (a b : List UInt8) : genL (a ++ b) = (genL a && genL b) := by simp [genL]
theorem genL_prefix {p l : List UInt8} (hp : p <+: l) (h : genL p = false) : genL l = false := by
  obtain ⟨r, rfl⟩ := hp
  rw [genL_append, h]; rfl
theorem genB_let (c : UInt8) : genB c = (letB c && decide (0 ≤ sgnB c)) := by
  have h : ∀ n : Fin 256, genB (UInt8.ofNat n.val) = (letB (UInt8.ofNat n.val) && decide (0 ≤ sgnB (UInt8.ofNat n.val))) := by decide +kernel
  have := h ⟨c.toNat, c.toNat_lt⟩
  simpa using this

set_option maxRecDepth 100000 in
set_option maxHeartbeats 1000000 in
theorem known4_in (n : Nat) (hn : 30 ≤ n) (s : ByteArray) (w : World) (hs : s.size ≤ 4) :
    CallsIn Fence.wide n Try.prog 106 #[.string s] w fun e w' => e = .returned (.bool (genL s.data.toList)) ∧ Below w.heap.size w w' := by
  refine callsIn_of_wp_marks Try.func106 rfl trivial ?_ rfl
  simp only [Try.ntmps106, List.size_toArray, List.length_cons, List.length_nil, Nat.reduceAdd, Nat.reduceSub, Array.replicate_succ, Array.replicate_zero, List.push_toArray, List.append_toArray, List.nil_append, List.cons_append]
  gi_wp2_with fail
  refine ⟨trivial, fun _ => by omega, ?_⟩
  refine (callsIn_wide.2 (signsOf_any s _)).mono ?_
  rintro e w1 ⟨rfl, rfl⟩
  have b1 := (Boxed.new w 4 (.bool false)).alloc (.cells #[.string s] 9)
  have b2 := Boxed.new (w.alloc (.cells #[.bool false] 4)) 9 (.string s)
  rw [World.size_alloc] at b2
  have hB0 : Below w.heap.size w ((w.alloc (.cells #[.bool false] 4)).alloc (.cells #[.string s] 9)) := ((Below.refl _ w).alloc (Nat.le_refl _) _).alloc (by simp) _
  have hsz : ((w.alloc (.cells #[.bool false] 4)).alloc (.cells #[.string s] 9)).heap.size = w.heap.size + 2 := by simp
  obtain ⟨W0, hW0⟩ : ∃ W0, ((w.alloc (.cells #[.bool false] 4)).alloc (.cells #[.string s] 9)) = W0 := ⟨_, rfl⟩
  simp only [World.size_alloc]
  rw [hW0] at b1 b2 hB0 hsz ⊢
  clear hW0
  gi_wp2
  refine wpIn_rangeFunc_ownG rfl (by omega) (gf := 154) (lb := #[.pointer (some ⟨w.heap.size + 1, 0, none⟩)]) rfl trivial (enters_of Try.func154 (by kernel_rfl) rfl)
    (signs_seq s (by omega) W0 (w.heap.size + 1) W0.heap.size (by omega) (Nat.le_refl _) b2.cell (n - 1) (by omega)) belowK_t (belowK_b (Nat.le_refl _)) (Below.refl _ _) (fun _ => rfl)
    (fun pre W => Boxed W w.heap.size 4 (.bool false) ∧ genL pre = true ∧ Below W0.heap.size W0 W)
    (fun c pre W => ((c = .ret ∧ genL pre = false) ∧ Boxed W w.heap.size 4 (.bool false)) ∧ Below w.heap.size w W)
    (OwnFrom.and (Own.from (fun s A B row hs hg hr => boxed_own w.heap.size _ (fun _ : Unit => .bool false) () A B row hs hg hr) _) (OwnFrom.and (ownFrom_pure _ _) (ownFrom_below (Nat.le_refl _) (Nat.le_refl _))))
    (fun c => OwnFrom.and (Own.from (fun s A B row hs hg hr => ⟨hs.1, boxed_own w.heap.size _ (fun _ : Unit => .bool false) () A B row hs.2 hg hr⟩) _) (ownFrom_below (Nat.le_refl _) (by omega)))
    ⟨b1, rfl, Below.refl _ _⟩
    (fun x => { tmps := #[.string s, undef, .pointer (some ⟨w.heap.size, 0, none⟩), .int .u8 (x.toNat : Int), .string s, .int .i64 (s.size : Int), .bool (decide ((4 : Int) < (s.size : Int))), .string s, .func (.func 154) #[] #[.pointer (some ⟨w.heap.size + 1, 0, none⟩)], .int .u8 (x.toNat : Int), undef, undef, undef, undef, undef, undef, undef, undef], defers := [] }) ?assign ?body ?done ?stop
  case assign =>
    intro l x W K hK
    gi_wp2
    exact hK
  case body =>
    rintro l pre x W ⟨c1, hl, hB⟩ hlen
    have d1 := c1.cell
    have f1 := c1.frozen
    have C1 := Lib.hid c1
    have HL := Lib.hid hl
    have hBw : Below w.heap.size w W := hB0.trans (hB.mono (by omega))
    have HBw := Lib.hid hBw
    clear c1 hl hBw
    cases hx : letB x with
    | true =>
      have HX := Lib.hid hx
      by_cases hsg : 0 ≤ sgnB x
      · have hg : genB x = true := by rw [genB_let, hx]; simp [hsg]
        have HG := Lib.hid hg
        obtain ⟨u, hu⟩ : ∃ u, sgnB x = u := ⟨_, rfl⟩
        have HSX := Lib.hid (show ∀ W, Calls Try.prog 86 #[.int .u8 (x.toNat : Int)] W fun e w' => e = .returned (.int .i64 u) ∧ w' = W from fun W => by rw [← hu]; exact iSign_any x W hx)
        rw [hu] at hsg
        have hneg : ¬ u < 0 := by omega
        have hdu : decide (u < 0) = false := decide_eq_false hneg
        clear hx hg hu
        gi_wp2_with fail
        refine ⟨trivial, fun _ => by omega, ?_⟩
        refine (CallsIn.inRound l (callsIn_wide.2 (known_is x true W HX.out))).mono ?_
        rintro e w1 ⟨rfl, rfl⟩
        gi_wp2_with fail
        refine ⟨trivial, fun _ => by omega, ?_⟩
        refine (CallsIn.inRound l (callsIn_wide.2 (HSX.out _))).mono ?_
        rintro e w2 ⟨rfl, rfl⟩
        gi_wp2
        exact ⟨KeepsFrom.refl _ _, Below.refl _ _, C1.out, by rw [genL_append, HL.out]; simp [genL, HG.out], hB⟩
      · have hg : genB x = false := by rw [genB_let, hx]; simp [hsg]
        have HG := Lib.hid hg
        obtain ⟨u, hu⟩ : ∃ u, sgnB x = u := ⟨_, rfl⟩
        have HSX := Lib.hid (show ∀ W, Calls Try.prog 86 #[.int .u8 (x.toNat : Int)] W fun e w' => e = .returned (.int .i64 u) ∧ w' = W from fun W => by rw [← hu]; exact iSign_any x W hx)
        rw [hu] at hsg
        have hneg : u < 0 := by omega
        have hdu : decide (u < 0) = true := decide_eq_true hneg
        clear hx hg hu
        gi_wp2_with fail
        refine ⟨trivial, fun _ => by omega, ?_⟩
        refine (CallsIn.inRound l (callsIn_wide.2 (known_is x true W HX.out))).mono ?_
        rintro e w1 ⟨rfl, rfl⟩
        gi_wp2_with fail
        refine ⟨trivial, fun _ => by omega, ?_⟩
        refine (CallsIn.inRound l (callsIn_wide.2 (HSX.out _))).mono ?_
        rintro e w2 ⟨rfl, rfl⟩
        gi_wp2
        exact ⟨(KeepsOthers.setCell _ _ _).from _, ⟨⟨rfl, by rw [genL_append]; simp [genL, HG.out]⟩, C1.out.set _⟩, HBw.out.setCell (p := ⟨w.heap.size, 0, none⟩) (Nat.le_refl _) _⟩
    | false =>
      have HX := Lib.hid hx
      have HG := Lib.hid (show genB x = false by rw [genB_let, hx]; rfl)
      clear hx
      gi_wp2_with fail
      refine ⟨trivial, fun _ => by omega, ?_⟩
      refine (CallsIn.inRound l (callsIn_wide.2 (known_is x false W HX.out))).mono ?_
      rintro e w1 ⟨rfl, rfl⟩
      gi_wp2_with fail
      refine ⟨trivial, ?_⟩
      gi_wp2
      exact ⟨(KeepsOthers.setCell _ _ _).from _, ⟨⟨rfl, by rw [genL_append]; simp [genL, HG.out]⟩, C1.out.set _⟩, HBw.out.setCell (p := ⟨w.heap.size, 0, none⟩) (Nat.le_refl _) _⟩
  case done =>
    rintro D ys W hD rfl ⟨c1, hl, hB⟩ hK
    have hBW : Below w.heap.size w W := hB0.trans (hB.mono (by omega))
    have hDlt : D < W.heap.size := (Array.getElem?_eq_some_iff.1 hK).1
    have d1 := c1.cell
    have f1 := c1.frozen
    have C1 := Lib.hid c1
    have HK := Lib.hid hK
    have HL := Lib.hid hl
    clear c1 hK hl
    gi_wp2
    obtain ⟨W5, hW5⟩ : ∃ W5, W.setCell ⟨w.heap.size, 0, none⟩ (.bool true) = W5 := ⟨_, rfl⟩
    have e1 : Boxed W5 w.heap.size 4 (.bool true) := by rw [← hW5]; exact C1.out.set _
    have hK5 : W5.heap[D]? = some (.deferred (some [])) := by rw [← hW5]; exact (KeepsOthers.setCell _ _ _).same D _ HK.out rfl
    have hB5 : Below w.heap.size w W5 := by rw [← hW5]; exact hBW.setCell (p := ⟨w.heap.size, 0, none⟩) (Nat.le_refl _) _
    rw [hW5]
    clear hW5
    refine ⟨by simp, .inl ⟨_, _, rfl, run_takeDeferred hK5, ?_⟩⟩
    have g1 := (e1.kept (grownBy_putObj' W5 D (.deferred none)) (fun e => by cases e; omega)).cell
    refine ⟨.bool true, by simp [results, Try.f106, go_sem, g1], by rw [HL.out], hB5.trans (belowK_b (w := w) (Nat.le_refl _) W5 D _ _ (by omega) hK5 rfl rfl)⟩
  case stop =>
    rintro D c pre W hD hpre ⟨⟨⟨rfl, hl⟩, c1⟩, hB⟩ hK
    gi_wp2
    refine ⟨by simp, .inl ⟨_, _, rfl, run_takeDeferred hK, ?_⟩⟩
    have e1 := (c1.kept (grownBy_putObj' W D (.deferred none)) (fun e => by cases e; omega)).cell
    refine ⟨.bool false, by simp [results, Try.f106, go_sem, e1], by rw [genL_prefix hpre hl], hB.trans (belowK_b (w := w) (Nat.le_refl _) W D _ _ (by omega) hK rfl rfl)⟩

set_option maxRecDepth 100000 in
set_option maxHeartbeats 1000000 in
theorem known4_any (s : ByteArray) (w : World) (hs : s.size ≤ maxLen) :
    Calls Try.prog 106 #[.string s] w fun e w' => e = .returned (.bool (monoB s)) ∧ Below w.heap.size w w' := by
  by_cases h : s.size ≤ 4
  · refine ((callsIn_wide (n := 30)).1 (known4_in 30 (by omega) s w h)).mono ?_
    rintro e w' ⟨rfl, hb⟩
    refine ⟨?_, hb⟩
    unfold monoB genL
    rw [decide_eq_true h, Bool.and_true]
  · have hm : monoB s = false := by unfold monoB; rw [decide_eq_false h, Bool.and_false]
    rw [hm]
    unfold maxLen at hs
    clear hm
    go_enter Try.func106, Try.ntmps106
    go_wp2
    refine bodyPost_ret (by simp [results, Try.f106, go_sem]; rfl) rfl ?_
    exact ⟨rfl, (Below.refl _ w).alloc (Nat.le_refl _) _⟩
theorem known4_is (s : ByteArray) (b : Bool) (w : World) (hs : s.size ≤ maxLen) (hb : monoB s = b) :
    Calls Try.prog 106 #[.string s] w fun e w' => e = .returned (.bool b) ∧ Below w.heap.size w w' := by rw [← hb]; exact known4_any s w hs

end Go.Proofs.Ytebgcebjlbhjjab

/- The contracts of the program's 'ofSeries' and 'SeriesIn'. -/

namespace Go.Proofs.Ytebgcebjlbhjjab
open Go.RowKit Go.Shelf

attribute [local go_sem] Oper.semAt_some

/-- Is a term as a series wants it? -/
def okT (t : Tm) : Bool := monoB t.s && (inR (-1000000) 1000000 t.c && !(t.c == 0))
theorem all_mem {f g : Tm → Bool} : ∀ {l : List Tm}, (∀ t ∈ l, f t = g t) → l.all f = l.all g
  | [], _ => rfl
  | t :: r, h => by rw [List.all_cons, List.all_cons, h t (by simp), all_mem fun u hu => h u (List.mem_cons_of_mem _ hu)]
theorem serB_eq (ts : List Tm) : serB ts = (decide (ts.length ≤ 400) && (ascB ts && ts.all okT)) := by
  by_cases hc : Canon ts
  · rw [serB_canon hc, ascB_canon hc, Bool.true_and]
    unfold twS
    congr 1
    refine all_mem fun t ht => ?_
    unfold okT
    have : (t.c == 0) = false := by simpa using hc.2 t ht
    rw [this, Bool.not_false, Bool.and_true, Bool.and_comm]
  · have h1 : serB ts = false := by
      cases h : serB ts
      · rfl
      · exact absurd (serB_parts h).2.2 hc
    have h2 : (ascB ts && ts.all okT) = false := by
      cases h : (ascB ts && ts.all okT)
      · rfl
      · refine absurd ?_ hc
        simp only [Bool.and_eq_true] at h
        refine ⟨pairwise_lessW fun k hk hk0 => ?_, fun t ht => ?_⟩
        · have h3 := h.1
          unfold ascB at h3
          have := List.all_eq_true.1 h3 k (List.mem_range.2 hk)
          simp only [Bool.or_eq_true, decide_eq_true_eq] at this
          rcases this with h | h
          · omega
          · exact h
        · have := List.all_eq_true.1 h.2 t ht
          unfold okT at this
          simp only [Bool.and_eq_true, Bool.not_eq_true', beq_eq_false_iff_ne] at this
          exact this.2.2
    rw [h1, h2, Bool.and_false]

set_option maxHeartbeats 1000000 in
theorem ofSeries_is (t : Tm) (b : Bool) (w : World) (hs : t.s.size ≤ maxLen) (hb : okT t = b) :
    Calls Try.prog 90 #[.agg #[.int .i64 t.c, .string t.s]] w fun e w' => e = .returned (.bool b) ∧ Below w.heap.size w w' := by
  have HS := Lib.hid hs
  clear hs
  unfold okT at hb
  cases hm : monoB t.s with
  | false =>
    rw [hm] at hb
    obtain rfl : b = false := hb.symm
    have HM := Lib.hid hm
    clear hm hb
    obtain ⟨c, s⟩ := t
    go_enter Try.func90, Try.ntmps90
    go_wp2_with fail
    refine (known4_is s false _ HS.out HM.out).mono ?_
    rintro e w1 ⟨rfl, hb1⟩
    have HB1 := Lib.hid hb1
    clear hb1
    go_wp2
    go_ret
    exact ⟨rfl, ((Below.refl _ w).alloc (Nat.le_refl _) _).trans (HB1.out.mono (by simp))⟩
  | true =>
    rw [hm, Bool.true_and] at hb
    have HM := Lib.hid hm
    clear hm
    have hbx : ∀ w1, Below (w.alloc (.cells #[.int .i64 t.c, .string t.s] TI)).heap.size (w.alloc (.cells #[.int .i64 t.c, .string t.s] TI)) w1 → w1.cell? ⟨w.heap.size, 0, none⟩ = some (.int .i64 t.c) ∧ w1.cell? ⟨w.heap.size, 1, none⟩ = some (.string t.s) := fun w1 hb => by
      constructor
      · rw [hb.cell (p := ⟨w.heap.size, 0, none⟩) (by simp)]; exact (World.cell?_alloc_at _ _ _ _ (by simp)).trans rfl
      · rw [hb.cell (p := ⟨w.heap.size, 1, none⟩) (by simp)]; exact (World.cell?_alloc_at _ _ _ _ (by simp)).trans rfl
    have HBX := Lib.hid hbx
    clear hbx
    cases hr : inR (-1000000) 1000000 t.c with
    | false =>
      rw [hr] at hb
      obtain rfl : b = false := hb.symm
      have HR := Lib.hid hr
      clear hr hb
      obtain ⟨c, s⟩ := t
      go_enter Try.func90, Try.ntmps90
      go_wp2_with fail
      refine (known4_is s true _ HS.out HM.out).mono ?_
      rintro e w1 ⟨rfl, hb1⟩
      obtain ⟨x0, x1⟩ := HBX.out w1 hb1
      have HB1 := Lib.hid hb1
      clear hb1
      go_wp2_with fail
      refine (inRange_is ⟨c, s⟩ false _ HR.out).mono ?_
      rintro e w2 ⟨rfl, hb2⟩
      have HB2 := Lib.hid (HB1.out.trans (hb2.mono HB1.out.size))
      clear hb2
      go_wp2
      go_ret
      exact ⟨rfl, ((Below.refl _ w).alloc (Nat.le_refl _) _).trans (HB2.out.mono (by simp))⟩
    | true =>
      rw [hr, Bool.true_and] at hb
      have HR := Lib.hid hr
      clear hr
      obtain ⟨c, s⟩ := t
      obtain ⟨z, hz⟩ : ∃ z, (c == 0) = z := ⟨_, rfl⟩
      have hb' : (!z) = b := by rw [← hz]; exact hb
      have HZ := Lib.hid (show ∀ W, Calls Try.prog 115 #[.agg #[.int .i64 c, .string s]] W fun e w' => e = .returned (.bool z) ∧ Grew W w' from fun W => by rw [← hz]; exact isZero_any ⟨c, s⟩ W)
      clear hz hb
      go_enter Try.func90, Try.ntmps90
      go_wp2_with fail
      refine (known4_is s true _ HS.out HM.out).mono ?_
      rintro e w1 ⟨rfl, hb1⟩
      obtain ⟨x0, x1⟩ := HBX.out w1 hb1
      have HB1 := Lib.hid hb1
      clear hb1
      go_wp2_with fail
      refine (inRange_is ⟨c, s⟩ true _ HR.out).mono ?_
      rintro e w2 ⟨rfl, hb2⟩
      have HB2 := Lib.hid (HB1.out.trans (hb2.mono HB1.out.size))
      clear hb2 x0 x1
      obtain ⟨x0, x1⟩ := HBX.out w2 HB2.out
      go_wp2_with fail
      refine (HZ.out _).mono ?_
      rintro e w3 ⟨rfl, hb3⟩
      have HB3 := Lib.hid (HB2.out.trans (hb3.below.mono HB2.out.size))
      clear hb3 x0 x1
      go_wp2
      go_ret
      exact ⟨by first | rfl | exact ret_bool hb'.symm, ((Below.refl _ w).alloc (Nat.le_refl _) _).trans (HB3.out.mono (by simp))⟩

theorem all_take {ts : List Tm} {f : Tm → Bool} {k : Nat} (hk : k < ts.length) (h : (ts.take k).all f = true) (hf : f ts[k] = true) : (ts.take (k + 1)).all f = true := by
  rw [List.take_succ_eq_append_getElem hk, List.all_append, h]
  simp [hf]

set_option maxRecDepth 100000 in
set_option maxHeartbeats 2000000 in
theorem iSeriesIn_any (a : Option Addr) (cap n : Nat) (ts : List Tm) (w : World) (hs : IsTerms w a n ts) :
    Calls Try.prog 31 #[.slice a n cap] w fun e w' => e = .returned (.bool (serB ts)) ∧ Below w.heap.size w w' := by
  have hm := hs.max
  have hE := serB_eq ts
  rw [hs.len] at hE
  have HN := Lib.hid hs.len
  have HS := Lib.hid hs
  clear hs
  unfold maxLen at hm
  by_cases h4 : n ≤ 400
  · have hgt : decide ((400 : Int) < (n : Int)) = false := decide_eq_false (by omega)
    rw [decide_eq_true h4, Bool.true_and] at hE
    have HE := Lib.hid hE
    clear hE
    have hb2 : Below w.heap.size w (w.alloc (.cells #[.slice a n cap, .func (.func 88) #[] #[]] 101)) := (Below.refl _ w).alloc (Nat.le_refl _) _
    have HS2 := Lib.hid (HS.out.below hb2)
    have hn0 : w.heap.size < (w.alloc (.cells #[.slice a n cap, .func (.func 88) #[] #[]] 101)).heap.size := by simp
    have HA := Lib.hid (ascends_any w.heap.size a cap n ts (w.alloc (.cells #[.slice a n cap, .func (.func 88) #[] #[]] 101)) HS2.out hn0 ((World.cell?_alloc_at _ _ _ _ (by simp)).trans rfl) ((World.cell?_alloc_at _ _ _ _ (by simp)).trans rfl))
    have HB2 := Lib.hid hb2
    clear hb2 hn0
    cases h3 : ascB ts with
    | false =>
      have H3 := Lib.hid h3
      clear h3
      go_enter Try.func31, Try.ntmps31
      go_wp2_with fail
      refine HA.out.mono ?_
      rintro e w3 ⟨rfl, hb3⟩
      have H3' := H3.out
      rw [H3']
      clear H3'
      have HB3 := Lib.hid (HB2.out.trans (hb3.mono HB2.out.size))
      clear hb3
      go_wp2
      go_ret
      exact ⟨ret_bool (by rw [HE.out, H3.out]; rfl), HB3.out⟩
    | true =>
      have H3 := Lib.hid h3
      clear h3
      go_enter Try.func31, Try.ntmps31
      go_wp2_with fail
      refine HA.out.mono ?_
      rintro e w3 ⟨rfl, hb3⟩
      have H3' := H3.out
      rw [H3']
      clear H3'
      have HB3 := Lib.hid (HB2.out.trans (hb3.mono HB2.out.size))
      have HS3 := Lib.hid (HS2.out.below hb3)
      clear hb3
      go_wp2_with fail
      go_loopw [17] (fun i wr => ∃ k : Nat, k ≤ n ∧ i = .int .i64 k ∧ Hid ((ts.take k).all okT = true) ∧ Below w.heap.size w wr) (fun i _ => n - (intOf i).toNat)
      case atStart => exact ⟨0, Nat.zero_le _, rfl, Lib.hid rfl, HB3.out⟩
      case round =>
        obtain ⟨k, hk, rfl, HK, hB⟩ := hrel
        by_cases hlt : k < n
        · have hkz : k < ts.length := by rw [HN.out]; exact hlt
          obtain ⟨x, rfl, hx⟩ := HS.out.at_ (by omega)
          obtain ⟨t, ht⟩ : ∃ t, ts[k] = t := ⟨_, rfl⟩
          have hc := (hx.below hB).2 k hkz
          rw [ht, addr_next] at hc
          obtain ⟨hc0, hc1⟩ := hc
          have hsm : t.s.size ≤ maxLen := by rw [← ht]; exact (HS.out.small _ (List.getElem_mem hkz)).1
          have HT := Lib.hid ht
          have HSM := Lib.hid hsm
          have hwr := Lib.hid hB
          clear hx ht hsm hB
          cases hok : okT t with
          | false =>
            have HO := Lib.hid hok
            clear hok
            go_wp2_with fail
            refine (ofSeries_is t false _ HSM.out HO.out).mono ?_
            rintro e w4 ⟨rfl, hb4⟩
            have HB4 := Lib.hid hb4
            clear hb4
            go_wp2
            go_ret
            refine ⟨ret_bool ?_, (hwr.out.alloc hwr.out.size _).trans (HB4.out.mono (by have := hwr.out.size; simp; omega))⟩
            rw [HE.out, H3.out, Bool.true_and]
            exact (List.all_eq_false.2 ⟨t, by rw [← HT.out]; exact List.getElem_mem hkz, by rw [HO.out]; exact Bool.false_ne_true⟩).symm
          | true =>
            have HO := Lib.hid hok
            clear hok
            go_wp2_with fail
            refine (ofSeries_is t true _ HSM.out HO.out).mono ?_
            rintro e w4 ⟨rfl, hb4⟩
            have HB4 := Lib.hid hb4
            clear hb4
            go_wp2
            go_roundw
            case rel => exact ⟨k + 1, by omega, by go_num, Lib.hid (all_take hkz HK.out (by rw [HT.out]; exact HO.out)), (hwr.out.alloc hwr.out.size _).trans (HB4.out.mono (by have := hwr.out.size; simp; omega))⟩
            case measure => simp [intOf]; omega
        · obtain rfl : k = n := by omega
          have hall : ts.all okT = true := by have := HK.out; rwa [List.take_of_length_le (by rw [HN.out]; exact Nat.le_refl _)] at this
          have HL := Lib.hid hall
          clear hall
          go_wp2
          go_ret
          exact ⟨ret_bool (by rw [HE.out, H3.out, HL.out]; rfl), hB⟩
  · have hgt : decide ((400 : Int) < (n : Int)) = true := decide_eq_true (by omega)
    rw [decide_eq_false h4, Bool.false_and] at hE
    have HE := Lib.hid hE
    clear hE
    go_enter Try.func31, Try.ntmps31
    go_wp2
    go_ret
    exact ⟨ret_bool HE.out.symm, (Below.refl _ w).alloc (Nat.le_refl _) _⟩
theorem iSeriesIn_is (a : Option Addr) (cap n : Nat) (ts : List Tm) (b : Bool) (w : World) (hs : IsTerms w a n ts) (hb : serB ts = b) :
    Calls Try.prog 31 #[.slice a n cap] w fun e w' => e = .returned (.bool b) ∧ Below w.heap.size w w' := by rw [← hb]; exact iSeriesIn_any a cap n ts w hs

end Go.Proofs.Ytebgcebjlbhjjab

/- A map copied, cleared, made with one entry; the contracts of the program's 'oneSeries' and 'told' (of a series). -/

namespace Go.Proofs.Ytebgcebjlbhjjab
open Go.RowKit Go.Shelf Go.Maps Go.MapKept

def cloneS_ren : Go.Shelf.Ren := ⟨fun | 5 => 131 | 7 => 151 | n => n, fun | 23 => 106 | 25 => 118 | 3 => 3 | 4 => 4 | 20 => 20 | n => n, fun n => n⟩
theorem cloneS : SlLaysW.n5 Try.prog cloneS_ren := {
  mixed := by kernel_rfl
  f5 := Exists.intro "maps.Clone[loop.example/foxcalculus/impl.series,loop.example/foxcalculus/impl.monomial,int]" ⟨of_decide_eq_true (by kernel_rfl), Try.func131.trans (congrArg some (by kernel_rfl))⟩
  f7 := Try.func151.trans (congrArg some (by kernel_rfl))
  t4 := Try.underlying4
  a4 := Try.isAgg4
  z4 := Try.sizeOf4
  v4 := Try.zeroValue4
  t20 := Try.underlying20
  a20 := Try.isAgg20
  z20 := Try.sizeOf20
  v20 := Try.zeroValue20
  t23 := Try.underlying106
  a23 := Try.isAgg106
  z23 := Try.sizeOf106
  v23 := Try.zeroValue106 }
theorem clone_any (b : Nat) (ts : List Tm) (w : World) (h : MapT w b ts) :
    Calls Try.prog 131 #[.map (some b)] w fun e w' => e = .returned (.map (some w.heap.size)) ∧ MapT w' w.heap.size ts ∧ Below w.heap.size w w' := by
  obtain ⟨es, h, hq⟩ := h
  refine (AnyW.maps_Clone_owns cloneS MonT _ b _ _ w h).mono ?_
  rintro e w' ⟨rfl, h1, _, h2⟩
  exact ⟨rfl, ⟨es, h1, hq⟩, h2⟩

section
variable {ops : Array Oper} {rest : List Oper} {o : Oper} {a : Act} {Q : Exit → Act → World → Prop}
theorem wpList_clear_map (w : World) (hg : o.guard = none) (m : Operand) (hop : o.op = Op.call { callee := Callee.builtin Builtin.clear, args := #[m], argTypes := #[SerT] }) (b : Nat) (ts : List Tm) (hm : a.eval m = .map (some b)) (h : MapT w b ts)
    (hK : ∀ w', MapT w' b [] → w.grownBy w' (some b) → wpList Try.prog ops Q rest (a.put o.dst (.tuple #[])) w') : wpList Try.prog ops Q (o :: rest) a w := by
  obtain ⟨es, ⟨es', clock, hb, F, _, _⟩, _⟩ := h
  have hrun : (Builtin.clear_ #[SerT] o.type #[.map (some b)]).run Try.prog w = .ok (.tuple #[]) { w with heap := w.heap.setIfInBounds b (.map #[] clock) } := by
    simp [Builtin.clear_, run_underlying undSer, Go.MapKept.run_getObj_map hb, Go.MapKept.run_setObj_map _ hb, Result.andThen]
  refine wpList_plain hg fun K' hK' => ?_
  unfold Oper.wp
  simp [execOp, hop, resolve, invoke, builtin, hm, hrun, Result.andThen]
  exact hK' _ _ (hK _ ⟨[], ⟨#[], clock, (heap_set hb).1, ⟨by simp, stamped_empty _, by simp⟩, Nat.le_refl _, rfl⟩, .refl _⟩ ⟨rfl, rfl, rfl, by simp, fun k _ hk => (heap_set hb).2 k fun e => hk (by rw [e])⟩)
theorem wpList_insert_map (w : World) (hg : o.guard = none) (m x v : Operand) (hop : o.op = Op.insert SerT m x v) (b : Nat) (ts : List Tm) (hm : a.eval m = .map (some b)) (h : MapT w b ts) (hn : ts.length < maxLen) (s : ByteArray) (c : Int)
    (hx : a.eval x = .string s) (hv : a.eval v = .int .i64 c) (hs : s.size ≤ maxLen) (hc : (Lit.int .i64 c).wf = true)
    (hK : ∀ w', MapT w' b (putT ts s c) → w.grownBy w' (some b) → wpList Try.prog ops Q rest (a.put o.dst undef) w') : wpList Try.prog ops Q (o :: rest) a w := by
  obtain ⟨D, hown, hput⟩ := h.store
  refine wpList_plain hg fun K' hK' => ?_
  obtain ⟨w', hrun, r1, r2⟩ := hown.update lawMon undSer hn (key_mk hs) (plainElem_int (H := Unit) Try.underlying3 hc)
  unfold Oper.wp
  simp [execOp, hop, hm, hx, hv, hrun, Result.andThen]
  exact hK' _ _ (hK w' (hput s c w' r1) r2)
end

theorem oneSeries_any (w : World) : Calls Try.prog 133 #[] w fun e w' => (∃ b, e = .returned (.map (some b)) ∧ w.heap.size ≤ b ∧ MapT w' b [⟨1, { data := #[] }⟩]) ∧ Below w.heap.size w w' := by
  have hmm := @run_makeMap Try.prog
  have h0 := mapT_made w
  go_enter Try.func133, Try.ntmps133
  go_wp2_with (first | (refine wpList_insert_map _ rfl _ _ _ rfl w.heap.size [] rfl h0 (by simp [maxLen]) _ _ rfl rfl (Nat.zero_le _) (by decide) ?_; intro w1 h1 hg1) | go_in)
  go_ret
  exact ⟨⟨_, rfl, Nat.le_refl _, h1⟩, ((Below.refl _ w).alloc (Nat.le_refl _) _).grown hg1 (by simp) (fun k e => by cases e; exact Nat.le_refl _)⟩

/-! ### told -/
def nzT2 (ts : List Tm) : List Tm := ts.filter fun t => !(t.c == 0)
theorem nzT2_snoc (ts : List Tm) (c : Int) (s : ByteArray) : nzT2 (ts ++ [⟨c, s⟩]) = if c = 0 then nzT2 ts else nzT2 ts ++ [⟨c, s⟩] := by
  unfold nzT2
  rw [List.filter_append, List.filter_cons, List.filter_nil]
  by_cases h : c = 0
  · simp [h]
  · simp [h]
theorem sorted_canon {ss ts : List Tm} (ha : Apart ts) (hp : ss.Perm (nzT2 ts)) (hs : ss.Pairwise (fun a b => lessW b.s a.s = false)) : ss = canonT ts := by
  have hsub : Apart (nzT2 ts) := List.Pairwise.filter _ ha
  have hss : Apart ss := hsub.perm hp.symm
  refine canonT_unique ⟨?_, fun t ht => ?_⟩ fun s => ?_
  · have h2 := List.pairwise_iff_getElem.1 hss
    have h1 := List.pairwise_iff_getElem.1 hs
    refine List.pairwise_iff_getElem.2 fun i j hi hj hij => ?_
    cases h : lessW ss[i].s ss[j].s
    · exact absurd (lessW_tri h (h1 i j hi hj hij)) (h2 i j hi hj hij)
    · rfl
  · have := (List.mem_filter.1 (hp.mem_iff.1 ht)).2
    simpa using this
  · rw [coefAt_perm s hp]; exact coefAt_filter s ts

end Go.Proofs.Ytebgcebjlbhjjab

/- The contract of the program's 'times' (of series). -/

namespace Go.Proofs.Ytebgcebjlbhjjab
open Go.RowKit Go.Shelf

theorem put_fresh {ts : List Tm} {s : ByteArray} {v : Int} (h : ∀ t ∈ ts, t.s ≠ s) : putT ts s v = ⟨v, s⟩ :: ts := by
  unfold putT
  rw [filter_every fun t ht => by simp [h t ht]]
theorem canon_apart {ts : List Tm} (h : Canon ts) : Apart ts := h.1.imp fun hl => lessW_ne hl
theorem apart_fresh {ts : List Tm} (h : Apart ts) {k : Nat} (hk : k < ts.length) : ∀ t ∈ ts.take k, t.s ≠ ts[k].s := fun t ht => by
  obtain ⟨i, hi, rfl⟩ := List.getElem_of_mem ht
  rw [List.length_take] at hi
  rw [List.getElem_take]
  exact List.pairwise_iff_getElem.1 h i k (by omega) hk (by omega)
theorem take_perm {ts : List Tm} {k : Nat} (hk : k < ts.length) : (ts[k] :: ts.take k).Perm (ts.take (k + 1)) := by
  rw [List.take_succ_eq_append_getElem hk]
  exact List.perm_append_comm (l₁ := [ts[k]])

/-! ### times -/
set_option maxRecDepth 100000 in
set_option maxHeartbeats 4000000 in
theorem times_any (b b2 : Nat) (X Y : List Tm) (w : World) (hne : b ≠ b2) (hX : MapT w b X) (hY : MapT w b2 Y) (mX : MonoT X) (mY : MonoT Y) (cX : BndT 1000000 X) (cY : BndT 1000000 Y) :
    Calls Try.prog 95 #[.map (some b), .map (some b2)] w fun e w' => e = .returned (.tuple #[]) ∧ (∃ ts, MapT w' b ts ∧ MonoT ts ∧ ∀ k, coefAt k ts = coefAt k (pairsS X Y)) ∧ w.grownBy w' (some b) := by
  have hb := hX.lt
  have hb2 := hY.lt
  have hlX := apart_len341 hX.apart mX
  have hlY := apart_len341 hY.apart mY
  have HX := Lib.hid hX
  have HY := Lib.hid hY
  have MX := Lib.hid mX
  have MY := Lib.hid mY
  have CX := Lib.hid cX
  have CY := Lib.hid cY
  clear hX hY mX mY cX cY
  go_enter Try.func95, Try.ntmps95
  go_wp2_with fail
  refine (clone_any b X w HX.out).mono ?_
  rintro e w1 ⟨rfl, hc, hb1⟩
  have hcl := hc.lt
  obtain ⟨cb, hcb⟩ : ∃ cb, w.heap.size = cb := ⟨_, rfl⟩
  rw [hcb] at hc hcl ⊢
  have HC1 := Lib.hid hc
  have HX1 := Lib.hid (HX.out.below hb1)
  have HY1 := Lib.hid (HY.out.below hb1)
  have G1 : w.grownBy w1 (some b) := (grown_of_below hb1).but _
  have HG1 := Lib.hid G1
  have HCB := Lib.hid hcb
  have hbc : b < cb := by omega
  have hb2c : b2 < cb := by omega
  clear hc hb1 G1 hcb hb hb2
  go_wp2_with (first | (refine wpList_clear_map _ rfl _ rfl b X rfl HX1.out ?_; intro w2 h2 hg2) | (at_range; refine wpList_range_map _ rfl _ rfl b2 Y rfl (HY1.out.kept hg2 (by simp; omega)) ?_; intro w3 hrg3 hg3 hs3) | go_in)
  go_frame
  have hs2 := hg2.size
  obtain ⟨r, hr⟩ : ∃ r, w2.heap.size = r := ⟨_, rfl⟩
  rw [hr] at hrg3 hs3 ⊢
  have HC3 : MapT w3 cb X := (HC1.out.kept hg2 (by simp; omega)).kept hg3 (by simp)
  have H3 : MapT w3 b [] := h2.kept hg3 (by simp)
  have G3 : w.grownBy w3 (some b) := (HG1.out.andThen hg2 (fun j hj => by cases hj; exact Or.inr rfl)).andThen hg3 (fun j hj => by cases hj)
  have hrc : cb < r := by omega
  go_loopw [5] (fun _ wr => ∃ (done : List Tm) (cnt : Nat) (ts : List Tm), RangeT wr b2 r Y done cnt ∧ MapT wr cb X ∧ MapT wr b ts ∧ Hid (MonoT ts ∧ ∀ k, coefAt k ts = coefAt k (pairsQ done X)) ∧ w.grownBy wr (some b))
    (fun _ wr => wr.rangeLeft b2 r)
  case atStart => exact ⟨[], _, [], hrg3, HC3, H3, Lib.hid ⟨fun t ht => by (cases ht), fun _ => rfl⟩, G3⟩
  case round =>
    obtain ⟨done, cnt, ts, hrg, hC, hT, HF, hG⟩ := hrel
    have hcl := hrg.cnt
    have hdl := hrg.donelen
    have hrl := hrg.lt
    have HRG := Lib.hid hrg
    have HCC := Lib.hid hC
    have HTT := Lib.hid hT
    have HGG := Lib.hid hG
    clear hrg hC hT hG H3 G3 HC3 hrg3 hg3 h2 hg2
    go_wp2_with (first | (at_next; refine wpList_next_map _ rfl _ rfl b2 r Y done cnt rfl HRG.out ?_ ?_) | go_in)
    · intro hperm
      go_wp2
      go_end0
      refine ⟨rfl, ⟨ts, HTT.out, HF.out.1, fun k => ?_⟩, HGG.out⟩
      rw [HF.out.2, coefAt_perm k (pairsQ_perm X hperm), pairsQ_swap]
    · intro m y v1 cnt1 hmem hrg1 hlt hg1 hs1 hen
      have HCv := Lib.hid (HCC.out.kept hg1 (by simp; omega))
      have HTv := Lib.hid (HTT.out.kept hg1 (by simp; omega))
      have HGv := Lib.hid (HGG.out.andThen hg1 (fun j hj => by cases hj; exact Or.inl (by have := HCB.out; omega)))
      have HRv := Lib.hid hrg1
      have hym := MY.out _ hmem
      have hys : y.size ≤ 4 := mono_size hym
      have hyc := CY.out _ hmem
      have HYM := Lib.hid hym
      have HYC := Lib.hid hyc
      clear hmem hym hyc hrg1 hg1 HRG HCC HTT HGG
      go_wp2_with (first | (at_range; refine wpList_range_map _ rfl _ rfl cb X rfl HCv.out ?_; intro v2 hrg2 hg2 hs2) | go_in)
      try go_frame
      rw [hs1] at hrg2 hs2
      obtain ⟨r2, hr2⟩ : ∃ r2, wr.heap.size = r2 := ⟨_, rfl⟩
      rw [hr2] at hrg2 hs2 ⊢
      have hrr : r < r2 := by omega
      have HR2 : RangeT v2 b2 r Y (done ++ [⟨m, y⟩]) cnt1 := HRv.out.kept hg2 (by simp) (by simp)
      have HT2 : MapT v2 b ts := HTv.out.kept hg2 (by simp)
      have HG2 : w.grownBy v2 (some b) := HGv.out.andThen hg2 (fun j hj => by cases hj)
      go_loopw [7] (fun _ wr => ∃ (dX : List Tm) (cnt2 : Nat) (us : List Tm), RangeT wr cb r2 X dX cnt2 ∧ RangeT wr b2 r Y (done ++ [⟨m, y⟩]) cnt1 ∧ MapT wr b us ∧ Hid (MonoT us ∧ ∀ k, coefAt k us = coefAt k (pairsQ done X ++ rowQ ⟨m, y⟩ dX)) ∧ w.grownBy wr (some b))
        (fun _ wr => wr.rangeLeft cb r2)
      case atStart => exact ⟨[], _, ts, hrg2, HR2, HT2, Lib.hid ⟨HF.out.1, fun k => by rw [HF.out.2, coefAt_append]; simp [rowQ, coefAt]⟩, HG2⟩
      case round =>
        obtain ⟨dX, cnt2, us, hrgX, hrgY, hU, HU, hGr⟩ := hrel
        have hcl2 := hrgX.cnt
        have hdl2 := hrgX.donelen
        have HRX := Lib.hid hrgX
        have HRY := Lib.hid hrgY
        have HUU := Lib.hid hU
        have HGr := Lib.hid hGr
        clear hrgX hrgY hU hGr HR2 HT2 HG2 hrg2 hg2
        go_wp2_with (first | (at_next; refine wpList_next_map _ rfl _ rfl cb r2 X dX cnt2 rfl HRX.out ?_ ?_) | go_in)
        · intro hperm
          have hl1 := HRY.out.cnt
          go_wp2
          go_roundw
          case rel => exact ⟨_, cnt1, us, HRY.out, HRX.out.map, HUU.out, Lib.hid ⟨HU.out.1, fun k => by rw [HU.out.2, pairsQ_snoc, coefAt_append, coefAt_append, coefAt_perm k (rowQ_perm _ hperm)]⟩, HGr.out⟩
          case measure => rw [hl1, hcl]; exact hlt
        · intro n x v3 cnt3 hmem hrgX hlt2 hg3 hs3 hen2
          have HRX3 := Lib.hid hrgX
          have HRY3 := Lib.hid (HRY.out.kept hg3 (by simp; omega) (by simp; omega))
          have HU3 := Lib.hid (HUU.out.kept hg3 (by simp; omega))
          have HG3 := Lib.hid (HGr.out.andThen hg3 (fun j hj => by cases hj; exact Or.inl (by have := HCB.out; omega)))
          have hxm := MX.out _ hmem
          have hxs : x.size ≤ 4 := mono_size hxm
          have hxc := CX.out _ hmem
          have hsn := rowQ_snoc ⟨m, y⟩ dX ⟨n, x⟩
          have hl3 := hrgX.cnt
          clear hmem hrgX hg3 HRX HRY HUU HGr
          by_cases h4 : x.size + y.size ≤ 4
          · have hd4 : decide ((x.size : Int) + (y.size : Int) ≤ 4) = true := decide_eq_true (by omega)
            obtain ⟨q, hq⟩ : ∃ q, x ++ y = q := ⟨_, rfl⟩
            have hqs : q.size = x.size + y.size := by rw [← hq]; exact ByteArray.size_append
            have hnot : ¬ 9223372036854775807 < x.size + y.size := by omega
            have hqm : q.size ≤ maxLen := by unfold maxLen; omega
            have hqmono : monoB q = true := by rw [← hq]; exact mono_append hxm HYM.out (by rw [hq]; omega)
            have hsn' : rowQ ⟨m, y⟩ (dX ++ [⟨n, x⟩]) = rowQ ⟨m, y⟩ dX ++ [⟨n * m, q⟩] := by rw [hsn, hq, if_pos (by omega)]
            have hmb := mul_bnd hxc HYC.out
            simp only at hmb
            obtain ⟨d, hd⟩ : ∃ d, n * m = d := ⟨_, rfl⟩
            rw [hd] at hmb hsn'
            have hmul : IntKind.i64.wrap (n * m) = d := by rw [hd]; exact IntWalk.i64_in _ (by omega)
            obtain ⟨z, hz⟩ : ∃ z, coefAt q us = z := ⟨_, rfl⟩
            have hzb : -120000000000000000 ≤ z ∧ z ≤ 120000000000000000 := by
              rw [← hz, HU.out.2]
              have hbq : BndT 1000000000000 (pairsQ done X ++ rowQ ⟨m, y⟩ dX) := fun t ht => by
                rcases List.mem_append.1 ht with ht | ht
                · exact bndQQ CX.out (fun u hu => CY.out u (HRY3.out.sub u (List.mem_append.2 (.inl hu)))) t ht
                · exact bndQ (fun u hu => CX.out u (HRX3.out.sub u (List.mem_append.2 (.inl hu)))) HYC.out t ht
              have h1 := coef_bnd (by omega) q hbq
              have h2 := pairsQ_len X done
              have h3 := rowQ_len ⟨m, y⟩ dX
              have h5 : done.length * X.length ≤ 341 * 341 := Nat.mul_le_mul (by omega) hlX
              have h6 : (pairsQ done X ++ rowQ ⟨m, y⟩ dX).length ≤ 341 * 341 + 341 := by rw [List.length_append]; omega
              omega
            have hadd : IntKind.i64.wrap (z + d) = z + d := IntWalk.i64_in _ (by omega)
            have hwf : (Lit.int .i64 (z + d)).wf = true := by
              simp only [Lit.wf, Bool.and_eq_true, decide_eq_true_eq]
              have e1 : IntKind.i64.min = -9223372036854775808 := by decide
              have e2 : IntKind.i64.max = 9223372036854775807 := by decide
              omega
            have hul : us.length < maxLen := by have := apart_len341 HU3.out.apart HU.out.1; unfold maxLen; omega
            have HSN := Lib.hid hsn'
            have HQM := Lib.hid hqmono
            have HZ := Lib.hid hz
            have HUL := Lib.hid hul
            have HWF := Lib.hid hwf
            have HQS := Lib.hid hqs
            clear hsn hsn' hqmono hmb hzb hxc hxm hul hwf hd hqs
            go_wp2_with (first | (refine wpList_lookup_map _ rfl _ _ rfl b us rfl HU3.out q rfl hqm ?_; rw [HZ.out]) | (refine wpList_update_map _ rfl _ _ _ rfl b us rfl HU3.out HUL.out q (z + d) rfl rfl hqm HWF.out ?_; intro v5 h5 hg5; simp only [Act.put]) | go_in)
            have hR5 := HRX3.out.kept hg5 (by simp; omega) (by simp; omega)
            have hl5 := hR5.cnt
            go_roundw
            case rel =>
              refine ⟨_, cnt3, _, hR5, HRY3.out.kept hg5 (by simp; omega) (by simp; omega), h5, Lib.hid ⟨mono_put HU.out.1 HQM.out, fun k => ?_⟩, HG3.out.andThen hg5 (fun j hj => by cases hj; exact Or.inr rfl)⟩
              rw [HSN.out, ← List.append_assoc, ← put_add q d HU.out.2 k, HZ.out]
            case measure => rw [hl5, hcl2]; exact hlt2
          · have hd4 : decide ((x.size : Int) + (y.size : Int) ≤ 4) = false := decide_eq_false (by omega)
            rw [if_neg (by simp only [ByteArray.size_append]; omega), List.append_nil] at hsn
            have HSN := Lib.hid hsn
            clear hsn hxc hxm
            go_wp2
            go_roundw
            case rel => exact ⟨_, cnt3, us, HRX3.out, HRY3.out, HU3.out, Lib.hid ⟨HU.out.1, fun k => by rw [HSN.out]; exact HU.out.2 k⟩, HG3.out⟩
            case measure => rw [hl3, hcl2]; exact hlt2

end Go.Proofs.Ytebgcebjlbhjjab

/- The contracts of the program's 'series' of a letter and of a word, and of 'SeriesOf'. -/

namespace Go.Proofs.Ytebgcebjlbhjjab
open Go.RowKit Go.Shelf

theorem altZ_succ (k : Nat) : altZ (k + 1) = -altZ k := by unfold altZ; split <;> split <;> omega
theorem altZ_one (k : Nat) : altZ k = 1 ∨ altZ k = -1 := by unfold altZ; split <;> simp
theorem bstr_app (a b : List UInt8) : bstr a ++ bstr b = bstr (a ++ b) := bytes_ext (by simp [bstr_toList])
theorem powS_next (c : UInt8) (k : Nat) : bstr (repL k (letX c)) ++ bstr (letX c) = bstr (repL (k + 1) (letX c)) := by rw [bstr_app, ← repL_add, repL_one]
theorem powS_size (c : UInt8) (k : Nat) : (bstr (repL k (letX c))).size = k := by
  have : (bstr (repL k (letX c))).data.toList.length = k := by rw [bstr_toList, repL_len]; simp [letX]
  simpa using this
theorem powT_fresh (c : UInt8) (k : Nat) : ∀ t ∈ (List.range (k + 1)).map (powT c), t.s ≠ bstr (repL (k + 1) (letX c)) := fun t ht => by
  obtain ⟨i, hi, rfl⟩ := List.mem_map.1 ht
  have := List.mem_range.1 hi
  intro e
  have e2 := congrArg ByteArray.size e
  unfold powT at e2
  rw [powS_size, powS_size] at e2
  omega
theorem powT_put (c : UInt8) (k : Nat) : (putT ((List.range (k + 1)).map (powT c)) (bstr (repL (k + 1) (letX c))) (altZ (k + 1))).Perm ((List.range (k + 2)).map (powT c)) := by
  rw [put_fresh (powT_fresh c k), List.range_succ (n := k + 1), List.map_append]
  exact List.perm_append_comm (l₁ := [powT c (k + 1)])

section
attribute [local go_sem] Oper.semAt_some
set_option maxRecDepth 100000 in
set_option maxHeartbeats 4000000 in
theorem letterSeries_any (c : UInt8) (w : World) (hc : letB c = true) :
    Calls Try.prog 134 #[.int .u8 (c.toNat : Int)] w fun e w' => ∃ b, e = .returned (.map (some b)) ∧ w.heap.size ≤ b ∧ MapT w' b (letS c) ∧ Below w.heap.size w w' := by
  have hor := (idx_let c hc).1
  have hj4 := idxB_lt c hc
  obtain ⟨u, hu⟩ : ∃ u, sgnB c = u := ⟨_, rfl⟩
  have HSX : Hid (∀ W, Calls Try.prog 86 #[.int .u8 (c.toNat : Int)] W fun e w' => e = .returned (.int .i64 u) ∧ w' = W) := Lib.hid fun W => by rw [← hu]; exact iSign_any c W hc
  obtain ⟨j, hj⟩ : ∃ j, idxB c = j := ⟨_, rfl⟩
  rw [hj] at hor hj4
  have HU : Hid (sgnB c = u) := Lib.hid hu
  have hlx : letX c = [UInt8.ofNat (97 + j)] := by unfold letX; rw [hj]
  have HLX := Lib.hid hlx
  clear hc hu hj hlx
  go_enter Try.func134, Try.ntmps134
  go_wp2_with fail
  refine (text_letters w.heap.size 0 1 1 (letX c) _ (by rw [HLX.out]; rfl) (by omega) ⟨by simp, fun i hi => ?_⟩).mono ?_
  · have h0 : i = 0 := by simp [letX] at hi; exact hi
    subst h0
    refine (World.cell?_alloc_at _ _ _ _ (by simp)).trans ?_
    have : ((letX c)[0]'hi) = UInt8.ofNat (97 + j) := by simp only [HLX.out, List.getElem_cons_zero]
    rw [this, UInt8.toNat_ofNat', Nat.mod_eq_of_lt (by omega)]
    show some (Value.int IntKind.u8 ((j : Int) + 97)) = some (Value.int IntKind.u8 ((97 + j : Nat) : Int))
    rw [show ((97 + j : Nat) : Int) = (j : Int) + 97 by omega]
  rintro e w1 ⟨rfl, hb1⟩
  obtain ⟨gx, hgx⟩ : ∃ gx, bstr (letX c) = gx := ⟨_, rfl⟩
  rw [hgx]
  have hB1 : Below w.heap.size w w1 := ((Below.refl _ w).alloc (Nat.le_refl _) _).trans (hb1.mono (by simp))
  have HB1 := Lib.hid hB1
  have HGX := Lib.hid hgx
  clear hb1 hB1 hgx
  go_wp2_with fail
  refine (oneSeries_any _).mono ?_
  rintro e w2 ⟨⟨mb, rfl, hlo, hM⟩, hb2⟩
  have hB2 : Below w.heap.size w w2 := HB1.out.trans (hb2.mono HB1.out.size)
  have hmb : w.heap.size ≤ mb := Nat.le_trans HB1.out.size hlo
  have HM := Lib.hid hM
  have HB2 := Lib.hid hB2
  clear hb2 hB2 hM hlo
  by_cases h97 : 97 ≤ c.toNat
  · obtain rfl : u = 1 := by rw [← HU.out]; unfold sgnB; rw [if_pos h97]
    have hls : letS c = [⟨1, { data := #[] }⟩, ⟨1, gx⟩] := by unfold letS; rw [if_pos h97, HGX.out]
    have hgs : gx.size ≤ maxLen := by rw [← HGX.out, ← repL_one (letX c), powS_size]; unfold maxLen; omega
    have hfr : putT [(⟨1, { data := #[] }⟩ : Tm)] gx 1 = [⟨1, gx⟩, ⟨1, { data := #[] }⟩] := put_fresh fun t ht => by
      rw [List.mem_singleton.1 ht]
      intro e
      have e2 := congrArg ByteArray.size e
      rw [← HGX.out, ← repL_one (letX c), powS_size] at e2
      cases e2
    have HGS := Lib.hid hgs
    have HFR := Lib.hid hfr
    have HLS := Lib.hid hls
    clear hgs hfr hls h97
    go_wp2_with fail
    refine (HSX.out _).mono ?_
    rintro e w3 ⟨rfl, rfl⟩
    go_wp2_with (first | (refine wpList_update_map _ rfl _ _ _ rfl mb [⟨1, { data := #[] }⟩] rfl HM.out (by simp [maxLen]) gx 1 rfl rfl HGS.out (by decide) ?_; intro v5 h5 hg5; simp only [Act.put]) | go_in)
    go_ret
    refine ⟨mb, rfl, hmb, ?_, HB2.out.grown hg5 HB2.out.size (fun i ei => by cases ei; exact hmb)⟩
    rw [HFR.out] at h5
    rw [HLS.out]
    exact h5.perm (List.Perm.swap _ _ _)
  · obtain rfl : u = -1 := by rw [← HU.out]; unfold sgnB; rw [if_neg h97]
    have HLS : Hid (letS c = (List.range 5).map (powT c)) := Lib.hid (by unfold letS; rw [if_neg h97])
    have HM0 : Hid (MapT w2 mb ((List.range (0 + 1)).map (powT c))) := HM
    clear h97
    go_wp2_with fail
    refine (HSX.out _).mono ?_
    rintro e w3 ⟨rfl, rfl⟩
    go_wp2_with fail
    go_loopw [5, 6, 18] (fun p z i wr => ∃ k : Nat, k ≤ 4 ∧ p = .string (bstr (repL k (letX c))) ∧ z = .int .i64 (altZ k) ∧ i = .int .i64 k ∧ MapT wr mb ((List.range (k + 1)).map (powT c)) ∧ Below w.heap.size w wr) (fun _ _ i _ => 4 - (intOf i).toNat)
    case atStart => exact ⟨0, by omega, rfl, rfl, rfl, HM0.out, HB2.out⟩
    case round =>
      obtain ⟨k, hk, rfl, rfl, rfl, hT, hB⟩ := hrel
      have HT := Lib.hid hT
      have HB := Lib.hid hB
      clear hT hB
      by_cases hlt : k < 4
      · have hpn := powS_next c k
        obtain ⟨p, hp⟩ : ∃ p, bstr (repL k (letX c)) = p := ⟨_, rfl⟩
        obtain ⟨q, hq⟩ : ∃ q, bstr (repL (k + 1) (letX c)) = q := ⟨_, rfl⟩
        have hps : p.size = k := by rw [← hp]; exact powS_size c k
        have hgs : gx.size = 1 := by rw [← HGX.out, ← repL_one (letX c)]; exact powS_size c 1
        have hqs : q.size ≤ maxLen := by rw [← hq, powS_size]; unfold maxLen; omega
        have hput := powT_put c k
        rw [hp, HGX.out, hq] at hpn
        rw [hq] at hput
        obtain ⟨z, hz⟩ : ∃ z, altZ k = z := ⟨_, rfl⟩
        have hz1 : altZ (k + 1) = -z := by rw [← hz]; exact altZ_succ k
        have hzz : z = 1 ∨ z = -1 := by rw [← hz]; exact altZ_one k
        have hneg : IntKind.i64.wrap (-z) = -z := IntWalk.i64_in _ (by omega)
        have hwf : (Lit.int .i64 (-z)).wf = true := by rcases hzz with rfl | rfl <;> decide
        have hnot : ¬ 9223372036854775807 < p.size + gx.size := by omega
        have hli : ((k : Int) < 4) := by omega
        rw [hz1] at hput
        rw [hp, hz]
        have HP := Lib.hid hput
        have HQ := Lib.hid hq
        have HQS := Lib.hid hqs
        have HWF := Lib.hid hwf
        have HZ1 := Lib.hid hz1
        have HUL := Lib.hid (show ((List.range (k + 1)).map (powT c)).length < maxLen by rw [List.length_map, List.length_range]; unfold maxLen; omega)
        clear hp hq hqs hput hz hz1 hzz hwf hps hgs
        go_wp2_with (first | (refine wpList_update_map _ rfl _ _ _ rfl mb ((List.range (k + 1)).map (powT c)) rfl HT.out HUL.out q (-z) rfl rfl HQS.out HWF.out ?_; intro v5 h5 hg5; simp only [Act.put]) | go_in)
        go_roundw
        case rel => exact ⟨k + 1, by omega, by rw [HQ.out], by rw [HZ1.out], by go_num, h5.perm HP.out, HB.out.grown hg5 HB.out.size (fun i ei => by cases ei; exact hmb)⟩
        case measure => simp [intOf]; omega
      · obtain rfl : k = 4 := by omega
        go_wp2
        go_ret
        refine ⟨mb, rfl, hmb, ?_, HB.out⟩
        rw [HLS.out]
        exact HT.out
end

end Go.Proofs.Ytebgcebjlbhjjab

/- The contract of the program's 'told' (of a series). -/

namespace Go.Proofs.Ytebgcebjlbhjjab
open Go.RowKit Go.Shelf Go.Maps Go.MapKept

set_option maxRecDepth 100000 in
set_option maxHeartbeats 2000000 in
theorem seriesTold_any (b : Nat) (ts : List Tm) (r : Bool) (w : World) (h : MapT w b ts) (hl : ts.length ≤ 1000) (hb : twS (canonT ts) = r) :
    Calls Try.prog 96 #[.map (some b)] w (ITold w r (canonT ts)) := by
  obtain ⟨i0, hi, hz0, hz1, hz2⟩ := info_parts infoTerm
  have hsm := h.small
  have hap := h.apart
  have hbl := h.lt
  have HSM := Lib.hid hsm
  have HAP := Lib.hid hap
  have HBB := Lib.hid hb
  have HL := Lib.hid hl
  clear hsm hap hb
  go_enter Try.func96, Try.ntmps96
  go_wp2_with (first | (at_range; refine wpList_range_map _ rfl _ rfl b ts rfl h ?_; intro w0 hrg0 hg0 hs0) | go_in)
  go_frame
  go_loopw [4] (fun v wr => ∃ (done : List Tm) (cnt : Nat), RangeT wr b w.heap.size ts done cnt ∧ Hid (OwnT w0.heap.size wr v (nzT2 done)) ∧ w0.heap.size ≤ wr.heap.size ∧ Below w.heap.size w wr)
    (fun _ wr => wr.rangeLeft b w.heap.size)
  case atStart => exact ⟨[], _, hrg0, Lib.hid ⟨rfl, .inl ⟨rfl, rfl⟩⟩, Nat.le_refl _, (Below.refl _ _).grown hg0 (Nat.le_refl _) (fun k e => by cases e)⟩
  case round =>
    obtain ⟨done, cnt, hrg, HO, hsz, hB⟩ := hrel
    have hlow0 := Lib.hid (ownsRow_low HO.out)
    have hcl := hrg.cnt
    have hdl := hrg.donelen
    have HRG := Lib.hid hrg
    go_wp2_with (first | (at_next; refine wpList_next_map _ rfl _ rfl b w.heap.size ts done cnt rfl HRG.out ?_ ?_) | go_in)
    · intro hperm
      have hsd : SmallT (nzT2 done) := ⟨by have := List.length_filter_le (fun t : Tm => !(t.c == 0)) done; unfold nzT2 maxLen; omega, fun t ht => HSM.out.2 t (hperm.mem_iff.1 (List.mem_filter.1 ht).1)⟩
      have hld : (nzT2 done).length ≤ 1000000 := by have := List.length_filter_le (fun t : Tm => !(t.c == 0)) done; unfold nzT2; omega
      obtain ⟨a1, c1, rfl, _⟩ := HO.out.isTerms hsd
      have HSO := Lib.hid (sortOwn_any w0.heap.size _ _ (nzT2 done) wr rfl hld hsz HO.out)
      have HPM := Lib.hid hperm
      have HSD := Lib.hid hsd
      clear hrg hperm hsd hld hlow0
      go_wp2_with fail
      refine HSO.out.mono ?_
      rintro e w2 ⟨rfl, ⟨ss, hp, hso, ho⟩, hb2⟩
      have hsc : ss = canonT ts := by
        rw [sorted_canon (HAP.out.perm HPM.out.symm) hp hso]
        exact canon_same fun k => coefAt_perm k HPM.out
      have hlen : ss.length = (nzT2 done).length := hp.length_eq
      have ho' : OwnT w0.heap.size w2 (.slice a1 (nzT2 done).length c1) ss := by unfold OwnT; rw [hlen]; exact ho
      have hss : SmallT ss := ⟨by rw [hlen]; exact HSD.out.1, fun t ht => HSD.out.2 t (hp.mem_iff.1 ht)⟩
      obtain ⟨a2, c2, e2, hI⟩ := ho'.isTerms hss
      injection e2 with ea en ec
      subst ea ec
      rw [en] at ho'
      have HI := Lib.hid hI
      have HO2 := Lib.hid ho'
      have hb2w : Below w.heap.size w w2 := hB.trans (hb2.mono (by have := hs0; omega))
      have HB2 := Lib.hid hb2w
      have hser : serB ss = r := by rw [hsc, serB_canon (canon_of ts)]; exact HBB.out
      have HSB := Lib.hid hser
      have HSC := Lib.hid hsc
      clear hp hso ho ho' hss hI hb2 hb2w hser hsc hlen
      go_wp2_with fail
      refine (iSeriesIn_is a1 c1 _ ss r w2 HI.out HSB.out).mono ?_
      rintro e w3 ⟨rfl, hb3⟩
      have HB3 := Lib.hid hb3
      clear hb3
      cases r
      · go_wp2
        go_ret2
        exact ⟨⟨_, rfl, ownNil _ _⟩, HB2.out.trans (HB3.out.mono HB2.out.size)⟩
      · go_wp2
        go_ret2
        refine ⟨⟨_, rfl, ?_⟩, HB2.out.trans (HB3.out.mono HB2.out.size)⟩
        rw [show cond true (canonT ts) [] = canonT ts from rfl, ← HSC.out]
        exact (HO2.out.below HB3.out).mono (by omega)
    · intro c s w1 cnt1 hmem hrg1 hlt hg1 hs1 hen
      have hB1 : Below w.heap.size w w1 := hB.grown hg1 hB.size (fun k e => by cases e; exact Nat.le_refl _)
      have ho1 : OwnT w0.heap.size w1 u4 (nzT2 done) := HO.out.kept hg1 (.inr fun e => by have := hlow0.out _ e; omega)
      have hsn := nzT2_snoc done c s
      have HO1 := Lib.hid ho1
      have HM := Lib.hid hmem
      have HR1 := Lib.hid hrg1
      have hl1 := hrg1.cnt
      clear hrg ho1 hmem hrg1 hg1
      by_cases hc0 : c = 0
      · rw [if_pos hc0] at hsn
        have hdc : (c == 0) = true := by simpa using hc0
        clear hc0
        have HSN := Lib.hid hsn
        clear hsn
        go_wp2
        go_roundw
        case rel => exact ⟨_, cnt1, HR1.out, Lib.hid (by rw [HSN.out]; exact HO1.out), by omega, hB1⟩
        case measure => rw [hl1, hcl]; exact hlt
      · rw [if_neg hc0] at hsn
        have hdc : (c == 0) = false := by simpa using hc0
        clear hc0
        have HSN := Lib.hid hsn
        clear hsn
        obtain ⟨N, hN⟩ : ∃ N, (nzT2 done).length = N := ⟨_, rfl⟩
        have hown : w1.ownsRow w0.heap.size TI 2 u4 N (termsV (nzT2 done)) := by rw [← hN]; exact HO1.out
        have HOW := Lib.hid hown
        have hNl : N ≤ 1000 := by have := List.length_filter_le (fun t : Tm => !(t.c == 0)) done; rw [← hN]; unfold nzT2; omega
        have HN := Lib.hid hN
        have hblt := hbl
        have hle01 : w0.heap.size ≤ w1.heap.size := by omega
        have HS1 := Lib.hid hs1
        clear hown hN HO1 hs1
        go_wp2_with (at_builtin; refine wpList_append_lies _ rfl _ _ _ rfl w0.heap.size TI i0 _ 2 24 Try.underlying25 hi hz0 hz1 hz2 rfl (by omega) u4 N (termsV (nzT2 done)) rfl (HOW.out.alloc _) ⟨w1.heap.size, 0, none⟩ 1 1 [.int .i64 c, .string s] rfl rfl (World.news_of_block (cs := #[.int .i64 c, .string s]) (t := TI) (fr := (0, 0)) (heap_alloc_new w1 _)) (by simp [Value.oneCell']) (by omega) (by unfold maxLen; omega) (by omega) (by simp; omega) (w1.heap.size + 1) (by simp) ?_; intro gg cap1 w7 hown7 hgrow7 hat hlt7)
        have hs1 := HS1.out
        have hlow := ownsRow_low HOW.out
        have hbA : Below w1.heap.size w1 (w1.alloc (.cells #[.int .i64 c, .string s] TI)) := (Below.refl _ w1).alloc (Nat.le_refl _) _
        have hR7 : RangeT w7 b w.heap.size ts (done ++ [⟨c, s⟩]) cnt1 := (HR1.out.kept (grown_of_below hbA) (by simp) (by simp)).kept hgrow7 (fun e => by have := hlow _ e.symm; omega) (fun e => by have := hlow _ e.symm; omega)
        have hB7 : Below w.heap.size w w7 := (hB1.trans (hbA.mono hB1.size)).grown hgrow7 (by simp; omega) (fun k e => by have := hlow _ e; omega)
        have hs7 : w0.heap.size ≤ w7.heap.size := by have := hgrow7.size; simp at this; omega
        have HO7 := Lib.hid hown7
        have HR7 := Lib.hid hR7
        have hl7 := hR7.cnt
        clear hown7 hgrow7 hat hlt7 hlow hbA hR7
        go_wp2
        go_roundw
        case rel =>
          refine ⟨_, cnt1, HR7.out, Lib.hid ?_, hs7, hB7⟩
          rw [HSN.out]
          unfold OwnT
          rw [List.length_append, HN.out, termsV_append]
          exact HO7.out
        case measure => rw [hl7, hcl]; exact hlt

end Go.Proofs.Ytebgcebjlbhjjab

/- The contracts of the program's 'series' of a word and of 'SeriesOf'. -/

namespace Go.Proofs.Ytebgcebjlbhjjab
open Go.RowKit Go.Shelf

attribute [local go_sem] Oper.semAt_some

theorem serW_bnd {us : List Tm} {l : List UInt8} (ha : Apart us) (hl : letL l = true) (h60 : l.length ≤ 60) (hq : ∀ q, coefAt q us = coefAt q (serW l)) : BndT 1000000 us := by
  have hok := serW_ok l hl
  refine apart_bnd ha (fun t ht => ?_) (by omega)
  rw [canon_same hq, canon_id hok.canon] at ht
  exact ((hok.ser h60).2 t ht).2
theorem letS_bnd {c : UInt8} (hc : letB c = true) : BndT 1000000 (letS c) := fun t ht => by have := (letS_ok hc).1 t ht; omega
theorem letS_mono {c : UInt8} (hc : letB c = true) : MonoT (letS c) := fun t ht => ((letS_ok hc).1 t ht).1

set_option maxRecDepth 100000 in
set_option maxHeartbeats 4000000 in
theorem wordSeries_in (n : Nat) (hn : 60 ≤ n) (g k cap : Nat) (L : List UInt8) (w : World) (hk : L.length = k) (hk60 : k ≤ 60) (hL : letL L = true) (hw : IsWord w.heap.size w (.slice (some ⟨g, 0, none⟩) k cap) L) :
    CallsIn Fence.wide n Try.prog 97 #[.slice (some ⟨g, 0, none⟩) k cap] w fun e w' =>
      ∃ b us, e = .returned (.map (some b)) ∧ w.heap.size ≤ b ∧ MapT w' b us ∧ MonoT us ∧ (∀ q, coefAt q us = coefAt q (serW L)) ∧ Below w.heap.size w w' := by
  have H2 := Lib.hid hL
  have HKL := Lib.hid hk
  have HW := Lib.hid hw
  clear hL hk hw
  refine callsIn_of_wp_marks Try.func97 rfl trivial ?_ rfl
  simp only [Try.ntmps97, List.size_toArray, List.length_cons, List.length_nil, Nat.reduceAdd, Nat.reduceSub, Array.replicate_succ, Array.replicate_zero, List.push_toArray, List.append_toArray, List.nil_append, List.cons_append]
  gi_wp2_with fail
  refine ⟨trivial, fun _ => by omega, ?_⟩
  refine (callsIn_wide.2 (oneSeries_any _)).mono ?_
  rintro e w1 ⟨⟨mb, rfl, hlo, hM⟩, hb1⟩
  have hmlt := hM.lt
  have HM := Lib.hid hM
  have HB1 := Lib.hid hb1
  have hs1 := hb1.size
  clear hM hb1
  gi_wp2_with fail
  refine ⟨trivial, fun _ => by omega, ?_⟩
  refine (callsIn_wide.2 (letters_fwd _ _ _ 1 _ (by decide))).mono ?_
  rintro e w3 ⟨rfl, rfl⟩
  have hbx := (Boxed.new w1 SerT (.map (some mb))).alloc (.cells #[.slice (some ⟨g, 0, none⟩) k cap] WT)
  have hbi := Boxed.new (w1.alloc (.cells #[.map (some mb)] SerT)) WT (.slice (some ⟨g, 0, none⟩) k cap)
  have hBv : Below w1.heap.size w1 ((w1.alloc (.cells #[.map (some mb)] SerT)).alloc (.cells #[.slice (some ⟨g, 0, none⟩) k cap] WT)) := ((Below.refl _ w1).alloc (Nat.le_refl _) _).alloc (by simp) _
  have hsz : ((w1.alloc (.cells #[.map (some mb)] SerT)).alloc (.cells #[.slice (some ⟨g, 0, none⟩) k cap] WT)).heap.size = w1.heap.size + 2 := by simp
  simp only [World.size_alloc] at hbx hbi ⊢
  generalize ((w1.alloc (.cells #[.map (some mb)] SerT)).alloc (.cells #[.slice (some ⟨g, 0, none⟩) k cap] WT)) = V at hbx hbi hBv hsz ⊢
  have hBV : Below w.heap.size w V := HB1.out.trans (hBv.mono hs1)
  have HWV := Lib.hid (HW.out.below hBV)
  have HMV := Lib.hid (HM.out.below hBv)
  have HBX := Lib.hid hbx
  have HBI := Lib.hid hbi
  have HBV := Lib.hid hBV
  clear hbx hbi hBV hBv
  gi_wp2_with fail
  refine range_values (by omega) (Bs := w1.heap.size + 1) rfl (n₀ := w.heap.size) (L := L) (by omega) HBI.out.cell HWV.out (by omega)
    (fun pre X => (Boxed X w1.heap.size SerT (.map (some mb)) ∧ ∃ us, MapT X mb us ∧ MonoT us ∧ ∀ q, coefAt q us = coefAt q (serW pre)) ∧ Below w.heap.size w X)
    (OwnFrom.and (OwnFrom.and (Own.from (fun s A B row hs hg hr => boxed_own w1.heap.size _ (fun _ : Unit => .map (some mb)) () A B row hs hg hr) _)
      (fun s A B row ⟨us, h1, h2⟩ hg hr => ⟨us, h1.kept hg (fun e => by have := (hr mb e.symm).1; omega), h2⟩)) (ownFrom_below (by omega) (by omega)))
    ⟨⟨HBX.out, _, HMV.out, fun t ht => by rw [List.mem_singleton.1 ht]; decide, fun _ => rfl⟩, HBV.out⟩
    (fun x => { tmps := #[.slice (some ⟨g, 0, none⟩) k cap, undef, .map none, .pointer (some ⟨w1.heap.size, 0, none⟩), .int .u8 (x.toNat : Int), .map (some mb), .slice (some ⟨g, 0, none⟩) k cap, .func (.func FV) #[] #[.pointer (some ⟨w1.heap.size + 1, 0, none⟩)], .int .u8 (x.toNat : Int), undef, undef, undef, undef, undef], defers := [] }) ?assign ?body ?done
  case assign =>
    intro l x W K hK
    gi_wp2
    exact hK
  case body =>
    rintro l pre x W ⟨⟨hbx, us, hT, mU, hq⟩, hB⟩ hpre
    have hlet : letB x = true := List.all_eq_true.1 H2.out x (prefix_mem hpre)
    have hlp : letL pre = true := letL_of_mem _ _ H2.out (fun c hc => hpre.subset (by simp [hc]))
    have hplen := prefix_len hpre
    rw [HKL.out] at hplen
    have hbd := serW_bnd hT.apart hlp (by omega) hq
    have hstep : ∀ q, coefAt q (pairsS us (letS x)) = coefAt q (serW (pre ++ [x])) := fun q => by rw [serW_snoc, (canonT_spec _).2, pairs_same1 hq]
    have HLS : Hid (∀ X, Calls Try.prog 134 #[.int .u8 (x.toNat : Int)] X fun e w' => ∃ b, e = .returned (.map (some b)) ∧ X.heap.size ≤ b ∧ MapT w' b (letS x) ∧ Below X.heap.size X w') := Lib.hid fun X => letterSeries_any x X hlet
    have HTM : Hid (∀ (b2 : Nat) (X : World), mb ≠ b2 → MapT X mb us → MapT X b2 (letS x) → Calls Try.prog 95 #[.map (some mb), .map (some b2)] X fun e w' => e = .returned (.tuple #[]) ∧ (∃ ts, MapT w' mb ts ∧ MonoT ts ∧ ∀ q, coefAt q ts = coefAt q (serW (pre ++ [x]))) ∧ X.grownBy w' (some mb)) :=
      Lib.hid fun b2 X hne h1 h2 => (times_any mb b2 us (letS x) X hne h1 h2 mU (letS_mono hlet) hbd (letS_bnd hlet)).mono fun e w' ⟨e1, ⟨ts, h1, h2, h3⟩, h4⟩ => ⟨e1, ⟨ts, h1, h2, fun q => by rw [h3, hstep]⟩, h4⟩
    have hmW := hT.lt
    have HT := Lib.hid hT
    have HBX2 := Lib.hid hbx
    have HB := Lib.hid hB
    have hws := hB.size
    have hc3 := hbx.cell
    have hbl := hbx.lt
    clear hT mU hq hbd hstep hlet hlp hbx hB hpre
    gi_wp2
    refine wpIn_region_any (by kernel_rfl) ?_
    change wpAnyIn _ _ _ _ _ _ _ _ _ (World.drew _)
    obtain ⟨S2, hS2⟩ : ∃ S2 : Value → World → Prop, S2 = fun v X => ∃ b2, v = .map (some b2) ∧ W.heap.size ≤ b2 ∧ MapT X b2 (letS x) ∧ Below W.heap.size W X := ⟨_, rfl⟩
    obtain ⟨S3, hS3⟩ : ∃ S3 : World → Prop, S3 = fun X => (∃ ts, MapT X mb ts ∧ MonoT ts ∧ ∀ q, coefAt q ts = coefAt q (serW (pre ++ [x]))) ∧ W.grownBy X (some mb) := ⟨_, rfl⟩
    refine wpAnyIn_inv (fun listed a X => ∃ (b0 b1 b2 b3 : Bool) (t9 t10 t11 t12 : Value), listed = #[b0, b1, b2, b3] ∧ a = { tmps := #[.slice (some ⟨g, 0, none⟩) k cap, undef, .map none, .pointer (some ⟨w1.heap.size, 0, none⟩), .int .u8 (x.toNat : Int), .map (some mb), .slice (some ⟨g, 0, none⟩) k cap, .func (.func FV) #[] #[.pointer (some ⟨w1.heap.size + 1, 0, none⟩)], .int .u8 (x.toNat : Int), t9, t10, t11, t12, undef], defers := [] } ∧
      ((b0 = true → t9 = .map (some mb)) ∧ (b1 = true → t10 = .int .u8 (x.toNat : Int))) ∧
      ((b2 = true → b1 = true) ∧ (b3 = true → b2 = true ∧ b0 = true)) ∧
      ((b2 = false → X = W.drew) ∧ (b2 = true → b3 = false → S2 t11 X) ∧ (b3 = true → S3 X))) ?step ?rdone _ _ _ _ (by decide) ?init
    case init =>
      exact ⟨false, false, false, false, undef, undef, undef, undef, rfl, rfl, by simp, by simp, by simp⟩
    case step =>
      rintro listed a X i ⟨b0, b1, b2, b3, t9, t10, t11, t12, rfl, rfl, ⟨v0, v1⟩, ⟨c2, c3⟩, ⟨x0, x1, x2⟩⟩ hun hdep hi
      have hi' : i = 0 ∨ i = 1 ∨ i = 2 ∨ i = 3 := by
        have : i < 4 := hi
        omega
      rcases hi' with rfl | rfl | rfl | rfl
      · -- the map is loaded
        obtain rfl : b0 = false := hun
        have hx : X.cell? ⟨w1.heap.size, 0, none⟩ = some (.map (some mb)) := by
          cases b2 with
          | false => rw [x0 rfl]; exact hc3
          | true =>
            cases b3 with
            | false =>
              have h := x1 rfl rfl
              rw [hS2] at h
              obtain ⟨_, _, _, _, hb⟩ := h
              exact (hb.cell (p := ⟨w1.heap.size, 0, none⟩) hbl).trans hc3
            | true => have := (c3 rfl).2; cases this
        refine wpOpIn_step rfl (fun K' hK => ?_)
        go_simp
        refine hK _ _ ⟨true, _, _, _, _, _, _, _, rfl, rfl, ⟨fun _ => rfl, v1⟩, ⟨c2, fun h => ⟨(c3 h).1, rfl⟩⟩, ⟨x0, x1, x2⟩⟩
      · -- the letter
        obtain rfl : b1 = false := hun
        refine wpOpIn_step rfl (fun K' hK => ?_)
        go_simp
        refine hK _ _ ⟨_, true, _, _, _, _, _, _, rfl, rfl, ⟨v0, fun _ => rfl⟩, ⟨fun _ => rfl, c3⟩, ⟨x0, x1, x2⟩⟩
      · -- its series
        obtain rfl : b2 = false := hun
        obtain rfl : b1 = true := hdep _ rfl ⟨1, .data⟩ (by simp) rfl
        obtain rfl := v1 rfl
        obtain rfl := x0 rfl
        have q3 : b3 = false := by
          cases b3 with
          | false => rfl
          | true => have := (c3 rfl).1; cases this
        subst q3
        refine wpOpIn_step rfl (fun K' hK => ?_)
        go_simp
        refine ⟨trivial, fun _ => by omega, ?_⟩
        refine (CallsIn.inRound l (callsIn_wide.2 (HLS.out _))).mono ?_
        rintro e X' ⟨b, rfl, hb, hm, hbe⟩
        refine hK _ _ ⟨_, _, true, _, _, _, _, _, rfl, rfl, ⟨v0, fun _ => rfl⟩, ⟨fun _ => rfl, (fun h => nomatch h)⟩, ⟨(fun h => nomatch h), fun _ _ => ?_, (fun h => nomatch h)⟩⟩
        rw [hS2]
        exact ⟨b, rfl, hb, hm, (Below.refl _ W).drew.trans hbe⟩
      · -- the product
        obtain rfl : b3 = false := hun
        obtain rfl : b0 = true := hdep _ rfl ⟨0, .data⟩ (by simp) rfl
        obtain rfl : b2 = true := hdep _ rfl ⟨2, .data⟩ (by simp) rfl
        obtain rfl := v0 rfl
        have h := x1 rfl rfl
        rw [hS2] at h
        obtain ⟨bb, rfl, hbb, hm, hbe⟩ := h
        refine wpOpIn_step rfl (fun K' hK => ?_)
        go_simp
        refine ⟨trivial, fun _ => by omega, ?_⟩
        refine (CallsIn.inRound l (callsIn_wide.2 (HTM.out bb X (by omega) (HT.out.below hbe) hm))).mono ?_
        rintro e X' ⟨rfl, hts, hgr⟩
        refine hK _ _ ⟨_, _, _, true, _, _, _, _, rfl, rfl, ⟨fun _ => rfl, (by first | exact v1 | exact fun _ => rfl)⟩, ⟨c2, fun _ => ⟨rfl, rfl⟩⟩, ⟨(fun h => nomatch h), (fun _ h => nomatch h), fun _ => ?_⟩⟩
        rw [hS3]
        exact ⟨hts, ((grown_of_below hbe).but (some mb)).andThen hgr (fun j ej => by cases ej; exact Or.inr rfl)⟩
    case rdone =>
      rintro listed a X ⟨b0, b1, b2, b3, t9, t10, t11, t12, rfl, rfl, -, -, ⟨-, -, x2⟩⟩ hall
      have q0 : b0 = true := hall 0 _ rfl (fun e he => by simp at he)
      have q1 : b1 = true := hall 1 _ rfl (fun e he => by simp at he)
      have q2 : b2 = true := hall 2 _ rfl (by
        intro e he _
        simp at he
        rcases he with rfl
        all_goals first | exact q0 | exact q1)
      have q3 : b3 = true := hall 3 _ rfl (by
        intro e he _
        simp at he
        rcases he with rfl | rfl | rfl
        all_goals first | exact q0 | exact q1 | exact q2)
      have h := x2 q3
      rw [hS3] at h
      obtain ⟨hts, hgr⟩ := h
      have hbel : Below w.heap.size W X := (Below.refl _ W).grown hgr hws (fun j ej => by cases ej; omega)
      have hkf : KeepsFrom V.heap.size W X := KeepsFrom.of_grownBy hgr (fun j ej => by cases ej; omega)
      gi_wp2
      exact ⟨hkf, ⟨hbel, hkf⟩, ⟨HBX2.out.kept hgr (fun e => by cases e; omega), hts⟩, HB.out.trans hbel⟩
  case done =>
    rintro D W hD ⟨⟨hbx, us, hT, mU, hq⟩, hB⟩ hK
    have hDlt : D < W.heap.size := (Array.getElem?_eq_some_iff.1 hK).1
    have hc3 := hbx.cell
    have hws := hB.size
    have HK := Lib.hid hK
    have HB := Lib.hid hB
    have HF : Hid (MapT (W.putObj D (.deferred none)) mb us ∧ MonoT us ∧ ∀ q, coefAt q us = coefAt q (serW L)) := Lib.hid ⟨hT.kept (grownBy_putObj' W D (.deferred none)) (fun e => by cases e; omega), mU, hq⟩
    clear hK hB hT mU hq
    gi_wp2
    refine ⟨by simp, .inl ⟨_, _, rfl, run_takeDeferred HK.out, ?_⟩⟩
    refine ⟨.map (some mb), by simp [results, Try.f97, go_sem], mb, us, rfl, hlo, HF.out.1, HF.out.2.1, HF.out.2.2, ?_⟩
    exact HB.out.trans (belowK_b (w := w) (Nat.le_refl _) W D _ _ (by omega) HK.out rfl rfl)

/-! ### SeriesOf -/
set_option maxHeartbeats 2000000 in
theorem iSeriesOf_any (s : ByteArray) (b : Bool) (w : World) (hs : s.size ≤ maxLen) (hb : wordB s.data.toList = b) :
    Calls Try.prog 36 #[.string s] w (ITold w b (serW s.data.toList)) := by
  cases b with
  | false =>
    have HB := Lib.hid hb
    clear hb
    go_enter Try.func36, Try.ntmps36
    go_wp2_with fail
    refine (wordOf_no s _ hs HB.out).mono ?_
    rintro e w1 ⟨rfl, hb1⟩
    go_wp2
    go_ret2
    exact ⟨⟨_, rfl, ownNil _ _⟩, hb1⟩
  | true =>
    have HB := Lib.hid hb
    obtain ⟨h1, h2, _⟩ := (wordB_iff _).1 hb
    have hs60 : s.size ≤ 60 := by simpa using h1
    have HL := Lib.hid h2
    have HTW := Lib.hid (serW_tw hb rfl)
    have HOK := Lib.hid (serW_ok _ h2)
    clear hb h1 h2
    go_enter Try.func36, Try.ntmps36
    go_wp2_with fail
    refine (wordOf_yes s _ HB.out).mono ?_
    rintro e w1 ⟨g, cap, rfl, hown, hb1⟩
    have HW := Lib.hid (isWord_of_owns (n₀ := w1.heap.size) (l := s.data.toList) (by simp) (by omega) hown (Nat.le_refl _))
    have HB1 := Lib.hid hb1
    have hs1 := hb1.size
    clear hown hb1
    go_wp2_with fail
    refine ((callsIn_wide (n := 60)).1 (wordSeries_in 60 (by omega) g s.size cap s.data.toList w1 (by simp) hs60 HL.out HW.out)).mono ?_
    rintro e w2 ⟨mb, us, rfl, hlo, hT, mU, hq, hb2⟩
    have hlu := apart_len341 hT.apart mU
    have HC := Lib.hid (show canonT us = serW s.data.toList by rw [canon_same hq, canon_id HOK.out.canon])
    have HB2 := Lib.hid (HB1.out.trans (hb2.mono hs1))
    have hs2 := HB2.out.size
    have HT := Lib.hid hT
    clear hT mU hq hb2
    go_wp2_with fail
    refine (seriesTold_any mb us true _ HT.out (by omega) (by rw [HC.out]; exact HTW.out)).mono ?_
    rintro e w3 ⟨⟨v, rfl, ho⟩, hb3⟩
    rw [HC.out] at ho
    have HO := Lib.hid ho
    have HB3 := Lib.hid (HB2.out.trans (hb3.mono hs2))
    clear ho hb3
    go_wp2
    go_ret2
    exact ⟨⟨_, rfl, HO.out.mono hs2⟩, HB3.out⟩

/-! ### As a law wants them -/
theorem sSeriesOf_law {s : ByteArray} {b : Bool} {w : World} (hs : s.size ≤ maxLen) (hb : wordB s.data.toList = b) :
    Calls Try.prog 37 #[.string s] w (STold w b (serW s.data.toList)) := sSeriesOf_any s b w hs hb
theorem iSeriesOf_law {s : ByteArray} {b : Bool} {w : World} (hs : s.size ≤ maxLen) (hb : wordB s.data.toList = b) :
    Calls Try.prog 36 #[.string s] w (ITold w b (serW s.data.toList)) := iSeriesOf_any s b w hs hb

end Go.Proofs.Ytebgcebjlbhjjab

/- The contracts of the program's 'SeriesCoef' and 'SeriesDepth'. -/

namespace Go.Proofs.Ytebgcebjlbhjjab
open Go.RowKit Go.Shelf

set_option maxRecDepth 100000 in
set_option maxHeartbeats 4000000 in
theorem iSeriesCoef_any (s m : ByteArray) (b1 b2 : Bool) (z : Int) (b : Bool) (w : World) (hs : s.size ≤ maxLen) (hms : m.size ≤ maxLen) (h1 : wordB s.data.toList = b1) (h2 : monoB m = b2) (hz : cond (b1 && b2) (coefAt m (serW s.data.toList)) 0 = z) (hb : (b1 && b2) = b) :
    Calls Try.prog 45 #[.string s, .string m] w fun e w' => e = .returned (.tuple #[.int .i64 z, .bool b]) ∧ Below w.heap.size w w' := by
  have H2 := Lib.hid h2
  have HZ := Lib.hid hz
  have HB := Lib.hid hb
  have HS := Lib.hid (iSeriesOf_any s b1 w hs h1)
  have H1 := Lib.hid h1
  obtain ⟨ts, hts⟩ : ∃ ts, cond b1 (serW s.data.toList) [] = ts := ⟨_, rfl⟩
  obtain ⟨hsm, hlen⟩ := told_smallS (serW_tw h1) hts
  obtain ⟨n, hn⟩ : ∃ n, ts.length = n := ⟨_, rfl⟩
  have HTS := Lib.hid hts
  have HN := Lib.hid hn
  have HSM := Lib.hid hsm
  rw [hn] at hlen
  clear h1 h2 hz hb hts hsm hn
  go_enter Try.func45, Try.ntmps45
  go_wp2_with fail
  refine HS.out.mono ?_
  rintro e w1 ⟨⟨v1, rfl, ho1⟩, hb1⟩
  cases b1 with
  | false =>
    obtain rfl : b = false := HB.out.symm
    obtain rfl : z = 0 := HZ.out.symm
    clear ho1
    go_wp2
    go_ret2
    exact ⟨rfl, hb1⟩
  | true =>
    have ho1 : OwnT w.heap.size w1 v1 (serW s.data.toList) := ho1
    have hts : serW s.data.toList = ts := HTS.out
    rw [hts] at ho1
    obtain ⟨a1, c1, rfl, hI1⟩ := ho1.isTerms HSM.out
    rw [HN.out] at hI1 ⊢
    have HI := Lib.hid hI1
    have HCa : Hid (Canon ts) := Lib.hid (by
      obtain ⟨p1, p2, _⟩ := (wordB_iff _).1 H1.out
      rw [← hts]; exact (serW_ok _ p2).canon)
    have HT := Lib.hid hts
    have HB1 := Lib.hid hb1
    clear ho1 hI1 hts hb1
    go_wp2_with fail
    refine (known4_is m b2 _ hms H2.out).mono ?_
    rintro e w2 ⟨rfl, hb2⟩
    have HB2 := Lib.hid (HB1.out.trans (hb2.mono HB1.out.size))
    have HI2 := Lib.hid (HI.out.below hb2)
    clear hb2
    cases b2 with
    | false =>
      obtain rfl : b = false := HB.out.symm
      obtain rfl : z = 0 := HZ.out.symm
      go_wp2
      go_ret2
      exact ⟨rfl, HB2.out⟩
    | true =>
      obtain rfl : b = true := HB.out.symm
      have HZ2 : Hid (coefAt m ts = z) := Lib.hid (by rw [← HT.out]; exact HZ.out)
      go_wp2
      go_loopw [24] (fun i wr => ∃ k : Nat, k ≤ n ∧ i = .int .i64 k ∧ Hid (∀ j (h : j < ts.length), j < k → ts[j].s ≠ m) ∧ Below w2.heap.size w2 wr) (fun i _ => n - (intOf i).toNat)
      case atStart => exact ⟨0, Nat.zero_le _, rfl, Lib.hid (fun j _ h => absurd h (Nat.not_lt_zero _)), Below.refl _ _⟩
      case round =>
        obtain ⟨k, hk, rfl, HJ, hBr⟩ := hrel
        have hB2r := HB2.out.trans (hBr.mono HB2.out.size)
        by_cases hlt : k < n
        · have hkx : k < ts.length := by rw [HN.out]; exact hlt
          obtain ⟨x, rfl, hx⟩ := HI2.out.at_ (by omega)
          obtain ⟨t, ht⟩ : ∃ t, ts[k] = t := ⟨_, rfl⟩
          have hc := (hx.below hBr).2 k hkx
          rw [ht, addr_next] at hc
          obtain ⟨c0, d1⟩ := hc
          have HBR := Lib.hid (hBr.alloc hBr.size (.cells #[.int .i64 t.c, .string t.s] TI))
          have HBW := Lib.hid (hB2r.alloc hB2r.size (.cells #[.int .i64 t.c, .string t.s] TI))
          by_cases hm : t.s = m
          · have hq : (t.s.toList == m.toList) = true := by rw [bytes_beq, hm]; simp
            have hret : t.c = z := by rw [← HZ2.out, ← hm]; exact (coefAt_get HCa.out (by rw [← ht]; exact List.getElem_mem hkx)).symm
            subst hret
            clear hm ht hx hBr hB2r
            go_wp2
            go_ret2
            exact ⟨rfl, HBW.out⟩
          · have hq : (t.s.toList == m.toList) = false := by rw [bytes_beq]; exact decide_eq_false fun e => hm (bytes_ext e)
            have HNe := Lib.hid hm
            have HT2 := Lib.hid ht
            clear hm ht hx hBr hB2r
            go_wp2
            go_roundw
            case rel =>
              refine ⟨k + 1, by omega, by go_num, Lib.hid fun j hj hjk => ?_, HBR.out⟩
              by_cases e : j = k
              · subst e; rw [HT2.out]; exact HNe.out
              · exact HJ.out j hj (by omega)
            case measure => simp [intOf]; omega
        · obtain rfl : k = n := by omega
          have hz0 : z = 0 := by
            rw [← HZ2.out]
            refine coefAt_none fun t ht => ?_
            obtain ⟨j, hj, rfl⟩ := List.getElem_of_mem ht
            exact HJ.out j hj (by rw [← HN.out]; exact hj)
          subst hz0
          go_wp2
          go_ret2
          exact ⟨rfl, hB2r⟩

set_option maxRecDepth 100000 in
set_option maxHeartbeats 4000000 in
theorem iSeriesDepth_any (s : ByteArray) (b : Bool) (z : Nat) (w : World) (hs : s.size ≤ maxLen) (h1 : wordB s.data.toList = b) (hz : cond b (depthT (serW s.data.toList)) 0 = z) :
    Calls Try.prog 50 #[.string s] w fun e w' => e = .returned (.tuple #[.int .i64 z, .bool b]) ∧ Below w.heap.size w w' := by
  have HZ := Lib.hid hz
  have H1 := Lib.hid h1
  have HS := Lib.hid (iSeriesOf_any s b w hs h1)
  obtain ⟨ts, hts⟩ : ∃ ts, cond b (serW s.data.toList) [] = ts := ⟨_, rfl⟩
  obtain ⟨hsm, hlen⟩ := told_smallS (serW_tw h1) hts
  obtain ⟨n, hn⟩ : ∃ n, ts.length = n := ⟨_, rfl⟩
  have HTS := Lib.hid hts
  have HN := Lib.hid hn
  have HSM := Lib.hid hsm
  rw [hn] at hlen
  clear h1 hz hts hsm hn
  go_enter Try.func50, Try.ntmps50
  go_wp2_with fail
  refine HS.out.mono ?_
  rintro e w1 ⟨⟨v1, rfl, ho1⟩, hb1⟩
  cases b with
  | false =>
    obtain rfl : z = 0 := HZ.out.symm
    clear ho1
    go_wp2
    go_ret2
    exact ⟨rfl, hb1⟩
  | true =>
    have ho1 : OwnT w.heap.size w1 v1 (serW s.data.toList) := ho1
    have hts : serW s.data.toList = ts := HTS.out
    rw [hts] at ho1
    obtain ⟨a1, c1, rfl, hI1⟩ := ho1.isTerms HSM.out
    rw [HN.out] at hI1 ⊢
    have HI := Lib.hid hI1
    have HZ2 : Hid (depthT ts = z) := Lib.hid (by rw [← hts]; exact HZ.out)
    have hl := (wordB_iff _).1 H1.out
    have hcan : Canon ts := by rw [← hts]; exact (serW_ok _ hl.2.1).canon
    have hno : coefAt noS ts = 1 := by rw [← hts]; exact serW_no _ hl.2.1
    have hpos := first_pos hcan hno
    rw [HN.out] at hpos
    have HB1 := Lib.hid hb1
    by_cases h1n : n = 1
    · obtain rfl : z = 0 := by rw [← HZ2.out]; exact depth_one hcan hno (by rw [HN.out]; exact h1n)
      have hd : decide ((n : Int) = 1) = true := decide_eq_true (by omega)
      clear ho1 hI1 hts hb1 hcan hno hl
      subst h1n
      go_wp2
      go_ret2
      exact ⟨rfl, HB1.out⟩
    · have h2n : 1 < ts.length := by rw [HN.out]; omega
      have hzz : ts[1].s.size = z := by rw [← HZ2.out, depth_two hcan hno h2n]
      obtain ⟨x, rfl, hx⟩ := HI.out.at_ (by omega)
      obtain ⟨t, ht⟩ : ∃ t, ts[1] = t := ⟨_, rfl⟩
      have hc := hx.2 1 h2n
      rw [ht, addr_next] at hc
      rw [ht] at hzz
      have d1 : w1.cell? ⟨x.block, x.off + 2 + 1, none⟩ = some (.string t.s) := hc.2
      clear hc
      have hd : decide ((n : Int) = 1) = false := decide_eq_false (by omega)
      have hn1 : ¬ (n : Int) = 1 := by omega
      have hln : 1 < n := by omega
      have hlni : (1 : Int) < (n : Int) := by omega
      subst hzz
      clear ho1 hI1 hts hb1 hcan hno hl ht hx
      go_wp2
      go_ret2
      exact ⟨rfl, HB1.out⟩

end Go.Proofs.Ytebgcebjlbhjjab

/- The contracts of the program's 'seriesOf' and 'SeriesTimes'. -/

namespace Go.Proofs.Ytebgcebjlbhjjab
open Go.RowKit Go.Shelf

set_option maxRecDepth 100000 in
set_option maxHeartbeats 2000000 in
theorem seriesOf_no (a : Option Addr) (cap n : Nat) (ts : List Tm) (w : World) (hs : IsTerms w a n ts) (hb : serB ts = false) :
    Calls Try.prog 94 #[.slice a n cap] w fun e w' => e = .returned (.tuple #[.map none, .bool false]) ∧ Below w.heap.size w w' := by
  have HS := Lib.hid hs
  have HB := Lib.hid hb
  clear hs hb
  go_enter Try.func94, Try.ntmps94
  go_wp2_with fail
  refine (iSeriesIn_is a cap n ts false _ HS.out HB.out).mono ?_
  rintro e w1 ⟨rfl, hb1⟩
  go_wp2
  go_ret2
  exact ⟨rfl, hb1⟩

set_option maxRecDepth 100000 in
set_option maxHeartbeats 4000000 in
theorem seriesOf_yes (a : Option Addr) (cap n : Nat) (ts : List Tm) (w : World) (hs : IsTerms w a n ts) (hb : serB ts = true) :
    Calls Try.prog 94 #[.slice a n cap] w fun e w' => ∃ b, e = .returned (.tuple #[.map (some b), .bool true]) ∧ w.heap.size ≤ b ∧ MapT w' b ts ∧ Below w.heap.size w w' := by
  have hmm := @run_makeMap Try.prog
  obtain ⟨hlen, hpt, hcan⟩ := serB_parts hb
  have HAP := Lib.hid (canon_apart hcan)
  have HPT := Lib.hid hpt
  have HN := Lib.hid hs.len
  have HS := Lib.hid hs
  have HB := Lib.hid hb
  rw [hs.len] at hlen
  clear hs hb hpt hcan
  go_enter Try.func94, Try.ntmps94
  go_wp2_with fail
  refine (iSeriesIn_is a cap n ts true _ HS.out HB.out).mono ?_
  rintro e w1 ⟨rfl, hb1⟩
  have h0 := mapT_made w1
  have hB1 : Below w.heap.size w (w1.alloc (.map #[] 0)) := hb1.alloc hb1.size _
  have hs1 := hb1.size
  obtain ⟨mb, hmb⟩ : ∃ mb, w1.heap.size = mb := ⟨_, rfl⟩
  rw [hmb] at h0 hs1
  have HMB := Lib.hid hmb
  clear hb1
  go_wp2_with fail
  try simp only [HMB.out]
  clear hmb
  go_loopw [13] (fun i wr => ∃ k : Nat, k ≤ n ∧ i = .int .i64 k ∧ MapT wr mb (ts.take k) ∧ Below w.heap.size w wr) (fun i _ => n - (intOf i).toNat)
  case atStart => exact ⟨0, Nat.zero_le _, rfl, h0, hB1⟩
  case round =>
    obtain ⟨k, hk, rfl, hT, hB⟩ := hrel
    by_cases hlt : k < n
    · have hkz : k < ts.length := by rw [HN.out]; exact hlt
      obtain ⟨x, rfl, hx⟩ := HS.out.at_ (by omega)
      obtain ⟨t, ht⟩ : ∃ t, ts[k] = t := ⟨_, rfl⟩
      have hc := (hx.below hB).2 k hkz
      rw [ht, addr_next] at hc
      obtain ⟨hc0, hc1⟩ := hc
      have hsm := HS.out.small _ (List.getElem_mem hkz)
      have hfr := apart_fresh HAP.out hkz
      have htp := take_perm hkz
      rw [ht] at hsm hfr htp
      have hwf : (Lit.int .i64 t.c).wf = true := by
        simp only [Lit.wf, Bool.and_eq_true, decide_eq_true_eq]
        have e1 : IntKind.i64.min = -9223372036854775808 := by decide
        have e2 : IntKind.i64.max = 9223372036854775807 := by decide
        have h5 := (HPT.out _ (List.getElem_mem hkz)).2.1
        rw [ht] at h5
        omega
      have hul : (ts.take k).length < maxLen := by rw [List.length_take]; unfold maxLen; omega
      have HSM := Lib.hid hsm.1
      have HFR := Lib.hid (put_fresh (v := t.c) hfr)
      have HTP := Lib.hid htp
      have HWF := Lib.hid hwf
      have HUL := Lib.hid hul
      have HB := Lib.hid hB
      have hTa := hT.kept (grown_of_below ((Below.refl _ wr).alloc (Nat.le_refl _) (.cells #[.int .i64 t.c, .string t.s] TI))) (by simp)
      have HT := Lib.hid hT
      have HTA := Lib.hid hTa
      clear hx ht hsm hfr htp hwf hul hB hT hTa h0 hB1
      go_wp2_with (first | (refine wpList_update_map _ rfl _ _ _ rfl mb (ts.take k) rfl HTA.out HUL.out t.s t.c rfl rfl HSM.out HWF.out ?_; intro v5 h5 hg5; simp only [Act.put]) | (refine wpList_update_map _ rfl _ _ _ rfl mb (ts.take k) rfl HT.out HUL.out t.s t.c rfl rfl HSM.out HWF.out ?_; intro v5 h5 hg5; simp only [Act.put]) | go_in)
      go_roundw
      case rel =>
        refine ⟨k + 1, by omega, by go_num, ?_, ?_⟩
        · rw [HFR.out] at h5
          exact h5.perm HTP.out
        · first
          | exact (HB.out.alloc HB.out.size _).grown hg5 (by have := HB.out.size; simp; omega) (fun j ej => by cases ej; exact hs1)
          | exact HB.out.grown hg5 HB.out.size (fun j ej => by cases ej; exact hs1)
      case measure => simp [intOf]; omega
    · obtain rfl : k = n := by omega
      rw [List.take_of_length_le (by rw [HN.out]; exact Nat.le_refl _)] at hT
      go_wp2
      go_ret2
      exact ⟨_, rfl, hs1, hT, hB⟩

/-! ### SeriesTimes -/
set_option maxRecDepth 100000 in
set_option maxHeartbeats 4000000 in
theorem iSeriesTimes_no (a1 a2 : Option Addr) (c1 c2 n m : Nat) (x y : List Tm) (w : World) (hx : IsTerms w a1 n x) (hy : IsTerms w a2 m y) (hb : serB x = false ∨ serB y = false) :
    Calls Try.prog 33 #[.slice a1 n c1, .slice a2 m c2] w (ITold w false []) := by
  have HX := Lib.hid hx
  have HY := Lib.hid hy
  clear hx hy
  cases hbx : serB x with
  | false =>
    have HBX := Lib.hid hbx
    clear hbx hb
    go_enter Try.func33, Try.ntmps33
    go_wp2_with fail
    refine (seriesOf_no a1 c1 n x _ HX.out HBX.out).mono ?_
    rintro e w1 ⟨rfl, hb1⟩
    go_wp2
    go_ret2
    exact ⟨⟨_, rfl, ownNil _ _⟩, hb1⟩
  | true =>
    have hby : serB y = false := by rcases hb with h | h; · rw [h] at hbx; cases hbx
                                    · exact h
    have HBX := Lib.hid hbx
    have HBY := Lib.hid hby
    clear hbx hby hb
    go_enter Try.func33, Try.ntmps33
    go_wp2_with fail
    refine (seriesOf_yes a1 c1 n x _ HX.out HBX.out).mono ?_
    rintro e w1 ⟨b1, rfl, _, _, hb1⟩
    have HB1 := Lib.hid hb1
    clear hb1
    go_wp2_with fail
    refine (seriesOf_no a2 c2 m y _ (HY.out.below HB1.out) HBY.out).mono ?_
    rintro e w2 ⟨rfl, hb2⟩
    have HB2 := Lib.hid (HB1.out.trans (hb2.mono HB1.out.size))
    clear hb2
    go_wp2
    go_ret2
    exact ⟨⟨_, rfl, ownNil _ _⟩, HB2.out⟩

theorem ser_mono {ts : List Tm} (h : serB ts = true) : MonoT ts := fun t ht => ((serB_parts h).2.1 t ht).2.2
theorem ser_bnd {ts : List Tm} (h : serB ts = true) : BndT 1000000 ts := fun t ht => ((serB_parts h).2.1 t ht).2.1

set_option maxRecDepth 100000 in
set_option maxHeartbeats 4000000 in
theorem iSeriesTimes_yes (a1 a2 : Option Addr) (c1 c2 n m : Nat) (x y : List Tm) (b : Bool) (w : World) (hx : IsTerms w a1 n x) (hy : IsTerms w a2 m y) (hbx : serB x = true) (hby : serB y = true) (hb : twS (canonT (pairsS x y)) = b) :
    Calls Try.prog 33 #[.slice a1 n c1, .slice a2 m c2] w (ITold w b (canonT (pairsS x y))) := by
  have HX := Lib.hid hx
  have HY := Lib.hid hy
  have HBX := Lib.hid hbx
  have HBY := Lib.hid hby
  have HBB := Lib.hid hb
  clear hx hy hbx hby hb
  go_enter Try.func33, Try.ntmps33
  go_wp2_with fail
  refine (seriesOf_yes a1 c1 n x _ HX.out HBX.out).mono ?_
  rintro e w1 ⟨b1, rfl, hl1, hm1, hb1⟩
  have HM1 := Lib.hid hm1
  have HB1 := Lib.hid hb1
  clear hm1 hb1
  go_wp2_with fail
  refine (seriesOf_yes a2 c2 m y _ (HY.out.below HB1.out) HBY.out).mono ?_
  rintro e w2 ⟨b2, rfl, hl2, hm2, hb2⟩
  have HN12 := Lib.hid (show b1 ≠ b2 by have := HM1.out.lt; omega)
  have HM12 := Lib.hid (HM1.out.below hb2)
  have HM2 := Lib.hid hm2
  have HB2 := Lib.hid (HB1.out.trans (hb2.mono HB1.out.size))
  clear hm2 hb2
  go_wp2_with fail
  refine (times_any b1 b2 x y _ HN12.out HM12.out HM2.out (ser_mono HBX.out) (ser_mono HBY.out) (ser_bnd HBX.out) (ser_bnd HBY.out)).mono ?_
  rintro e w3 ⟨rfl, ⟨ts, hT, hmt, hco⟩, hg⟩
  have hlt := apart_len341 hT.apart hmt
  have HB3 := Lib.hid (HB2.out.grown hg HB2.out.size (fun j ej => by cases ej; exact hl1))
  have HC := Lib.hid (canon_same hco)
  have HT := Lib.hid hT
  have hs3 := HB3.out.size
  clear hT hmt hco hg
  go_wp2_with fail
  refine (seriesTold_any b1 ts b _ HT.out (by omega) (by rw [HC.out]; exact HBB.out)).mono ?_
  rintro e w4 ⟨⟨v, rfl, ho⟩, hb4⟩
  rw [HC.out] at ho
  have HO := Lib.hid ho
  have HB4 := Lib.hid (HB3.out.trans (hb4.mono hs3))
  clear ho hb4
  go_wp2
  go_ret2
  exact ⟨⟨_, rfl, HO.out.mono hs3⟩, HB4.out⟩

/-! ### As a law wants them -/
theorem sSeriesTimes_law {g1 g2 c1 c2 n m : Nat} {x y : List Tm} {b : Bool} {w : World} (hx : IsTerms w (some ⟨g1, 0, none⟩) n x) (hy : IsTerms w (some ⟨g2, 0, none⟩) m y) (hb : serProdB x y = b) :
    Calls Try.prog 43 #[.slice (some ⟨g1, 0, none⟩) n c1, .slice (some ⟨g2, 0, none⟩) m c2] w (STold w b (canonT (pairsS x y))) := sSeriesTimes_any _ _ _ _ _ _ x y b w hx hy hb
theorem iSeriesTimes_law {g1 g2 c1 c2 n m : Nat} {x y : List Tm} {b : Bool} {w : World} (hx : IsTerms w (some ⟨g1, 0, none⟩) n x) (hy : IsTerms w (some ⟨g2, 0, none⟩) m y) (hb : serProdB x y = b) :
    Calls Try.prog 33 #[.slice (some ⟨g1, 0, none⟩) n c1, .slice (some ⟨g2, 0, none⟩) m c2] w (ITold w b (canonT (pairsS x y))) := by
  unfold serProdB at hb
  cases hbx : serB x with
  | false => rw [hbx] at hb; subst hb; exact iSeriesTimes_no _ _ _ _ _ _ x y w hx hy (.inl hbx)
  | true =>
    cases hby : serB y with
    | false => rw [hbx, hby] at hb; subst hb; exact iSeriesTimes_no _ _ _ _ _ _ x y w hx hy (.inr hby)
    | true => rw [hbx, hby] at hb; exact iSeriesTimes_yes _ _ _ _ _ _ x y b w hx hy hbx hby hb

end Go.Proofs.Ytebgcebjlbhjjab

/- Series as coefficients up to the fourth degree; the contracts of both sides' functions on series, the answer under a name of its own. -/

namespace Go.Proofs.Ytebgcebjlbhjjab
open Go.RowKit Go.Shelf

/-- Two lists that have the same coefficients up to the fourth degree. -/
theorem ser_eq {x y : List Tm} (hx : Canon x) (hy : Canon y) (mx : MonoT x) (my : MonoT y) (h : Eq4 (cf x) (cf y)) : x = y :=
  canon_unique hx hy fun q => by
    have hq := toList_size q
    by_cases h4 : q.size ≤ 4
    · have := h q.data.toList (by omega)
      unfold cf at this
      rwa [bstr_of] at this
    · rw [coefAt_none fun t ht e => h4 (by rw [← e]; exact mono_size (mx t ht)), coefAt_none fun t ht e => h4 (by rw [← e]; exact mono_size (my t ht))]
theorem cf_canon (x : List Tm) : cf (canonT x) = cf x := by funext l; unfold cf; exact (canonT_spec x).2 _
theorem cf_pairs (x y : List Tm) : Eq4 (cf (canonT (pairsS x y))) (conv (cf x) (cf y)) := fun w hw => by rw [cf_canon]; exact conv_pairs x y w hw
theorem mono_canon {x : List Tm} (h : MonoT x) : MonoT (canonT x) := fun t ht => by
  obtain ⟨v, hv, e⟩ := canon_words ht
  rw [← e]; exact h v hv
theorem mono_pairs {x y : List Tm} (hx : MonoT x) (hy : MonoT y) : MonoT (canonT (pairsS x y)) := mono_canon (pairsS_mono hx hy)
theorem mono_ser {x : List Tm} (h : serB x = true) : MonoT x := fun t ht => ((serB_parts h).2.1 t ht).2.2
theorem canon_ser {x : List Tm} (h : serB x = true) : Canon x := (serB_parts h).2.2
theorem mono_serW {l : List UInt8} (h : letL l = true) : MonoT (serW l) := (serW_ok l h).mono
theorem canon_serW {l : List UInt8} (h : letL l = true) : Canon (serW l) := (serW_ok l h).canon
theorem mono_one : MonoT oneT := fun t ht => by rw [List.mem_singleton.1 ht]; rfl
theorem canon_one : Canon oneT := ⟨by simp [oneT], fun t ht => by rw [List.mem_singleton.1 ht]; exact Int.one_ne_zero⟩
theorem ser_one : serB oneT = true := by rw [serB_canon canon_one]; decide
theorem ser_times_one {x : List Tm} (h : serB x = true) : canonT (pairsS x oneT) = x :=
  ser_eq (canonT_spec _).1 (canon_ser h) (mono_pairs (mono_ser h) mono_one) (mono_ser h) ((cf_pairs x oneT).trans (((Eq4.refl _).mul cf_one).trans (eq4_one2 _)))
theorem ser_one_times {x : List Tm} (h : serB x = true) : canonT (pairsS oneT x) = x :=
  ser_eq (canonT_spec _).1 (canon_ser h) (mono_pairs mono_one (mono_ser h)) (mono_ser h) ((cf_pairs oneT x).trans ((cf_one.mul (Eq4.refl _)).trans (eq4_one1 _)))
theorem serProdB_iff {x y : List Tm} : serProdB x y = true ↔ serB x = true ∧ serB y = true ∧ twS (canonT (pairsS x y)) = true := by
  unfold serProdB; simp only [Bool.and_eq_true]
theorem tw_ser {x : List Tm} (h : serB x = true) : twS x = true := by rw [← serB_canon (canon_ser h)]; exact h
theorem ser_of_tw {x : List Tm} (h : twS (canonT x) = true) : serB (canonT x) = true := by rw [serB_canon (canonT_spec x).1]; exact h

section
variable {W : World} {a a2 : Option Addr} {n c m c2 k : Nat} {x y us : List Tm} {s : ByteArray} {b : Bool}
theorem iSeriesIn_t (h : TermsIn W a n c x) (hb : serB x = b) : Calls Try.prog 31 #[.slice a n c] W fun e w' => e = .returned (.bool b) ∧ Below W.heap.size W w' := iSeriesIn_is _ _ _ x b W h.is hb
theorem sSeriesIn_t (h : TermsIn W a n c x) (hb : serB x = b) : Calls Try.prog 32 #[.slice a n c] W fun e w' => e = .returned (.bool b) ∧ Below W.heap.size W w' := sSeriesIn_is _ _ _ x b W h.is hb
theorem iSeriesOf_t (hs : s.size ≤ maxLen) (hb : wordB s.data.toList = b) (hu : cond b (serW s.data.toList) [] = us) (hk : us.length = k) : Calls Try.prog 36 #[.string s] W (TermsT W b k us) :=
  (iSeriesOf_any s b W hs hb).mono fun _ _ hh => hh.terms (told_smallS (serW_tw hb) hu).1 hu hk
theorem sSeriesOf_t (hs : s.size ≤ maxLen) (hb : wordB s.data.toList = b) (hu : cond b (serW s.data.toList) [] = us) (hk : us.length = k) : Calls Try.prog 37 #[.string s] W (TermsT W b k us) :=
  (sSeriesOf_any s b W hs hb).mono fun _ _ hh => hh.terms (told_smallS (serW_tw hb) hu).1 hu hk
theorem sSeriesTimes_t (h : TermsIn W a n c x) (h2 : TermsIn W a2 m c2 y) (hb : serProdB x y = b) (hu : cond b (canonT (pairsS x y)) [] = us) (hk : us.length = k) :
    Calls Try.prog 43 #[.slice a n c, .slice a2 m c2] W (TermsT W b k us) :=
  (sSeriesTimes_any a a2 c c2 n m x y b W h.is h2.is hb).mono fun _ _ hh => hh.terms (told_smallS (serProdB_tw hb) hu).1 hu hk
theorem iSeriesTimes_t (h : TermsIn W a n c x) (h2 : TermsIn W a2 m c2 y) (hb : serProdB x y = b) (hu : cond b (canonT (pairsS x y)) [] = us) (hk : us.length = k) :
    Calls Try.prog 33 #[.slice a n c, .slice a2 m c2] W (TermsT W b k us) := by
  have hs := (told_smallS (serProdB_tw hb) hu).1
  unfold serProdB at hb
  cases hx : serB x with
  | false =>
    rw [hx] at hb
    obtain rfl : false = b := hb
    exact (iSeriesTimes_no _ _ _ _ _ _ x y W h.is h2.is (.inl hx)).mono fun _ _ hh => ITold.terms (b := false) (L := []) hh hs (by rw [← hu]; rfl) hk
  | true =>
    cases hy : serB y with
    | false =>
      rw [hx, hy] at hb
      obtain rfl : false = b := hb
      exact (iSeriesTimes_no _ _ _ _ _ _ x y W h.is h2.is (.inr hy)).mono fun _ _ hh => ITold.terms (b := false) (L := []) hh hs (by rw [← hu]; rfl) hk
    | true =>
      rw [hx, hy] at hb
      exact (iSeriesTimes_yes _ _ _ _ _ _ x y b W h.is h2.is hx hy hb).mono fun _ _ hh => hh.terms hs hu hk
end

end Go.Proofs.Ytebgcebjlbhjjab

/- The contracts of the model's 'l91Four' and 'DrawWordPut'. -/

namespace Go.Proofs.Ytebgcebjlbhjjab
open Go.RowKit Go.Shelf

theorem Rd.past {base N : Nat} {w w' : World} {rb : Nat} {a : Option Addr} {n cap : Nat} {zs : List Int} {p : Nat} (h : Rd base w rb a n cap zs p) (hb : Below N w w') (hN : rb < N) : Rd base w' rb a n cap zs p :=
  ⟨h.lo, (hb.block rb hN).trans h.box, h.data.below (hb.mono (Nat.le_of_lt (Nat.lt_of_le_of_lt h.lo hN))), h.short⟩
theorem ownS_made2 (w : World) : OwnS w.heap.size (w.alloc (.cells #[] 9)) (.slice (some ⟨w.heap.size, 0, none⟩) 0 0) [] :=
  World.ownsRow_made w #[] 0 (Nat.le_refl _) (Nat.zero_le _) rfl
theorem OwnS.kept {base : Nat} {w w' : World} {v : Value} {zs : List ByteArray} (h : OwnS base w v zs) {rb : Nat} (hg : w.grownBy w' (some rb)) (hr : rb < base) : OwnS base w' v zs :=
  World.ownsRow.kept h hg (by
    cases hv : v.ownBlock with
    | none => exact .inl rfl
    | some k => exact .inr fun e => by have := (h.lt k hv).1; cases e; omega)

theorem StrsIn.taken {w : World} {g n : Nat} {zs : List ByteArray} (h : StrsIn w (some ⟨g, 0, none⟩) g n zs) (k : Nat) (hk : k ≤ n) : StrsIn w (some ⟨g, 0, none⟩) g k (zs.take k) :=
  ⟨by rw [List.length_take, h.len]; omega, fun _ => rfl, h.blk, fun i hi => by rw [List.getElem_take]; exact h.cells i (by rw [List.length_take] at hi; omega), fun s hs => h.small s (List.mem_of_mem_take hs)⟩
theorem StrsIn.at_ {w : World} {g n : Nat} {zs : List ByteArray} (h : StrsIn w (some ⟨g, 0, none⟩) g n zs) : StrsAt w (some ⟨g, 0, none⟩) zs :=
  ⟨fun _ => ⟨_, rfl, h.blk, fun i hi => by
    have e : (⟨g, 0, none⟩ : Addr).add i = ⟨g, i, none⟩ := by unfold Addr.add; split <;> simp_all
    rw [e]; exact h.cells i hi⟩, h.small⟩
theorem strsIn_abcd (w : World) : StrsIn (w.alloc (.cells #[.string { data := #[97] }, .string { data := #[98] }, .string { data := #[99] }, .string { data := #[100] }] 9)) (some ⟨w.heap.size, 0, none⟩) w.heap.size 4 abcd :=
  ⟨rfl, fun _ => rfl, by simp, fun j hj => by
    have hj4 : j < 4 := hj
    rcases (show j = 0 ∨ j = 1 ∨ j = 2 ∨ j = 3 by omega) with rfl | rfl | rfl | rfl <;> exact (World.cell?_alloc_at _ _ _ _ (by simp)).trans rfl, by
    have : ∀ s ∈ abcd, s.size = 1 := by decide
    intro s hs
    rw [this s hs]; unfold maxLen; omega⟩

/-- Few texts that lie in a block of the call's own. -/
def FourS (base : Nat) (w' : World) (v : Value) : Prop := ∃ g c n zs, v = .slice (some ⟨g, 0, none⟩) n c ∧ base ≤ g ∧ StrsIn w' (some ⟨g, 0, none⟩) g n zs ∧ n ≤ 4 ∧ ∀ z ∈ zs, z.size ≤ 4

theorem _root_.Go.World.grownBy.past {w w1 w2 : World} {rb N : Nat} (hg : w.grownBy w1 (some rb)) (hb : Below N w1 w2) (hN : w.heap.size ≤ N := by omega) : w.grownBy w2 (some rb) :=
  ⟨hb.os.trans hg.os, hb.tape.trans hg.tape, hb.output.trans hg.output, Nat.le_trans hg.size hb.size, fun k hk hne => (hb.block k (by omega)).trans (hg.block k hk hne)⟩
theorem FourS.mono {b1 b2 : Nat} {w : World} {v : Value} (h : FourS b1 w v) (hb : b2 ≤ b1) : FourS b2 w v := by
  obtain ⟨g, c, n, ts, rfl, h1, h2⟩ := h
  exact ⟨g, c, n, ts, rfl, Nat.le_trans hb h1, h2⟩

set_option maxRecDepth 100000 in
set_option maxHeartbeats 4000000 in
theorem l91Four_grown (base rb : Nat) (a : Option Addr) (n cap : Nat) (zs : List Int) (p : Nat) (w : World) (h : Rd base w rb a n cap zs p) (hp : p ≤ 80000) :
    Calls Try.prog 67 #[.pointer (some ⟨rb, 0, none⟩)] w fun e w' => (∃ v, e = .returned v ∧ FourS w.heap.size w' v) ∧ (∃ p', p' ≤ p + 300 ∧ Rd base w' rb a n cap zs p') ∧ Below base w w' ∧ w.grownBy w' (some rb) := by
  obtain ⟨i0, hi, hz0, hz1, hz2⟩ := info_parts infoStr
  have hlo := h.lo
  have hrl := h.lt
  have H := Lib.hid (h.past ((Below.refl w.heap.size w).alloc (Nat.le_refl _) (.cells #[] 9)) hrl)
  clear h
  go_enter Try.func67, Try.ntmps67
  go_wp2
  go_loopw [3, 4] (fun v i wr => ∃ (k q g c : Nat) (ys : List ByteArray), v = .slice (some ⟨g, 0, none⟩) k c ∧ k ≤ 4 ∧ i = .int .i64 k ∧ q ≤ p + 61 * k ∧ w.heap.size ≤ g ∧ Hid (ys.length = k ∧ OwnS w.heap.size wr (.slice (some ⟨g, 0, none⟩) k c) ys ∧ (∀ y ∈ ys, y.size ≤ 4) ∧ Rd base wr rb a n cap zs q ∧ Below base w wr ∧ w.grownBy wr (some rb)) ∧ w.heap.size < wr.heap.size) (fun _ i _ => 4 - (intOf i).toNat)
  case atStart => exact ⟨0, p, w.heap.size, 0, [], rfl, by omega, rfl, by omega, Nat.le_refl _, Lib.hid ⟨rfl, ownS_made2 w, by simp, H.out, ((Below.refl w.heap.size w).alloc (Nat.le_refl _) _).mono (by omega), grownAny_of_below ((Below.refl w.heap.size w).alloc (Nat.le_refl _) _) _⟩, by simp⟩
  case round =>
    obtain ⟨k, q, g, c, ys, rfl, hk, rfl, hq, hg, HH, hsz⟩ := hrel
    by_cases hlt : k < 4
    · have hli : (k : Int) < 4 := by omega
      go_wp2_with fail
      refine (l91Word_grown base rb a n cap zs q 3 3 wr HH.out.2.2.2.1 (by omega) (by omega) (by omega) (by omega)).mono ?_
      rintro e w5 ⟨⟨t, rfl, ht⟩, ⟨q5, hq5, hR5⟩, hB5, hG5⟩
      have HO := Lib.hid (HH.out.2.1.kept hG5 (by omega))
      have HR5 := Lib.hid hR5
      have HB5 := Lib.hid (HH.out.2.2.2.2.1.trans hB5)
      have HG5 := Lib.hid (HH.out.2.2.2.2.2.trans hG5)
      have HYL := Lib.hid HH.out.1
      have HYS := Lib.hid HH.out.2.2.1
      have hs5 := hG5.size
      have hrb5 := hR5.lt
      have hown := HO.out
      unfold OwnS at hown
      rw [HYL.out] at hown
      have HOW := Lib.hid hown
      clear hR5 hB5 hG5 hown
      go_wp2_with (at_builtin; refine wpList_append_lies _ rfl _ _ _ rfl w.heap.size 9 i0 _ 1 16 Try.underlying33 hi hz0 hz1 hz2 rfl (by omega) (.slice (some ⟨g, 0, none⟩) k c) k (strsV ys) rfl (HOW.out.alloc _) ⟨w5.heap.size, 0, none⟩ 1 1 [.string t] rfl rfl (World.news_of_block (cs := #[.string t]) (t := 9) (fr := (0, 0)) (heap_alloc_new w5 _)) (by simp [Value.oneCell']) (by omega) (by unfold maxLen; omega) (by omega) (by simp; omega) (w5.heap.size + 1) (by simp) ?_; intro gg cap1 w7 hown7 hgrow7 hat hlt7)
      have hgg : w.heap.size ≤ gg := (hown7.lt gg rfl).1
      have hB57 : Below w.heap.size w5 w7 := ((Below.refl w.heap.size w5).alloc (by omega) _).grown hgrow7 (by simp; omega) (ownsRow_low HOW.out)
      have HB7 := Lib.hid (HB5.out.trans (hB57.mono (by omega)))
      have HR7 := Lib.hid (HR5.out.past hB57 (by omega))
      have HG7 : Hid (w.grownBy w7 (some rb)) := Lib.hid (HG5.out.past hB57)
      have HO7 := Lib.hid hown7
      have hs7 := hB57.size
      clear hown7 hgrow7 hat hlt7 hB57
      go_wp2
      go_roundw
      case rel =>
        refine ⟨k + 1, q5, gg, cap1, ys ++ [t], rfl, by omega, by go_num, by omega, hgg, Lib.hid ⟨by rw [List.length_append, HYL.out]; rfl, ?_, ?_, HR7.out, HB7.out, HG7.out⟩, by omega⟩
        · unfold OwnS
          rw [List.length_append, HYL.out, show strsV (ys ++ [t]) = strsV ys ++ [.string t] by simp [strsV]]
          exact HO7.out
        · intro y hy
          rcases List.mem_append.1 hy with h | h
          · exact HYS.out y h
          · rw [List.mem_singleton.1 h]; exact ht
      case measure => simp [intOf]; omega
    · obtain rfl : k = 4 := by omega
      have HP := Lib.hid (pick_any base rb a n cap zs q 20 wr HH.out.2.2.2.1 (by omega) (by omega) (by omega))
      go_wp2_with fail
      refine HP.out.mono ?_
      rintro e w6 ⟨⟨z, rfl, hz⟩, hR6, hB6, hG6⟩
      have HO6 := Lib.hid (HH.out.2.1.kept hG6 (by omega))
      have hgl : g < w6.heap.size := (HO6.out.lt g rfl).2
      have HR6 := Lib.hid hR6
      have HB6 := Lib.hid (HH.out.2.2.2.2.1.trans hB6)
      have HG6 := Lib.hid (HH.out.2.2.2.2.2.trans hG6)
      have HYL := Lib.hid HH.out.1
      have hown := HO6.out
      unfold OwnS at hown
      rw [HYL.out] at hown
      have hcap := ownsRow_cap hown
      have hc3 : 3 ≤ c := by omega
      have hc3i : (3 : Int) ≤ (c : Int) := by omega
      have hcm := hcap.2.1
      unfold maxLen at hcm
      obtain ⟨q1, q2, q3⟩ := strsAt_of_owns HYL.out hown (fun z hz => by have := HH.out.2.2.1 z hz; unfold maxLen; omega)
      have HF : Hid (StrsIn w6 (some ⟨g, 0, none⟩) g 4 ys) := Lib.hid ⟨HYL.out, fun _ => rfl, q2, q3, q1.small⟩
      have HF3 : Hid (StrsIn w6 (some ⟨g, 0, none⟩) g 3 (ys.take 3)) := Lib.hid (HF.out.taken 3 (by omega))
      have HYS := Lib.hid HH.out.2.2.1
      clear hR6 hB6 hG6 hown hcap q1 q2 q3
      by_cases hz0 : z = 0
      · subst hz0
        go_wp2
        go_ret
        exact ⟨⟨_, rfl, g, _, 3, ys.take 3, rfl, hg, HF3.out, by omega, fun z hz => HYS.out z (List.mem_of_mem_take hz)⟩, ⟨_, by omega, HR6.out⟩, HB6.out, HG6.out⟩
      · have hzi : ((z : Int) == 0) = false := by simpa using hz0
        have hzn : ¬ (z : Int) = 0 := by omega
        go_wp2
        go_ret
        exact ⟨⟨_, rfl, g, _, 4, ys, rfl, hg, HF.out, by omega, HYS.out⟩, ⟨_, by omega, HR6.out⟩, HB6.out, HG6.out⟩

theorem l91Four_any (base rb : Nat) (a : Option Addr) (n cap : Nat) (zs : List Int) (p : Nat) (w : World) (h : Rd base w rb a n cap zs p) (hp : p ≤ 80000) :
    Calls Try.prog 67 #[.pointer (some ⟨rb, 0, none⟩)] w fun e w' => (∃ v, e = .returned v ∧ FourS w.heap.size w' v) ∧ (∃ p', p' ≤ p + 300 ∧ Rd base w' rb a n cap zs p') ∧ Below base w w' :=
  (l91Four_grown base rb a n cap zs p w h hp).mono fun _ _ ⟨h1, h2, h3, _⟩ => ⟨h1, h2, h3⟩

set_option maxRecDepth 100000 in
set_option maxHeartbeats 2000000 in
theorem drawWordPut_any (a : Option Addr) (n cap : Nat) (zs : List Int) (w : World) (h : BsAt w.heap.size w a n cap zs) :
    Calls Try.prog 19 #[.slice a n cap] w fun e w' => (∃ (s : ByteArray) (v : Value), e = .returned (.tuple #[.string s, v]) ∧ s.size ≤ 7 ∧ FourS w.heap.size w' v) ∧ Below w.heap.size w w' := by
  have HO := Lib.hid (open_any a n cap zs w h)
  clear h
  go_enter Try.func19, Try.ntmps19
  go_wp2_with fail
  refine HO.out.mono ?_
  rintro e w1 ⟨n', zs', rfl, hR1, hB1⟩
  have HR1 := Lib.hid hR1
  have HB1 := Lib.hid hB1
  clear hR1 hB1
  go_wp2_with fail
  refine (l91Word_any w.heap.size w.heap.size a n' cap zs' 0 6 3 w1 HR1.out (by omega) (by omega) (by omega) (by omega)).mono ?_
  rintro e w2 ⟨⟨s, rfl, hs⟩, ⟨p2, hp2, hR2⟩, hB2⟩
  have HR2 := Lib.hid hR2
  have HB2 := Lib.hid (HB1.out.trans hB2)
  have hs2 := (HB1.out.trans hB2).size
  clear hR2 hB2
  go_wp2_with fail
  refine (l91Four_any w.heap.size w.heap.size a n' cap zs' p2 w2 HR2.out (by omega)).mono ?_
  rintro e w3 ⟨⟨v, rfl, g, c, k, ys, rfl, hg, hS, hk, hys⟩, _, hB3⟩
  have HB3 := Lib.hid (HB2.out.trans hB3)
  have HS := Lib.hid hS
  have HYS := Lib.hid hys
  clear hB3 hS hys
  go_wp2
  go_ret2
  exact ⟨⟨s, _, rfl, by omega, g, c, k, ys, rfl, by omega, HS.out, hk, HYS.out⟩, HB3.out⟩

end Go.Proofs.Ytebgcebjlbhjjab

/- The contracts of the model's draws of sums: 'l91Sum', 'l91Sums' and the draws of chapter 2 and of FoxSum. -/

namespace Go.Proofs.Ytebgcebjlbhjjab
open Go.RowKit Go.Shelf

theorem OwnT.keptBut {base : Nat} {w w' : World} {v : Value} {ts : List Tm} (h : OwnT base w v ts) {rb : Nat} (hg : w.grownBy w' (some rb)) (hr : rb < base) : OwnT base w' v ts :=
  World.ownsRow.kept h hg (by
    cases hv : v.ownBlock with
    | none => exact .inl rfl
    | some k => exact .inr fun e => by have := (h.lt k hv).1; cases e; omega)
theorem TermsIn.keptBut {w w' : World} {g n c rb : Nat} {ts : List Tm} (h : TermsIn w (some ⟨g, 0, none⟩) n c ts) (hg : w.grownBy w' (some rb)) (hne : g ≠ rb) : TermsIn w' (some ⟨g, 0, none⟩) n c ts :=
  termsIn_some ⟨h.is.len, h.is.max, fun h0 => by
    obtain ⟨x, e, hx⟩ := h.is.at_ h0
    cases e
    refine ⟨_, rfl, Nat.lt_of_lt_of_le hx.1 hg.size, fun i hi => ?_⟩
    obtain ⟨h1, h2⟩ := hx.2 i hi
    exact ⟨hg.cell h1 (by rw [addr_add_block]; intro e; cases e; exact hne rfl), hg.cell h2 (by rw [addr_add_block]; intro e; cases e; exact hne rfl)⟩, h.is.small⟩
theorem SumV.keptBut {base : Nat} {w w' : World} {v : Value} {rb : Nat} (h : SumV base w v) (hg : w.grownBy w' (some rb)) (hr : rb < base) : SumV base w' v := by
  obtain ⟨g, c, n, ts, rfl, h1, h2, h3⟩ := h
  exact ⟨g, c, n, ts, rfl, h1, h2.keptBut hg (by omega), h3⟩
theorem SumV.mono {b1 b2 : Nat} {w : World} {v : Value} (h : SumV b1 w v) (hb : b2 ≤ b1) : SumV b2 w v := by
  obtain ⟨g, c, n, ts, rfl, h1, h2⟩ := h
  exact ⟨g, c, n, ts, rfl, Nat.le_trans hb h1, h2⟩

/-- Few small terms. -/
def FewT (ts : List Tm) : Prop := ts.length ≤ 4 ∧ ∀ t ∈ ts, t.s.size ≤ 6 ∧ -4 ≤ t.c ∧ t.c ≤ 4
theorem few_canon {ts : List Tm} (h : FewT ts) : (canonT ts).length ≤ 4 ∧ ∀ t ∈ canonT ts, t.s.size ≤ 6 ∧ -20 ≤ t.c ∧ t.c ≤ 20 := by
  refine ⟨by have := fold_len ts []; unfold canonT; simp only [List.length_nil] at this; have := h.1; omega, fun t ht => ?_⟩
  obtain ⟨v, hv, e⟩ := canon_words ht
  have h1 := fold_bound (C := 4) (by omega) ts [] 0 (by omega) (fun u hu => (h.2 u hu).2) (fun u hu => by cases hu) t ht
  have h2 := (h.2 v hv).1
  have h3 := h.1
  rw [← e]
  exact ⟨h2, by omega, by omega⟩
theorem few_small {ts : List Tm} (h : FewT ts) : SmallT ts := ⟨by have := h.1; unfold maxLen; omega, fun t ht => by have := h.2 t ht; unfold maxLen; omega⟩

set_option maxRecDepth 100000 in
set_option maxHeartbeats 6000000 in
theorem l91Sum_any (base rb : Nat) (a : Option Addr) (n cap : Nat) (zs : List Int) (p most : Nat) (w : World) (h : Rd base w rb a n cap zs p) (hp : p ≤ 80000) (hm : most ≤ 5) :
    Calls Try.prog 58 #[.pointer (some ⟨rb, 0, none⟩), .int .i64 most] w fun e w' => (∃ v, e = .returned v ∧ SumV w.heap.size w' v) ∧ (∃ p', p' ≤ p + 300 ∧ Rd base w' rb a n cap zs p') ∧ Below base w w' ∧ w.grownBy w' (some rb) := by
  obtain ⟨i0, hi, hz0, hz1, hz2⟩ := info_parts infoTerm
  have hlo := h.lo
  have hrl := h.lt
  have hba : Below w.heap.size w (w.alloc (.cells #[] TI)) := (Below.refl w.heap.size w).alloc (Nat.le_refl _) _
  have H := Lib.hid (h.past hba hrl)
  have HBA := Lib.hid hba
  clear h hba
  go_enter Try.func58, Try.ntmps58
  go_wp2_with fail
  refine (pick_any base rb a n cap zs p 4 _ H.out (by omega) (by omega) (by omega)).mono ?_
  rintro e w1 ⟨⟨N, rfl, hN⟩, hR1, hB1, hG1⟩
  have hO1 : OwnT w.heap.size w1 (.slice (some ⟨w.heap.size, 0, none⟩) 0 0) [] := OwnT.keptBut (World.ownsRow_made w #[] 0 (Nat.le_refl _) (Nat.zero_le _) rfl) hG1 hrl
  have HO1 := Lib.hid hO1
  have HR1 := Lib.hid hR1
  have HB1 := Lib.hid ((HBA.out.mono (by omega)).trans hB1)
  have HG1 := Lib.hid ((grownAny_of_below HBA.out (some rb)).trans hG1)
  have hs1 : w.heap.size < w1.heap.size := by have := hG1.size; simp at this; omega
  clear hR1 hB1 hG1 hO1
  go_wp2_with fail
  go_loopw [5, 7] (fun v i wr => ∃ (k q g c : Nat) (ts : List Tm), v = .slice (some ⟨g, 0, none⟩) k c ∧ k ≤ N ∧ i = .int .i64 k ∧ q ≤ p + 1 + 62 * k ∧ w.heap.size ≤ g ∧ Hid (ts.length = k ∧ OwnT w.heap.size wr (.slice (some ⟨g, 0, none⟩) k c) ts ∧ (∀ t ∈ ts, t.s.size ≤ 6 ∧ -4 ≤ t.c ∧ t.c ≤ 4) ∧ Rd base wr rb a n cap zs q ∧ Below base w wr ∧ w.grownBy wr (some rb)) ∧ w.heap.size < wr.heap.size) (fun _ i _ => N - (intOf i).toNat)
  case atStart => exact ⟨0, p + 1, w.heap.size, 0, [], rfl, Nat.zero_le _, rfl, by omega, Nat.le_refl _, Lib.hid ⟨rfl, HO1.out, by simp, HR1.out, HB1.out, HG1.out⟩, hs1⟩
  case round =>
    obtain ⟨k, q, g, c, ts, rfl, hk, rfl, hq, hg, HH, hsz⟩ := hrel
    by_cases hlt : k < N
    · have hli : (k : Int) < (N : Int) := by omega
      go_wp2_with fail
      refine (pick_any base rb a n cap zs q 9 wr HH.out.2.2.2.1 (by omega) (by omega) (by omega)).mono ?_
      rintro e w4 ⟨⟨z, rfl, hz⟩, hR4, hB4, hG4⟩
      have HO4 := Lib.hid (HH.out.2.1.keptBut hG4 (by omega))
      have HR4 := Lib.hid hR4
      have HB4 := Lib.hid (HH.out.2.2.2.2.1.trans hB4)
      have HG4 := Lib.hid (HH.out.2.2.2.2.2.trans hG4)
      have hs4 := hG4.size
      have e1 : IntKind.i64.wrap ((z : Int) - 4) = (z : Int) - 4 := IntWalk.i64_in _ (by omega)
      clear hR4 hB4 hG4
      go_wp2_with fail
      refine (l91Word_grown base rb a n cap zs (q + 1) most 2 w4 HR4.out (by omega) (by omega) (by omega) (by omega)).mono ?_
      rintro e w5 ⟨⟨s, rfl, hs⟩, ⟨q5, hq5, hR5⟩, hB5, hG5⟩
      have HO5 := Lib.hid (HO4.out.keptBut hG5 (by omega))
      have HR5 := Lib.hid hR5
      have HB5 := Lib.hid (HB4.out.trans hB5)
      have HG5 := Lib.hid (HG4.out.trans hG5)
      have HTL := Lib.hid HH.out.1
      have HTS := Lib.hid HH.out.2.2.1
      have hs5 := hG5.size
      have hrb5 := hR5.lt
      have hown := HO5.out
      unfold OwnT at hown
      rw [HTL.out] at hown
      have HOW := Lib.hid hown
      clear hR5 hB5 hG5 hown
      go_wp2_with (at_builtin; refine wpList_append_lies _ rfl _ _ _ rfl w.heap.size TI i0 _ 2 24 Try.underlying25 hi hz0 hz1 hz2 rfl (by omega) (.slice (some ⟨g, 0, none⟩) k c) k (termsV ts) rfl (HOW.out.alloc _) ⟨w5.heap.size, 0, none⟩ 1 1 [.int .i64 ((z : Int) - 4), .string s] rfl rfl (World.news_of_block (cs := #[.int .i64 ((z : Int) - 4), .string s]) (t := TI) (fr := (0, 0)) (heap_alloc_new w5 _)) (by simp [Value.oneCell']) (by omega) (by unfold maxLen; omega) (by omega) (by simp; omega) (w5.heap.size + 1) (by simp) ?_; intro gg cap1 w7 hown7 hgrow7 hat hlt7)
      have hgg : w.heap.size ≤ gg := (hown7.lt gg rfl).1
      have hB57 : Below w.heap.size w5 w7 := ((Below.refl w.heap.size w5).alloc (by omega) _).grown hgrow7 (by simp; omega) (ownsRow_low HOW.out)
      have HB7 := Lib.hid (HB5.out.trans (hB57.mono (by omega)))
      have HR7 := Lib.hid (HR5.out.past hB57 (by omega))
      have HG7 : Hid (w.grownBy w7 (some rb)) := Lib.hid (HG5.out.past hB57)
      have HO7 := Lib.hid hown7
      have hs7 := hB57.size
      clear hown7 hgrow7 hat hlt7 hB57
      go_wp2
      go_roundw
      case rel =>
        refine ⟨k + 1, q5, gg, cap1, ts ++ [⟨(z : Int) - 4, s⟩], rfl, by omega, by go_num, by omega, hgg, Lib.hid ⟨by rw [List.length_append, HTL.out]; rfl, ?_, ?_, HR7.out, HB7.out, HG7.out⟩, by omega⟩
        · unfold OwnT
          rw [List.length_append, HTL.out, termsV_append]
          exact HO7.out
        · intro t ht
          rcases List.mem_append.1 ht with h | h
          · exact HTS.out t h
          · rw [List.mem_singleton.1 h]; exact ⟨by show s.size ≤ 6; omega, by show (-4 : Int) ≤ (z : Int) - 4; omega, by show (z : Int) - 4 ≤ 4; omega⟩
      case measure => simp [intOf]; omega
    · obtain rfl : N = k := by omega
      have hfew : FewT ts := ⟨by have := HH.out.1; omega, HH.out.2.2.1⟩
      obtain ⟨a1, c1, e1, hT⟩ := HH.out.2.1.termsIn (few_small hfew)
      rw [HH.out.1] at e1 hT
      obtain ⟨rfl, rfl⟩ : a1 = some ⟨g, 0, none⟩ ∧ c1 = c := by cases e1; exact ⟨rfl, rfl⟩
      obtain ⟨b, hb⟩ : ∃ b, ofB ts = b := ⟨_, rfl⟩
      have HT := Lib.hid hT
      have HF := Lib.hid hfew
      have HB := Lib.hid hb
      have HR := Lib.hid HH.out.2.2.2.1
      have HBB := Lib.hid HH.out.2.2.2.2.1
      have HGG := Lib.hid HH.out.2.2.2.2.2
      clear e1 hT hfew hb
      have hrbw := HR.out.lt
      go_wp2_with fail
      refine (sSumOf_any _ c1 N ts b _ HT.out.is HB.out).mono ?_
      rintro e w4 ⟨⟨v, rfl, ho⟩, hb4⟩
      have HT4 := Lib.hid (HT.out.below hb4)
      have HR4 := Lib.hid (HR.out.below hb4)
      have HG4 := Lib.hid (HGG.out.trans (grownAny_of_below hb4 _))
      have HB4 := Lib.hid (HBB.out.trans (hb4.mono (by omega)))
      have hs4 := hb4.size
      clear hb4
      cases b with
      | false =>
        clear ho
        go_wp2
        go_ret
        exact ⟨⟨_, rfl, g, _, N, ts, rfl, hg, HT4.out, by omega, fun t ht => by have := HF.out.2 t ht; omega⟩, ⟨_, by omega, HR4.out⟩, HB4.out, HG4.out⟩
      | true =>
        have ho : OwnTerms wr.heap.size w4 v (canonT ts) := ho
        obtain ⟨f1, f2⟩ := few_canon HF.out
        obtain ⟨us, hus⟩ : ∃ us, canonT ts = us := ⟨_, rfl⟩
        rw [hus] at ho f1 f2
        obtain ⟨m, hm'⟩ : ∃ m, us.length = m := ⟨_, rfl⟩
        obtain ⟨g4, c4, rfl, hO4⟩ := ho
        obtain ⟨a4, c5, e5, hT5⟩ := OwnT.termsIn (show OwnT wr.heap.size w4 _ us from hO4) ⟨by unfold maxLen; omega, fun t ht => by have := f2 t ht; unfold maxLen; omega⟩
        obtain ⟨rfl, rfl⟩ : a4 = some ⟨g4, 0, none⟩ ∧ c5 = c4 := by cases e5; exact ⟨rfl, rfl⟩
        have hg4 : wr.heap.size ≤ g4 := (hO4.lt g4 rfl).1
        rw [hm'] at hT5 f1 ⊢
        have HT5 := Lib.hid hT5
        have HF2 := Lib.hid f2
        clear hus hO4 e5 hT5 f2 hm'
        go_wp2_with fail
        refine (pick_any base rb a n cap zs q 24 w4 HR4.out (by omega) (by omega) (by omega)).mono ?_
        rintro e w5 ⟨⟨z, rfl, hz⟩, hR5, hB5, hG5⟩
        have HR5 := Lib.hid hR5
        have HB5 := Lib.hid (HB4.out.trans hB5)
        have HT6 := Lib.hid (HT5.out.keptBut hG5 (by omega))
        have HT7 := Lib.hid (HT4.out.keptBut hG5 (by omega))
        have HG5 := Lib.hid (HG4.out.trans hG5)
        clear hR5 hB5 hG5
        by_cases hz0 : z = 0
        · subst hz0
          go_wp2
          go_ret
          exact ⟨⟨_, rfl, g, _, N, ts, rfl, hg, HT7.out, by omega, fun t ht => by have := HF.out.2 t ht; omega⟩, ⟨_, by omega, HR5.out⟩, HB5.out, HG5.out⟩
        · have hzi : ((z : Int) == 0) = false := by simpa using hz0
          have hzn : ¬ (z : Int) = 0 := by omega
          go_wp2
          go_ret
          exact ⟨⟨_, rfl, g4, _, m, us, rfl, by omega, HT6.out, f1, HF2.out⟩, ⟨_, by omega, HR5.out⟩, HB5.out, HG5.out⟩

end Go.Proofs.Ytebgcebjlbhjjab

/- The contracts of the model's draws of series: 'l91Series' and the draws of chapter 4. -/

namespace Go.Proofs.Ytebgcebjlbhjjab
open Go.RowKit Go.Shelf

/-- A series that was drawn, or another list. -/
def SerV (base : Nat) (w' : World) (v : Value) : Prop := ∃ g c n ts, v = .slice (some ⟨g, 0, none⟩) n c ∧ base ≤ g ∧ TermsIn w' (some ⟨g, 0, none⟩) n c ts
theorem SerV.keptBut {base : Nat} {w w' : World} {v : Value} {rb : Nat} (h : SerV base w v) (hg : w.grownBy w' (some rb)) (hr : rb < base) : SerV base w' v := by
  obtain ⟨g, c, n, ts, rfl, h1, h2⟩ := h
  exact ⟨g, c, n, ts, rfl, h1, h2.keptBut hg (by omega)⟩
theorem SerV.mono {b1 b2 : Nat} {w : World} {v : Value} (h : SerV b1 w v) (hb : b2 ≤ b1) : SerV b2 w v := by
  obtain ⟨g, c, n, ts, rfl, h1, h2⟩ := h
  exact ⟨g, c, n, ts, rfl, Nat.le_trans hb h1, h2⟩

set_option maxRecDepth 100000 in
set_option maxHeartbeats 4000000 in
theorem l91Series_any (base rb : Nat) (a : Option Addr) (n cap : Nat) (zs : List Int) (p : Nat) (w : World) (h : Rd base w rb a n cap zs p) (hp : p ≤ 80000) :
    Calls Try.prog 87 #[.pointer (some ⟨rb, 0, none⟩)] w fun e w' => (∃ v, e = .returned v ∧ SerV w.heap.size w' v) ∧ (∃ p', p' ≤ p + 300 ∧ Rd base w' rb a n cap zs p') ∧ Below base w w' ∧ w.grownBy w' (some rb) := by
  have hlo := h.lo
  have hrl := h.lt
  have H := Lib.hid h
  clear h
  go_enter Try.func87, Try.ntmps87
  go_wp2_with fail
  refine (l91Word_grown base rb a n cap zs p 5 2 w H.out (by omega) (by omega) (by omega) (by omega)).mono ?_
  rintro e w1 ⟨⟨s, rfl, hs⟩, ⟨p1, hp1, hR1⟩, hB1, hG1⟩
  have HR1 := Lib.hid hR1
  have HB1 := Lib.hid hB1
  have HG1 := Lib.hid hG1
  have hs1 := hG1.size
  have hsm : s.size ≤ maxLen := by unfold maxLen; omega
  clear hR1 hB1 hG1
  cases hb : wordB s.data.toList with
  | false =>
    have HW := Lib.hid hb
    clear hb
    go_wp2_with fail
    refine (sSeriesOf_any s false _ hsm HW.out).mono ?_
    rintro e w2 ⟨⟨v, rfl, _⟩, hb2⟩
    have hba : Below w2.heap.size w2 (w2.alloc (.cells #[.int .i64 1, .string { data := #[65] }] TI)) := (Below.refl w2.heap.size w2).alloc (Nat.le_refl _) _
    have hs2 := hb2.size
    have HR3 := Lib.hid ((HR1.out.below hb2).below hba)
    have HB3 := Lib.hid ((HB1.out.trans (hb2.mono (by omega))).trans (hba.mono (by omega)))
    have HG3 := Lib.hid ((HG1.out.trans (grownAny_of_below hb2 _)).trans (grownAny_of_below hba _))
    have HT := Lib.hid (termsIn_lit w2 1 { data := #[65] } (by decide) (by omega))
    clear hb2 hba
    go_wp2
    go_ret
    exact ⟨⟨_, rfl, _, _, _, _, rfl, by omega, HT.out⟩, ⟨_, by omega, HR3.out⟩, HB3.out, HG3.out⟩
  | true =>
    have hl := ((wordB_iff _).1 hb).2.1
    have HW := Lib.hid hb
    obtain ⟨ts, hts⟩ : ∃ ts, serW s.data.toList = ts := ⟨_, rfl⟩
    have hpos : 0 < ts.length := by rw [← hts]; exact first_pos (canon_serW hl) (serW_no _ hl)
    obtain ⟨hsmall, hlen⟩ := told_smallS (b := true) (serW_tw hb) (us := ts) (by rw [← hts]; rfl)
    obtain ⟨N, hN⟩ : ∃ N, ts.length = N := ⟨_, rfl⟩
    have HTS := Lib.hid hts
    have HSM := Lib.hid hsmall
    have HN := Lib.hid hN
    rw [hN] at hpos hlen
    have hpi : (0 : Int) < (N : Int) := by omega
    have hpd : decide ((0 : Int) < (N : Int)) = true := decide_eq_true hpi
    have hpd2 : decide (0 < N) = true := decide_eq_true hpos
    clear hb hl hts hsmall hN
    go_wp2_with fail
    refine (sSeriesOf_any s true _ hsm HW.out).mono ?_
    rintro e w2 ⟨⟨v, rfl, ho⟩, hb2⟩
    have ho : OwnTerms w1.heap.size w2 v (serW s.data.toList) := ho
    rw [HTS.out] at ho
    obtain ⟨g, c, rfl, hO⟩ := ho
    have hg : w1.heap.size ≤ g := (hO.lt g rfl).1
    have hO : OwnT w1.heap.size w2 (.slice (some ⟨g, 0, none⟩) ts.length c) ts := hO
    have hs2 := hb2.size
    have HR2 := Lib.hid (HR1.out.below hb2)
    have HB2 := Lib.hid (HB1.out.trans (hb2.mono (by omega)))
    have HG2 := Lib.hid (HG1.out.trans (grownAny_of_below hb2 _))
    rw [HN.out] at hO ⊢
    have HO := Lib.hid hO
    have hrb1 := HR1.out.lt
    clear hO hb2
    go_wp2_with fail
    refine (pick_any base rb a n cap zs p1 16 w2 HR2.out (by omega) (by omega) (by omega)).mono ?_
    rintro e w3 ⟨⟨z, rfl, hz⟩, hR3, hB3, hG3⟩
    have HO3 := Lib.hid (HO.out.keptBut hG3 (by omega))
    have HR3 := Lib.hid hR3
    have HB3 := Lib.hid (HB2.out.trans hB3)
    have HG3 := Lib.hid (HG2.out.trans hG3)
    have hs3 := hG3.size
    clear hR3 hB3 hG3
    by_cases hz0 : z = 0
    · subst hz0
      obtain ⟨t, r, htr⟩ : ∃ t r, ts = t :: r := by
        cases ts with
        | nil => have := HN.out; simp at this; omega
        | cons t r => exact ⟨t, r, rfl⟩
      have hown := HO3.out
      unfold OwnT at hown
      rw [HN.out] at hown
      have hst := hown.stored 0 (.int .i64 2)
      have hset : (termsV ts).set 0 (.int .i64 2) = termsV (⟨2, t.s⟩ :: r) := by rw [htr]; rfl
      rw [hset] at hst
      have hfr := hown.frozenAt 0
      have hc0 : w3.cell? ⟨g, 0, none⟩ = some (.int .i64 t.c) := by rw [hown.cellAt 0 (by omega), htr]; rfl
      have hgl := (hown.lt g rfl).2
      have hlen2 : (⟨2, t.s⟩ :: r : List Tm).length = N := by rw [← HN.out, htr]; rfl
      have hO4 : OwnT w1.heap.size (w3.setCell ⟨g, 0, none⟩ (.int .i64 2)) (.slice (some ⟨g, 0, none⟩) N c) (⟨2, t.s⟩ :: r) := by unfold OwnT; rw [hlen2]; exact hst.1
      have hsm4 : SmallT (⟨2, t.s⟩ :: r : List Tm) := ⟨by rw [hlen2]; unfold maxLen; omega, fun u hu => by
        rcases List.mem_cons.1 hu with rfl | hu
        · exact ⟨(HSM.out.2 t (by rw [htr]; simp)).1, by show (-9223372036854775808 : Int) ≤ 2; omega, by show (2 : Int) ≤ 9223372036854775807; omega⟩
        · exact HSM.out.2 u (by rw [htr]; simp [hu])⟩
      obtain ⟨a5, c5, e5, hT⟩ := hO4.termsIn hsm4
      rw [hlen2] at e5 hT
      obtain ⟨rfl, rfl⟩ : a5 = some ⟨g, 0, none⟩ ∧ c5 = c := by cases e5; exact ⟨rfl, rfl⟩
      have hB4 : Below w1.heap.size w3 (w3.setCell ⟨g, 0, none⟩ (.int .i64 2)) := (Below.refl _ w3).setCell (p := ⟨g, 0, none⟩) hg _
      have HT := Lib.hid hT
      have HR4 := Lib.hid (HR3.out.past hB4 (by omega))
      have HB4 := Lib.hid (HB3.out.trans (hB4.mono (by omega)))
      have HG4 : Hid (w.grownBy (w3.setCell ⟨g, 0, none⟩ (.int .i64 2)) (some rb)) := Lib.hid (HG3.out.past hB4)
      clear htr hown hst hset hlen2 hO4 hsm4 e5 hT hB4
      go_wp2
      go_ret
      exact ⟨⟨_, rfl, _, _, _, _, rfl, by omega, HT.out⟩, ⟨_, by omega, HR4.out⟩, HB4.out, HG4.out⟩
    · have hzi : ((z : Int) == 0) = false := by simpa using hz0
      have hzn : ¬ (z : Int) = 0 := by omega
      obtain ⟨a5, c5, e5, hT⟩ := HO3.out.termsIn HSM.out
      rw [HN.out] at e5 hT
      obtain ⟨rfl, rfl⟩ : a5 = some ⟨g, 0, none⟩ ∧ c5 = c := by cases e5; exact ⟨rfl, rfl⟩
      have HT := Lib.hid hT
      clear e5 hT
      go_wp2
      go_ret
      exact ⟨⟨_, rfl, _, _, _, _, rfl, by omega, HT.out⟩, ⟨_, by omega, HR3.out⟩, HB3.out, HG3.out⟩

set_option maxRecDepth 100000 in
theorem drawSeriesIn_any (a : Option Addr) (n cap : Nat) (zs : List Int) (w : World) (h : BsAt w.heap.size w a n cap zs) :
    Calls Try.prog 30 #[.slice a n cap] w fun e w' => (∃ v, e = .returned v ∧ SerV w.heap.size w' v) ∧ Below w.heap.size w w' := by
  have HO := Lib.hid (open_any a n cap zs w h)
  clear h
  go_enter Try.func30, Try.ntmps30
  go_wp2_with fail
  refine HO.out.mono ?_
  rintro e w1 ⟨n', zs', rfl, hR1, hB1⟩
  have HR1 := Lib.hid hR1
  have HB1 := Lib.hid hB1
  have hs1 := hB1.size
  clear hR1 hB1
  go_wp2_with fail
  refine (l91Series_any w.heap.size w.heap.size a n' cap zs' 0 w1 HR1.out (by omega)).mono ?_
  rintro e w2 ⟨⟨v, rfl, hv⟩, _, hB2, _⟩
  have HV := Lib.hid hv
  have HB2 := Lib.hid (HB1.out.trans hB2)
  clear hB2 hv
  go_wp2
  go_ret
  exact ⟨⟨v, rfl, HV.out.mono hs1⟩, HB2.out⟩

set_option maxRecDepth 100000 in
theorem drawSeriesTimes_any (a : Option Addr) (n cap : Nat) (zs : List Int) (w : World) (h : BsAt w.heap.size w a n cap zs) :
    Calls Try.prog 42 #[.slice a n cap] w fun e w' => (∃ v u, e = .returned (.tuple #[v, u]) ∧ SerV w.heap.size w' v ∧ SerV w.heap.size w' u) ∧ Below w.heap.size w w' := by
  have HO := Lib.hid (open_any a n cap zs w h)
  clear h
  go_enter Try.func42, Try.ntmps42
  go_wp2_with fail
  refine HO.out.mono ?_
  rintro e w1 ⟨n', zs', rfl, hR1, hB1⟩
  have HR1 := Lib.hid hR1
  have HB1 := Lib.hid hB1
  have hr1 := hR1.lt
  clear hR1 hB1
  go_wp2_with fail
  refine (l91Series_any w.heap.size w.heap.size a n' cap zs' 0 w1 HR1.out (by omega)).mono ?_
  rintro e w2 ⟨⟨v, rfl, hv⟩, ⟨p2, hp2, hR2⟩, hB2, _⟩
  have HR2 := Lib.hid hR2
  have HV := Lib.hid hv
  have HB2 := Lib.hid (HB1.out.trans hB2)
  have hs2 := (HB1.out.trans hB2).size
  clear hR2 hB2 hv
  go_wp2_with fail
  refine (l91Series_any w.heap.size w.heap.size a n' cap zs' p2 w2 HR2.out (by omega)).mono ?_
  rintro e w3 ⟨⟨u, rfl, hu⟩, _, hB3, hG3⟩
  have HV3 := Lib.hid (HV.out.keptBut hG3 (by omega))
  have HU := Lib.hid hu
  have HB3 := Lib.hid (HB2.out.trans hB3)
  clear hB3 hG3 hu
  go_wp2
  go_ret2
  exact ⟨⟨v, u, rfl, HV3.out.mono (by omega), HU.out.mono hs2⟩, HB3.out⟩

set_option maxRecDepth 100000 in
theorem drawSeriesOf_any (a : Option Addr) (n cap : Nat) (zs : List Int) (w : World) (h : BsAt w.heap.size w a n cap zs) :
    Calls Try.prog 35 #[.slice a n cap] w fun e w' => (∃ s : ByteArray, e = .returned (.string s) ∧ s.size ≤ 20) ∧ Below w.heap.size w w' := by
  have HO := Lib.hid (open_any a n cap zs w h)
  clear h
  go_enter Try.func35, Try.ntmps35
  go_wp2_with fail
  refine HO.out.mono ?_
  rintro e w1 ⟨n', zs', rfl, hR1, hB1⟩
  have HR1 := Lib.hid hR1
  have HB1 := Lib.hid hB1
  clear hR1 hB1
  go_wp2_with fail
  refine (l91Word_any w.heap.size w.heap.size a n' cap zs' 0 8 2 w1 HR1.out (by omega) (by omega) (by omega) (by omega)).mono ?_
  rintro e w2 ⟨⟨s, rfl, hs⟩, _, hB2⟩
  have HB2 := Lib.hid (HB1.out.trans hB2)
  clear hB2
  go_wp2
  go_ret
  exact ⟨⟨_, rfl, by omega⟩, HB2.out⟩

set_option maxRecDepth 100000 in
theorem drawSeriesCoef_any (a : Option Addr) (n cap : Nat) (zs : List Int) (w : World) (h : BsAt w.heap.size w a n cap zs) :
    Calls Try.prog 44 #[.slice a n cap] w fun e w' => (∃ s m : ByteArray, e = .returned (.tuple #[.string s, .string m]) ∧ s.size ≤ 20 ∧ m.size ≤ 5) ∧ Below w.heap.size w w' := by
  have HO := Lib.hid (open_any a n cap zs w h)
  clear h
  go_enter Try.func44, Try.ntmps44
  go_wp2_with fail
  refine HO.out.mono ?_
  rintro e w1 ⟨n', zs', rfl, hR1, hB1⟩
  have HR1 := Lib.hid hR1
  have HB1 := Lib.hid hB1
  clear hR1 hB1
  go_wp2_with fail
  refine (l91Word_any w.heap.size w.heap.size a n' cap zs' 0 7 2 w1 HR1.out (by omega) (by omega) (by omega) (by omega)).mono ?_
  rintro e w2 ⟨⟨s, rfl, hs⟩, ⟨p2, hp2, hR2⟩, hB2⟩
  have HR2 := Lib.hid hR2
  have HB2 := Lib.hid (HB1.out.trans hB2)
  clear hR2 hB2
  go_wp2_with fail
  refine (l91Mono_any w.heap.size w.heap.size a n' cap zs' p2 4 w2 HR2.out (by omega) (by omega)).mono ?_
  rintro e w3 ⟨⟨m, rfl, hm⟩, _, hB3⟩
  have HB3 := Lib.hid (HB2.out.trans hB3)
  clear hB3
  go_wp2
  go_ret2
  exact ⟨⟨s, m, rfl, by omega, by omega⟩, HB3.out⟩

set_option maxRecDepth 100000 in
set_option maxHeartbeats 2000000 in
theorem drawSeriesDepth_any (a : Option Addr) (n cap : Nat) (zs : List Int) (w : World) (h : BsAt w.heap.size w a n cap zs) :
    Calls Try.prog 51 #[.slice a n cap] w fun e w' => (∃ s : ByteArray, e = .returned (.string s) ∧ s.size ≤ 20) ∧ Below w.heap.size w w' := by
  have HO := Lib.hid (open_any a n cap zs w h)
  clear h
  go_enter Try.func51, Try.ntmps51
  go_wp2_with fail
  refine HO.out.mono ?_
  rintro e w1 ⟨n', zs', rfl, hR1, hB1⟩
  have HR1 := Lib.hid hR1
  have HB1 := Lib.hid hB1
  clear hR1 hB1
  go_wp2_with fail
  refine (l91Word_any w.heap.size w.heap.size a n' cap zs' 0 3 2 w1 HR1.out (by omega) (by omega) (by omega) (by omega)).mono ?_
  rintro e w2 ⟨⟨s, rfl, hs⟩, ⟨p2, hp2, hR2⟩, hB2⟩
  have HR2 := Lib.hid hR2
  have HB2 := Lib.hid (HB1.out.trans hB2)
  clear hR2 hB2
  go_wp2_with fail
  refine (l91Word_any w.heap.size w.heap.size a n' cap zs' p2 3 2 w2 HR2.out (by omega) (by omega) (by omega) (by omega)).mono ?_
  rintro e w3 ⟨⟨t, rfl, ht⟩, ⟨p3, hp3, hR3⟩, hB3⟩
  have HR3 := Lib.hid hR3
  have HB3 := Lib.hid (HB2.out.trans hB3)
  have hsm : s.size ≤ maxLen := by unfold maxLen; omega
  have htm : t.size ≤ maxLen := by unfold maxLen; omega
  clear hR3 hB3
  by_cases hw : ¬ (wordB s.data.toList = true ∧ wordB t.data.toList = true)
  · have HW := Lib.hid hw
    clear hw
    go_wp2_with fail
    refine (sComm_no s t _ hsm htm HW.out).mono ?_
    rintro e w4 ⟨rfl, hb4⟩
    have HB4 := Lib.hid (HB3.out.trans (hb4.mono HB3.out.size))
    clear hb4
    go_wp2
    go_ret
    exact ⟨⟨_, rfl, by omega⟩, HB4.out⟩
  obtain ⟨hwa, hwb⟩ := Decidable.not_not.1 hw
  have hla := ((wordB_iff _).1 hwa).2.1
  have hlb := ((wordB_iff _).1 hwb).2.1
  have hna := toList_size s
  have hnb := toList_size t
  obtain ⟨o, ho⟩ := is_of (redL [] (commL s.data.toList t.data.toList))
  have hos := is_red_size ho
  unfold commL at hos
  rw [List.length_append, List.length_append, List.length_append, backL_length, backL_length] at hos
  have ho16 : o.size ≤ 16 := by omega
  have HA := Lib.hid hwa
  have HB := Lib.hid hwb
  have HOo := Lib.hid ho
  clear hw hwa hwb hla hlb hna hnb ho hos
  go_wp2_with fail
  refine (sComm_t HA.out HB.out HOo.out (by omega) _).mono ?_
  rintro e w4 ⟨rfl, hb4⟩
  have hs3 := HB3.out.size
  have HR4 := Lib.hid (HR3.out.below hb4)
  have HB4 := Lib.hid (HB3.out.trans (hb4.mono HB3.out.size))
  clear hb4
  go_wp2_with fail
  refine (pick_any w.heap.size w.heap.size a n' cap zs' p3 2 w4 HR4.out (by omega) (by omega) (by omega)).mono ?_
  rintro e w5 ⟨⟨z, rfl, hz⟩, _, hB5, _⟩
  have HB5 := Lib.hid (HB4.out.trans hB5)
  clear hB5
  by_cases hz0 : z = 0
  · subst hz0
    go_wp2
    go_ret
    exact ⟨⟨_, rfl, by omega⟩, HB5.out⟩
  · have hzi : ((z : Int) == 0) = false := by simpa using hz0
    have hzn : ¬ (z : Int) = 0 := by omega
    go_wp2
    go_ret
    exact ⟨⟨_, rfl, by omega⟩, HB5.out⟩

end Go.Proofs.Ytebgcebjlbhjjab

/- The contracts of the model's draws of words: 'DrawWordIn', 'DrawWordReduce', 'l91Any', 'DrawWordPower', 'DrawWordCore', 'l91Four', 'DrawWordPut' and their kin. -/

namespace Go.Proofs.Ytebgcebjlbhjjab
open Go.RowKit Go.Shelf

theorem drawWordTimes_any (a : Option Addr) (n cap : Nat) (zs : List Int) (w : World) (h : BsAt w.heap.size w a n cap zs) :
    Calls Try.prog 39 #[.slice a n cap] w fun e w' => (∃ s t : ByteArray, e = .returned (.tuple #[.string s, .string t]) ∧ s.size ≤ 8 ∧ t.size ≤ 8) ∧ Below w.heap.size w w' := by
  have HO := Lib.hid (l91Two_any a n cap zs w h)
  clear h
  go_enter Try.func39, Try.ntmps39
  go_wp2_with fail
  refine HO.out.mono ?_
  rintro e w1 ⟨⟨s, t, rfl, hs, ht⟩, hB1⟩
  go_wp2
  go_ret2
  exact ⟨⟨s, t, rfl, hs, ht⟩, hB1⟩

end Go.Proofs.Ytebgcebjlbhjjab

/- Coefficients of the second degree, depths of inverses, depth one; the contract of 'sameInts' at any two lists. -/

namespace Go.Proofs.Ytebgcebjlbhjjab
open Go.RowKit Go.Shelf

theorem sg_sig (i : Nat) : ∀ l : List UInt8, sgL i l = sigL i l
  | [] => rfl
  | c :: r => by rw [sgL, sigL, sg_sig i r]; rfl
theorem sig_back (i : Nat) (l : List UInt8) (hl : letL l = true) : sigL i (backL l) = - sigL i l := by rw [← sg_sig, ← sg_sig, sgL_back i l hl]
theorem two_append (h g : Nat) (a b : List UInt8) : twoL h g (a ++ b) = twoL h g a + twoL h g b + sigL h a * sigL g b := by
  generalize hn : b.length = n
  induction n generalizing b with
  | zero => rw [List.length_eq_zero_iff.1 hn, List.append_nil]; have : twoL h g [] = 0 := rfl; rw [this]; simp [sigL]
  | succ n ih =>
    obtain ⟨p, c, rfl⟩ := last_split b (by omega)
    have hp : p.length = n := by rw [List.length_append] at hn; simp at hn; exact hn
    rw [← List.append_assoc, two_snoc, two_snoc, ih p hp, sigL_append, sigL_append]
    simp only [sigL, Int.add_zero]
    rw [Int.add_mul, Int.mul_add]; omega
theorem cs_same {a b : List UInt8} (h : Eq4 (cs a) (cs b)) {i j : Nat} (hi : i < 4) (hj : j < 4) (ha : letL a = true) (hb : letL b = true) : sigL i a = sigL i b ∧ twoL i j a = twoL i j b := by
  obtain ⟨_, h1, h2⟩ := cs_two hi hj a ha
  obtain ⟨_, h3, h4⟩ := cs_two hi hj b hb
  exact ⟨by rw [← h1, ← h3]; exact h _ (by simp), by rw [← h2, ← h4]; exact h _ (by simp)⟩
theorem two_red {h g : Nat} (hh : h < 4) (hg : g < 4) {l : List UInt8} (hl : letL l = true) : twoL h g (redL [] l) = twoL h g l := by
  have := cs_red l [] hl
  rw [List.nil_append] at this
  exact (cs_same this hh hg (letL_red2 l [] hl rfl) hl).2
theorem sig_red {h : Nat} (hh : h < 4) {l : List UInt8} (hl : letL l = true) : sigL h (redL [] l) = sigL h l := by
  have := cs_red l [] hl
  rw [List.nil_append] at this
  exact (cs_same this hh hh (letL_red2 l [] hl rfl) hl).1
theorem two_back {h g : Nat} (hh : h < 4) (hg : g < 4) {l : List UInt8} (hl : letL l = true) : twoL h g (backL l) = sigL h l * sigL g l - twoL h g l := by
  have hb := letL_back l hl
  have h1 := two_red hh hg (l := l ++ backL l) (by rw [letL_append, hl, hb]; rfl)
  have h2 : redL [] (l ++ backL l) = [] := by have := red_inv hl []; rwa [List.nil_append] at this
  rw [h2, two_append, sig_back g l hl, Int.mul_neg] at h1
  have h3 : twoL h g [] = 0 := rfl
  rw [h3] at h1
  omega
/-- The coefficients of the second degree of a commutator. -/
theorem two_comm {h g : Nat} (hh : h < 4) (hg : g < 4) {a b : List UInt8} (ha : letL a = true) (hb : letL b = true) : twoL h g (redL [] (commL a b)) = sigL h a * sigL g b - sigL g a * sigL h b := by
  rw [two_red hh hg (comm_let ha hb)]
  unfold commL
  rw [two_append, two_append, two_append, two_back hh hg ha, two_back hh hg hb]
  simp only [sigL_append]
  rw [sig_back h a ha, sig_back g a ha, sig_back g b hb]
  simp only [Int.mul_neg, Int.add_mul, Int.neg_mul]
  rw [Int.mul_comm (sigL g a) (sigL h b)]
  omega
theorem mul_nine {p q : Int} (hp : -9 ≤ p ∧ p ≤ 9) (hq : -9 ≤ q ∧ q ≤ 9) : -81 ≤ p * q ∧ p * q ≤ 81 := by
  obtain ⟨a, rfl⟩ : ∃ a : Fin 19, p = (a.val : Int) - 9 := ⟨⟨(p + 9).toNat, by omega⟩, by show p = ((p + 9).toNat : Int) - 9; omega⟩
  obtain ⟨b, rfl⟩ : ∃ b : Fin 19, q = (b.val : Int) - 9 := ⟨⟨(q + 9).toNat, by omega⟩, by show q = ((q + 9).toNat : Int) - 9; omega⟩
  have : ∀ a b : Fin 19, -81 ≤ ((a.val : Int) - 9) * ((b.val : Int) - 9) ∧ ((a.val : Int) - 9) * ((b.val : Int) - 9) ≤ 81 := by decide
  exact this a b
theorem empty_no {s : ByteArray} (h : ¬ s.size = 0) : s.toList.isEmpty = false := by
  rw [ByteArray.toList_eq]
  cases h2 : s.data.toList with
  | nil => exfalso; apply h; rw [← toList_size s, h2]; rfl
  | cons _ _ => rfl
/-! ### Depths -/
theorem depth_zero {ts : List Tm} (hc : Canon ts) (h1 : coefAt noS ts = 1) (hd : depthT ts = 0) {q : ByteArray} (h0 : 0 < q.size) : coefAt q ts = 0 := by
  obtain ⟨u, r, rfl, hu, _, hr⟩ := canon_first hc h1
  refine coefAt_none fun v hv e => ?_
  rcases List.mem_cons.1 hv with rfl | hv
  · rw [hu] at e; rw [← e] at h0; exact absurd h0 (Nat.not_lt_zero _)
  · rw [depthT, if_pos (no_iff.1 hu)] at hd
    cases r with
    | nil => cases hv
    | cons t r =>
      rw [depthT, if_neg (hr t (by simp))] at hd
      exact hr t (by simp) hd
theorem one_mono {s : ByteArray} (h : monoB s = true) (h1 : s.size = 1) : ∃ i, i < 4 ∧ s.data.toList = [xB i] := by
  have hl : s.data.toList.length = 1 := by rw [toList_size]; exact h1
  obtain ⟨c, hc⟩ := List.length_eq_one_iff.1 hl
  unfold monoB at h
  simp only [Bool.and_eq_true] at h
  have hg := List.all_eq_true.1 h.1 c (by rw [hc]; simp)
  unfold genB at hg
  simp only [Bool.and_eq_true, decide_eq_true_eq] at hg
  refine ⟨c.toNat - 97, by omega, ?_⟩
  rw [hc]
  unfold xB
  rw [show 97 + (c.toNat - 97) = c.toNat by omega]; simp
/-- Depth one is a sum of letters that is not 0. -/
theorem depth_one_iff {l : List UInt8} (hl : letL l = true) : depthT (serW l) = 1 ↔ ∃ i, i < 4 ∧ sigL i l ≠ 0 := by
  have hcan := canon_serW hl
  have hno := serW_no l hl
  constructor
  · intro h
    obtain ⟨t, ht, hts, htc⟩ := depth_at hcan hno (by omega)
    obtain ⟨i, hi, e⟩ := one_mono (mono_serW hl t ht) (by omega)
    refine ⟨i, hi, ?_⟩
    have := (cs_two hi hi l hl).2.1
    rw [← this, ← e, cs_at]; exact htc
  · rintro ⟨i, hi, h⟩
    have h1 := (cs_two hi hi l hl).2.1
    have hs : (bstr [xB i]).size = 1 := by rw [bstr_size]; rfl
    have hc : coefAt (bstr [xB i]) (serW l) ≠ 0 := by
      have := cs_at l (bstr [xB i])
      rw [bstr_toList] at this
      rw [← this, h1]; exact h
    by_cases h0 : depthT (serW l) = 0
    · exact absurd (depth_zero hcan hno h0 (by omega)) hc
    · by_cases h2 : 1 < depthT (serW l)
      · exact absurd (depth_below hcan hno (by omega) (by omega)) hc
      · omega
/-- What an inverse lacks to 1 begins as late. -/
theorem back_low {l : List UInt8} (hl : letL l = true) {p : Nat} (hA : ∀ w : List UInt8, 0 < w.length → w.length < p → cs l w = 0) (w : List UInt8) (h0 : 0 < w.length) (h4 : w.length ≤ 4) (hp : w.length ≤ p) : cs (backL l) w = - cs l w := by
  have hA0 : cs l [] = 1 := (cs_two (h := 0) (g := 0) (by omega) (by omega) l hl).1
  have hB0 : cs (backL l) [] = 1 := (cs_two (h := 0) (g := 0) (by omega) (by omega) (backL l) (letL_back l hl)).1
  obtain ⟨u, hu⟩ : ∃ u : Fs, u = fun l' => cs l l' - oneF l' := ⟨_, rfl⟩
  obtain ⟨v, hv⟩ : ∃ v : Fs, v = fun l' => cs (backL l) l' - oneF l' := ⟨_, rfl⟩
  have ea : cs l = fun l' => oneF l' + u l' := by funext l'; rw [hu]; show _ = oneF l' + (cs l l' - oneF l'); omega
  have eb : cs (backL l) = fun l' => oneF l' + v l' := by funext l'; rw [hv]; show _ = oneF l' + (cs (backL l) l' - oneF l'); omega
  have hu0 : ∀ l', l'.length < p → u l' = 0 := fun l' h => by
    rw [hu]
    cases l' with
    | nil => simp [oneF, hA0]
    | cons c r => simp only [hA (c :: r) (by simp) h]; simp [oneF]
  have hv0 : ∀ l', l'.length < 1 → v l' = 0 := fun l' h => by
    rw [List.length_eq_zero_iff.1 (show l'.length = 0 by omega), hv]; simp [oneF, hB0]
  have h1 := cs_back l hl w h4
  have h2 : conv (cs l) (cs (backL l)) w = oneF w + v w + (u w + conv u v w) := by
    rw [ea, conv_add1 w oneF u, conv_one1, eb, conv_add2 w u oneF v, conv_one2]
  rw [h2, conv_low w u v p 1 hu0 hv0 (by omega)] at h1
  have e1 : cs l w = oneF w + u w := congrFun ea w
  have e2 : cs (backL l) w = oneF w + v w := congrFun eb w
  have e3 : oneF w = 0 := by unfold oneF; rw [if_neg (fun e => by rw [e] at h0; simp at h0)]
  omega
theorem back_below {l : List UInt8} (hl : letL l = true) {p : Nat} (hA : ∀ w : List UInt8, 0 < w.length → w.length < p → cs l w = 0) (w : List UInt8) (h0 : 0 < w.length) (h4 : w.length ≤ 4) (hp : w.length < p) : cs (backL l) w = 0 := by
  rw [back_low hl hA w h0 h4 (by omega), hA w h0 hp]; rfl
theorem depth_le4 {l : List UInt8} (hl : letL l = true) : depthT (serW l) ≤ 4 := by
  by_cases h0 : depthT (serW l) = 0
  · omega
  · obtain ⟨y, hy, e, _⟩ := depth_at (canon_serW hl) (serW_no l hl) h0
    rw [← e]
    exact mono_size (mono_serW hl y hy)
theorem depth_ge {l : List UInt8} (hl : letL l = true) : depthT (serW (backL l)) = 0 ∨ depthT (serW l) ≠ 0 ∧ depthT (serW l) ≤ depthT (serW (backL l)) := by
  have hb := letL_back l hl
  by_cases h0 : depthT (serW (backL l)) = 0
  · exact .inl h0
  · refine .inr ?_
    obtain ⟨t, ht, hts, htc⟩ := depth_at (canon_serW hb) (serW_no _ hb) h0
    have h4 := mono_size (mono_serW hb t ht)
    have hcs := cs_at (backL l) t.s
    have hlen := toList_size t.s
    by_cases hp : depthT (serW l) = 0
    · exfalso
      apply htc
      rw [← hcs]
      refine back_below hl (p := 5) (fun w h1 h2 => ?_) _ (by omega) (by omega) (by omega)
      exact depth_zero (canon_serW hl) (serW_no l hl) hp (q := bstr w) (by rw [bstr_size]; exact h1)
    · refine ⟨hp, ?_⟩
      by_cases hlt : depthT (serW l) ≤ depthT (serW (backL l))
      · exact hlt
      · exfalso
        apply htc
        rw [← hcs]
        refine back_below hl (p := depthT (serW l)) (fun w h1 h2 => ?_) _ (by omega) (by omega) (by omega)
        exact depth_below (canon_serW hl) (serW_no l hl) (q := bstr w) (by rw [bstr_size]; exact h1) (by rw [bstr_size]; exact h2)
/-- Depths of inverses are the same. -/
theorem depth_back {l : List UInt8} (hl : letL l = true) : depthT (serW (backL l)) = depthT (serW l) := by
  have h1 := depth_ge hl
  have h2 := depth_ge (letL_back l hl)
  rw [back_back l hl] at h2
  omega

/-! ### Comparing sums of letters -/
set_option maxRecDepth 100000 in
set_option maxHeartbeats 1000000 in
theorem sameInts_no (a1 a2 : Option Addr) (c1 c2 n : Nat) (zs ys : List Int) (w : World) (h1 : IntsAt w a1 n zs) (h2 : IntsAt w a2 n ys) (hne : zs ≠ ys) :
    Calls Try.prog 53 #[.slice a1 n c1, .slice a2 n c2] w fun e w' => e = .returned (.bool false) ∧ Below w.heap.size w w' := by
  have hm := h1.max
  unfold maxLen at hm
  have H1 := Lib.hid h1
  have H2 := Lib.hid h2
  have HNE := Lib.hid hne
  clear h1 h2 hne
  go_enter Try.func53, Try.ntmps53
  go_wp2
  go_loopw [5] (fun i wr => ∃ k : Nat, k ≤ n ∧ i = .int .i64 k ∧ Hid (∀ j, j < k → zs.getD j 0 = ys.getD j 0) ∧ Below w.heap.size w wr) (fun i _ => n - (intOf i).toNat)
  case atStart => exact ⟨0, Nat.zero_le _, rfl, Lib.hid (fun j h => absurd h (Nat.not_lt_zero _)), Below.refl _ _⟩
  case round =>
    obtain ⟨k, hk, rfl, HJ, hB⟩ := hrel
    by_cases hlt : k < n
    · obtain ⟨g1, rfl, hg1, hc1⟩ := H1.out.at_ (by omega)
      obtain ⟨g2, rfl, hg2, hc2⟩ := H2.out.at_ (by omega)
      have hkz : k < zs.length := by rw [H1.out.len]; exact hlt
      have hky : k < ys.length := by rw [H2.out.len]; exact hlt
      obtain ⟨z, hz⟩ : ∃ z, zs[k] = z := ⟨_, rfl⟩
      obtain ⟨y, hy⟩ : ∃ y, ys[k] = y := ⟨_, rfl⟩
      have d1 : wr.cell? ⟨g1, k, none⟩ = some (.int .i64 z) := by rw [← hz]; exact (hB.cell (p := ⟨g1, k, none⟩) hg1).trans (hc1 k hkz)
      have d2 : wr.cell? ⟨g2, k, none⟩ = some (.int .i64 y) := by rw [← hy]; exact (hB.cell (p := ⟨g2, k, none⟩) hg2).trans (hc2 k hky)
      have hzd : zs.getD k 0 = z := by rw [List.getD_eq_getElem?_getD, List.getElem?_eq_getElem hkz]; exact hz
      have hyd : ys.getD k 0 = y := by rw [List.getD_eq_getElem?_getD, List.getElem?_eq_getElem hky]; exact hy
      by_cases he : z = y
      · subst he
        have HZ := Lib.hid hzd
        have HY := Lib.hid hyd
        clear hz hy hkz hky hc1 hc2 hzd hyd
        go_wp2
        go_quiet (fail)
        go_wp2
        go_roundw
        case rel =>
          refine ⟨k + 1, by omega, by go_num, Lib.hid fun j hj => ?_, below_drewN hB _⟩
          by_cases e : j = k
          · subst e; rw [HZ.out, HY.out]
          · exact HJ.out j (by omega)
        case measure => simp [intOf]; omega
      · have hen : (z == y) = false := by simpa using he
        have hen2 : (z != y) = true := by simpa using he
        clear hz hy hkz hky hc1 hc2 hzd hyd
        go_wp2
        go_quiet (fail)
        go_wp2
        go_ret
        exact ⟨rfl, below_drewN hB _⟩
    · exfalso
      apply HNE.out
      refine List.ext_getElem (by rw [H1.out.len, H2.out.len]) fun j hj hj2 => ?_
      have := HJ.out j (by rw [H1.out.len] at hj; omega)
      rwa [List.getD_eq_getElem?_getD, List.getD_eq_getElem?_getD, List.getElem?_eq_getElem hj, List.getElem?_eq_getElem hj2] at this

end Go.Proofs.Ytebgcebjlbhjjab

/- The chain rule: derivatives of what comes of putting words in the place of letters. -/

namespace Go.Proofs.Ytebgcebjlbhjjab
open Go.RowKit Go.Shelf

theorem iSumPut_a {W : World} {a : Option Addr} {n c m c2 k : Nat} {x us : List Tm} {b : Bool} {g2 : Nat} {zs : List ByteArray} (h : TermsIn W a n c x) (hs : StrsIn W (some ⟨g2, 0, none⟩) g2 m zs) (hf : fourB zs = true) (hb : sumPutB x zs = b) (hu : cond b (canonT (x.map (mapT (putF zs)))) [] = us) (hk : us.length = k) :
    Calls Try.prog 23 #[.slice a n c, .slice (some ⟨g2, 0, none⟩) m c2] W (TermsT W b k us) :=
  (iSumPut_four a c n g2 c2 m x zs b W h.is hs hf (by unfold sumPutB at hb; rw [hf, Bool.true_and] at hb; exact hb)).mono fun _ _ hh => hh.terms (told_small (sumPutB_tw hb) hu).1 hu hk

/-- Putting goes along reducing. -/
theorem put_red (zs : List ByteArray) (hz : ∀ z ∈ zs, wordB z.data.toList = true) : ∀ (s acc : List UInt8), letL s = true → redL [] (putL zs (redL acc s)) = redL [] (putL zs (acc ++ s))
  | [], acc, _ => by rw [redL_nil, List.append_nil]
  | c :: s, acc, h => by
    rw [letL_cons, Bool.and_eq_true] at h
    have e : redL acc (c :: s) = redL (redStep acc c) s := rfl
    rw [e, put_red zs hz s (redStep acc c) h.2]
    by_cases hl : acc.getLast? = some (turnB c)
    · obtain ⟨p, x, rfl⟩ := last_split acc (by cases acc with | nil => simp at hl | cons a l => simp)
      have hx : x = turnB c := by simpa using hl
      subst hx
      rw [redStep_pop p (turnB c) c rfl]
      have e1 : putL zs [turnB c] = backL (imgL zs c) := by rw [← img_turn zs hz h.1]; simp [putL]
      have e2 : putL zs [c] = imgL zs c := by simp [putL]
      have e3 : p ++ [turnB c] ++ c :: s = p ++ [turnB c] ++ [c] ++ s := by simp
      have hli : letL (imgL zs c) = true := (imgX_eq zs hz c).2
      rw [e3, putL_append, putL_append, putL_append, putL_append, e1, e2, redL_append, redL_append [] (putL zs p ++ backL (imgL zs c) ++ imgL zs c), red_inv2 hli]
    · have e2 : redStep acc c = acc ++ [c] := by unfold redStep; rw [if_neg hl]
      rw [e2, List.append_assoc]; rfl
theorem putF_red (zs : List ByteArray) (hz : ∀ z ∈ zs, wordB z.data.toList = true) (l : List UInt8) (hl : letL l = true) : putF zs (redL [] l) = putF zs l := by
  unfold putF
  rw [put_red zs hz l [] hl, List.nil_append]
theorem front_front (a b : List UInt8) {x : List Tm} (hx : ∀ t ∈ x, letL t.s.data.toList = true) (hb : letL b = true) : frontL a (frontL b x) = frontL (a ++ b) x := by
  unfold frontL
  rw [map_map]
  refine map_congr fun t ht => ?_
  rw [red_right (by rw [letL_append, hb, hx t ht]; rfl), List.append_assoc]
def chainF (zs : List ByteArray) (f : ByteArray → Int) (x : List Tm) (g : Nat) : Int :=
  linT (fun s => linT (fun r => f (mulB s r)) (rdL 0 (zs.getD g ByteArray.empty).data.toList)) (x.map (mapT (putF zs)))
theorem chainF_append (zs : List ByteArray) (f : ByteArray → Int) (x y : List Tm) (g : Nat) : chainF zs f (x ++ y) g = chainF zs f x g + chainF zs f y g := by
  unfold chainF; rw [List.map_append, linT_append]
theorem lin_mul_front (f : ByteArray → Int) (l : List UInt8) (x : List Tm) : linT (fun r => f (mulB (bstr (redL [] l)) r)) x = linT f (frontL l x) := by
  unfold frontL
  rw [lin_map]
  refine linT_congr fun t _ => ?_
  unfold mulB
  rw [bstr_toList, red_append]
theorem img_word (zs : List ByteArray) (hn : zs.length = 4) (hz : ∀ z ∈ zs, wordB z.data.toList = true) {g : Nat} (hg : g < 4) : wordB (zs.getD g ByteArray.empty).data.toList = true := by
  rw [List.getD_eq_getElem?_getD, List.getElem?_eq_getElem (by omega)]
  exact hz _ (List.getElem_mem _)
theorem chain_step (zs : List ByteArray) (hn : zs.length = 4) (hz : ∀ z ∈ zs, wordB z.data.toList = true) (f : ByteArray → Int) (p : List UInt8) {c : UInt8} (hp : letL p = true) (hc : letB c = true) :
    chainF zs f ((foxT (idxB c) 1 p c).map (mapT (redL []))) (idxB c) = linT f (frontL (putL zs p) (rdL 0 (imgL zs c))) := by
  have hi := idxB_lt c hc
  have hw := img_word zs hn hz hi
  have hlz := ((wordB_iff _).1 hw).2.1
  have hL := (letB_iff c).1 hc
  unfold foxT
  rw [if_pos rfl]
  unfold chainF
  show linT _ [mapT (putF zs) (mapT (redL []) ⟨1 * sgnB c, _⟩)] = _
  simp only [linT, mapT, bstr_toList]
  rcases hL with h | h
  · have hs : sgnB c = 1 := by unfold sgnB; rw [if_pos (by omega)]
    have e : imgL zs c = (zs.getD (idxB c) ByteArray.empty).data.toList := by unfold imgL; rw [if_neg (by omega)]
    rw [if_pos (by omega), hs, putF_red zs hz p hp, e]
    unfold putF
    rw [lin_mul_front]; omega
  · have hs : sgnB c = -1 := by unfold sgnB; rw [if_neg (by omega)]
    have e : imgL zs c = backL (zs.getD (idxB c) ByteArray.empty).data.toList := by unfold imgL; rw [if_pos (by omega)]
    have hpc : letL (p ++ [c]) = true := by rw [letL_append, hp]; simp [letL, hc]
    have e2 : putL zs (p ++ [c]) = putL zs p ++ imgL zs c := putL_snoc zs p c
    rw [if_neg (by omega), hs, putF_red zs hz _ hpc]
    unfold putF
    rw [lin_mul_front, e2, e]
    have h1 := front_same (fox_back (g := 0) hw) (putL zs p) f
    rw [← rd_word (word_back hw)] at h1
    rw [h1]
    have e3 : frontL (putL zs p) (scaleT (-1) (frontL (backL (zs.getD (idxB c) ByteArray.empty).data.toList) (foxL 0 1 (zs.getD (idxB c) ByteArray.empty).data.toList))) = scaleT (-1) (frontL (putL zs p) (frontL (backL (zs.getD (idxB c) ByteArray.empty).data.toList) (foxL 0 1 (zs.getD (idxB c) ByteArray.empty).data.toList))) := by
      unfold frontL scaleT
      simp only [List.map_map]
      rfl
    rw [e3, linT_scl, front_front _ _ (fox_letters hlz) (letL_back _ hlz), rd_word hw]
    omega
/-- The chain rule. -/
theorem chain_rule (zs : List ByteArray) (hn : zs.length = 4) (hz : ∀ z ∈ zs, wordB z.data.toList = true) (f : ByteArray → Int) (l : List UInt8) (hl : letL l = true) :
    linT f (rdL 0 (putL zs l)) = sumF fun g => chainF zs f (rdL g l) g := by
  generalize hnn : l.length = n
  induction n generalizing l with
  | zero => rw [List.length_eq_zero_iff.1 hnn]; rfl
  | succ n ih =>
    obtain ⟨p, c, rfl⟩ := last_split l (by omega)
    have hp : p.length = n := by rw [List.length_append] at hnn; simp at hnn; exact hnn
    rw [letL_append, Bool.and_eq_true] at hl
    have hc : letB c = true := by have := hl.2; simp [letL] at this; exact this
    have h1 := ih p hl.1 hp
    have hi := idxB_lt c hc
    have hs := chain_step zs hn hz f p hl.1 hc
    have e : ∀ g : Nat, rdL g (p ++ [c]) = rdL g p ++ (foxT g 1 p c).map (mapT (redL [])) := fun g => by unfold rdL; rw [foxL_snoc, List.map_append]
    have hzero : ∀ g : Nat, idxB c ≠ g → chainF zs f ((foxT g 1 p c).map (mapT (redL []))) g = 0 := fun g hg => by
      rw [foxT_no (by omega)]; rfl
    have hli : letL (imgL zs c) = true := (imgX_eq zs hz c).2
    rw [putL_snoc, rd_append 0 (putL zs p) (imgL zs c) hli, linT_append, h1, ← hs]
    unfold sumF
    dsimp only
    simp only [e, chainF_append]
    rcases (show idxB c = 0 ∨ idxB c = 1 ∨ idxB c = 2 ∨ idxB c = 3 by omega) with h | h | h | h
    · rw [h, hzero 1 (by omega), hzero 2 (by omega), hzero 3 (by omega)]; omega
    · rw [h, hzero 0 (by omega), hzero 2 (by omega), hzero 3 (by omega)]; omega
    · rw [h, hzero 0 (by omega), hzero 1 (by omega), hzero 3 (by omega)]; omega
    · rw [h, hzero 0 (by omega), hzero 1 (by omega), hzero 2 (by omega)]; omega
/-- The terms of the chain rule, one generator after the other. -/
def chainT (zs : List ByteArray) (s : ByteArray) (g : Nat) : List Tm := pairsT ((foxL g 1 s.data.toList).map (mapT (putF zs))) (foxL 0 1 (zs.getD g ByteArray.empty).data.toList)
def chainN (zs : List ByteArray) (s : ByteArray) (k : Nat) : List Tm := (List.range k).flatMap (chainT zs s)
theorem chainN_succ (zs : List ByteArray) (s : ByteArray) (k : Nat) : chainN zs s (k + 1) = chainN zs s k ++ chainT zs s k := by
  unfold chainN; rw [List.range_succ, List.flatMap_append]; simp
theorem chain_same (zs : List ByteArray) (hn : zs.length = 4) (hz : ∀ z ∈ zs, wordB z.data.toList = true) {s : ByteArray} (hs : wordB s.data.toList = true) {o : List UInt8} (ho : o = redL [] (putL zs s.data.toList)) (how : wordB o = true) :
    Same (foxL 0 1 o) (chainN zs s 4) := fun f => by
  have hl := ((wordB_iff _).1 hs).2.1
  have h1 := chain_rule zs hn hz f s.data.toList hl
  have h2 := rd_red 0 (putL zs s.data.toList) [] (put_let zs hz _) rfl f
  rw [List.nil_append, ← ho, rd_word how] at h2
  rw [h2, h1]
  have e : chainN zs s 4 = chainT zs s 0 ++ chainT zs s 1 ++ chainT zs s 2 ++ chainT zs s 3 := by
    rw [chainN_succ, chainN_succ, chainN_succ, chainN_succ]; rfl
  have e2 : ∀ g, g < 4 → linT f (chainT zs s g) = chainF zs f (rdL g s.data.toList) g := fun g hg => by
    unfold chainT chainF
    rw [lin_pairs, rd_word hs, rd_word (img_word zs hn hz hg)]
  rw [e, linT_append, linT_append, linT_append, e2 0 (by omega), e2 1 (by omega), e2 2 (by omega), e2 3 (by omega)]
  rfl

end Go.Proofs.Ytebgcebjlbhjjab

/- The contracts of slices.Repeat at one iterator, and of the program's 'WordPower'. -/

namespace Go.Proofs.Ytebgcebjlbhjjab
open Go.RowKit Go.Shelf

abbrev LT : TypeId := 130

theorem infoSeq : (Try.prog.info? 92).map (fun i => (i.zero, i.size, i.bytes)) = some (some .nilFunc, 1, 8) := by kernel_rfl

theorem splice_rep {f z : Value} (k m r : Nat) : splice (List.replicate k f ++ List.replicate r z) k (List.replicate m f) = List.replicate (k + m) f ++ List.replicate (r - m) z := by
  unfold splice
  rw [List.take_left' (by simp), List.length_replicate, ← List.drop_drop, List.drop_left' (by simp), List.drop_replicate, ← List.append_assoc, List.replicate_append_replicate]

theorem addr_add (b j : Nat) : (⟨b, 0, none⟩ : Addr).add j = ⟨b, j, none⟩ := by unfold Addr.add; split <;> simp_all
theorem row_cell {W : World} {g k r : Nat} {f z : Value} {t : TypeId} (h : W.heap[g]? = some (.cells (List.replicate k f ++ List.replicate r z).toArray t (0, 0))) (j : Nat) (hj : j < k) : W.cell? ⟨g, j, none⟩ = some f := by
  rw [cell_of_row W g j _ t (0, 0) h, List.getElem?_toArray, List.getElem?_append_left (by rw [List.length_replicate]; exact hj), List.getElem?_replicate, if_pos hj]

end Go.Proofs.Ytebgcebjlbhjjab

/- The contract of the program's 'WordPower'. -/

namespace Go.Proofs.Ytebgcebjlbhjjab
open Go.RowKit Go.Shelf

theorem pow_reduced (w : World) (g N : Nat) (it : Item) (B : Nat) (hN : N ≤ 60) (hg : g < w.heap.size) (hc : ∀ i, i < N → w.cell? ⟨g, i, none⟩ = some (.func (.func it.gf) #[] #[.pointer (some ⟨B, 0, none⟩)]))
    (hG : Gives it) (hbox : w.cell? ⟨B, 0, none⟩ = some it.sv) (hB : B < w.heap.size) (hw : IsWord w.heap.size w it.sv it.L) (hl : it.xs.length ≤ 60) :
    Calls Try.prog 78 #[.slice (some ⟨g, 0, none⟩) N N] w fun e w' =>
      ∃ g' m cap', e = .returned (.slice (some ⟨g', 0, none⟩) m cap') ∧ (redX [] (repL N it.xs)).length = m ∧ w'.ownsRow w.heap.size 96 1 (.slice (some ⟨g', 0, none⟩) m cap') m (bytesV (redX [] (repL N it.xs))) ∧ Below w.heap.size w w' := by
  have hcat : cat (List.replicate N (⟨it.gf, #[.pointer (some ⟨B, 0, none⟩)], it.xs⟩ : Part)) = repL N it.xs := by
    unfold cat repL; rw [List.map_replicate]
  have hr := reduced_in 40 (by omega) (some ⟨g, 0, none⟩) g 0 N (List.replicate N ⟨it.gf, #[.pointer (some ⟨B, 0, none⟩)], it.xs⟩) w (fun _ => rfl) hg
    (fun i h => by
      rw [List.length_replicate] at h
      rw [Nat.zero_add, List.getElem_replicate]
      exact hc i h)
    (fun p hp => by
      rw [List.eq_of_mem_replicate hp]
      exact ⟨hG.1 w B _ hB (Nat.le_refl _) hbox hw, hG.2⟩)
    (by rw [hcat, repL_len]; have : N * it.xs.length ≤ 60 * 60 := Nat.mul_le_mul hN hl; omega) (by rw [List.length_replicate]; omega)
  rw [hcat, List.length_replicate] at hr
  exact (callsIn_wide (n := 40)).1 hr

end Go.Proofs.Ytebgcebjlbhjjab

/- The contracts of both sides' 'WordPower' and 'WordPut', the answer under a name of its own; a draw of four words. -/

namespace Go.Proofs.Ytebgcebjlbhjjab
open Go.RowKit Go.Shelf

theorem iPut_t {s x : ByteArray} {a : Option Addr} {g c : Nat} {zs : List ByteArray} {W : World} (h1 : StrsIn W a g 4 zs) (hs : wordB s.data.toList = true) (hf : fourB zs = true) (h : Is x (redL [] (putL zs s.data.toList))) (h60 : x.size ≤ 60) :
    Calls Try.prog 20 #[.string s, .slice a 4 c] W fun e w' => e = .returned (.tuple #[.string x, .bool true]) ∧ Below W.heap.size W w' := by
  rw [← toldV_is h h60]; exact iPut_yes s a g c 4 zs _ h1 hs hf
theorem sPut_t {s x : ByteArray} {a : Option Addr} {c : Nat} {zs : List ByteArray} {W : World} (h1 : StrsAt W a zs) (hs : wordB s.data.toList = true) (hf : fourB zs = true) (h : Is x (redL [] (putL zs s.data.toList))) (h60 : x.size ≤ 60) :
    Calls Try.prog 21 #[.string s, .slice a 4 c] W fun e w' => e = .returned (.tuple #[.string x, .bool true]) ∧ Below W.heap.size W w' := by
  rw [← toldV_is h h60]; exact sPut_yes s a c zs _ hs hf h1

end Go.Proofs.Ytebgcebjlbhjjab

/- The contracts of the model's 'DrawFoxOf' and 'DrawFoxSum'. -/

namespace Go.Proofs.Ytebgcebjlbhjjab
open Go.RowKit Go.Shelf

end Go.Proofs.Ytebgcebjlbhjjab

/- The contracts of both 'FoxAll'. -/

namespace Go.Proofs.Ytebgcebjlbhjjab
open Go.RowKit Go.Shelf

/-- All four derivatives of a word. -/
def foxRow (s : ByteArray) (g : Nat) : List Tm := canonT (foxL g 1 s.data.toList)
def foxRows (s : ByteArray) : List (List Tm) := (List.range 4).map (foxRow s)
theorem foxRows_len (s : ByteArray) : (foxRows s).length = 4 := by simp [foxRows]
theorem foxRows_get (s : ByteArray) (g : Nat) (h : g < (foxRows s).length) : (foxRows s)[g] = foxRow s g := by simp [foxRows]
theorem foxRow_len (s : ByteArray) (g : Nat) (hs : s.data.toList.length ≤ 60) : (foxRow s g).length ≤ 60 := by
  have h1 := fold_len (foxL g 1 s.data.toList) []
  have h2 := foxN_len g 1 s.data.toList s.data.toList.length
  unfold foxRow canonT foxL at *
  simp only [List.length_nil] at h1
  omega
theorem foxRow_small (s : ByteArray) (g : Nat) (h : wordB s.data.toList = true) : SmallT (foxRow s g) := by
  obtain ⟨h1, h2⟩ := canon_len_words (fox_tw (g := (g : Int)) h)
  exact ⟨by unfold foxRow maxLen; omega, fun t ht => by have := termB_iff (h2 t ht); unfold maxLen; omega⟩
theorem foxRows_total (s : ByteArray) (hs : s.data.toList.length ≤ 60) : total (foxRows s) ≤ 240 := by
  have h0 := foxRow_len s 0 hs
  have h1 := foxRow_len s 1 hs
  have h2 := foxRow_len s 2 hs
  have h3 := foxRow_len s 3 hs
  simp only [foxRows, total, List.range, List.range.loop, List.map_cons, List.map_nil, List.sum_cons, List.sum_nil]
  omega

/-- Rows that are put one behind the other. -/
structure Grows (lo : Nat) (w : World) (v : Value) (vals : List Value) (k : Nat) (rows : List (List Tm)) : Prop where
  row : w.ownsRow lo TT 1 v k vals
  each : ∀ (j : Nat) (h : j < rows.length), j < k → ∃ u, vals[j]? = some u ∧ OwnT lo w u rows[j]
  head : ∀ (i : Nat) (u : Value) (b : Nat), vals[i]? = some u → v.ownBlock = some b → u.ownBlock = some b → False
theorem Grows.below {lo : Nat} {w w' : World} {v : Value} {vals : List Value} {k : Nat} {rows : List (List Tm)} (h : Grows lo w v vals k rows) (hb : Below w.heap.size w w') : Grows lo w' v vals k rows :=
  ⟨ownsRow_past h.row hb, fun j hj hk => by obtain ⟨u, h1, h2⟩ := h.each j hj hk; exact ⟨u, h1, h2.below hb⟩, h.head⟩
theorem Grows.more {lo : Nat} {w w1 w2 : World} {v u : Value} {vals : List Value} {k g cap : Nat} {rows : List (List Tm)} (h : Grows lo w v vals k rows) (hb : Below w.heap.size w w1) (hk : k < rows.length) (hlo : lo ≤ w.heap.size) (ho : OwnT w.heap.size w1 u rows[k])
    (hr : w2.ownsRow lo TT 1 (.slice (some ⟨g, 0, none⟩) (k + 1) cap) (k + 1) (vals ++ [u])) (hg : w1.grownBy w2 v.ownBlock) (hat : v.ownBlock = some g ∨ w1.heap.size ≤ g) (hkr : k ≤ rows.length) :
    Grows lo w2 (.slice (some ⟨g, 0, none⟩) (k + 1) cap) (vals ++ [u]) (k + 1) rows := by
  have hvl := h.row.1
  rw [Nat.mul_one] at hvl
  have hlow := ownLow h.row
  have hvb : ∀ b, v.ownBlock = some b → b < w.heap.size := fun b e => (h.row.lt b e).2
  refine ⟨hr, fun j hj hjk => ?_, fun i x b hx hv e => ?_⟩
  · by_cases e : j = k
    · subst e
      refine ⟨u, by rw [List.getElem?_append_right (by omega), hvl]; simp, ?_⟩
      refine OwnT.mono (ownsRow_touched ho fun b hb2 hl => hg.block b hl fun e2 => ?_) hlo
      have p1 := (ho.lt b hb2).1
      have p2 := hvb b e2.symm
      omega
    · obtain ⟨x, h1, h2⟩ := h.each j hj (by omega)
      refine ⟨x, by rw [List.getElem?_append_left (by omega)]; exact h1, ownsRow_touched (h2.below hb) fun b hb2 hl => hg.block b hl fun e2 => h.head j x b h1 e2.symm hb2⟩
  · simp only [Value.ownBlock, Option.some.injEq] at hv
    subst hv
    by_cases hik : i < k
    · rw [List.getElem?_append_left (by omega)] at hx
      rcases hat with h1 | h1
      · exact h.head i x _ hx h1 e
      · obtain ⟨x', h2, h3⟩ := h.each i (by omega) hik
        rw [h2] at hx
        cases hx
        have := (h3.lt _ e).2
        have := hb.size
        omega
    · have hi : i = k := by have := (List.getElem?_eq_some_iff.1 hx).1; simp at this; omega
      subst hi
      rw [List.getElem?_append_right (by omega), hvl] at hx
      simp at hx
      subst hx
      have p1 := ho.lt _ e
      rcases hat with h1 | h1
      · have := hvb _ h1; omega
      · omega
theorem Grows.isTT {lo : Nat} {w : World} {v : Value} {vals : List Value} {n : Nat} {rows : List (List Tm)} (h : Grows lo w v vals n rows) (hl : rows.length = n) (hs : ∀ r ∈ rows, SmallT r) (hn : n ≤ maxLen) : ∃ a cap, v = .slice a n cap ∧ IsTT w a n rows := by
  rcases h.row.2 with ⟨rfl, h0⟩ | ⟨g, cap, cur, rfl, hb, hg, h3⟩
  · exact ⟨none, 0, by rw [h0], hl, hn, fun hp => absurd hp (by omega)⟩
  · refine ⟨_, cap, rfl, hl, hn, fun _ => ⟨_, rfl, (Array.getElem?_eq_some_iff.1 hg).1, fun i hi => ?_⟩⟩
    obtain ⟨u, hu, ho⟩ := h.each i hi (by omega)
    obtain ⟨ai, ci, rfl, hI⟩ := ho.isTerms (hs _ (List.getElem_mem hi))
    exact ⟨ai, ci, h.row.cells rfl i _ hu, hI⟩

/-- What a function of the model hands back: lists of lists. -/
def SAll (w : World) (b : Bool) (n : Nat) (rows : List (List Tm)) (e : Ending) (w' : World) : Prop := (∃ a c, e = .returned (.tuple #[.slice a n c, .bool b]) ∧ IsTT w' a n rows) ∧ Below w.heap.size w w'
def IAll (w : World) (b : Bool) (rows : List (List Tm)) (e : Ending) (w' : World) : Prop := (∃ v vals, e = .returned (.tuple #[v, .bool b]) ∧ OwnTT w.heap.size w' v vals rows) ∧ Below w.heap.size w w'

set_option maxRecDepth 100000 in
set_option maxHeartbeats 2000000 in
theorem sFoxAll_no (s : ByteArray) (w : World) (hs : s.size ≤ maxLen) (hb : wordB s.data.toList = false) :
    Calls Try.prog 55 #[.string s] w (SAll w false 0 []) := by
  have HW := Lib.hid hb
  clear hb
  have hba : Below w.heap.size w (w.alloc (.cells #[] TT)) := (Below.refl _ _).alloc (Nat.le_refl _) _
  have HBA := Lib.hid hba
  clear hba
  go_enter Try.func55, Try.ntmps55
  go_wp2_with fail
  refine (sWordIn_is _ false _ hs HW.out).mono ?_
  rintro e w1 ⟨rfl, hb1⟩
  have HB1 := Lib.hid (HBA.out.trans (hb1.mono HBA.out.size))
  clear hb1
  go_wp2
  go_ret2
  exact ⟨⟨_, _, rfl, IsTT.none _ _⟩, HB1.out⟩

set_option maxRecDepth 100000 in
set_option maxHeartbeats 4000000 in
theorem sFoxAll_grows (s : ByteArray) (w : World) (hs : s.size ≤ maxLen) (hb : wordB s.data.toList = true) :
    Calls Try.prog 55 #[.string s] w fun e w' => (∃ a c vals, e = .returned (.tuple #[.slice a 4 c, .bool true]) ∧ Grows w.heap.size w' (.slice a 4 c) vals 4 (foxRows s)) ∧ Below w.heap.size w w' := by
  obtain ⟨i0, hi, hz0, hz1, hz2⟩ := info_parts infoTerms
  obtain ⟨hw1, hw2, _⟩ := (wordB_iff _).1 hb
  have HF : Hid (∀ (g : Nat) (W : World), Calls Try.prog 109 #[.string s, .int .i64 g] W fun e w' => (∃ v, e = .returned v ∧ Acc W.heap.size w' v (foxRow s g) 60 60) ∧ Below W.heap.size W w') :=
    Lib.hid fun g W => l3Fox_any s g W (by simpa using hw1) hw2
  have HW := Lib.hid hb
  have HSm := Lib.hid (fun g => foxRow_small s g hb)
  have hba : Below w.heap.size w (w.alloc (.cells #[] TT)) := (Below.refl _ _).alloc (Nat.le_refl _) _
  have HBA := Lib.hid hba
  have hmade := World.ownsRow_made (base := w.heap.size) (e := TT) (size := 1) w #[] 0 (Nat.le_refl _) (Nat.zero_le _) rfl
  have HMd := Lib.hid hmade
  clear hba hb hw1 hw2 hmade
  go_enter Try.func55, Try.ntmps55
  go_wp2_with fail
  refine (sWordIn_is _ true _ hs HW.out).mono ?_
  rintro e w1 ⟨rfl, hb1⟩
  have HB1 := Lib.hid (HBA.out.trans (hb1.mono HBA.out.size))
  have HG1 : Hid (Grows w.heap.size w1 (.slice (some ⟨w.heap.size, 0, none⟩) 0 0) [] 0 (foxRows s)) := Lib.hid ⟨ownsRow_past HMd.out hb1, fun j _ h => absurd h (Nat.not_lt_zero _), fun i u b h => by simp at h⟩
  clear hb1
  go_wp2_with fail
  go_loopw [4, 5] (fun v i wr => ∃ (k : Nat) (vals : List Value), k ≤ 4 ∧ i = .int .i64 k ∧ Hid (Grows w.heap.size wr v vals k (foxRows s)) ∧ Below w.heap.size w wr) (fun _ i _ => 4 - (intOf i).toNat)
  case atStart => exact ⟨0, _, Nat.zero_le _, rfl, HG1, HB1.out⟩
  case round =>
    obtain ⟨k, vals, hk, rfl, HG, hB⟩ := hrel
    by_cases hlt : k < 4
    · have hkr : k < (foxRows s).length := by rw [foxRows_len]; exact hlt
      go_wp2_with fail
      refine (HF.out k _).mono ?_
      rintro e w3 ⟨⟨u, rfl, ho⟩, hb3⟩
      have HO : Hid (OwnT wr.heap.size w3 u (foxRows s)[k]) := Lib.hid (by rw [foxRows_get]; exact ho.own.own)
      have HB3 := Lib.hid hb3
      have hs3 : w.heap.size ≤ w3.heap.size := Nat.le_trans hB.size hb3.size
      have HR3 := Lib.hid (ownsRow_past HG.out.row hb3)
      obtain ⟨au, lu, cu, rfl⟩ : ∃ a l c, u = .slice a l c := by
        rcases HO.out.2 with ⟨rfl, _⟩ | ⟨g, cap, cur, rfl, _⟩
        · exact ⟨_, _, _, rfl⟩
        · exact ⟨_, _, _, rfl⟩
      clear ho hb3
      go_wp2_with (at_builtin; refine wpList_append_lies _ rfl _ _ _ rfl w.heap.size TT i0 _ 1 24 Try.underlying23 hi hz0 hz1 hz2 rfl (by omega) u4 k vals rfl (HR3.out.alloc _) ⟨w3.heap.size, 0, none⟩ 1 1 [.slice au lu cu] rfl rfl (World.news_of_block (cs := #[.slice au lu cu]) (t := TT) (fr := (0, 0)) (heap_alloc_new w3 _)) (by simp [Value.oneCell']) (by omega) (by unfold maxLen; omega) (by omega) (by simp; omega) (w3.heap.size + 1) (by simp) ?_; intro gg cap1 w7 hown7 hgrow7 hat hlt7)
      have hB7 : Below w.heap.size w w7 := (hB.trans (HB3.out.mono hB.size)).trans (((Below.refl w.heap.size w3).alloc hs3 _).grown hgrow7 (by simp; omega) (ownsRow_low HR3.out))
      have hba : Below wr.heap.size wr (w3.alloc (.cells #[.slice au lu cu] TT)) := HB3.out.alloc HB3.out.size _
      have hat2 : u4.ownBlock = some gg ∨ (w3.alloc (.cells #[.slice au lu cu] TT)).heap.size ≤ gg := by
        rcases hat with h | h
        · exact .inl h
        · exact .inr (by simp; omega)
      have HG7 := Lib.hid (HG.out.more hba hkr hB.size (HO.out.below ((Below.refl _ _).alloc (Nat.le_refl _) _)) hown7 hgrow7 hat2 (Nat.le_of_lt hkr))
      clear hown7 hgrow7 hat hlt7 hba hat2
      go_wp2
      go_roundw
      case rel => exact ⟨k + 1, _, by omega, by go_num, HG7, hB7⟩
      case measure => simp [intOf]; omega
    · obtain rfl : k = 4 := by omega
      obtain ⟨a, cap, rfl, hI⟩ := HG.out.isTT (foxRows_len s) (fun r hr => by obtain ⟨g, _, rfl⟩ := List.mem_map.1 hr; exact HSm.out g) (by unfold maxLen; omega)
      clear hI
      go_wp2
      go_ret2
      exact ⟨⟨_, _, vals, rfl, HG.out⟩, hB⟩

theorem sFoxAll_yes (s : ByteArray) (w : World) (hs : s.size ≤ maxLen) (hb : wordB s.data.toList = true) :
    Calls Try.prog 55 #[.string s] w (SAll w true 4 (foxRows s)) :=
  (sFoxAll_grows s w hs hb).mono fun e w' ⟨⟨a, c, vals, he, hG⟩, hB⟩ => by
    obtain ⟨a2, c2, e2, hI⟩ := hG.isTT (foxRows_len s) (fun r hr => by obtain ⟨g, _, rfl⟩ := List.mem_map.1 hr; exact foxRow_small s g hb) (by unfold maxLen; omega)
    cases e2
    exact ⟨⟨_, _, he, hI⟩, hB⟩

end Go.Proofs.Ytebgcebjlbhjjab

/- The contract of the laws' own 'sameSums'; the contracts of 'FoxAll' and 'FoxBack', the answer under a name of its own. -/

namespace Go.Proofs.Ytebgcebjlbhjjab
open Go.RowKit Go.Shelf

/-- What a function that tells rows comes to. -/
def RowsT (W : World) (b : Bool) (n : Nat) (rows : List (List Tm)) (e : Ending) (w' : World) : Prop := (∃ a c, e = .returned (.tuple #[.slice a n c, .bool b]) ∧ IsTT w' a n rows) ∧ Below W.heap.size W w'
theorem foxRows_small {s : ByteArray} (h : wordB s.data.toList = true) : ∀ r ∈ foxRows s, SmallT r := fun r hr => by
  obtain ⟨g, _, rfl⟩ := List.mem_map.1 hr
  exact foxRow_small s g h
theorem sFoxAll_t {s : ByteArray} {b : Bool} {n : Nat} {rows : List (List Tm)} {W : World} (hs : s.size ≤ maxLen) (hb : wordB s.data.toList = b) (hu : cond b (foxRows s) [] = rows) (hn : rows.length = n) :
    Calls Try.prog 55 #[.string s] W (RowsT W b n rows) := by
  subst hu
  cases b with
  | false =>
    obtain rfl : 0 = n := hn
    exact sFoxAll_no s W hs hb
  | true =>
    have hn' : (foxRows s).length = n := hn
    rw [foxRows_len] at hn'
    obtain rfl : 4 = n := hn'
    exact sFoxAll_yes s W hs hb
theorem iFoxBack_t {a : Option Addr} {n c k : Nat} {rows : List (List Tm)} {us : List Tm} {b : Bool} {W : World} (h : IsTT W a n rows) (hb : backB rows = b) (hu : cond b (canonT (backN rows 4)) [] = us) (hk : us.length = k) :
    Calls Try.prog 14 #[.slice a n c] W (TermsT W b k us) :=
  (iFoxBack_any a c n rows b W h hb).mono fun _ _ hh => hh.terms (told_small (backB_tw hb) hu).1 hu hk
theorem sFoxBack_t {a : Option Addr} {n c k : Nat} {rows : List (List Tm)} {us : List Tm} {b : Bool} {W : World} (h : IsTT W a n rows) (hb : backB rows = b) (hu : cond b (canonT (backN rows 4)) [] = us) (hk : us.length = k) :
    Calls Try.prog 15 #[.slice a n c] W (TermsT W b k us) :=
  (sFoxBack_any a c n rows b W h hb).mono fun _ _ hh => hh.terms (told_small (backB_tw hb) hu).1 hu hk
/-- A word less 1. -/
def dueT (s : ByteArray) : List Tm := [⟨1, s⟩, ⟨-1, noS⟩]
theorem termsIn_due (w : World) (s : ByteArray) (hs : s.size ≤ maxLen) : TermsIn (w.alloc (.cells #[.int .i64 1, .string s, .int .i64 (-1), .string noS] TI)) (some ⟨w.heap.size, 0, none⟩) 2 2 (dueT s) :=
  termsIn_some ⟨rfl, by unfold maxLen; omega, fun _ => ⟨_, rfl, by simp, fun i hi => by
    have ha : ∀ j, (⟨w.heap.size, 0, none⟩ : Addr).add j = ⟨w.heap.size, j, none⟩ := fun j => by unfold Addr.add; split <;> simp_all
    have hi2 : i < 2 := hi
    rcases (show i = 0 ∨ i = 1 by omega) with rfl | rfl <;> rw [ha, ha] <;> exact ⟨(World.cell?_alloc_at _ _ _ _ (by simp)).trans rfl, (World.cell?_alloc_at _ _ _ _ (by simp)).trans rfl⟩⟩,
    fun t ht => by
      rcases List.mem_cons.1 ht with rfl | ht
      · exact ⟨hs, by show (-9223372036854775808 : Int) ≤ 1; omega, by show (1 : Int) ≤ 9223372036854775807; omega⟩
      · rw [List.mem_singleton.1 ht]; exact ⟨by show 0 ≤ _; exact Nat.zero_le _, by show (-9223372036854775808 : Int) ≤ -1; omega, by show (-1 : Int) ≤ 9223372036854775807; omega⟩⟩
/-- The fundamental identity. -/
theorem fund_same {s : ByteArray} (h : wordB s.data.toList = true) : Same (backN (foxRows s) 4) (dueT s) := fun f => by
  obtain ⟨_, hl, hr⟩ := (wordB_iff _).1 h
  have h1 := fundamental f s.data.toList hl
  rw [lin_back]
  have e : ∀ g, g < 4 → linT f (backRow (foxRows s) g) = linT (fun t => linT (fun r => f (mulB t r)) (lessT g)) (rdL g s.data.toList) := fun g hg => by
    have hget : (foxRows s).getD g [] = foxRow s g := by
      rw [List.getD_eq_getElem?_getD, List.getElem?_eq_getElem (by rw [foxRows_len]; exact hg), foxRows_get]; rfl
    unfold backRow
    rw [hget, linT_canon, lin_pairs, rd_word h]
    exact linT_canon _ _
  unfold sumF at h1 ⊢
  dsimp only at h1 ⊢
  rw [e 0 (by omega), e 1 (by omega), e 2 (by omega), e 3 (by omega), h1, hr, bstr_of]
  unfold dueT
  simp only [linT]
  have e2 : bstr [] = noS := rfl
  rw [e2]; omega
theorem due_of {s : ByteArray} (h : wordB s.data.toList = true) : ofB (dueT s) = true := by
  have htw : twB (dueT s) = true := by
    have h0 : wordB (noS : ByteArray).data.toList = true := rfl
    unfold twB termB inR dueT
    simp [h, h0]
  unfold ofB
  rw [htw, Bool.true_and, sumB_canon (canonT_spec _).1]
  have hlen := fold_len (dueT s) []
  have h2 : (dueT s).length = 2 := rfl
  have hlc : (canonT (dueT s)).length ≤ 300 := by unfold canonT; simp only [List.length_nil] at hlen; omega
  refine twB_of hlc fun j hj => ?_
  have hm := List.getElem_mem hj
  have hb := fold_bound (C := 1) (by omega) (dueT s) [] 0 (by omega) (fun t ht => by
    rcases List.mem_cons.1 ht with rfl | ht
    · show (-1 : Int) ≤ 1 ∧ (1 : Int) ≤ 1; omega
    · rw [List.mem_singleton.1 ht]; show (-1 : Int) ≤ -1 ∧ (-1 : Int) ≤ 1; omega) (fun u hu => by cases hu) _ hm
  obtain ⟨v, hv, e⟩ := canon_words hm
  have hvw := words_of_tw htw v hv
  unfold termB
  rw [← e, hvw, Bool.true_and]
  unfold inR
  simp only [Bool.and_eq_true, decide_eq_true_eq]
  rw [h2] at hb
  unfold canonT at *
  omega

end Go.Proofs.Ytebgcebjlbhjjab

/- The contract of the model's 'DrawFoxBack': four sums that are drawn, or derivatives. -/

namespace Go.Proofs.Ytebgcebjlbhjjab
open Go.RowKit Go.Shelf

theorem TermsIn.keptAny {w w' : World} {a : Option Addr} {n c rb : Nat} {ts : List Tm} (h : TermsIn w a n c ts) (hg : w.grownBy w' (some rb)) (hne : ∀ x, a = some x → 0 < n → x.block ≠ rb) : TermsIn w' a n c ts := by
  refine ⟨⟨h.is.len, h.is.max, fun h0 => ?_, h.is.small⟩, ?_⟩
  · obtain ⟨x, e, hx⟩ := h.is.at_ h0
    have hb := hne x e h0
    refine ⟨x, e, Nat.lt_of_lt_of_le hx.1 hg.size, fun i hi => ?_⟩
    obtain ⟨h1, h2⟩ := hx.2 i hi
    exact ⟨hg.cell h1 (by rw [addr_add_block]; intro e; cases e; exact hb rfl), hg.cell h2 (by rw [addr_add_block]; intro e; cases e; exact hb rfl)⟩
  · rcases h.part with hp | ⟨x, cap, e, hc⟩
    · exact .inl hp
    · refine .inr ⟨x, cap, e, fun j u hu => ?_⟩
      have hpos : 0 < n := by
        rcases Nat.eq_zero_or_pos n with h0 | h0
        · have : ts = [] := List.length_eq_zero_iff.1 (h.is.len.trans h0)
          subst this
          simp [termsV] at hu
        · exact h0
      have hb := hne x (by cases e; rfl) hpos
      obtain ⟨h1, h2⟩ := hc j u hu
      exact ⟨hg.cell h1 (by rw [addr_add_block]; intro e; cases e; exact hb rfl), Nat.lt_of_lt_of_le h2 hg.size⟩
theorem TermsIn.low {w : World} {a : Option Addr} {n c : Nat} {ts : List Tm} (h : TermsIn w a n c ts) {x : Addr} (e : a = some x) (h0 : 0 < n) : x.block < w.heap.size := by
  obtain ⟨y, e2, hy⟩ := h.is.at_ h0
  rw [e] at e2
  cases e2
  exact hy.1

/-- Rows of terms in blocks from lo on, the list of them in a block of its own. -/
structure RowsIn (lo : Nat) (w : World) (g c k : Nat) (vals : List Value) (rows : List (List Tm)) : Prop where
  row : w.ownsRow lo TT 1 (.slice (some ⟨g, 0, none⟩) k c) k vals
  len : rows.length = k
  each : ∀ i (h : i < rows.length), ∃ ai ci, vals[i]? = some (.slice ai rows[i].length ci) ∧ TermsIn w ai rows[i].length ci rows[i] ∧ ∀ x, ai = some x → 0 < rows[i].length → lo ≤ x.block ∧ x.block ≠ g
theorem RowsIn.keptBut {lo : Nat} {w w' : World} {g c k rb : Nat} {vals : List Value} {rows : List (List Tm)} (h : RowsIn lo w g c k vals rows) (hg : w.grownBy w' (some rb)) (hr : rb < lo) : RowsIn lo w' g c k vals rows :=
  ⟨World.ownsRow.kept h.row hg (by
    refine .inr fun e => ?_
    have h1 : lo ≤ g := (h.row.lt g rfl).1
    have e2 : g = rb := Option.some.inj e
    omega), h.len, fun i hi => by
    obtain ⟨ai, ci, h1, h2, h3⟩ := h.each i hi
    exact ⟨ai, ci, h1, h2.keptAny hg fun x e h0 => by have := (h3 x e h0).1; omega, h3⟩⟩
theorem RowsIn.below {lo : Nat} {w w' : World} {g c k : Nat} {vals : List Value} {rows : List (List Tm)} (h : RowsIn lo w g c k vals rows) (hb : Below w.heap.size w w') : RowsIn lo w' g c k vals rows :=
  ⟨ownsRow_past h.row hb, h.len, fun i hi => by
    obtain ⟨ai, ci, h1, h2, h3⟩ := h.each i hi
    exact ⟨ai, ci, h1, h2.below hb, h3⟩⟩
theorem RowsIn.isTT {lo : Nat} {w : World} {g c k : Nat} {vals : List Value} {rows : List (List Tm)} (h : RowsIn lo w g c k vals rows) (hk : k ≤ maxLen) : IsTT w (some ⟨g, 0, none⟩) k rows :=
  ⟨h.len, hk, fun h0 => ⟨_, rfl, (h.row.lt g rfl).2, fun i hi => by
    obtain ⟨ai, ci, h1, h2, _⟩ := h.each i hi
    exact ⟨ai, ci, h.row.cells rfl i _ h1, h2.is⟩⟩⟩
/-- One row more. -/
theorem RowsIn.more {lo : Nat} {w w2 : World} {g c k gg cap ci : Nat} {ai : Option Addr} {vals : List Value} {rows : List (List Tm)} {r : List Tm} (h : RowsIn lo w g c k vals rows) (hr : TermsIn w ai r.length ci r) (ha : ∀ x, ai = some x → 0 < r.length → lo ≤ x.block ∧ x.block ≠ g)
    (hown : w2.ownsRow lo TT 1 (.slice (some ⟨gg, 0, none⟩) (k + 1) cap) (k + 1) (vals ++ [.slice ai r.length ci])) (hg : w.grownBy w2 (some g)) (hat : gg = g ∨ w.heap.size ≤ gg) : RowsIn lo w2 gg cap (k + 1) (vals ++ [.slice ai r.length ci]) (rows ++ [r]) := by
  have hvl := h.row.1
  rw [Nat.mul_one] at hvl
  have hne : ∀ (a : Option Addr) (n c' : Nat) (ts : List Tm), TermsIn w a n c' ts → (∀ x, a = some x → 0 < n → lo ≤ x.block ∧ x.block ≠ g) → ∀ x, a = some x → 0 < n → lo ≤ x.block ∧ x.block ≠ gg := fun a n c' ts ht hx x e h0 => by
    obtain ⟨h1, h2⟩ := hx x e h0
    have h3 := ht.low e h0
    refine ⟨h1, ?_⟩
    rcases hat with rfl | h4
    · exact h2
    · omega
  refine ⟨hown, by rw [List.length_append, h.len]; rfl, fun i hi => ?_⟩
  rw [List.length_append, List.length_singleton] at hi
  by_cases hik : i < rows.length
  · obtain ⟨a1, c1, h1, h2, h3⟩ := h.each i hik
    simp only [List.getElem_append_left hik]
    refine ⟨a1, c1, ?_, h2.keptAny hg fun x e h0 => (h3 x e h0).2, hne _ _ _ _ h2 h3⟩
    rw [List.getElem?_append_left (by rw [hvl, ← h.len]; exact hik)]; exact h1
  · obtain rfl : i = rows.length := by omega
    have e1 : (rows ++ [r])[rows.length]'(by simp) = r := by simp
    rw [e1]
    refine ⟨ai, ci, ?_, hr.keptAny hg fun x e h0 => (ha x e h0).2, hne _ _ _ _ hr ha⟩
    rw [List.getElem?_append_right (by rw [hvl, h.len]; exact Nat.le_refl _), hvl, h.len, Nat.sub_self]; rfl
theorem Grows.rows {lo : Nat} {w : World} {a : Option Addr} {c : Nat} {vals : List Value} {rows : List (List Tm)} (h : Grows lo w (.slice a 4 c) vals 4 rows) (hl : rows.length = 4) (hs : ∀ r ∈ rows, SmallT r) : ∃ g, a = some ⟨g, 0, none⟩ ∧ RowsIn lo w g c 4 vals rows := by
  rcases h.row.2 with ⟨_, h0⟩ | ⟨g, cap, cur, e, _, _, _⟩
  · exact absurd h0 (by omega)
  · cases e
    refine ⟨g, rfl, h.row, hl, fun i hi => ?_⟩
    obtain ⟨u, hu, ho⟩ := h.each i hi (by omega)
    obtain ⟨ai, ci, rfl, hT⟩ := ho.termsIn (hs _ (List.getElem_mem hi))
    refine ⟨ai, ci, hu, hT, fun x e h0 => ?_⟩
    rcases ho.2 with ⟨e2, h1⟩ | ⟨gi, cap2, cur2, e2, hb, _⟩
    · omega
    · cases e2
      cases e
      exact ⟨hb, fun e3 => h.head i _ gi hu (by have e4 : gi = g := e3; rw [e4]; rfl) rfl⟩

set_option maxRecDepth 100000 in
set_option maxHeartbeats 8000000 in
theorem drawFoxBack_any (a : Option Addr) (n cap : Nat) (zs : List Int) (w : World) (h : BsAt w.heap.size w a n cap zs) :
    Calls Try.prog 13 #[.slice a n cap] w fun e w' => (∃ g c rows, e = .returned (.slice (some ⟨g, 0, none⟩) 4 c) ∧ IsTT w' (some ⟨g, 0, none⟩) 4 rows) ∧ Below w.heap.size w w' := by
  obtain ⟨i0, hi, hz0, hz1, hz2⟩ := info_parts infoTerms
  have HO := Lib.hid (open_any a n cap zs w h)
  clear h
  go_enter Try.func13, Try.ntmps13
  go_wp2_with fail
  refine HO.out.mono ?_
  rintro e w1 ⟨n', zs', rfl, hR1, hB1⟩
  have HR1 := Lib.hid hR1
  have HB1 := Lib.hid hB1
  have hr1 := hR1.lt
  clear hR1 hB1
  go_wp2_with fail
  refine (l91Word_grown w.heap.size w.heap.size a n' cap zs' 0 8 3 w1 HR1.out (by omega) (by omega) (by omega) (by omega)).mono ?_
  rintro e w2 ⟨⟨s, rfl, hs⟩, ⟨p2, hp2, hR2⟩, hB2, hG2⟩
  have HR2 := Lib.hid hR2
  have HB2 := Lib.hid (HB1.out.trans hB2)
  have hs2 := hG2.size
  have hsm : s.size ≤ maxLen := by unfold maxLen; omega
  clear hR2 hB2 hG2
  cases hw : wordB s.data.toList with
  | false =>
    have HW := Lib.hid hw
    clear hw
    go_wp2_with fail
    refine (sFoxAll_no s _ hsm HW.out).mono ?_
    rintro e w4 ⟨⟨a4, c4, rfl, _⟩, hb4⟩
    have HR4 := Lib.hid (HR2.out.below hb4)
    have HB4 := Lib.hid (HB2.out.trans (hb4.mono (by omega)))
    have hs4 : w.heap.size < w4.heap.size := by have := hb4.size; omega
    clear hb4
    have hba : Below w4.heap.size w4 (w4.alloc (.cells #[] TT)) := (Below.refl w4.heap.size w4).alloc (Nat.le_refl _) _
    have HR5 := Lib.hid (HR4.out.below hba)
    have HB5 := Lib.hid (HB4.out.trans (hba.mono (by omega)))
    have HRW : Hid (RowsIn w4.heap.size (w4.alloc (.cells #[] TT)) w4.heap.size 0 0 [] []) := Lib.hid ⟨World.ownsRow_made w4 #[] 0 (Nat.le_refl _) (Nat.zero_le _) rfl, rfl, fun i hi => absurd hi (Nat.not_lt_zero _)⟩
    clear hba
    go_wp2_with fail
    go_loopw [4, 6] (fun v i wr => ∃ (k q g c : Nat) (vals : List Value) (rows : List (List Tm)), v = .slice (some ⟨g, 0, none⟩) k c ∧ k ≤ 4 ∧ i = .int .i64 k ∧ q ≤ 1000 + 300 * k ∧ Hid (RowsIn w4.heap.size wr g c k vals rows ∧ Rd w.heap.size wr w.heap.size a n' cap zs' q ∧ Below w.heap.size w wr) ∧ w4.heap.size < wr.heap.size) (fun _ i _ => 4 - (intOf i).toNat)
    case atStart => exact ⟨0, _, w4.heap.size, 0, [], [], rfl, Nat.zero_le _, rfl, by omega, Lib.hid ⟨HRW.out, HR5.out, HB5.out⟩, by simp⟩
    case round =>
      obtain ⟨k, q, g, c, vals, rows, rfl, hk, rfl, hq, HH, hsz⟩ := hrel
      by_cases hlt : k < 4
      · have hli : (k : Int) < 4 := by omega
        go_wp2_with fail
        refine (l91Sum_any w.heap.size w.heap.size a n' cap zs' q 3 wr HH.out.2.1 (by omega) (by omega)).mono ?_
        rintro e w5 ⟨⟨v5, rfl, g3, c3, n3, ts, rfl, hg3, hT3, _⟩, ⟨q5, hq5, hR5⟩, hB5, hG5⟩
        obtain rfl : n3 = ts.length := hT3.len.symm
        have HRows := Lib.hid (HH.out.1.keptBut hG5 (by omega))
        have hgl : g < wr.heap.size := (HH.out.1.row.lt g rfl).2
        have HT3 := Lib.hid hT3
        have HR5 := Lib.hid hR5
        have HB5 := Lib.hid (HH.out.2.2.trans hB5)
        have hs5 := hG5.size
        obtain ⟨m, hm⟩ : ∃ m, ts.length = m := ⟨_, rfl⟩
        have HM := Lib.hid hm
        have HROW := Lib.hid HRows.out.row
        rw [hm]
        clear hT3 hR5 hB5 hG5 hm
        go_wp2_with (at_builtin; refine wpList_append_lies _ rfl _ _ _ rfl w4.heap.size TT i0 _ 1 24 Try.underlying23 hi hz0 hz1 hz2 rfl (by omega) (.slice (some ⟨g, 0, none⟩) k c) k vals rfl (HROW.out.alloc _) ⟨w5.heap.size, 0, none⟩ 1 1 [.slice (some ⟨g3, 0, none⟩) m c3] rfl rfl (World.news_of_block (cs := #[.slice (some ⟨g3, 0, none⟩) m c3]) (t := TT) (fr := (0, 0)) (heap_alloc_new w5 _)) (by simp [Value.oneCell']) (by omega) (by unfold maxLen; omega) (by omega) (by simp; omega) (w5.heap.size + 1) (by simp) ?_; intro gg cap1 w7 hown7 hgrow7 hat hlt7)
        have hba5 : Below w5.heap.size w5 (w5.alloc (.cells #[.slice (some ⟨g3, 0, none⟩) m c3] TT)) := (Below.refl w5.heap.size w5).alloc (Nat.le_refl _) _
        have hsa : (w5.alloc (.cells #[.slice (some ⟨g3, 0, none⟩) m c3] TT)).heap.size = w5.heap.size + 1 := by simp
        have hB57 : Below w4.heap.size w5 w7 := (hba5.mono (by omega)).grown hgrow7 (by rw [hsa]; omega) (ownsRow_low HROW.out)
        have hnew : RowsIn w4.heap.size w7 gg cap1 (k + 1) (vals ++ [.slice (some ⟨g3, 0, none⟩) ts.length c3]) (rows ++ [ts]) := by
          refine (HRows.out.below hba5).more (HT3.out.below hba5) (fun x e h0 => by cases e; exact ⟨by show w4.heap.size ≤ g3; omega, by show g3 ≠ g; omega⟩) (by rw [HM.out]; exact hown7) hgrow7 ?_
          rcases hat with h | h
          · exact .inl (Option.some.inj h).symm
          · exact .inr (by rw [hsa, h]; exact Nat.le_refl _)
        have HNew := Lib.hid hnew
        have HB7 := Lib.hid (HB5.out.trans (hB57.mono (by omega)))
        have HR7 := Lib.hid (HR5.out.past hB57 (by omega))
        have hs7 := hB57.size
        clear hown7 hgrow7 hat hlt7 hB57 hnew hba5 hsa
        go_wp2
        go_roundw
        case rel => exact ⟨k + 1, q5, gg, cap1, _, _, rfl, by omega, by go_num, by omega, Lib.hid ⟨HNew.out, HR7.out, HB7.out⟩, by omega⟩
        case measure => simp [intOf]; omega
      · obtain rfl : k = 4 := by omega
        have HI := Lib.hid (HH.out.1.isTT (by unfold maxLen; omega))
        have HBB := Lib.hid HH.out.2.2
        go_wp2
        go_ret
        exact ⟨⟨_, _, _, rfl, HI.out⟩, HBB.out⟩
  | true =>
    have HW := Lib.hid hw
    have HSm := Lib.hid (show ∀ r ∈ foxRows s, SmallT r from foxRows_small hw)
    clear hw
    go_wp2_with fail
    refine (sFoxAll_grows s _ hsm HW.out).mono ?_
    rintro e w3 ⟨⟨a3, c3, vals3, rfl, hG3⟩, hb3⟩
    obtain ⟨g3, rfl, hrw3⟩ := hG3.rows (foxRows_len s) HSm.out
    have HR3 := Lib.hid (HR2.out.below hb3)
    have HB3 := Lib.hid (HB2.out.trans (hb3.mono (by omega)))
    have HRW3 := Lib.hid hrw3
    have hs3 := hb3.size
    clear hb3 hG3 hrw3
    go_wp2_with fail
    refine (pick_any w.heap.size w.heap.size a n' cap zs' p2 2 w3 HR3.out (by omega) (by omega) (by omega)).mono ?_
    rintro e w4 ⟨⟨z, rfl, hz⟩, hR4, hB4, hG4⟩
    have HR4 := Lib.hid hR4
    have HB4 := Lib.hid (HB3.out.trans hB4)
    have HRW4 := Lib.hid (HRW3.out.keptBut hG4 (by omega))
    have hs4 : w.heap.size < w4.heap.size := by have := hG4.size; omega
    clear hR4 hB4 hG4
    by_cases hzE : z = 0
    · subst hzE
      have HI := Lib.hid (HRW4.out.isTT (by unfold maxLen; omega))
      go_wp2
      go_ret
      exact ⟨⟨_, _, _, rfl, HI.out⟩, HB4.out⟩
    · have hzi : ((z : Int) == 0) = false := by simpa using hzE
      have hzn : ¬ (z : Int) = 0 := by omega
      have hba : Below w4.heap.size w4 (w4.alloc (.cells #[] TT)) := (Below.refl w4.heap.size w4).alloc (Nat.le_refl _) _
      have HR5 := Lib.hid (HR4.out.below hba)
      have HB5 := Lib.hid (HB4.out.trans (hba.mono (by omega)))
      have HRW : Hid (RowsIn w4.heap.size (w4.alloc (.cells #[] TT)) w4.heap.size 0 0 [] []) := Lib.hid ⟨World.ownsRow_made w4 #[] 0 (Nat.le_refl _) (Nat.zero_le _) rfl, rfl, fun i hi => absurd hi (Nat.not_lt_zero _)⟩
      clear hba
      go_wp2_with fail
      go_loopw [4, 6] (fun v i wr => ∃ (k q g c : Nat) (vals : List Value) (rows : List (List Tm)), v = .slice (some ⟨g, 0, none⟩) k c ∧ k ≤ 4 ∧ i = .int .i64 k ∧ q ≤ 1000 + 300 * k ∧ Hid (RowsIn w4.heap.size wr g c k vals rows ∧ Rd w.heap.size wr w.heap.size a n' cap zs' q ∧ Below w.heap.size w wr) ∧ w4.heap.size < wr.heap.size) (fun _ i _ => 4 - (intOf i).toNat)
      case atStart => exact ⟨0, _, w4.heap.size, 0, [], [], rfl, Nat.zero_le _, rfl, by omega, Lib.hid ⟨HRW.out, HR5.out, HB5.out⟩, by simp⟩
      case round =>
        obtain ⟨k, q, g, c, vals, rows, rfl, hk, rfl, hq, HH, hsz⟩ := hrel
        by_cases hlt : k < 4
        · have hli : (k : Int) < 4 := by omega
          go_wp2_with fail
          refine (l91Sum_any w.heap.size w.heap.size a n' cap zs' q 3 wr HH.out.2.1 (by omega) (by omega)).mono ?_
          rintro e w5 ⟨⟨v5, rfl, g3, c3, n3, ts, rfl, hg3, hT3, _⟩, ⟨q5, hq5, hR5⟩, hB5, hG5⟩
          obtain rfl : n3 = ts.length := hT3.len.symm
          have HRows := Lib.hid (HH.out.1.keptBut hG5 (by omega))
          have hgl : g < wr.heap.size := (HH.out.1.row.lt g rfl).2
          have HT3 := Lib.hid hT3
          have HR5 := Lib.hid hR5
          have HB5 := Lib.hid (HH.out.2.2.trans hB5)
          have hs5 := hG5.size
          obtain ⟨m, hm⟩ : ∃ m, ts.length = m := ⟨_, rfl⟩
          have HM := Lib.hid hm
          have HROW := Lib.hid HRows.out.row
          rw [hm]
          clear hT3 hR5 hB5 hG5 hm
          go_wp2_with (at_builtin; refine wpList_append_lies _ rfl _ _ _ rfl w4.heap.size TT i0 _ 1 24 Try.underlying23 hi hz0 hz1 hz2 rfl (by omega) (.slice (some ⟨g, 0, none⟩) k c) k vals rfl (HROW.out.alloc _) ⟨w5.heap.size, 0, none⟩ 1 1 [.slice (some ⟨g3, 0, none⟩) m c3] rfl rfl (World.news_of_block (cs := #[.slice (some ⟨g3, 0, none⟩) m c3]) (t := TT) (fr := (0, 0)) (heap_alloc_new w5 _)) (by simp [Value.oneCell']) (by omega) (by unfold maxLen; omega) (by omega) (by simp; omega) (w5.heap.size + 1) (by simp) ?_; intro gg cap1 w7 hown7 hgrow7 hat hlt7)
          have hba5 : Below w5.heap.size w5 (w5.alloc (.cells #[.slice (some ⟨g3, 0, none⟩) m c3] TT)) := (Below.refl w5.heap.size w5).alloc (Nat.le_refl _) _
          have hsa : (w5.alloc (.cells #[.slice (some ⟨g3, 0, none⟩) m c3] TT)).heap.size = w5.heap.size + 1 := by simp
          have hB57 : Below w4.heap.size w5 w7 := (hba5.mono (by omega)).grown hgrow7 (by rw [hsa]; omega) (ownsRow_low HROW.out)
          have hnew : RowsIn w4.heap.size w7 gg cap1 (k + 1) (vals ++ [.slice (some ⟨g3, 0, none⟩) ts.length c3]) (rows ++ [ts]) := by
            refine (HRows.out.below hba5).more (HT3.out.below hba5) (fun x e h0 => by cases e; exact ⟨by show w4.heap.size ≤ g3; omega, by show g3 ≠ g; omega⟩) (by rw [HM.out]; exact hown7) hgrow7 ?_
            rcases hat with h | h
            · exact .inl (Option.some.inj h).symm
            · exact .inr (by rw [hsa, h]; exact Nat.le_refl _)
          have HNew := Lib.hid hnew
          have HB7 := Lib.hid (HB5.out.trans (hB57.mono (by omega)))
          have HR7 := Lib.hid (HR5.out.past hB57 (by omega))
          have hs7 := hB57.size
          clear hown7 hgrow7 hat hlt7 hB57 hnew hba5 hsa
          go_wp2
          go_roundw
          case rel => exact ⟨k + 1, q5, gg, cap1, _, _, rfl, by omega, by go_num, by omega, Lib.hid ⟨HNew.out, HR7.out, HB7.out⟩, by omega⟩
          case measure => simp [intOf]; omega
        · obtain rfl : k = 4 := by omega
          have HI := Lib.hid (HH.out.1.isTT (by unfold maxLen; omega))
          have HBB := Lib.hid HH.out.2.2
          go_wp2
          go_ret
          exact ⟨⟨_, _, _, rfl, HI.out⟩, HBB.out⟩

end Go.Proofs.Ytebgcebjlbhjjab

/- Derivatives of what is multiplied back: each sum comes out again. -/

namespace Go.Proofs.Ytebgcebjlbhjjab
open Go.RowKit Go.Shelf

theorem rd_reduced {g : Int} {l : List UInt8} (h : redL [] l = l) : rdL g l = foxL g 1 l := by
  unfold rdL
  refine map_id_same fun t ht => ?_
  obtain ⟨_, j, _, e⟩ := foxN_mem (C := 1) (by omega) (Nat.le_refl _) ht
  rw [e, bstr_toList]
  refine (red_iff _).2 ?_
  have h2 := (red_iff _).1 h
  rw [← List.take_append_drop j l] at h2
  exact noC_left h2
def genX9 (h : Nat) : UInt8 := UInt8.ofNat (97 + h)
theorem gen_facts {h : Nat} (hh : h < 4) : letB (genX9 h) = true ∧ idxB (genX9 h) = h ∧ sgnB (genX9 h) = 1 ∧ 97 ≤ (genX9 h).toNat := by
  rcases (show h = 0 ∨ h = 1 ∨ h = 2 ∨ h = 3 by omega) with rfl | rfl | rfl | rfl <;> decide
theorem back_inner {g h : Nat} (hh : h < 4) (f : ByteArray → Int) {s : ByteArray} (hs : wordB s.data.toList = true) :
    linT f (foxL g 1 (redL [] (s.data.toList ++ [genX9 h]))) - linT f (foxL g 1 (redL [] s.data.toList)) = if h = g then f s else 0 := by
  obtain ⟨_, hl, hr⟩ := (wordB_iff _).1 hs
  obtain ⟨h1, h2, h3, h4⟩ := gen_facts hh
  have hlg : letL [genX9 h] = true := by simp [letL, h1]
  have hls : letL (s.data.toList ++ [genX9 h]) = true := by rw [letL_append, hl, hlg]; rfl
  have e1 := rd_red g (s.data.toList ++ [genX9 h]) [] hls rfl f
  rw [List.nil_append, rd_reduced (red_red _), rd_append g s.data.toList [genX9 h] hlg, linT_append, rd_word hs, rd_one, h2, h3, if_pos h4] at e1
  rw [e1, hr]
  by_cases hg : h = g
  · subst hg
    rw [if_pos rfl, if_pos rfl]
    unfold frontL
    rw [lin_map]
    simp only [linT, bstr_toList, List.append_nil]
    rw [hr, bstr_of]; omega
  · rw [if_neg (by omega), if_neg hg]
    have : linT f (frontL s.data.toList []) = 0 := rfl
    rw [this]; omega
theorem lin_back_row (f : ByteArray → Int) {rows : List (List Tm)} {g h : Nat} (hh : h < 4) (hw : WordsT (rows.getD h [])) :
    linT (fun s => linT f (foxL g 1 s.data.toList)) (backRow rows h) = if h = g then linT f (rows.getD h []) else 0 := by
  unfold backRow
  rw [linT_canon, lin_pairs]
  have e : ∀ t ∈ rows.getD h [], linT (fun r => linT f (foxL g 1 (mulB t.s r).data.toList)) (lessT h) = if h = g then f t.s else 0 := fun t ht => by
    have := lin_less h (fun s => linT f (foxL g 1 s.data.toList)) t.s
    rw [this, bstr_toList, bstr_toList]
    exact back_inner hh f (hw t ht)
  rw [linT_congr (g := fun s => if h = g then f s else 0) e]
  by_cases hg : h = g
  · rw [if_pos hg]
    refine linT_congr fun t _ => ?_
    rw [if_pos hg]
  · rw [if_neg hg]
    have e2 : (fun s : ByteArray => if h = g then f s else (0 : Int)) = fun _ => 0 := by funext s; rw [if_neg hg]
    rw [e2, linT_zero]
/-- The derivative of what is multiplied back. -/
theorem fox_backN {rows : List (List Tm)} (hw : ∀ h, h < 4 → WordsT (rows.getD h [])) {g : Nat} (hg : g < 4) : Same (foxI g (backN rows 4)) (rows.getD g []) := fun f => by
  rw [lin_fox, lin_back]
  unfold sumF
  dsimp only
  rw [lin_back_row f (by omega) (hw 0 (by omega)), lin_back_row f (by omega) (hw 1 (by omega)), lin_back_row f (by omega) (hw 2 (by omega)), lin_back_row f (by omega) (hw 3 (by omega))]
  rcases (show g = 0 ∨ g = 1 ∨ g = 2 ∨ g = 3 by omega) with rfl | rfl | rfl | rfl <;> simp
theorem plain_less (h : Nat) : plainZ (lessT h) = 0 := by unfold lessT plainZ; simp
/-- What is multiplied back has no coefficients. -/
theorem plain_backN (rows : List (List Tm)) : plainZ (backN rows 4) = 0 := by
  have e : backN rows 4 = backRow rows 0 ++ backRow rows 1 ++ backRow rows 2 ++ backRow rows 3 := by
    rw [backN_succ, backN_succ, backN_succ, backN_succ]; rfl
  have h : ∀ g, plainZ (backRow rows g) = 0 := fun g => by
    unfold backRow
    rw [plain_canon, plain_pairs, plain_less, Int.mul_zero]
  rw [e, plain_append, plain_append, plain_append, h, h, h, h]; rfl

end Go.Proofs.Ytebgcebjlbhjjab

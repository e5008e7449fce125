/- The contracts of the program's 'action' and 'actions'. -/
import Derived.Test.YtaaeiogdhmiaaaaCw
import Derived.Test.YtaaeiogdhmiaaaaCl
import Derived.Test.YtaaeiogdhmiaaaaCh
namespace Go.Proofs.Ytaaeiogdhmiaaaa
open Go.RowKit Go.Shelf

attribute [local go_sem] Oper.semAt_some

theorem grown_of_below {w w' : World} (h : Below w.heap.size w w') : w.grownBy w' none := ⟨h.os, h.tape, h.output, h.size, fun k hk _ => h.block k hk⟩
/-- What a letter of a braid does, in memory. -/
def ActY (w : World) (v : Value) (c : UInt8) : Prop :=
  ∃ bx gi, v = .func (.func 132) #[] #[.pointer (some ⟨bx, 0, none⟩)] ∧ Boxed w bx 99 (.slice (some ⟨gi, 0, none⟩) 4 4) ∧ FourY gi w (bImg c)
theorem boxed_typed {w : World} {b : Nat} {t : TypeId} {v : Value} (h : Boxed w b t v) : Typed w b t := ⟨_, _, h⟩
theorem ActY.kept {w w' : World} {v : Value} {c : UInt8} {row : Option Nat} (h : ActY w v c) (hg : w.grownBy w' row) (hr : Spares w row) : ActY w' v c := by
  obtain ⟨bx, gi, e, h1, h2⟩ := h
  exact ⟨bx, gi, e, h1.kept hg (fun e => (hr bx e).2.2 (boxed_typed h1)), h2.kept hg hr⟩
theorem ActY.below {w w' : World} {v : Value} {c : UInt8} (h : ActY w v c) (hb : Below w.heap.size w w') : ActY w' v c := h.kept (grown_of_below hb) (Spares.none w)
theorem spares_other {w : World} {b : Nat} {t : TypeId} (h : Typed w b t) (h1 : t ≠ 77) (h2 : t ≠ 87) (h3 : t ≠ 99) : Spares w (some b) := fun b' e => by
  cases e
  exact ⟨fun k => Typed.ne h k h1 rfl, fun k => Typed.ne h k h2 rfl, fun k => Typed.ne h k h3 rfl⟩
theorem spares_noncell {w : World} {row : Option Nat} (h : ∀ r, row = some r → ∃ o : Obj, w.heap[r]? = some o ∧ o.isCells = false) : Spares w row := fun b e => by
  obtain ⟨o, ho, hc⟩ := h b e.symm
  have hn : ∀ t, ¬ Typed w b t := fun t ⟨c, f, e⟩ => by rw [ho] at e; cases e; cases hc
  exact ⟨hn _, hn _, hn _⟩

set_option maxRecDepth 100000 in
set_option maxHeartbeats 1000000 in
theorem action_any (c : UInt8) (w : World) (hc : brB c = true) :
    Calls Try.prog 114 #[.int .u8 (c.toNat : Int)] w fun e w' => ∃ v, e = .returned v ∧ ActY w' v c ∧ Below w.heap.size w w' := by
  have hmf : ∀ (fn : Fn) (first cap : Array Value) (w : World), (Instr.makeFunc fn first cap).run Try.prog w = .ok (.func fn first cap) w := fun _ _ _ _ => rfl
  have hi := images_any c w hc
  have HI := Lib.hid hi
  clear hi hc
  go_enter Try.func114, Try.ntmps114
  go_wp2_with fail
  refine HI.out.mono ?_
  rintro e w1 ⟨rfl, hf, hb⟩
  have HF := Lib.hid hf
  clear hf
  go_wp2
  refine bodyPost_ret (v := .func (.func 132) #[] #[.pointer (some ⟨w1.heap.size, 0, none⟩)]) ?_ rfl ⟨_, rfl, ⟨w1.heap.size, w.heap.size, rfl, Boxed.new w1 _ _, HF.out.kept (World.grownBy_alloc _ _ none) (Spares.none _)⟩, hb.alloc hb.size _⟩
  simp [results, Try.results114, go_sem]

/-- The actions that the loop has gathered. -/
def ActsIn (N lo : Nat) (pre : List UInt8) (X : World) : Prop :=
  ∃ vs : List Value, vs.length = pre.length ∧ (∃ v, Boxed X N 91 v ∧ X.ownsRow lo 130 1 v vs.length vs ∧ True) ∧ ∀ j, j < pre.length → ActY X (vs.getD j undef) (pre.getD j 0)
theorem ActsIn.own (N lo : Nat) : Own (ActsIn N lo) := by
  rintro s X Y row ⟨vs, h1, h2, h3⟩ hg hrow
  exact ⟨vs, h1, holdsRow_own lo N _ 130 1 (fun _ : Unit => vs.length) (fun _ => vs) (fun _ _ => True) () X Y row h2 hg hrow, fun j hj => (h3 j hj).kept hg (spares_noncell hrow)⟩

theorem infoAct : (Try.prog.info? 130).map (fun i => (i.zero, i.size, i.bytes)) = some (some .nilFunc, 1, 8) := by kernel_rfl

abbrev AcT : TypeId := 130
theorem typed_own {w : World} {lo n j : Nat} {e : TypeId} {v : Value} {vs : List Value} (h : w.ownsRow lo e 1 v n vs) (hj : v.ownBlock = some j) : Typed w j e ∧ lo ≤ j := by
  rcases h.2 with ⟨rfl, _⟩ | ⟨g1, cap1, cur1, rfl, h1, h2, _⟩
  · cases hj
  · simp [Value.ownBlock] at hj
    subst hj
    exact ⟨⟨_, _, h2⟩, h1⟩
theorem acts_round {N M lo : Nat} {w X Y X1 w' : World} {v fv : Value} {vs : List Value} {pre : List UInt8} {x : UInt8} {g' cap' : Nat} (hXY : KeepsOthers X Y) (hblk : Y.heap[N + 1]? = X.heap[N + 1]?) (hYs : N + 2 ≤ Y.heap.size) (hM : M ≤ Y.heap.size)
    (hB : Below lo w Y) (hlo : lo ≤ N) (hvl : vs.length = pre.length) (hbY : Boxed Y N 91 v) (hrow : Y.ownsRow (N + 2) AcT 1 v vs.length vs) (hvs : ∀ j, j < pre.length → ActY Y (vs.getD j undef) (pre.getD j 0))
    (hact : ActY X1 fv x) (hb1 : Below Y.heap.size Y X1) (r1 : w'.ownsRow (N + 2) AcT 1 (.slice (some ⟨g', 0, none⟩) (vs.length + 1) cap') (vs.length + 1) (vs ++ [fv]))
    (r2 : (X1.alloc (.cells #[fv] AcT)).grownBy w' v.ownBlock) :
    KeepsFrom M X (w'.setCell ⟨N, 0, none⟩ (.slice (some ⟨g', 0, none⟩) (vs.length + 1) cap')) ∧ KeepS (N + 1) M X (w'.setCell ⟨N, 0, none⟩ (.slice (some ⟨g', 0, none⟩) (vs.length + 1) cap')) ∧ ActsIn N (N + 2) (pre ++ [x]) (w'.setCell ⟨N, 0, none⟩ (.slice (some ⟨g', 0, none⟩) (vs.length + 1) cap')) ∧ Below lo w (w'.setCell ⟨N, 0, none⟩ (.slice (some ⟨g', 0, none⟩) (vs.length + 1) cap')) ∧ M ≤ (w'.setCell ⟨N, 0, none⟩ (.slice (some ⟨g', 0, none⟩) (vs.length + 1) cap')).heap.size := by
  obtain ⟨u, hu⟩ : ∃ u, (Value.slice (some ⟨g', 0, none⟩) (vs.length + 1) cap') = u := ⟨_, rfl⟩
  obtain ⟨Z, hZ⟩ : ∃ Z, X1.alloc (.cells #[fv] AcT) = Z := ⟨_, rfl⟩
  have hs1 := hb1.size
  have hloY : lo ≤ Y.heap.size := by omega
  have hZs : Z.heap.size = X1.heap.size + 1 := by rw [← hZ]; simp
  have hbel : Below Y.heap.size Y Z := by rw [← hZ]; exact hb1.alloc hb1.size _
  have hrowZ : Z.ownsRow (N + 2) AcT 1 v vs.length vs := hrow.kept (grown_of_below hbel) (by cases v.ownBlock <;> simp)
  have hbZ : Boxed Z N 91 v := hbY.kept (grown_of_below hbel) (by simp)
  have hactZ : ActY Z fv x := by rw [← hZ]; exact hact.kept (World.grownBy_alloc _ _ none) (Spares.none _)
  rw [hZ] at r2
  have hspZ : Spares Z v.ownBlock := fun b e => spares_other (typed_own hrowZ e.symm).1 (by decide) (by decide) (by decide) b rfl
  have hbw : Boxed w' N 91 v := hbZ.kept r2 (hbZ.not_row (by decide) hrowZ)
  have hspw : Spares w' (some N) := spares_other (boxed_typed hbw) (by decide) (by decide) (by decide)
  have hall : ∀ fv x, ActY Z fv x → ActY (w'.setCell ⟨N, 0, none⟩ u) fv x := fun fv x h => (h.kept r2 hspZ).kept (grownBy_setCell' w' N u) hspw
  have hko : KeepsOthers X (w'.setCell ⟨N, 0, none⟩ u) := by
    refine hXY.trans (KeepsOthers.trans ?_ (KeepsOthers.setCell _ _ _))
    refine KeepsOthers.trans (B := Z) ⟨hbel.size, fun k o hk _ => (hbel.block k (Array.getElem?_eq_some_iff.1 hk).1).trans hk⟩ (KeepsOthers.of_grownBy r2 fun j o ej hj => ?_)
    obtain ⟨⟨c, f, ht⟩, _⟩ := typed_own hrowZ ej
    rw [ht] at hj; cases hj; rfl
  have hb5 : (w'.setCell ⟨N, 0, none⟩ u).heap[N + 1]? = X.heap[N + 1]? := by
    rw [Below.heap_setCell _ _ _ _ (by show N + 1 ≠ N; omega), r2.block (N + 1) (by omega) (fun e => by have := (typed_own hrowZ e.symm).2; omega), hbel.block (N + 1) (by omega), hblk]
  have hB5 : Below lo w (w'.setCell ⟨N, 0, none⟩ u) := ((hB.trans (hbel.mono hloY)).grown r2 (by omega) (fun j ej => by have := (typed_own hrowZ ej).2; omega)).setCell (p := ⟨N, 0, none⟩) hlo _
  refine ⟨by rw [hu]; exact hko.from _, by rw [hu]; exact ⟨hb5, hko.from _⟩, ⟨vs ++ [fv], by simp [hvl], ⟨_, hbw.set _, ?_, trivial⟩, fun j hj => ?_⟩, by rw [hu]; exact hB5, by have := hko.size; have := hXY.size; rw [hu]; have h5 := (KeepsWalks.setCell w' ⟨N, 0, none⟩ u).size; have := r2.size; omega⟩
  · have := r1.kept (grownBy_setCell' w' N (.slice (some ⟨g', 0, none⟩) (vs.length + 1) cap')) (.inr (hbw.not_row (by decide) r1).symm)
    rw [List.length_append]
    exact this
  · rw [hu]
    rw [List.length_append, List.length_singleton] at hj
    by_cases h : j < pre.length
    · rw [List.getD_eq_getElem?_getD, List.getD_eq_getElem?_getD, List.getElem?_append_left (by omega), List.getElem?_append_left h, ← List.getD_eq_getElem?_getD, ← List.getD_eq_getElem?_getD]
      exact hall _ _ ((hvs j h).kept (grown_of_below hbel) (Spares.none _))
    · obtain rfl : j = pre.length := by omega
      rw [List.getD_eq_getElem?_getD, List.getD_eq_getElem?_getD, List.getElem?_append_right (by omega), List.getElem?_append_right (by omega), hvl, Nat.sub_self]
      exact hall _ _ hactZ

set_option maxRecDepth 100000 in
set_option maxHeartbeats 2000000 in
theorem actions_in (m : Nat) (hn : 30 ≤ m) (n : Int) (s : ByteArray) (w : World) (hbr : braidB n s = true) :
    CallsIn Fence.wide m Try.prog 79 #[brV n s] w fun e w' => ∃ v vs, e = .returned v ∧ vs.length = s.data.toList.length ∧ w'.ownsRow w.heap.size 130 1 v vs.length vs ∧ (∀ j, j < s.data.toList.length → ActY w' (vs.getD j undef) (s.data.toList.getD j 0)) ∧ Below w.heap.size w w' := by
  obtain ⟨W, hW⟩ : ∃ W, w.alloc (.cells #[.int .i64 n, .string s] 26) = W := ⟨_, rfl⟩
  have HX := Lib.hid (oneBox hW)
  have HW := Lib.hid hW
  clear hW
  have hsz := HX.out.2.1
  obtain ⟨⟨c0, c1⟩, _, _⟩ := boxOf2 HX.out.2.2 (Below.refl _ W)
  have HBX := Lib.hid HX.out.1
  obtain ⟨_, p3, pA⟩ := braid_all hbr
  have HPA := Lib.hid pA
  clear pA hbr
  have c1' := (World.cell?_alloc_lt W (.cells #[.slice none 0 0] 91) ⟨w.heap.size, 1, none⟩ (by show w.heap.size < W.heap.size; omega)).trans c1
  refine callsIn_of_wp_marks Try.func79 rfl trivial ?_ rfl
  simp only [Try.ntmps79, List.size_toArray, List.length_cons, List.length_nil, Nat.reduceAdd, Nat.reduceSub, Array.replicate_succ, Array.replicate_zero, List.push_toArray, List.append_toArray, List.nil_append, List.cons_append]
  gi_wp2_with fail
  rw [HW.out]
  refine ⟨trivial, fun _ => by omega, ?_⟩
  refine (callsIn_wide.2 (signsOf_any s _)).mono ?_
  rintro e w2 ⟨rfl, rfl⟩
  have b1 := (Boxed.new W 91 (.slice none 0 0)).alloc (.cells #[.string s] 9)
  have b2 := Boxed.new (W.alloc (.cells #[.slice none 0 0] 91)) 9 (.string s)
  rw [World.size_alloc] at b2
  have hB0 : Below w.heap.size w ((W.alloc (.cells #[.slice none 0 0] 91)).alloc (.cells #[.string s] 9)) := (HBX.out.alloc (by omega) _).alloc (by simp; omega) _
  have hsz0 : ((W.alloc (.cells #[.slice none 0 0] 91)).alloc (.cells #[.string s] 9)).heap.size = W.heap.size + 2 := by simp
  obtain ⟨W0, hW0⟩ : ∃ W0, ((W.alloc (.cells #[.slice none 0 0] 91)).alloc (.cells #[.string s] 9)) = W0 := ⟨_, rfl⟩
  simp only [World.size_alloc]
  rw [hW0] at b1 b2 hB0 hsz0 ⊢
  clear hW0
  obtain ⟨N, hN⟩ : ∃ N, w.heap.size + 1 = N := ⟨_, rfl⟩
  rw [hsz] at b1 b2 hsz0 ⊢
  rw [hN] at b1 b2 hsz0 ⊢
  have hwN : w.heap.size ≤ N := by omega
  clear c0 c1 c1' hN
  obtain ⟨i0, hi0, hz0, hz1, hz2⟩ := info_parts infoAct
  gi_wp2
  refine range_signs (by omega) (s := s) (by omega) rfl b2
    (fun pre X => ActsIn N (N + 2) pre X ∧ Below w.heap.size w X ∧ W0.heap.size ≤ X.heap.size)
    (OwnFrom.and (Own.from (ActsIn.own N (N + 2)) _) (OwnFrom.and (ownFrom_below (Nat.le_refl _) hB0.size) (fun s X Y row hs hgr hr => Nat.le_trans hs hgr.size)))
    ⟨⟨[], rfl, ⟨_, b1, World.ownsRow_nil _ _ _ _, trivial⟩, fun j hj => absurd hj (Nat.not_lt_zero _)⟩, hB0, Nat.le_refl _⟩ ?a1 ?assign ?body ?done
  case assign =>
    intro l x W K hK
    gi_wp2
    exact hK
  case body =>
    rintro l pre x X ⟨⟨vs, hvl, ⟨v, hbx, hrow, _⟩, hvs⟩, hB, hXs⟩ hpre
    have hlet := (HPA.out x (prefix_mem hpre)).1
    have hplen := prefix_len hpre
    rw [show s.data.toList.length = s.size by simp] at hplen
    have HA := Lib.hid (fun w => action_any x w hlet)
    have hd : 1 ≤ m - 1 - 1 := by omega
    have hvl60 : vs.length ≤ 61 := by omega
    have HVS := Lib.hid hvs
    have HVL := Lib.hid hvl
    clear hvs hlet hpre hvl
    gi_wp2
    refine wpIn_region_any (by kernel_rfl) ?_
    change wpAnyIn _ _ _ _ _ _ _ _ _ (World.drew _)
    have hbY : Boxed X.drew N 91 v := hbx
    have hbc := hbY.cell
    have hfr := hbY.frozen
    have hrowY : X.drew.ownsRow (N + 2) 130 1 v vs.length vs := hrow
    have hvY : Hid (∀ j, j < pre.length → ActY X.drew (vs.getD j undef) (pre.getD j 0)) := Lib.hid (fun j hj => (HVS.out j hj).kept (show X.grownBy X.drew none from ⟨rfl, rfl, rfl, Nat.le_refl _, fun _ _ _ => rfl⟩) (Spares.none X))
    have hgX : KeepsOthers X X.drew := KeepsOthers.drew _
    have hbX : Below w.heap.size w X.drew := hB.drew
    have hblX : Hid (X.drew.heap[N + 1]? = X.heap[N + 1]?) := Lib.hid rfl
    have hsX : W0.heap.size ≤ X.drew.heap.size := hXs
    have HGX := Lib.hid hgX
    have HBX2 := Lib.hid hbX
    have HBY := Lib.hid hbY
    have HROWY := Lib.hid hrowY
    clear hbx hrow HVS hB hXs hgX hbX hbY hrowY
    generalize X.drew = Y at *
    refine wpAnyIn_ready (rs := [0, 1]) (by kernel_rfl) (by simp) ?_
    refine AllReadyIn.cons rfl (fun K hK => ?_) (AllReadyIn.cons rfl (fun K hK => ?_) (AllReadyIn.nil))
    · skip
      go_simp
      refine hK _ _ ?_
      clear hK K
      refine wpAnyIn_ready (rs := [1]) (by kernel_rfl) (by simp) ?_
      refine AllReadyIn.cons rfl (fun K hK => ?_) (AllReadyIn.nil)
      go_simp
      refine hK _ _ ?_
      clear hK K
      refine wpAnyIn_ready (rs := [2]) (by kernel_rfl) (by simp) ?_
      refine AllReadyIn.cons rfl (fun K hK => ?_) (AllReadyIn.nil)
      go_simp
      gi_wp2_with (refine ⟨trivial, ?_⟩; gi_at_call 114; refine (CallsIn.inRound l (callsIn_wide.2 (HA.out _))).mono ?_; rintro e X1 ⟨_, rfl, ⟨bx, gi, rfl, ha1, ha2⟩, hb1⟩; have hbX1 : Boxed X1 N 91 v := (hb1.block _ HBY.out.lt).trans HBY.out; have hbc1 := hbX1.cell; have hfr1 := hbX1.frozen; have hbc2 := (hbX1.alloc (.cells #[.func (.func 132) #[] #[.pointer (some ⟨bx, 0, none⟩)]] 130)).cell; have hfr2 := (hbX1.alloc (.cells #[.func (.func 132) #[] #[.pointer (some ⟨bx, 0, none⟩)]] 130)).frozen; have HBX1 := Lib.hid hbX1; have HAct := Lib.hid (show ActY X1 (.func (.func 132) #[] #[.pointer (some ⟨bx, 0, none⟩)]) x from ⟨bx, gi, rfl, ha1, ha2⟩); have HB1 := Lib.hid hb1; have hs1 := hb1.size; clear hbX1 ha1 ha2 hb1)
      refine wpAnyIn_ready (rs := [3]) (by kernel_rfl) (by simp) ?_
      refine AllReadyIn.cons rfl (fun K hK => ?_) (AllReadyIn.nil)
      go_simp
      refine hK _ _ ?_
      clear hK K
      refine wpAnyIn_ready (rs := [4]) (by kernel_rfl) (by simp) ?_
      refine AllReadyIn.cons rfl (fun K hK => ?_) (AllReadyIn.nil)
      have hrow4 : (X1.alloc (.cells #[.func (.func 132) #[] #[.pointer (some ⟨bx, 0, none⟩)]] 130)).ownsRow (N + 2) 130 1 v vs.length vs := (HROWY.out.kept (grown_of_below HB1.out) (by cases v.ownBlock <;> simp)).alloc _
      have hbx4 : Boxed (X1.alloc (.cells #[.func (.func 132) #[] #[.pointer (some ⟨bx, 0, none⟩)]] 130)) N 91 v := HBX1.out.alloc _
      have hc1 : ∀ j u, [Value.func (.func 132) #[] #[.pointer (some ⟨bx, 0, none⟩)]][j]? = some u → (X1.alloc (.cells #[.func (.func 132) #[] #[.pointer (some ⟨bx, 0, none⟩)]] 130)).cell? ((⟨X1.heap.size, 0, none⟩ : Addr).add j) = some u := cell_one_new X1 _ _
      refine wpIn_append_op _ _ _ 91 rfl (N + 2) 130 i0 .nilFunc 1 8 Try.underlying91 hi0 hz0 hz1 hz2 rfl (by decide) v vs.length _ rfl hrow4 ⟨X1.heap.size, 0, none⟩ 1 1 [.func (.func 132) #[] #[.pointer (some ⟨bx, 0, none⟩)]] rfl rfl hc1 (fun u hu => by simp at hu; subst hu; rfl) (by unfold maxLen; omega) (by omega) (by show N + 2 ≤ (X1.alloc _).heap.size; simp; omega) ?_
      intro v' w' r1 r2 _
      obtain ⟨g', cap', rfl⟩ := ownsRow_succ r1
      refine hK _ _ ?_
      clear hK K
      have hbx' : Boxed w' N 91 v := hbx4.kept r2 (hbx4.not_row (by decide) hrow4)
      have hbc' := hbx'.cell
      have hfr' := hbx'.frozen
      have Hr1 := Lib.hid r1
      have Hr2 := Lib.hid r2
      have Hhbx' := Lib.hid hbx'
      clear r1 r2 hbx' hrow4 hbx4 hc1
      refine wpAnyIn_ready (rs := [5]) (by kernel_rfl) (by simp) ?_
      refine AllReadyIn.cons rfl (fun K hK => ?_) (AllReadyIn.nil)
      go_simp
      refine hK _ _ ?_
      clear hK K
      refine wpAnyIn_done (by kernel_rfl) ?_ _
      gi_wp2
      exact acts_round HGX.out hblX.out (by omega) hsX HBX2.out hwN HVL.out HBY.out HROWY.out hvY.out HAct.out HB1.out Hr1.out Hr2.out
    · skip
      go_simp
      refine hK _ _ ?_
      clear hK K
      refine wpAnyIn_ready (rs := [0, 2]) (by kernel_rfl) (by simp) ?_
      refine AllReadyIn.cons rfl (fun K hK => ?_) (AllReadyIn.cons rfl (fun K hK => ?_) (AllReadyIn.nil))
      · skip
        go_simp
        refine hK _ _ ?_
        clear hK K
        refine wpAnyIn_ready (rs := [2]) (by kernel_rfl) (by simp) ?_
        refine AllReadyIn.cons rfl (fun K hK => ?_) (AllReadyIn.nil)
        go_simp
        gi_wp2_with (refine ⟨trivial, ?_⟩; gi_at_call 114; refine (CallsIn.inRound l (callsIn_wide.2 (HA.out _))).mono ?_; rintro e X1 ⟨_, rfl, ⟨bx, gi, rfl, ha1, ha2⟩, hb1⟩; have hbX1 : Boxed X1 N 91 v := (hb1.block _ HBY.out.lt).trans HBY.out; have hbc1 := hbX1.cell; have hfr1 := hbX1.frozen; have hbc2 := (hbX1.alloc (.cells #[.func (.func 132) #[] #[.pointer (some ⟨bx, 0, none⟩)]] 130)).cell; have hfr2 := (hbX1.alloc (.cells #[.func (.func 132) #[] #[.pointer (some ⟨bx, 0, none⟩)]] 130)).frozen; have HBX1 := Lib.hid hbX1; have HAct := Lib.hid (show ActY X1 (.func (.func 132) #[] #[.pointer (some ⟨bx, 0, none⟩)]) x from ⟨bx, gi, rfl, ha1, ha2⟩); have HB1 := Lib.hid hb1; have hs1 := hb1.size; clear hbX1 ha1 ha2 hb1)
        refine wpAnyIn_ready (rs := [3]) (by kernel_rfl) (by simp) ?_
        refine AllReadyIn.cons rfl (fun K hK => ?_) (AllReadyIn.nil)
        go_simp
        refine hK _ _ ?_
        clear hK K
        refine wpAnyIn_ready (rs := [4]) (by kernel_rfl) (by simp) ?_
        refine AllReadyIn.cons rfl (fun K hK => ?_) (AllReadyIn.nil)
        have hrow4 : (X1.alloc (.cells #[.func (.func 132) #[] #[.pointer (some ⟨bx, 0, none⟩)]] 130)).ownsRow (N + 2) 130 1 v vs.length vs := (HROWY.out.kept (grown_of_below HB1.out) (by cases v.ownBlock <;> simp)).alloc _
        have hbx4 : Boxed (X1.alloc (.cells #[.func (.func 132) #[] #[.pointer (some ⟨bx, 0, none⟩)]] 130)) N 91 v := HBX1.out.alloc _
        have hc1 : ∀ j u, [Value.func (.func 132) #[] #[.pointer (some ⟨bx, 0, none⟩)]][j]? = some u → (X1.alloc (.cells #[.func (.func 132) #[] #[.pointer (some ⟨bx, 0, none⟩)]] 130)).cell? ((⟨X1.heap.size, 0, none⟩ : Addr).add j) = some u := cell_one_new X1 _ _
        refine wpIn_append_op _ _ _ 91 rfl (N + 2) 130 i0 .nilFunc 1 8 Try.underlying91 hi0 hz0 hz1 hz2 rfl (by decide) v vs.length _ rfl hrow4 ⟨X1.heap.size, 0, none⟩ 1 1 [.func (.func 132) #[] #[.pointer (some ⟨bx, 0, none⟩)]] rfl rfl hc1 (fun u hu => by simp at hu; subst hu; rfl) (by unfold maxLen; omega) (by omega) (by show N + 2 ≤ (X1.alloc _).heap.size; simp; omega) ?_
        intro v' w' r1 r2 _
        obtain ⟨g', cap', rfl⟩ := ownsRow_succ r1
        refine hK _ _ ?_
        clear hK K
        have hbx' : Boxed w' N 91 v := hbx4.kept r2 (hbx4.not_row (by decide) hrow4)
        have hbc' := hbx'.cell
        have hfr' := hbx'.frozen
        have Hr1 := Lib.hid r1
        have Hr2 := Lib.hid r2
        have Hhbx' := Lib.hid hbx'
        clear r1 r2 hbx' hrow4 hbx4 hc1
        refine wpAnyIn_ready (rs := [5]) (by kernel_rfl) (by simp) ?_
        refine AllReadyIn.cons rfl (fun K hK => ?_) (AllReadyIn.nil)
        go_simp
        refine hK _ _ ?_
        clear hK K
        refine wpAnyIn_done (by kernel_rfl) ?_ _
        gi_wp2
        exact acts_round HGX.out hblX.out (by omega) hsX HBX2.out hwN HVL.out HBY.out HROWY.out hvY.out HAct.out HB1.out Hr1.out Hr2.out
      · skip
        go_simp
        gi_wp2_with (refine ⟨trivial, ?_⟩; gi_at_call 114; refine (CallsIn.inRound l (callsIn_wide.2 (HA.out _))).mono ?_; rintro e X1 ⟨_, rfl, ⟨bx, gi, rfl, ha1, ha2⟩, hb1⟩; have hbX1 : Boxed X1 N 91 v := (hb1.block _ HBY.out.lt).trans HBY.out; have hbc1 := hbX1.cell; have hfr1 := hbX1.frozen; have hbc2 := (hbX1.alloc (.cells #[.func (.func 132) #[] #[.pointer (some ⟨bx, 0, none⟩)]] 130)).cell; have hfr2 := (hbX1.alloc (.cells #[.func (.func 132) #[] #[.pointer (some ⟨bx, 0, none⟩)]] 130)).frozen; have HBX1 := Lib.hid hbX1; have HAct := Lib.hid (show ActY X1 (.func (.func 132) #[] #[.pointer (some ⟨bx, 0, none⟩)]) x from ⟨bx, gi, rfl, ha1, ha2⟩); have HB1 := Lib.hid hb1; have hs1 := hb1.size; clear hbX1 ha1 ha2 hb1)
        refine wpAnyIn_ready (rs := [0, 3]) (by kernel_rfl) (by simp) ?_
        refine AllReadyIn.cons rfl (fun K hK => ?_) (AllReadyIn.cons rfl (fun K hK => ?_) (AllReadyIn.nil))
        · skip
          go_simp
          refine hK _ _ ?_
          clear hK K
          refine wpAnyIn_ready (rs := [3]) (by kernel_rfl) (by simp) ?_
          refine AllReadyIn.cons rfl (fun K hK => ?_) (AllReadyIn.nil)
          go_simp
          refine hK _ _ ?_
          clear hK K
          refine wpAnyIn_ready (rs := [4]) (by kernel_rfl) (by simp) ?_
          refine AllReadyIn.cons rfl (fun K hK => ?_) (AllReadyIn.nil)
          have hrow4 : (X1.alloc (.cells #[.func (.func 132) #[] #[.pointer (some ⟨bx, 0, none⟩)]] 130)).ownsRow (N + 2) 130 1 v vs.length vs := (HROWY.out.kept (grown_of_below HB1.out) (by cases v.ownBlock <;> simp)).alloc _
          have hbx4 : Boxed (X1.alloc (.cells #[.func (.func 132) #[] #[.pointer (some ⟨bx, 0, none⟩)]] 130)) N 91 v := HBX1.out.alloc _
          have hc1 : ∀ j u, [Value.func (.func 132) #[] #[.pointer (some ⟨bx, 0, none⟩)]][j]? = some u → (X1.alloc (.cells #[.func (.func 132) #[] #[.pointer (some ⟨bx, 0, none⟩)]] 130)).cell? ((⟨X1.heap.size, 0, none⟩ : Addr).add j) = some u := cell_one_new X1 _ _
          refine wpIn_append_op _ _ _ 91 rfl (N + 2) 130 i0 .nilFunc 1 8 Try.underlying91 hi0 hz0 hz1 hz2 rfl (by decide) v vs.length _ rfl hrow4 ⟨X1.heap.size, 0, none⟩ 1 1 [.func (.func 132) #[] #[.pointer (some ⟨bx, 0, none⟩)]] rfl rfl hc1 (fun u hu => by simp at hu; subst hu; rfl) (by unfold maxLen; omega) (by omega) (by show N + 2 ≤ (X1.alloc _).heap.size; simp; omega) ?_
          intro v' w' r1 r2 _
          obtain ⟨g', cap', rfl⟩ := ownsRow_succ r1
          refine hK _ _ ?_
          clear hK K
          have hbx' : Boxed w' N 91 v := hbx4.kept r2 (hbx4.not_row (by decide) hrow4)
          have hbc' := hbx'.cell
          have hfr' := hbx'.frozen
          have Hr1 := Lib.hid r1
          have Hr2 := Lib.hid r2
          have Hhbx' := Lib.hid hbx'
          clear r1 r2 hbx' hrow4 hbx4 hc1
          refine wpAnyIn_ready (rs := [5]) (by kernel_rfl) (by simp) ?_
          refine AllReadyIn.cons rfl (fun K hK => ?_) (AllReadyIn.nil)
          go_simp
          refine hK _ _ ?_
          clear hK K
          refine wpAnyIn_done (by kernel_rfl) ?_ _
          gi_wp2
          exact acts_round HGX.out hblX.out (by omega) hsX HBX2.out hwN HVL.out HBY.out HROWY.out hvY.out HAct.out HB1.out Hr1.out Hr2.out
        · skip
          go_simp
          refine hK _ _ ?_
          clear hK K
          refine wpAnyIn_ready (rs := [0]) (by kernel_rfl) (by simp) ?_
          refine AllReadyIn.cons rfl (fun K hK => ?_) (AllReadyIn.nil)
          go_simp
          refine hK _ _ ?_
          clear hK K
          refine wpAnyIn_ready (rs := [4]) (by kernel_rfl) (by simp) ?_
          refine AllReadyIn.cons rfl (fun K hK => ?_) (AllReadyIn.nil)
          have hrow4 : (X1.alloc (.cells #[.func (.func 132) #[] #[.pointer (some ⟨bx, 0, none⟩)]] 130)).ownsRow (N + 2) 130 1 v vs.length vs := (HROWY.out.kept (grown_of_below HB1.out) (by cases v.ownBlock <;> simp)).alloc _
          have hbx4 : Boxed (X1.alloc (.cells #[.func (.func 132) #[] #[.pointer (some ⟨bx, 0, none⟩)]] 130)) N 91 v := HBX1.out.alloc _
          have hc1 : ∀ j u, [Value.func (.func 132) #[] #[.pointer (some ⟨bx, 0, none⟩)]][j]? = some u → (X1.alloc (.cells #[.func (.func 132) #[] #[.pointer (some ⟨bx, 0, none⟩)]] 130)).cell? ((⟨X1.heap.size, 0, none⟩ : Addr).add j) = some u := cell_one_new X1 _ _
          refine wpIn_append_op _ _ _ 91 rfl (N + 2) 130 i0 .nilFunc 1 8 Try.underlying91 hi0 hz0 hz1 hz2 rfl (by decide) v vs.length _ rfl hrow4 ⟨X1.heap.size, 0, none⟩ 1 1 [.func (.func 132) #[] #[.pointer (some ⟨bx, 0, none⟩)]] rfl rfl hc1 (fun u hu => by simp at hu; subst hu; rfl) (by unfold maxLen; omega) (by omega) (by show N + 2 ≤ (X1.alloc _).heap.size; simp; omega) ?_
          intro v' w' r1 r2 _
          obtain ⟨g', cap', rfl⟩ := ownsRow_succ r1
          refine hK _ _ ?_
          clear hK K
          have hbx' : Boxed w' N 91 v := hbx4.kept r2 (hbx4.not_row (by decide) hrow4)
          have hbc' := hbx'.cell
          have hfr' := hbx'.frozen
          have Hr1 := Lib.hid r1
          have Hr2 := Lib.hid r2
          have Hhbx' := Lib.hid hbx'
          clear r1 r2 hbx' hrow4 hbx4 hc1
          refine wpAnyIn_ready (rs := [5]) (by kernel_rfl) (by simp) ?_
          refine AllReadyIn.cons rfl (fun K hK => ?_) (AllReadyIn.nil)
          go_simp
          refine hK _ _ ?_
          clear hK K
          refine wpAnyIn_done (by kernel_rfl) ?_ _
          gi_wp2
          exact acts_round HGX.out hblX.out (by omega) hsX HBX2.out hwN HVL.out HBY.out HROWY.out hvY.out HAct.out HB1.out Hr1.out Hr2.out
  case done =>
    rintro D X hD ⟨hA, hB, hXs⟩ hK
    obtain ⟨vs, hvl, ⟨v, hbx, hrow, _⟩, hvs⟩ := hA
    have hgD := grownBy_putObj' X D (.deferred none)
    have hrow' := hrow.kept hgD (by
      cases e : v.ownBlock with
      | none => exact .inl rfl
      | some j =>
        refine .inr fun e2 => ?_
        cases e2
        obtain ⟨⟨c, f, h⟩, _⟩ := typed_own hrow e
        rw [hK] at h; cases h)
    have HVS := Lib.hid (fun j hj => (hvs j hj).kept hgD (spares_noncell (fun r e => by cases e; exact ⟨_, hK, rfl⟩)))
    have HROW := Lib.hid hrow'
    have HK := Lib.hid hK
    have hbc := hbx.cell
    clear hbx hrow hvs hrow' hgD
    gi_wp2
    all_goals
      refine ⟨by simp, .inl ⟨_, _, rfl, run_takeDeferred HK.out, ?_⟩⟩
      exact ⟨v, by simp [results, Try.f79, go_sem], v, vs, rfl, hvl, ownsRow_base HROW.out (by omega), HVS.out, hB.trans (belowK_b (w := w) (Nat.le_refl _) X D _ _ (by omega) HK.out rfl rfl)⟩

end Go.Proofs.Ytaaeiogdhmiaaaa

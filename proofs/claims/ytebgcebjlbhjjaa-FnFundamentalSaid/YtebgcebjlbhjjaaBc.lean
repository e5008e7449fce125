/- What the laws' proofs stand on, part 3 of 4. -/
import Derived.IntWalk
import Derived.Shelf.SlSortCmp.WholeK
import Derived.Shelf.SlSortCmp.NoneTotal
import Derived.Laws.EntriesVeiled
import Derived.Deep.AppendLies
import Derived.Deep.RegionLaw
import Derived.Deep.RegionWith
import Derived.Lib.SliceRun
import Derived.Test.YtebgcebjlbhjjaaBa
import Derived.Test.YtebgcebjlbhjjaaBb

/- The contract of the program's 'WordSums'. -/

namespace Go.Proofs.Ytebgcebjlbhjjaa
open Go.RowKit Go.Shelf

attribute [local go_sem] Oper.semAt_some

theorem idx_tab : ((List.range 256).all fun n => !(decide ((97 ≤ n ∧ n ≤ 100) ∨ (65 ≤ n ∧ n ≤ 68))) || (decide (bits BinOp.or IntKind.u8 (n : Int) 32 = ((if 97 ≤ n then n - 97 else n - 65 : Nat) : Int) + 97) && decide (bits BinOp.and IntKind.u8 (n : Int) 32 = if 97 ≤ n then 32 else 0))) = true := by kernel_rfl
theorem idx_let (c : UInt8) (h : letB c = true) : bits BinOp.or IntKind.u8 (c.toNat : Int) 32 = (idxB c : Int) + 97 ∧ bits BinOp.and IntKind.u8 (c.toNat : Int) 32 = if 97 ≤ c.toNat then 32 else 0 := by
  have := List.all_eq_true.1 idx_tab c.toNat (List.mem_range.2 c.toNat_lt)
  simp only [Bool.or_eq_true, Bool.and_eq_true, Bool.not_eq_true', decide_eq_false_iff_not, decide_eq_true_eq] at this
  exact this.resolve_left (fun h2 => h2 ((letB_iff c).1 h))

theorem iIndex_any (c : UInt8) (w : World) (h : letB c = true) :
    Calls Try.prog 82 #[.int .u8 (c.toNat : Int)] w fun e w' => e = .returned (.int .i64 (idxB c : Int)) ∧ w' = w := by
  have hb := (idx_let c h).1
  have hj := idxB_lt c h
  obtain ⟨j, hje⟩ : ∃ j, idxB c = j := ⟨_, rfl⟩
  rw [hje] at hb hj ⊢
  clear hje h
  go_enter Try.func82, Try.ntmps82
  go_wp2
  go_ret
  exact ⟨rfl, rfl⟩

theorem iSign_any (c : UInt8) (w : World) (h : letB c = true) :
    Calls Try.prog 83 #[.int .u8 (c.toNat : Int)] w fun e w' => e = .returned (.int .i64 (sgnB c)) ∧ w' = w := by
  have hb := (idx_let c h).2
  by_cases h97 : 97 ≤ c.toNat
  · rw [if_pos h97] at hb
    have hs : Hid (sgnB c = 1) := by unfold sgnB; rw [if_pos h97]; exact Lib.hid rfl
    clear h h97
    go_enter Try.func83, Try.ntmps83
    go_wp2
    go_ret
    exact ⟨ret_int hs.out.symm, rfl⟩
  · rw [if_neg h97] at hb
    have hs : Hid (sgnB c = -1) := by unfold sgnB; rw [if_neg h97]; exact Lib.hid rfl
    clear h h97
    go_enter Try.func83, Try.ntmps83
    go_wp2
    go_ret
    exact ⟨ret_int hs.out.symm, rfl⟩

set_option maxRecDepth 100000 in
set_option maxHeartbeats 2000000 in
theorem iWordSums_in (n : Nat) (hn : 40 ≤ n) (s : ByteArray) (w : World) (h : wordB s.data.toList = true) :
    CallsIn Fence.wide n Try.prog 40 #[.string s] w fun e w' => ∃ v, e = .returned (.tuple #[v, .bool true]) ∧ IntRow w.heap.size w' v (sumsL s.data.toList) ∧ Below w.heap.size w w' := by
  obtain ⟨h1, h2, _⟩ := (wordB_iff _).1 h
  have hs : s.size ≤ 60 := by simpa using h1
  have H := Lib.hid h
  have H2 := Lib.hid h2
  clear h h1 h2
  have hmk : ∀ w, (Instr.makeSlice 44 (.int .i64 4) (.int .i64 4)).run Try.prog w = .ok (.slice (some ⟨w.heap.size, 0, none⟩) 4 4) (w.alloc (.cells #[.int .i64 0, .int .i64 0, .int .i64 0, .int .i64 0] 3)) := fun _ => by kernel_rfl
  refine callsIn_of_wp_marks Try.func40 rfl trivial ?_ rfl
  simp only [Try.ntmps40, List.size_toArray, List.length_cons, List.length_nil, Nat.reduceAdd, Nat.reduceSub, Array.replicate_succ, Array.replicate_zero, List.push_toArray, List.append_toArray, List.nil_append, List.cons_append]
  gi_wp2_with fail
  refine ⟨trivial, fun _ => by omega, ?_⟩
  refine (callsIn_wide.2 (wordOf_yes s _ H.out)).mono ?_
  rintro e w1 ⟨g0, cap0, rfl, hown, hb1⟩
  have hw := Lib.hid (isWord_of_owns (n₀ := w1.heap.size) (l := s.data.toList) (by simp) (by omega) hown (Nat.le_refl _))
  clear hown
  gi_wp2_with fail
  refine ⟨trivial, fun _ => by omega, ?_⟩
  refine (callsIn_wide.2 (letters_fwd _ _ _ 1 _ (by decide))).mono ?_
  rintro e w2 ⟨rfl, rfl⟩
  have hrow : (w1.alloc (.cells #[.int .i64 0, .int .i64 0, .int .i64 0, .int .i64 0] 3)).ownsRow w1.heap.size 3 1 (.slice (some ⟨w1.heap.size, 0, none⟩) 4 4) 4 (intsV (sumsL [])) :=
    ⟨rfl, .inr ⟨_, 4, #[.int .i64 0, .int .i64 0, .int .i64 0, .int .i64 0], rfl, Nat.le_refl _, heap_alloc_new w1 _, Nat.le_refl _, by decide, rfl, rfl⟩⟩
  have hrow2 := (hrow.alloc (.cells #[.slice (some ⟨w1.heap.size, 0, none⟩) 4 4] 44)).alloc (.cells #[.slice (some ⟨g0, 0, none⟩) s.size cap0] WT)
  have hbx := (Boxed.new (w1.alloc (.cells #[.int .i64 0, .int .i64 0, .int .i64 0, .int .i64 0] 3)) 44 (.slice (some ⟨w1.heap.size, 0, none⟩) 4 4)).alloc (.cells #[.slice (some ⟨g0, 0, none⟩) s.size cap0] WT)
  have hbi := Boxed.new ((w1.alloc (.cells #[.int .i64 0, .int .i64 0, .int .i64 0, .int .i64 0] 3)).alloc (.cells #[.slice (some ⟨w1.heap.size, 0, none⟩) 4 4] 44)) WT (.slice (some ⟨g0, 0, none⟩) s.size cap0)
  have hBv : Below w1.heap.size w1 (((w1.alloc (.cells #[.int .i64 0, .int .i64 0, .int .i64 0, .int .i64 0] 3)).alloc (.cells #[.slice (some ⟨w1.heap.size, 0, none⟩) 4 4] 44)).alloc (.cells #[.slice (some ⟨g0, 0, none⟩) s.size cap0] WT)) := (((Below.refl _ w1).alloc (Nat.le_refl _) _).alloc (by simp) _).alloc (by simp; omega) _
  have hsz : (((w1.alloc (.cells #[.int .i64 0, .int .i64 0, .int .i64 0, .int .i64 0] 3)).alloc (.cells #[.slice (some ⟨w1.heap.size, 0, none⟩) 4 4] 44)).alloc (.cells #[.slice (some ⟨g0, 0, none⟩) s.size cap0] WT)).heap.size = w1.heap.size + 3 := by simp
  simp only [World.size_alloc] at hbx hbi ⊢
  generalize (((w1.alloc (.cells #[.int .i64 0, .int .i64 0, .int .i64 0, .int .i64 0] 3)).alloc (.cells #[.slice (some ⟨w1.heap.size, 0, none⟩) 4 4] 44)).alloc (.cells #[.slice (some ⟨g0, 0, none⟩) s.size cap0] WT)) = V at hrow2 hbx hbi hBv hsz ⊢
  have hwV : IsWord w1.heap.size V (.slice (some ⟨g0, 0, none⟩) s.size cap0) s.data.toList := hw.out.below hBv
  have HBI := Lib.hid hbi
  have HBX := Lib.hid hbx
  have HR2 := Lib.hid hrow2
  have HWV := Lib.hid hwV
  clear hrow hrow2 hbx hbi hwV hmk
  gi_wp2_with fail
  refine range_letters (by omega) (gf := 118) (lb := #[.pointer (some ⟨w1.heap.size + 1 + 1, 0, none⟩)]) rfl (enters_of Try.func118 (by kernel_rfl) rfl)
    (n₀ := w1.heap.size) (B := w1.heap.size) (xs := s.data.toList) (values_seq s.data.toList _ V (w1.heap.size + 1 + 1) w1.heap.size (by omega) (by omega) HBI.out.cell HWV.out) (by omega) (Nat.le_refl _) (by omega)
    (fun pre X => (∃ v, Boxed X (w1.heap.size + 1) 44 v ∧ X.ownsRow w1.heap.size 3 1 v 4 (intsV (sumsL pre)) ∧ v = .slice (some ⟨w1.heap.size, 0, none⟩) 4 4) ∧ Below w1.heap.size w1 X)
    (OwnFrom.and (Own.from (holdsRow_own w1.heap.size (w1.heap.size + 1) 44 3 1 (fun _ => 4) (fun pre => intsV (sumsL pre)) (fun _ v => v = .slice (some ⟨w1.heap.size, 0, none⟩) 4 4)) _) (ownFrom_below (Nat.le_refl _) (by omega)))
    ⟨⟨_, HBX.out, HR2.out, rfl⟩, hBv⟩
    (fun x => { tmps := #[.string s, undef, .slice none 0 0, .bool false, .slice (some ⟨g0, 0, none⟩) s.size cap0, .bool true, .pointer (some ⟨w1.heap.size + 1, 0, none⟩), .int .u8 (x.toNat : Int), .tuple #[.slice (some ⟨g0, 0, none⟩) s.size cap0, .bool true], .string s, .tuple #[.slice (some ⟨g0, 0, none⟩) s.size cap0, .bool true], .slice (some ⟨g0, 0, none⟩) s.size cap0, .bool true, .bool true, .bool false, .slice (some ⟨w1.heap.size, 0, none⟩) 4 4, .slice (some ⟨g0, 0, none⟩) s.size cap0, .func (.func 118) #[] #[.pointer (some ⟨w1.heap.size + 1 + 1, 0, none⟩)], .int .u8 (x.toNat : Int), undef, undef, undef, undef, undef, undef, undef, undef, undef, undef], defers := [] }) ?assign ?body ?done
  case assign =>
    intro l x W K hK
    gi_wp2
    exact hK
  case body =>
    rintro l pre x X ⟨⟨v, hbx, hrow, rfl⟩, hB⟩ hpre
    have hlet : letB x = true := List.all_eq_true.1 H2.out x (prefix_mem hpre)
    have hlp : letL pre = true := letL_of_mem _ _ H2.out (fun c hc => hpre.subset (by simp [hc]))
    have hplen := prefix_len hpre
    rw [show s.data.toList.length = s.size by simp] at hplen
    obtain ⟨hz4, hzb⟩ := sumsL_inv _ hlp
    obtain ⟨j, hj⟩ : ∃ j, idxB x = j := ⟨_, rfl⟩
    have hj4 : j < 4 := by rw [← hj]; exact idxB_lt _ hlet
    obtain ⟨z, hz⟩ : ∃ z, (sumsL pre)[j]'(by omega) = z := ⟨_, rfl⟩
    have hzm := hzb z (by rw [← hz]; exact List.getElem_mem _)
    have hz1' : -(1048576 : Int) ≤ z := by omega
    have hz2' : z ≤ 1048576 := by omega
    have hcl : X.cell? ⟨w1.heap.size, j, none⟩ = some (.int .i64 z) := by
      rw [hrow.cellAt j (by omega), ← hz]
      simp [intsV, hz4, hj4]
    have hfr := hrow.frozenAt j
    have hj4' : (j : Int) < 4 := by omega
    have hbc := hbx.cell
    have hstep : (intsV (sumsL pre)).set j (.int .i64 (z + sgnB x)) = intsV (sumsL (pre ++ [x])) := by
      rw [sumsL_snoc]
      unfold sumsStep intsV
      rw [hj, List.getElem?_eq_getElem (by omega), Option.getD_some, hz, List.map_set]
    have hsg : -1 ≤ sgnB x ∧ sgnB x ≤ 1 := by unfold sgnB; split <;> omega
    obtain ⟨u, hu⟩ : ∃ u, sgnB x = u := ⟨_, rfl⟩
    rw [hu] at hstep hsg
    obtain ⟨hu1, hu2⟩ := hsg
    have HST := Lib.hid hstep
    have HLet := Lib.hid hlet
    have HJ := Lib.hid hj
    have HU := Lib.hid hu
    have HR := Lib.hid hrow
    have HBX' := Lib.hid hbx
    have hd : 1 ≤ n - 1 - 1 := by omega
    have hmx : Try.prog.follows .mixedOrders = true := by kernel_rfl
    have hix : ∀ W, Calls Try.prog 82 #[.int .u8 (x.toNat : Int)] W fun e w' => e = .returned (.int .i64 (j : Int)) ∧ w' = W := fun W => by rw [← hj]; exact iIndex_any x W hlet
    have hsx : ∀ W, Calls Try.prog 83 #[.int .u8 (x.toNat : Int)] W fun e w' => e = .returned (.int .i64 u) ∧ w' = W := fun W => by rw [← hu]; exact iSign_any x W hlet
    have HIX := Lib.hid hix
    have HSX := Lib.hid hsx
    clear hstep hlet hlp hz4 hzb hz hzm hrow hj hu hbx hpre hplen hix hsx
    gi_wp2
    gi_region_with_o (first | (refine ⟨trivial, ?_⟩; gi_at_call 82; refine (CallsIn.inRound l (callsIn_wide.2 (HIX.out _))).mono ?_; rintro e w' ⟨rfl, rfl⟩) | (refine ⟨trivial, ?_⟩; gi_at_call 83; refine (CallsIn.inRound l (callsIn_wide.2 (HSX.out _))).mono ?_; rintro e w' ⟨rfl, rfl⟩))
    all_goals gi_wp2
    all_goals
      have hwrap : IntKind.i64.wrap (z + u) = z + u := IntWalk.i64_in _ (by omega)
      rw [hwrap]
      have hst := HR.out.stored j (.int .i64 (z + u))
      rw [HST.out] at hst
      have hko : KeepsOthers X (X.setCell ⟨w1.heap.size, j, none⟩ (.int .i64 (z + u))).drew := (KeepsOthers.setCell _ _ _).trans (KeepsOthers.drew _)
      exact ⟨hko.from _, ⟨((Below.refl _ X).setCell (p := ⟨w1.heap.size, j, none⟩) (Nat.le_refl _) _).drew, fun k cs t r hk _ hkB => (Below.heap_setCell _ _ _ k hkB).trans hk, hko.from _⟩,
        ⟨_, (Below.heap_setCell X ⟨w1.heap.size, j, none⟩ _ (w1.heap.size + 1) (by show w1.heap.size + 1 ≠ w1.heap.size; omega)).trans HBX'.out, hst.1, rfl⟩, (hB.setCell (p := ⟨w1.heap.size, j, none⟩) (Nat.le_refl _) _).drew⟩
  case done =>
    rintro D X hD ⟨⟨v, hbx, hrow, rfl⟩, hB⟩ hK
    have hbc := hbx.cell
    have HR := Lib.hid hrow
    clear hrow hbx
    gi_wp2
    refine ⟨by simp, .inl ⟨_, _, rfl, run_takeDeferred hK, ?_⟩⟩
    refine ⟨.tuple #[.slice (some ⟨w1.heap.size, 0, none⟩) 4 4, .bool true], by simp [results, Try.f40, go_sem], _, rfl, ?_, hb1.trans ((hB.trans (belowK_b (w := w1) (Nat.le_refl _) X D _ _ (by omega) hK rfl rfl)).mono hb1.size)⟩
    have := ownsRow_base (ownsRow_putObj HR.out (.deferred none) hK rfl) hb1.size
    unfold IntRow
    rw [(sumsL_inv _ H2.out).1]
    exact this

theorem iWordSums_yes (s : ByteArray) (w : World) (h : wordB s.data.toList = true) :
    Calls Try.prog 40 #[.string s] w fun e w' => ∃ v, e = .returned (.tuple #[v, .bool true]) ∧ IntRow w.heap.size w' v (sumsL s.data.toList) ∧ Below w.heap.size w w' :=
  (callsIn_wide (n := 50)).1 (iWordSums_in 50 (by omega) s w h)

theorem iWordSums_no (s : ByteArray) (w : World) (hs : s.size ≤ maxLen) (h : wordB s.data.toList = false) :
    Calls Try.prog 40 #[.string s] w fun e w' => ∃ v, e = .returned (.tuple #[v, .bool false]) ∧ IntRow w.heap.size w' v [] ∧ Below w.heap.size w w' := by
  have H := Lib.hid h
  clear h
  refine (callsIn_wide (n := 50)).1 ?_
  refine callsIn_of_wp_marks Try.func40 rfl trivial ?_ rfl
  simp only [Try.ntmps40, List.size_toArray, List.length_cons, List.length_nil, Nat.reduceAdd, Nat.reduceSub, Array.replicate_succ, Array.replicate_zero, List.push_toArray, List.append_toArray, List.nil_append, List.cons_append]
  gi_wp2_with fail
  refine ⟨trivial, ?_⟩
  refine (callsIn_wide.2 (wordOf_no s _ hs H.out)).mono ?_
  rintro e w1 ⟨rfl, hb1⟩
  gi_wp2_with fail
  exact ⟨.tuple #[.slice none 0 0, .bool false], by simp [results, Try.f40, go_sem], _, rfl, World.ownsRow_nil _ _ _ _, hb1⟩

end Go.Proofs.Ytebgcebjlbhjjaa

/- A law for a region that draws its order, inside a fence, by what stands when some of its operations have come up: each operation is met once, in whatever order they come. -/

namespace Go.Proofs.Ytebgcebjlbhjjaa
open Go.RowKit Go.Shelf

theorem count_set (l : List Bool) : ∀ i, l[i]? = some false → (l.set i true).count false + 1 = l.count false := by
  induction l with
  | nil => intro i h; simp at h
  | cons b r ih =>
    intro i h
    cases i with
    | zero => simp at h; subst h; simp
    | succ i =>
      simp only [List.getElem?_cons_succ] at h
      have := ih i h
      simp only [List.set_cons_succ, List.count_cons]
      omega
theorem listed_false {l : Array Bool} {i : Nat} (h : l.getD i true = false) : l.toList[i]? = some false := by
  rw [Array.getD_eq_getD_getElem?] at h
  rw [Array.getElem?_toList]
  cases e : l[i]? with
  | none => rw [e] at h; cases h
  | some b => rw [e] at h; simp at h; rw [h]

theorem wpAnyIn_inv {F : Fence} {n : Nat} {P : Program} {md : Region.Mode} {ops : Array Oper} {Q : Exit → Act → World → Prop} (Inv : Array Bool → Act → World → Prop)
    (hstep : ∀ listed a w i, Inv listed a w → listed.getD i true = false → (∀ o, ops[i]? = some o → ∀ e ∈ o.after, Region.binds md e = true → listed.getD e.on false = true) → i < ops.size →
      wpOpIn F n P ops Q i (fun a' w' => Inv (listed.setIfInBounds i true) a' w') a w)
    (hdone : ∀ listed a w, Inv listed a w → (∀ i o, ops[i]? = some o → (∀ e ∈ o.after, Region.binds md e = true → listed.getD e.on false = true) → listed.getD i true = true) → Q .normal a w) :
    ∀ (fuel : Nat) (listed : Array Bool) (a : Act) (w : World), listed.toList.count false ≤ fuel → Inv listed a w → wpAnyIn F n P md ops Q fuel listed a w := by
  have hd : ∀ listed a w, Inv listed a w → Region.ready md ops listed = [] → Q .normal a w := fun listed a w hI hr => hdone listed a w hI fun i o ho hall => by
    cases h : listed.getD i true with
    | true => rfl
    | false =>
      have : i ∈ Region.ready md ops listed := mem_ready.2 ⟨h, o, ho, hall⟩
      rw [hr] at this; cases this
  intro fuel
  induction fuel with
  | zero =>
    intro listed a w hc hI
    have hr : Region.ready md ops listed = [] := by
      rw [List.eq_nil_iff_forall_not_mem]
      intro j hj
      have h1 := listed_false (mem_ready.1 hj).1
      have := count_set _ _ h1
      omega
    exact ⟨hr, hd _ _ _ hI hr⟩
  | succ fuel ih =>
    intro listed a w hc hI
    refine ⟨fun h => hd _ _ _ hI h, fun i hi => ?_⟩
    obtain ⟨h1, o, ho, hall⟩ := mem_ready.1 hi
    refine wpOpIn_mono (fun a' w' h => ih _ a' w' ?_ h) (hstep listed a w i hI h1 (fun o' ho' => by rw [ho] at ho'; cases ho'; exact hall) (Array.getElem?_eq_some_iff.1 ho).1)
    have := count_set _ _ (listed_false h1)
    rw [Array.toList_setIfInBounds]
    omega

end Go.Proofs.Ytebgcebjlbhjjaa

/- The contract of the program's 'WordPut'. -/

namespace Go.Proofs.Ytebgcebjlbhjjaa
open Go.RowKit Go.Shelf

attribute [local go_sem] Oper.semAt_some

abbrev FV : Nat := 118

/-- What a round keeps, where the iterator is that of a word. -/
def KeepP (n₀ N : Nat) (W W' : World) : Prop := Below n₀ W W' ∧ KeepsFrom N W W'

/-- The loop's law at the letters of a word, for bodies that write where they will behind what was there. -/
theorem range_values {n : Nat} {g : Operand} {p : Tmp} {assign body : Code} {Q : Exit → Act → World → Prop} {a : Act} {w : World} {Bs : Nat} (hn : 14 ≤ n)
    (hg : a.eval g = .func (.func FV) #[] #[.pointer (some ⟨Bs, 0, none⟩)])
    {n₀ : Nat} {L : List UInt8} {sv : Value} (hBs : Bs < w.heap.size) (hc : w.cell? ⟨Bs, 0, none⟩ = some sv) (hw : IsWord n₀ w sv L) (hn₀ : n₀ ≤ w.heap.size)
    (I : List UInt8 → World → Prop) (hI : OwnFrom w.heap.size I) (h0 : I [] w) (a₁ : UInt8 → Act)
    (hassign : ∀ (l : Nat) (x : UInt8) (W : World) (K : Act → World → Prop), K (a₁ x) W →
      assign.wpIn (Fence.wide.inRound l) (n - 1 - 1) Try.prog (Exit.then K (fun _ _ _ => False)) { tmps := (#[p].zip (encB x)).foldl (fun t (q, v) => t.setIfInBounds q v) a.tmps, defers := [] } W)
    (hbody : ∀ (l : Nat) (pre : List UInt8) (x : UInt8) (W : World), I pre W → pre ++ [x] <+: L →
      body.wpIn (Fence.wide.inRound l) (n - 1 - 1) Try.prog (goesOn w.heap.size (KeepP n₀) I (pre ++ [x]) W) (a₁ x) W)
    (hdone : ∀ (D : Nat) (W : World), w.heap.size ≤ D → I L W → W.heap[D]? = some (.deferred (some [])) → Q .normal { a with defers := { target := .collected D, args := #[] } :: a.defers } W) :
    (Code.rangeFunc g #[p] assign body).wpIn Fence.wide n Try.prog Q a w :=
  range_law (by omega) hg (enters_of Try.func118 (by kernel_rfl) rfl) (fun _ => rfl) (KeepP n₀) (fun h k => ⟨h.1.trans k.1, h.2.trans k.2⟩)
    (fun N W l o o' hl hwl hW ho hwk => ⟨belowK_b hn₀ W l o o' hwl hW ho hwk, KeepsFrom.of_grownBy (grownBy_putObj' W l o') (fun j e => by cases e; exact hl)⟩)
    (fun h => ⟨h.1, keepsFrom_mono h.2 (by omega)⟩)
    (fun l J V hV hlt hJ hY h0 => (values1_in (n - 1) (by omega) l Bs n₀ L sv J (fun _ _ => False) (fun pre x W1 hj hl => (hY pre x W1 hj hl).mono (fun _ _ ⟨a, b, c⟩ => .inl ⟨a, b, c.1⟩)) V
      ((hV.cell (p := ⟨Bs, 0, none⟩) hBs).trans hc) (hw.below (hV.mono hn₀)) h0).mono (by
        rintro e W' ⟨hv, ⟨ys, rfl, hJ'⟩ | ⟨_, _, hf⟩⟩
        · exact ⟨hv, hJ'⟩
        · exact hf.elim)) I hI h0 a₁ hassign hbody hdone

/-- A part's box, and what it gives. -/
def PartAt (N : Nat) (w W : World) (p : Part) : Prop :=
  ∃ B sv L, p.lb = #[.pointer (some ⟨B, 0, none⟩)] ∧ N ≤ B ∧ Boxed W B WT sv ∧ Gives ⟨p.gf, sv, L, p.xs⟩ ∧ IsWord N w sv L
theorem PartAt.own (N : Nat) (w : World) (p : Part) : Own (fun (_ : Unit) W => PartAt N w W p) := by
  rintro s X Y row ⟨B, sv, L, h1, h2, h3, h4⟩ hg hrow
  exact ⟨B, sv, L, h1, h2, boxed_own B WT (fun _ : Unit => sv) () X Y row h3 hg hrow, h4⟩

def funcV (p : Part) : Value := .func (.func p.gf) #[] p.lb
/-- The parts that the loop has gathered. -/
def Gathered (N BP : Nat) (w : World) (img : UInt8 → List UInt8) (pre : List UInt8) (W : World) : Prop :=
  ∃ ps : List Part, ps.length = pre.length ∧ cat ps = (pre.map img).flatten ∧ (∃ v, Boxed W BP 109 v ∧ W.ownsRow N IT 1 v ps.length (ps.map funcV) ∧ True) ∧ ∀ p ∈ ps, PartAt N w W p
theorem Gathered.own (N BP : Nat) (w : World) (img : UInt8 → List UInt8) : Own (Gathered N BP w img) := by
  rintro s X Y row ⟨ps, h1, h2, h3, h4⟩ hg hrow
  exact ⟨ps, h1, h2, holdsRow_own N BP _ IT 1 (fun _ : Unit => ps.length) (fun _ => ps.map funcV) (fun _ _ => True) () X Y row h3 hg hrow, fun p hp => PartAt.own N w p () X Y row (h4 p hp) hg hrow⟩

/-- The letters of a letter's image, as its iterator gives them. -/
def imgX (zs : List ByteArray) (x : UInt8) : List UInt8 := if 97 ≤ x.toNat then (zs.getD (idxB x) ByteArray.empty).data.toList else (zs.getD (idxB x) ByteArray.empty).data.toList.reverse.map invB
/-- All images, one behind the other. -/
def putX (zs : List ByteArray) (L : List UInt8) : List UInt8 := (L.map (imgX zs)).flatten
theorem imgX_len (zs : List ByteArray) (hz : ∀ z ∈ zs, wordB z.data.toList = true) (x : UInt8) : (imgX zs x).length ≤ 60 := by
  have hz' : (zs.getD (idxB x) ByteArray.empty).data.toList.length ≤ 60 := by
    rw [List.getD_eq_getElem?_getD]
    cases h : zs[idxB x]? with
    | none => simp
    | some z => exact ((wordB_iff _).1 (hz z (List.mem_of_getElem? h))).1
  unfold imgX
  split
  · exact hz'
  · rw [List.length_map, List.length_reverse]; exact hz'
theorem putX_len (zs : List ByteArray) (L : List UInt8) (hz : ∀ z ∈ zs, wordB z.data.toList = true) : (putX zs L).length ≤ L.length * 60 := by
  unfold putX
  induction L with
  | nil => simp
  | cons x r ih =>
    rw [List.map_cons, List.flatten_cons, List.length_append, List.length_cons]
    have := imgX_len zs hz x
    omega
theorem imgX_eq (zs : List ByteArray) (hz : ∀ z ∈ zs, wordB z.data.toList = true) (x : UInt8) : imgX zs x = imgL zs x ∧ letL (imgL zs x) = true := by
  have hl : letL (zs.getD (idxB x) ByteArray.empty).data.toList = true := by
    rw [List.getD_eq_getElem?_getD]
    cases h : zs[idxB x]? with
    | none => rfl
    | some z => exact ((wordB_iff _).1 (hz z (List.mem_of_getElem? h))).2.1
  unfold imgX imgL
  by_cases h : 97 ≤ x.toNat
  · rw [if_pos h, if_neg (by omega)]; exact ⟨rfl, hl⟩
  · rw [if_neg h, if_pos (by omega)]; exact ⟨inv_back _ hl, letL_back _ hl⟩
theorem putX_eq (zs : List ByteArray) (L : List UInt8) (hz : ∀ z ∈ zs, wordB z.data.toList = true) : putX zs L = putL zs L ∧ letL (putL zs L) = true := by
  unfold putX putL
  induction L with
  | nil => exact ⟨rfl, rfl⟩
  | cons x r ih =>
    obtain ⟨h1, h2⟩ := imgX_eq zs hz x
    rw [List.map_cons, List.map_cons, List.flatten_cons, List.flatten_cons, h1, ih.1, letL_append, h2, ih.2]
    exact ⟨rfl, rfl⟩
theorem letL_putX (zs : List ByteArray) (L : List UInt8) (hz : ∀ z ∈ zs, wordB z.data.toList = true) : letL (putX zs L) = true := by
  rw [(putX_eq zs L hz).1]; exact (putX_eq zs L hz).2
abbrev LTi : TypeId := 109

theorem infoSeqI : (Try.prog.info? IT).map (fun i => (i.zero, i.size, i.bytes)) = some (some .nilFunc, 1, 8) := by kernel_rfl

/-- An append in whatever place of a region. -/
theorem wpIn_append_op {F : Fence} {n : Nat} {P : Program} (w : World) {o : Oper} {a : Act} {K : Act → World → Prop} {Q : Exit → Act → World → Prop}
    (s x : Operand) (t : TypeId) (hop : o.op = Op.call { callee := Callee.builtin Builtin.append, args := #[s, x], argTypes := #[t, t] })
    (base : Nat) (e : TypeId) (i : TypeInfo) (z : Value) (size bytes : Nat) (h1 : P.underlying t = some (.slice e)) (h2 : P.info? e = some i) (h3 : i.zero = some z) (h4 : i.size = size) (h5 : i.bytes = bytes) (h6 : z.cells.size = size) (h7 : 0 < size)
    (v : Value) (k : Nat) (xs : List Value) (hs : a.eval s = v) (hown : w.ownsRow base e size v k xs) (ad : Addr) (m c : Nat) (news : List Value) (hx : a.eval x = .slice (some ad) m c) (hn : news.length = m * size)
    (hc : ∀ j u, news[j]? = some u → w.cell? (ad.add j) = some u) (h1c : ∀ u ∈ news, u.oneCell' = true) (b1 : k + m ≤ maxLen) (b2 : (k + m) * bytes ≤ 140737488355328) (b3 : base ≤ w.heap.size)
    (hK : ∀ v' w', w'.ownsRow base e size v' (k + m) (xs ++ news) → w.grownBy w' v.ownBlock → True → K (a.put o.dst v') w') : o.wpIn F n P a w K Q := by
  obtain ⟨v', w', hrun, r1, r2, _⟩ := run_append_own (P := P) w base t o.type e i z size bytes h1 h2 h3 h4 h5 h6 h7 v k xs hown ad m c news hn hc h1c b1 b2 b3
  unfold Oper.wpIn
  refine ⟨by simp [Oper.about, hop, resolve, Target.leads, Sem.run_pure], ?_⟩
  rw [Oper.semAt_plain F _ _ (by rw [hop]; intro c hc'; cases hc')]
  simp [execOp, hop, resolve, invoke, builtin, hs, hx, hrun, Result.andThen]
  exact hK v' w' r1 r2 trivial

theorem wordsOf_four (g : Nat) (zs : List ByteArray) (w : World) (hl : zs.length = 4) (hg : g < w.heap.size) (hc : ∀ i (h : i < zs.length), w.cell? ⟨g, i, none⟩ = some (.string zs[i])) (hf : ∀ z ∈ zs, wordB z.data.toList = true) (cap : Nat) :
    Calls Try.prog 84 #[.slice (some ⟨g, 0, none⟩) 4 cap] w fun e w' =>
      ∃ (gi : Nat) (vals : List Value), e = .returned (.tuple #[.slice (some ⟨gi, 0, none⟩) 4 4, .bool true]) ∧ gi < w'.heap.size ∧ (∀ j (h : j < zs.length), ∃ v, w'.cell? ⟨gi, j, none⟩ = some v ∧ vals[j]? = some v ∧ WordAt w.heap.size w' v zs[j].data.toList) ∧ Below w.heap.size w w' := by
  refine (wordsOf_any (some ⟨g, 0, none⟩) g 0 cap 4 zs w hl (by decide) (fun _ => rfl) hg (fun i h => by rw [Nat.zero_add]; exact hc i h) (fun s hs => by have := ((wordB_iff _).1 (hf s hs)).1; simp at this; unfold maxLen; omega)).mono ?_
  rintro e w' ⟨⟨_, s, hs, hb⟩ | ⟨gi, vals, rfl, _, hown, hv⟩, hB⟩
  · rw [hf s hs] at hb; cases hb
  · have hlen := hown.1
    refine ⟨gi, vals, rfl, (ownsRow_cap hown).2.2.2, fun j h => ?_, hB⟩
    have hj : j < vals.length := by omega
    exact ⟨vals[j], by rw [hown.cellAt j (by omega)]; exact List.getElem?_eq_getElem hj, List.getElem?_eq_getElem hj, hv j h _ (List.getElem?_eq_getElem hj)⟩

theorem owns_slice {W : World} {base : Nat} {e : TypeId} {v : Value} {n : Nat} {xs : List Value} (h : W.ownsRow base e 1 v n xs) (h0 : 0 < W.heap.size) :
    ∃ a cap b, v = .slice a n cap ∧ (0 < n → a = some ⟨b, 0, none⟩) ∧ b < W.heap.size ∧ ∀ i (h : i < xs.length), W.cell? ⟨b, i, none⟩ = some xs[i] := by
  have hl := h.1
  rw [Nat.mul_one] at hl
  have hc := fun g cap (e : v = .slice (some ⟨g, 0, none⟩) n cap) => e
  rcases h.2 with ⟨rfl, e⟩ | ⟨g, cap, cur, rfl, e2⟩
  · have e0 : n = 0 := e
    subst e0
    exact ⟨none, 0, 0, rfl, fun h => absurd h (Nat.lt_irrefl _), h0, fun i hi => absurd hi (by omega)⟩
  · refine ⟨_, cap, g, rfl, fun _ => rfl, (ownsRow_cap h).2.2.2, fun i hi => ?_⟩
    rw [h.cellAt i (by omega)]
    exact List.getElem?_eq_getElem hi

/-- Four words in memory. -/
def FourAt (gi : Nat) (lo : Nat) (w : World) (zs : List ByteArray) : Prop :=
  gi < w.heap.size ∧ ∀ j (h : j < zs.length), ∃ v, w.cell? ⟨gi, j, none⟩ = some v ∧ WordAt lo w v zs[j].data.toList
theorem FourAt.below {gi lo : Nat} {w w' : World} {zs : List ByteArray} (h : FourAt gi lo w zs) (hb : Below w.heap.size w w') : FourAt gi lo w' zs :=
  ⟨Nat.lt_of_lt_of_le h.1 hb.size, fun j hj => by
    obtain ⟨v, h1, h2⟩ := h.2 j hj
    exact ⟨v, (hb.cell (p := ⟨gi, j, none⟩) h.1).trans h1, h2.below hb⟩⟩

set_option maxRecDepth 100000 in
set_option maxHeartbeats 4000000 in
theorem wordPut_in (n : Nat) (hn : 40 ≤ n) (g1 k cap1 gi cg lo : Nat) (L : List UInt8) (zs : List ByteArray) (w2 : World) (hk : L.length = k) (hk60 : k ≤ 60) (hL : letL L = true)
    (hw1 : IsWord w2.heap.size w2 (.slice (some ⟨g1, 0, none⟩) k cap1) L) (hz4 : zs.length = 4) (hz : ∀ z ∈ zs, wordB z.data.toList = true) (hvals : FourAt gi lo w2 zs) :
    CallsIn Fence.wide n Try.prog 76 #[.slice (some ⟨g1, 0, none⟩) k cap1, .slice (some ⟨gi, 0, none⟩) 4 cg] w2 fun e w' =>
      ∃ g m cap, e = .returned (.slice (some ⟨g, 0, none⟩) m cap) ∧ (redX [] (L.map (imgX zs)).flatten).length = m ∧ w'.ownsRow w2.heap.size 93 1 (.slice (some ⟨g, 0, none⟩) m cap) m (bytesV (redX [] (L.map (imgX zs)).flatten)) ∧ Below w2.heap.size w2 w' := by
  have hgi := hvals.1
  have H2 := Lib.hid hL
  have HZ := Lib.hid hz
  have HV := Lib.hid hvals.2
  have HKL := Lib.hid hk
  have hw1 := Lib.hid hw1
  clear hL hz hvals hk
  refine callsIn_of_wp_marks Try.func76 rfl trivial ?_ rfl
  simp only [Try.ntmps76, List.size_toArray, List.length_cons, List.length_nil, Nat.reduceAdd, Nat.reduceSub, Array.replicate_succ, Array.replicate_zero, List.push_toArray, List.append_toArray, List.nil_append, List.cons_append]
  gi_wp2_with fail
  refine ⟨trivial, fun _ => by omega, ?_⟩
  refine (callsIn_wide.2 (letters_fwd _ _ _ 1 _ (by decide))).mono ?_
  rintro e w3 ⟨rfl, rfl⟩
  have h8 := ((Boxed.new w2 63 (.slice (some ⟨gi, 0, none⟩) 4 cg)).alloc (.cells #[.slice none 0 0] LTi)).alloc (.cells #[.slice (some ⟨g1, 0, none⟩) k cap1] WT)
  have h9 := (Boxed.new (w2.alloc (.cells #[.slice (some ⟨gi, 0, none⟩) 4 cg] 63)) LTi (.slice none 0 0)).alloc (.cells #[.slice (some ⟨g1, 0, none⟩) k cap1] WT)
  have hb := Boxed.new ((w2.alloc (.cells #[.slice (some ⟨gi, 0, none⟩) 4 cg] 63)).alloc (.cells #[.slice none 0 0] LTi)) WT (.slice (some ⟨g1, 0, none⟩) k cap1)
  have hBv : Below w2.heap.size w2 (((w2.alloc (.cells #[.slice (some ⟨gi, 0, none⟩) 4 cg] 63)).alloc (.cells #[.slice none 0 0] LTi)).alloc (.cells #[.slice (some ⟨g1, 0, none⟩) k cap1] WT)) := (((Below.refl _ w2).alloc (Nat.le_refl _) _).alloc (by simp) _).alloc (by simp; omega) _
  have hsz : (((w2.alloc (.cells #[.slice (some ⟨gi, 0, none⟩) 4 cg] 63)).alloc (.cells #[.slice none 0 0] LTi)).alloc (.cells #[.slice (some ⟨g1, 0, none⟩) k cap1] WT)).heap.size = w2.heap.size + 3 := by simp
  simp only [World.size_alloc] at h9 hb ⊢
  generalize (((w2.alloc (.cells #[.slice (some ⟨gi, 0, none⟩) 4 cg] 63)).alloc (.cells #[.slice none 0 0] LTi)).alloc (.cells #[.slice (some ⟨g1, 0, none⟩) k cap1] WT)) = V at h8 h9 hb hBv hsz ⊢
  have hwV : IsWord w2.heap.size V (.slice (some ⟨g1, 0, none⟩) k cap1) L := hw1.out.below hBv
  have HB8 := Lib.hid h8
  have HB9 := Lib.hid h9
  have HBB := Lib.hid hb
  have HWV := Lib.hid hwV
  clear h8 h9 hb hwV
  gi_wp2_with fail
  refine range_values (by omega) (Bs := w2.heap.size + 1 + 1) rfl (n₀ := w2.heap.size + 1) (L := L) (by omega) HBB.out.cell (HWV.out.mono (by omega)) (by omega)
    (fun pre X => Gathered (w2.heap.size + 1) (w2.heap.size + 1) V (imgX zs) pre X ∧ Below (w2.heap.size + 1) V X)
    (OwnFrom.and (Own.from (Gathered.own _ _ _ _) _) (ownFrom_below (by omega) (by omega)))
    ⟨⟨[], rfl, rfl, ⟨_, HB9.out, ⟨rfl, .inl ⟨rfl, rfl⟩⟩, trivial⟩, fun p h => by cases h⟩, Below.refl _ _⟩
    (fun x => { tmps := #[.slice (some ⟨g1, 0, none⟩) k cap1, .slice (some ⟨gi, 0, none⟩) 4 cg, undef, .pointer (some ⟨w2.heap.size, 0, none⟩), .slice none 0 0, .pointer (some ⟨w2.heap.size + 1, 0, none⟩), .int .u8 (x.toNat : Int), .slice (some ⟨g1, 0, none⟩) k cap1, .func (.func FV) #[] #[.pointer (some ⟨w2.heap.size + 1 + 1, 0, none⟩)], .int .u8 (x.toNat : Int), undef, undef, undef, undef, undef, undef, undef, undef, undef, undef, undef, undef, undef], defers := [] }) ?assign ?body ?done
  case assign =>
    intro l x W K hK
    gi_wp2
    exact hK
  case body =>
    rintro l pre x W ⟨⟨ps, hps, hcat, ⟨pv, hbx, hrow, _⟩, hpa⟩, hB⟩ hpre
    have hlet : letB x = true := List.all_eq_true.1 H2.out x (prefix_mem hpre)
    have hplen := prefix_len hpre
    rw [HKL.out] at hplen
    obtain ⟨j, hj⟩ : ∃ j, idxB x = j := ⟨_, rfl⟩
    have hj4 : j < 4 := by rw [← hj]; exact idxB_lt _ hlet
    obtain ⟨vj, hcv, hWA⟩ := HV.out j (by omega)
    have hcW : W.cell? ⟨gi, j, none⟩ = some vj := ((hB.cell (p := ⟨gi, j, none⟩) (by show gi < _; omega)).trans (hBv.cell (p := ⟨gi, j, none⟩) hgi)).trans hcv
    have hc8 : W.cell? ⟨w2.heap.size, 0, none⟩ = some (.slice (some ⟨gi, 0, none⟩) 4 cg) := (hB.cell (p := ⟨w2.heap.size, 0, none⟩) (by show w2.heap.size < _; omega)).trans HB8.out.cell
    have hc9 := hbx.cell
    have hIW : IsWord (w2.heap.size + 1) V vj (zs[j]'(by omega)).data.toList := (hWA.isWord.below hBv).mono (by omega)
    obtain ⟨gj, cj, rfl⟩ := hWA.slice
    obtain ⟨u, hu⟩ : ∃ u, sgnB x = u := ⟨_, rfl⟩
    obtain ⟨vj, hvj⟩ : ∃ v, Value.slice (some ⟨gj, 0, none⟩) (zs[j]'(by omega)).data.toList.length cj = v := ⟨_, rfl⟩
    obtain ⟨gf, hlt, hgv⟩ : ∃ gf : Nat, (∀ X : World, Calls Try.prog 61 #[vj, .int .i64 u] X fun e X' => e = .returned (.func (.func gf) #[] #[.pointer (some ⟨X.heap.size, 0, none⟩)]) ∧ X' = X.alloc (.cells #[vj] WT)) ∧ Gives ⟨gf, vj, (zs[j]'(by omega)).data.toList, imgX zs x⟩ := by
      have hgd : zs.getD (idxB x) ByteArray.empty = zs[j]'(by omega) := by rw [hj, List.getD_eq_getElem?_getD, List.getElem?_eq_getElem (by omega)]; rfl
      rw [← hvj, ← hu]
      by_cases h97 : 97 ≤ x.toNat
      · refine ⟨FV, fun X => letters_fwd _ _ _ _ X (by unfold sgnB; rw [if_pos h97]; decide), ?_⟩
        have : imgX zs x = (zs[j]'(by omega)).data.toList := by unfold imgX; rw [if_pos h97, hgd]
        rw [this]; exact gives_fwd _ _
      · refine ⟨116, fun X => letters_bwd _ _ _ _ X (by unfold sgnB; rw [if_neg h97]; decide), ?_⟩
        have : imgX zs x = (zs[j]'(by omega)).data.toList.reverse.map invB := by unfold imgX; rw [if_neg h97, hgd]
        rw [this]; exact gives_bwd _ _
    rw [hvj] at hcW hIW
    have hix : ∀ X, Calls Try.prog 82 #[.int .u8 (x.toNat : Int)] X fun e X' => e = .returned (.int .i64 (j : Int)) ∧ X' = X := fun X => by rw [← hj]; exact iIndex_any x X hlet
    have hsx : ∀ X, Calls Try.prog 83 #[.int .u8 (x.toNat : Int)] X fun e X' => e = .returned (.int .i64 u) ∧ X' = X := fun X => by rw [← hu]; exact iSign_any x X hlet
    have HIX := Lib.hid hix
    have HSX := Lib.hid hsx
    have HLT := Lib.hid hlt
    have HGV := Lib.hid hgv
    have HIW := Lib.hid hIW
    have HPA := Lib.hid hpa
    have HROW := Lib.hid hrow
    have HBX := Lib.hid hbx
    have hpl : ps.length ≤ 60 := by omega
    have HK := Lib.hid hps
    have HCAT := Lib.hid hcat
    clear hix hsx hlt hgv hIW hpa hrow hbx hcv hWA hpre hps hcat
    gi_wp2
    refine wpIn_region_any (by kernel_rfl) ?_
    change wpAnyIn _ _ _ _ _ _ _ _ _ (World.drew _)
    obtain ⟨i0, hi0, hz0, hz1, hz2⟩ := info_parts infoSeqI
    obtain ⟨fv, hfv⟩ : ∃ fv, Value.func (.func gf) #[] #[.pointer (some ⟨W.heap.size, 0, none⟩)] = fv := ⟨_, rfl⟩
    obtain ⟨S3, hS3⟩ : ∃ S3 : Value → World → Prop, S3 = fun v X => X.ownsRow (w2.heap.size + 1) IT 1 v (ps.length + 1) (ps.map funcV ++ [fv]) ∧ ((W.drew.alloc (.cells #[vj] WT)).alloc (.cells #[fv] IT)).grownBy X pv.ownBlock := ⟨_, rfl⟩
    refine wpAnyIn_inv (fun listed a X => ∃ (b0 b1 b2 b3 b4 b5 b6 b7 b8 b9 b10 b11 : Bool) (t31 t32 t33 t34 t35 t36 t37 t38 t39 t40 t41 : Value), listed = #[b0, b1, b2, b3, b4, b5, b6, b7, b8, b9, b10, b11] ∧ a = { tmps := #[.slice (some ⟨g1, 0, none⟩) k cap1, .slice (some ⟨gi, 0, none⟩) 4 cg, undef, .pointer (some ⟨w2.heap.size, 0, none⟩), .slice none 0 0, .pointer (some ⟨w2.heap.size + 1, 0, none⟩), .int .u8 (x.toNat : Int), .slice (some ⟨g1, 0, none⟩) k cap1, .func (.func FV) #[] #[.pointer (some ⟨w2.heap.size + 1 + 1, 0, none⟩)], .int .u8 (x.toNat : Int), t31, t32, t33, t34, t35, t36, t37, t38, t39, t40, t41, undef, undef], defers := [] } ∧
      ((b0 = true → t31 = pv) ∧ (b1 = true → t32 = .slice (some ⟨gi, 0, none⟩) 4 cg) ∧ (b2 = true → t33 = .int .u8 (x.toNat : Int)) ∧ (b3 = true → t34 = .int .i64 (j : Int)) ∧ (b4 = true → t35 = .pointer (some ⟨gi, j, none⟩)) ∧ (b5 = true → t36 = vj) ∧ (b6 = true → t37 = .int .u8 (x.toNat : Int)) ∧ (b7 = true → t38 = .int .i64 u) ∧ (b8 = true → t39 = fv) ∧ (b9 = true → t40 = .slice (some ⟨W.heap.size + 1, 0, none⟩) 1 1)) ∧
      ((b3 = true → b2 = true) ∧ (b4 = true → b1 = true ∧ b3 = true) ∧ (b5 = true → b4 = true) ∧ (b7 = true → b6 = true ∧ b3 = true) ∧ (b8 = true → b5 = true ∧ b7 = true) ∧ (b9 = true → b8 = true) ∧ (b10 = true → b9 = true ∧ b0 = true) ∧ (b11 = true → b10 = true)) ∧
      ((b8 = false → X = W.drew) ∧ (b8 = true → b9 = false → X = W.drew.alloc (.cells #[vj] WT)) ∧ (b9 = true → b10 = false → X = (W.drew.alloc (.cells #[vj] WT)).alloc (.cells #[fv] IT)) ∧ (b10 = true → b11 = false → S3 t41 X) ∧ (b11 = true → ∃ X0, S3 t41 X0 ∧ X = X0.setCell ⟨w2.heap.size + 1, 0, none⟩ t41))) ?step ?rdone _ _ _ _ (by decide) ?init
    case init =>
      exact ⟨false, false, false, false, false, false, false, false, false, false, false, false, undef, undef, undef, undef, undef, undef, undef, undef, undef, undef, undef, rfl, rfl, by simp, by simp, by simp⟩
    case step =>
      rintro listed a X i ⟨b0, b1, b2, b3, b4, b5, b6, b7, b8, b9, b10, b11, t31, t32, t33, t34, t35, t36, t37, t38, t39, t40, t41, rfl, rfl, ⟨v0, v1, v2, v3, v4, v5, v6, v7, v8, v9⟩, ⟨c3, c4, c5, c7, c8, c9, c10, c11⟩, ⟨x0, x1, x2, x3, x4⟩⟩ hun hdep hi
      have hi' : i = 0 ∨ i = 1 ∨ i = 2 ∨ i = 3 ∨ i = 4 ∨ i = 5 ∨ i = 6 ∨ i = 7 ∨ i = 8 ∨ i = 9 ∨ i = 10 ∨ i = 11 := by
        have : i < 12 := hi
        omega
      rcases hi' with rfl | rfl | rfl | rfl | rfl | rfl | rfl | rfl | rfl | rfl | rfl | rfl
      · -- 0
        obtain rfl : b0 = false := hun
        have hx : X.cell? ⟨w2.heap.size + 1, 0, none⟩ = some pv := by
          cases b8 with
          | false => rw [x0 rfl]; exact hc9
          | true =>
            cases b9 with
            | false => rw [x1 rfl rfl]; exact cell_past (cell_drawn hc9) _
            | true =>
              cases b10 with
              | false => rw [x2 rfl rfl]; exact cell_past (cell_past (cell_drawn hc9) _) _
              | true => have := (c10 rfl).2; cases this
        refine wpOpIn_step rfl (fun K' hK => ?_)
        go_simp
        refine hK _ _ ⟨true, _, _, _, _, _, _, _, _, _, _, _, _, _, _, _, _, _, _, _, _, _, _, rfl, rfl, ⟨fun _ => rfl, (by first | exact v1 | exact fun _ => rfl), (by first | exact v2 | exact fun _ => rfl), (by first | exact v3 | exact fun _ => rfl), (by first | exact v4 | exact fun _ => rfl), (by first | exact v5 | exact fun _ => rfl), (by first | exact v6 | exact fun _ => rfl), (by first | exact v7 | exact fun _ => rfl), (by first | exact v8 | exact fun _ => rfl), (by first | exact v9 | exact fun _ => rfl)⟩, ⟨c3, c4, c5, c7, c8, c9, fun h => ⟨(c10 h).1, rfl⟩, c11⟩, ⟨x0, x1, x2, x3, x4⟩⟩
      · -- 1
        obtain rfl : b1 = false := hun
        have q8 : b8 = false := by
          cases b8 with
          | false => rfl
          | true => have := (c4 (c5 (c8 rfl).1)).1; cases this
        obtain rfl := x0 q8
        have hx : W.drew.cell? ⟨w2.heap.size, 0, none⟩ = some (.slice (some ⟨gi, 0, none⟩) 4 cg) := hc8
        refine wpOpIn_step rfl (fun K' hK => ?_)
        go_simp
        refine hK _ _ ⟨_, true, _, _, _, _, _, _, _, _, _, _, _, _, _, _, _, _, _, _, _, _, _, rfl, rfl, ⟨(by first | exact v0 | exact fun _ => rfl), fun _ => rfl, (by first | exact v2 | exact fun _ => rfl), (by first | exact v3 | exact fun _ => rfl), (by first | exact v4 | exact fun _ => rfl), (by first | exact v5 | exact fun _ => rfl), (by first | exact v6 | exact fun _ => rfl), (by first | exact v7 | exact fun _ => rfl), (by first | exact v8 | exact fun _ => rfl), (by first | exact v9 | exact fun _ => rfl)⟩, ⟨c3, fun h => ⟨rfl, (c4 h).2⟩, c5, c7, c8, c9, c10, c11⟩, ⟨x0, x1, x2, x3, x4⟩⟩
      · -- 2
        obtain rfl : b2 = false := hun
        refine wpOpIn_step rfl (fun K' hK => ?_)
        go_simp
        refine hK _ _ ⟨_, _, true, _, _, _, _, _, _, _, _, _, _, _, _, _, _, _, _, _, _, _, _, rfl, rfl, ⟨(by first | exact v0 | exact fun _ => rfl), (by first | exact v1 | exact fun _ => rfl), fun _ => rfl, (by first | exact v3 | exact fun _ => rfl), (by first | exact v4 | exact fun _ => rfl), (by first | exact v5 | exact fun _ => rfl), (by first | exact v6 | exact fun _ => rfl), (by first | exact v7 | exact fun _ => rfl), (by first | exact v8 | exact fun _ => rfl), (by first | exact v9 | exact fun _ => rfl)⟩, ⟨fun _ => rfl, c4, c5, c7, c8, c9, c10, c11⟩, ⟨x0, x1, x2, x3, x4⟩⟩
      · -- 3
        obtain rfl : b3 = false := hun
        obtain rfl : b2 = true := hdep _ rfl ⟨2, .data⟩ (by simp) rfl
        obtain rfl := v2 rfl
        refine wpOpIn_step rfl (fun K' hK => ?_)
        go_simp
        refine ⟨trivial, fun _ => by omega, ?_⟩
        refine (CallsIn.inRound l (callsIn_wide.2 (HIX.out _))).mono ?_
        rintro e X' ⟨rfl, rfl⟩
        refine hK _ _ ⟨_, _, _, true, _, _, _, _, _, _, _, _, _, _, _, _, _, _, _, _, _, _, _, rfl, rfl, ⟨(by first | exact v0 | exact fun _ => rfl), (by first | exact v1 | exact fun _ => rfl), (by first | exact v2 | exact fun _ => rfl), fun _ => rfl, (by first | exact v4 | exact fun _ => rfl), (by first | exact v5 | exact fun _ => rfl), (by first | exact v6 | exact fun _ => rfl), (by first | exact v7 | exact fun _ => rfl), (by first | exact v8 | exact fun _ => rfl), (by first | exact v9 | exact fun _ => rfl)⟩, ⟨fun _ => rfl, fun h => ⟨(c4 h).1, rfl⟩, c5, fun h => ⟨(c7 h).1, rfl⟩, c8, c9, c10, c11⟩, ⟨x0, x1, x2, x3, x4⟩⟩
      · -- 4
        obtain rfl : b4 = false := hun
        obtain rfl : b1 = true := hdep _ rfl ⟨1, .data⟩ (by simp) rfl
        obtain rfl : b3 = true := hdep _ rfl ⟨3, .data⟩ (by simp) rfl
        obtain rfl := v1 rfl
        obtain rfl := v3 rfl
        have hj4' : (j : Int) < 4 := by omega
        refine wpOpIn_step rfl (fun K' hK => ?_)
        go_simp
        refine hK _ _ ⟨_, _, _, _, true, _, _, _, _, _, _, _, _, _, _, _, _, _, _, _, _, _, _, rfl, rfl, ⟨(by first | exact v0 | exact fun _ => rfl), (by first | exact v1 | exact fun _ => rfl), (by first | exact v2 | exact fun _ => rfl), (by first | exact v3 | exact fun _ => rfl), fun _ => rfl, (by first | exact v5 | exact fun _ => rfl), (by first | exact v6 | exact fun _ => rfl), (by first | exact v7 | exact fun _ => rfl), (by first | exact v8 | exact fun _ => rfl), (by first | exact v9 | exact fun _ => rfl)⟩, ⟨c3, fun _ => ⟨rfl, rfl⟩, fun _ => rfl, c7, c8, c9, c10, c11⟩, ⟨x0, x1, x2, x3, x4⟩⟩
      · -- 5
        obtain rfl : b5 = false := hun
        obtain rfl : b4 = true := hdep _ rfl ⟨4, .data⟩ (by simp) rfl
        obtain rfl := v4 rfl
        have q8 : b8 = false := by
          cases b8 with
          | false => rfl
          | true => have := (c8 rfl).1; cases this
        obtain rfl := x0 q8
        have hx : W.drew.cell? ⟨gi, j, none⟩ = some vj := hcW
        refine wpOpIn_step rfl (fun K' hK => ?_)
        go_simp
        refine hK _ _ ⟨_, _, _, _, _, true, _, _, _, _, _, _, _, _, _, _, _, _, _, _, _, _, _, rfl, rfl, ⟨(by first | exact v0 | exact fun _ => rfl), (by first | exact v1 | exact fun _ => rfl), (by first | exact v2 | exact fun _ => rfl), (by first | exact v3 | exact fun _ => rfl), (by first | exact v4 | exact fun _ => rfl), fun _ => rfl, (by first | exact v6 | exact fun _ => rfl), (by first | exact v7 | exact fun _ => rfl), (by first | exact v8 | exact fun _ => rfl), (by first | exact v9 | exact fun _ => rfl)⟩, ⟨c3, c4, fun _ => rfl, c7, fun h => ⟨rfl, (c8 h).2⟩, c9, c10, c11⟩, ⟨x0, x1, x2, x3, x4⟩⟩
      · -- 6
        obtain rfl : b6 = false := hun
        refine wpOpIn_step rfl (fun K' hK => ?_)
        go_simp
        refine hK _ _ ⟨_, _, _, _, _, _, true, _, _, _, _, _, _, _, _, _, _, _, _, _, _, _, _, rfl, rfl, ⟨(by first | exact v0 | exact fun _ => rfl), (by first | exact v1 | exact fun _ => rfl), (by first | exact v2 | exact fun _ => rfl), (by first | exact v3 | exact fun _ => rfl), (by first | exact v4 | exact fun _ => rfl), (by first | exact v5 | exact fun _ => rfl), fun _ => rfl, (by first | exact v7 | exact fun _ => rfl), (by first | exact v8 | exact fun _ => rfl), (by first | exact v9 | exact fun _ => rfl)⟩, ⟨c3, c4, c5, fun h => ⟨rfl, (c7 h).2⟩, c8, c9, c10, c11⟩, ⟨x0, x1, x2, x3, x4⟩⟩
      · -- 7
        obtain rfl : b7 = false := hun
        obtain rfl : b6 = true := hdep _ rfl ⟨6, .data⟩ (by simp) rfl
        obtain rfl : b3 = true := hdep _ rfl ⟨3, .chain⟩ (by simp) rfl
        obtain rfl := v6 rfl
        refine wpOpIn_step rfl (fun K' hK => ?_)
        go_simp
        refine ⟨trivial, fun _ => by omega, ?_⟩
        refine (CallsIn.inRound l (callsIn_wide.2 (HSX.out _))).mono ?_
        rintro e X' ⟨rfl, rfl⟩
        refine hK _ _ ⟨_, _, _, _, _, _, _, true, _, _, _, _, _, _, _, _, _, _, _, _, _, _, _, rfl, rfl, ⟨(by first | exact v0 | exact fun _ => rfl), (by first | exact v1 | exact fun _ => rfl), (by first | exact v2 | exact fun _ => rfl), (by first | exact v3 | exact fun _ => rfl), (by first | exact v4 | exact fun _ => rfl), (by first | exact v5 | exact fun _ => rfl), (by first | exact v6 | exact fun _ => rfl), fun _ => rfl, (by first | exact v8 | exact fun _ => rfl), (by first | exact v9 | exact fun _ => rfl)⟩, ⟨c3, c4, c5, fun _ => ⟨rfl, rfl⟩, fun h => ⟨(c8 h).1, rfl⟩, c9, c10, c11⟩, ⟨x0, x1, x2, x3, x4⟩⟩
      · -- 8
        obtain rfl : b8 = false := hun
        obtain rfl : b5 = true := hdep _ rfl ⟨5, .data⟩ (by simp) rfl
        obtain rfl : b7 = true := hdep _ rfl ⟨7, .data⟩ (by simp) rfl
        obtain rfl := v5 rfl
        obtain rfl := v7 rfl
        obtain rfl := x0 rfl
        refine wpOpIn_step rfl (fun K' hK => ?_)
        go_simp
        refine ⟨trivial, fun _ => by omega, ?_⟩
        refine (CallsIn.inRound l (callsIn_wide.2 (HLT.out _))).mono ?_
        rintro e X' ⟨rfl, rfl⟩
        refine hK _ _ ⟨_, _, _, _, _, _, _, _, true, _, _, _, _, _, _, _, _, _, _, _, _, _, _, rfl, rfl, ⟨(by first | exact v0 | exact fun _ => rfl), (by first | exact v1 | exact fun _ => rfl), (by first | exact v2 | exact fun _ => rfl), (by first | exact v3 | exact fun _ => rfl), (by first | exact v4 | exact fun _ => rfl), (by first | exact v5 | exact fun _ => rfl), (by first | exact v6 | exact fun _ => rfl), (by first | exact v7 | exact fun _ => rfl), fun _ => hfv, (by first | exact v9 | exact fun _ => rfl)⟩, ⟨c3, c4, c5, c7, fun _ => ⟨rfl, rfl⟩, fun _ => rfl, c10, c11⟩, ⟨fun h => (by cases h), fun _ _ => rfl, fun h _ => (by have := c9 h; cases this), fun h _ => (by have := c9 (c10 h).1; cases this), fun h => (by have := c9 (c10 (c11 h)).1; cases this)⟩⟩
      · -- 9
        obtain rfl : b9 = false := hun
        obtain rfl : b8 = true := hdep _ rfl ⟨8, .data⟩ (by simp) rfl
        have e39 := v8 rfl
        rw [← hfv] at e39
        subst e39
        have HF := Lib.hid hfv
        have V8 := Lib.hid v8
        clear hfv v8
        obtain rfl := x1 rfl rfl
        refine wpOpIn_step rfl (fun K' hK => ?_)
        go_simp
        refine hK _ _ ⟨_, _, _, _, _, _, _, _, _, true, _, _, _, _, _, _, _, _, _, _, _, _, _, rfl, rfl, ⟨(by first | exact v0 | exact fun _ => rfl), (by first | exact v1 | exact fun _ => rfl), (by first | exact v2 | exact fun _ => rfl), (by first | exact v3 | exact fun _ => rfl), (by first | exact v4 | exact fun _ => rfl), (by first | exact v5 | exact fun _ => rfl), (by first | exact v6 | exact fun _ => rfl), (by first | exact v7 | exact fun _ => rfl), (by first | exact V8.out | exact fun _ => rfl), fun _ => rfl⟩, ⟨c3, c4, c5, c7, c8, fun _ => rfl, fun h => ⟨rfl, (c10 h).2⟩, c11⟩, ⟨fun h => (by cases h), fun _ h => (by cases h), fun _ _ => (by rw [← HF.out]; first | done | rfl), fun h _ => (by have := (c10 h).1; cases this), fun h => (by have := (c10 (c11 h)).1; cases this)⟩⟩
      · -- 10
        obtain rfl : b10 = false := hun
        obtain rfl : b0 = true := hdep _ rfl ⟨0, .data⟩ (by simp) rfl
        obtain rfl : b9 = true := hdep _ rfl ⟨9, .data⟩ (by simp) rfl
        have e31 := v0 rfl
        have e40 := v9 rfl
        subst t31
        subst t40
        obtain rfl := x2 rfl rfl
        have hfo : fv.oneCell' = true := by rw [← hfv]; rfl
        have hd : W.drew.ownsRow (w2.heap.size + 1) IT 1 pv ps.length (ps.map funcV) := HROW.out
        have hcn := cell_one_new (W.drew.alloc (.cells #[vj] WT)) fv IT
        simp only [World.size_alloc] at hcn
        have hws := hB.size
        refine wpOpIn_step rfl (fun K' hK => ?_)
        refine (if_pos (show Region.wanted _ _ = true from rfl)).mpr ?_
        refine wpIn_append_op _ (.tmp 10) (.tmp 19) LTi rfl (w2.heap.size + 1) IT i0 .nilFunc 1 8 Try.underlying109 hi0 hz0 hz1 hz2 rfl (by decide) pv ps.length (ps.map funcV) rfl ((hd.alloc _).alloc _) ⟨W.heap.size + 1, 0, none⟩ 1 1 [fv] rfl rfl hcn (fun u hu => by rw [List.mem_singleton.1 hu]; exact hfo) (by unfold maxLen; omega) (by omega) (by simp only [World.size_alloc]; show _ ≤ W.heap.size + 1 + 1; omega) ?_
        intro v' X' hown' hgr' _
        refine hK _ _ ⟨_, _, _, _, _, _, _, _, _, _, true, _, _, _, _, _, _, _, _, _, _, _, _, rfl, rfl, ⟨(by first | exact v0 | exact fun _ => rfl), (by first | exact v1 | exact fun _ => rfl), (by first | exact v2 | exact fun _ => rfl), (by first | exact v3 | exact fun _ => rfl), (by first | exact v4 | exact fun _ => rfl), (by first | exact v5 | exact fun _ => rfl), (by first | exact v6 | exact fun _ => rfl), (by first | exact v7 | exact fun _ => rfl), (by first | exact v8 | exact fun _ => rfl), (by first | exact v9 | exact fun _ => rfl)⟩, ⟨c3, c4, c5, c7, c8, c9, fun _ => ⟨rfl, rfl⟩, fun _ => rfl⟩, ⟨fun h => (by have := c8 ; exact absurd h (by simp_all)), fun _ h => (by cases h), fun _ h => (by cases h), fun _ _ => (by rw [hS3]; exact ⟨hown', hgr'⟩), fun h => (by have := c11 h; cases this)⟩⟩
      · -- 11
        obtain rfl : b11 = false := hun
        obtain rfl : b10 = true := hdep _ rfl ⟨10, .data⟩ (by simp) rfl
        have h3 := x3 rfl rfl
        have h3' := h3
        rw [hS3] at h3'
        have hbW : Boxed W.drew (w2.heap.size + 1) LTi pv := HBX.out
        have hbX : Boxed X (w2.heap.size + 1) LTi pv := (((hbW.alloc _).alloc _).kept h3'.2 (HBX.out.not_row (by decide) HROW.out))
        obtain ⟨g', cap', rfl⟩ := ownsRow_succ h3'.1
        have hx := hbX.cell
        have hxf := hbX.frozen
        refine wpOpIn_step rfl (fun K' hK => ?_)
        go_simp
        refine hK _ _ ⟨_, _, _, _, _, _, _, _, _, _, _, true, _, _, _, _, _, _, _, _, _, _, _, rfl, rfl, ⟨(by first | exact v0 | exact fun _ => rfl), (by first | exact v1 | exact fun _ => rfl), (by first | exact v2 | exact fun _ => rfl), (by first | exact v3 | exact fun _ => rfl), (by first | exact v4 | exact fun _ => rfl), (by first | exact v5 | exact fun _ => rfl), (by first | exact v6 | exact fun _ => rfl), (by first | exact v7 | exact fun _ => rfl), (by first | exact v8 | exact fun _ => rfl), (by first | exact v9 | exact fun _ => rfl)⟩, ⟨c3, c4, c5, c7, c8, c9, c10, fun _ => rfl⟩, ⟨fun h => (by have h8 := c9 (c10 rfl).1; rw [h] at h8; cases h8), fun _ h => (by have h9 := (c10 rfl).1; rw [h] at h9; cases h9), fun _ h => (by cases h), fun _ h => (by cases h), fun _ => ⟨X, h3, rfl⟩⟩⟩
    case rdone =>
      rintro listed a X ⟨b0, b1, b2, b3, b4, b5, b6, b7, b8, b9, b10, b11, t31, t32, t33, t34, t35, t36, t37, t38, t39, t40, t41, rfl, rfl, -, -, ⟨-, -, -, -, x4⟩⟩ hall
      have q0 : b0 = true := hall 0 _ rfl (fun e he => by simp at he)
      have q1 : b1 = true := hall 1 _ rfl (fun e he => by simp at he)
      have q2 : b2 = true := hall 2 _ rfl (fun e he => by simp at he)
      have q6 : b6 = true := hall 6 _ rfl (fun e he => by simp at he)
      have q3 : b3 = true := hall 3 _ rfl (by
        intro e he _
        simp at he
        rcases he with rfl
        all_goals first | exact q0 | exact q1 | exact q2 | exact q6)
      have q4 : b4 = true := hall 4 _ rfl (by
        intro e he _
        simp at he
        rcases he with rfl | rfl
        all_goals first | exact q0 | exact q1 | exact q2 | exact q6 | exact q3)
      have q5 : b5 = true := hall 5 _ rfl (by
        intro e he _
        simp at he
        rcases he with rfl
        all_goals first | exact q0 | exact q1 | exact q2 | exact q6 | exact q3 | exact q4)
      have q7 : b7 = true := hall 7 _ rfl (by
        intro e he _
        simp at he
        rcases he with rfl | rfl
        all_goals first | exact q0 | exact q1 | exact q2 | exact q6 | exact q3 | exact q4 | exact q5)
      have q8 : b8 = true := hall 8 _ rfl (by
        intro e he _
        simp at he
        rcases he with rfl | rfl | rfl
        all_goals first | exact q0 | exact q1 | exact q2 | exact q6 | exact q3 | exact q4 | exact q5 | exact q7)
      have q9 : b9 = true := hall 9 _ rfl (by
        intro e he _
        simp at he
        rcases he with rfl
        all_goals first | exact q0 | exact q1 | exact q2 | exact q6 | exact q3 | exact q4 | exact q5 | exact q7 | exact q8)
      have q10 : b10 = true := hall 10 _ rfl (by
        intro e he _
        simp at he
        rcases he with rfl | rfl | rfl
        all_goals first | exact q0 | exact q1 | exact q2 | exact q6 | exact q3 | exact q4 | exact q5 | exact q7 | exact q8 | exact q9)
      have q11 : b11 = true := hall 11 _ rfl (by
        intro e he _
        simp at he
        rcases he with rfl | rfl | rfl | rfl | rfl | rfl | rfl | rfl | rfl | rfl | rfl | rfl | rfl
        all_goals first | exact q0 | exact q1 | exact q2 | exact q6 | exact q3 | exact q4 | exact q5 | exact q7 | exact q8 | exact q9 | exact q10)
      obtain ⟨X0, h3, rfl⟩ := x4 q11
      rw [hS3] at h3
      obtain ⟨hown3, hgr3⟩ := h3
      have hws := hB.size
      have hk' : ps.length = pre.length := HK.out
      have hbW : Boxed W.drew (w2.heap.size + 1) LTi pv := HBX.out
      have hnr := HBX.out.not_row (by decide) HROW.out
      have hbX : Boxed X0 (w2.heap.size + 1) LTi pv := ((hbW.alloc _).alloc _).kept hgr3 hnr
      have hb2' : Below (w2.heap.size + 1) W ((W.drew.alloc (.cells #[vj] WT)).alloc (.cells #[fv] IT)) := (((Below.refl _ W).drew.alloc (by show _ ≤ W.heap.size; omega) _).alloc (by simp only [World.size_alloc]; show _ ≤ W.heap.size + 1; omega) _)
      have hrowb : ∀ j, pv.ownBlock = some j → w2.heap.size + 1 ≤ j ∧ ∃ cs r, W.heap[j]? = some (.cells cs IT r) := by
        intro j ej
        rcases HROW.out.2 with ⟨rfl, _⟩ | ⟨g1', cap1', cur1, rfl, hg1, hg2, _⟩
        · cases ej
        · simp [Value.ownBlock] at ej
          subst ej
          exact ⟨hg1, _, _, hg2⟩
      have hbel : Below (w2.heap.size + 1) W (X0.setCell ⟨w2.heap.size + 1, 0, none⟩ t41) := (hb2'.grown hgr3 (by simp only [World.size_alloc]; show _ ≤ W.heap.size + 1 + 1; omega) (fun j ej => (hrowb j ej).1)).setCell (p := ⟨w2.heap.size + 1, 0, none⟩) (Nat.le_refl _) _
      have hko : KeepsOthers W (X0.setCell ⟨w2.heap.size + 1, 0, none⟩ t41) := by
        refine (KeepsOthers.drew W).trans (KeepsOthers.trans ?_ (KeepsOthers.setCell _ _ _))
        refine (KeepsOthers.alloc _ _).trans ((KeepsOthers.alloc _ _).trans (KeepsOthers.of_grownBy hgr3 fun j o ej hj => ?_))
        obtain ⟨hj1, cs, r, hjc⟩ := hrowb j ej
        have hlt : j < W.heap.size := (Array.getElem?_eq_some_iff.1 hjc).1
        rw [Below.heap_alloc _ _ _ (by simp only [World.size_alloc]; show j < W.heap.size + 1; omega), Below.heap_alloc _ _ _ (by show j < W.heap.size; omega)] at hj
        rw [show W.drew.heap[j]? = W.heap[j]? from rfl, hjc] at hj
        cases hj; rfl
      have hgetbox : ∀ (Bx : Nat) (v : Value), Boxed ((W.drew.alloc (.cells #[vj] WT)).alloc (.cells #[fv] IT)) Bx WT v → Bx < W.heap.size + 1 → Boxed (X0.setCell ⟨w2.heap.size + 1, 0, none⟩ t41) Bx WT v := by
        intro Bx v hv hlt
        have hne : Bx ≠ w2.heap.size + 1 := by
          rintro rfl
          have h1 : Boxed ((W.drew.alloc (.cells #[vj] WT)).alloc (.cells #[fv] IT)) (w2.heap.size + 1) LTi pv := (hbW.alloc _).alloc _
          unfold Boxed at h1 hv
          rw [h1] at hv
          cases hv
        have hnb : some Bx ≠ pv.ownBlock := by
          intro e
          obtain ⟨hj1, cs, r, hjc⟩ := hrowb Bx e.symm
          unfold Boxed at hv
          have hlt : Bx < W.heap.size := (Array.getElem?_eq_some_iff.1 hjc).1
          rw [Below.heap_alloc _ _ _ (by simp only [World.size_alloc]; show Bx < W.heap.size + 1; omega), Below.heap_alloc _ _ _ (by show Bx < W.heap.size; omega), show W.drew.heap[Bx]? = W.heap[Bx]? from rfl, hjc] at hv
          cases hv
        exact (hv.kept hgr3 hnb).other hne _
      gi_wp2
      refine ⟨hko.from _, ⟨hbel, hko.from _⟩, ⟨ps ++ [⟨gf, #[.pointer (some ⟨W.heap.size, 0, none⟩)], imgX zs x⟩], by simp [hk'], ?_, ⟨t41, hbX.set _, ?_, trivial⟩, ?_⟩, hB.trans (hbel.mono (by omega))⟩
      · have := HCAT.out
        unfold cat at this ⊢
        simp [this]
      · have := hown3.kept (grownBy_setCell' X0 (w2.heap.size + 1) t41) (.inr (hbX.not_row (by decide) hown3).symm)
        rw [List.map_append, List.length_append]
        rw [← hfv] at this
        exact this
      · intro p hp
        rcases List.mem_append.1 hp with hp | hp
        · obtain ⟨Bx, sv, L, e1, e2, e3, e4, e5⟩ := HPA.out p hp
          refine ⟨Bx, sv, L, e1, e2, hgetbox Bx sv (((show Boxed W.drew Bx WT sv from e3).alloc _).alloc _) ?_, e4, e5⟩
          have := e3.lt
          omega
        · obtain rfl := List.mem_singleton.1 hp
          exact ⟨W.heap.size, vj, _, rfl, by omega, hgetbox W.heap.size vj ((Boxed.new W.drew WT vj).alloc _) (by omega), HGV.out, HIW.out⟩
  case done =>
    rintro D W hD ⟨⟨ps, hps, hcat, ⟨pv, hbx, hrow, _⟩, hpa⟩, hB⟩ hK
    have hWs := hB.size
    have hDlt : D < W.heap.size := (Array.getElem?_eq_some_iff.1 hK).1
    obtain ⟨a, cap0, b, rfl, ha, hb, hc⟩ := owns_slice hrow (by omega)
    have hx := hbx.cell
    have hBW : Below w2.heap.size w2 W := hBv.trans (hB.mono (by omega))
    have hlet : letL (putX zs L) = true := letL_putX zs L HZ.out
    have hcl : (cat ps).length ≤ 60 * 60 := by
      rw [hcat]
      refine Nat.le_trans (putX_len zs L HZ.out) (Nat.mul_le_mul (by rw [HKL.out]; exact hk60) (Nat.le_refl _))
    have hrd := reduced_in (n - 1) (by omega) a b 0 cap0 ps W ha hb
      (fun i h => by rw [Nat.zero_add, hc i (by simpa using h)]; simp [funcV])
      (fun p hp => by
        obtain ⟨B, sv, Lp, e1, e2, e3, e4, e5⟩ := hpa p hp
        refine ⟨?_, e4.2⟩
        have hlb : p.lb = #[.pointer (some ⟨B, 0, none⟩)] := e1
        rw [hlb]
        exact e4.1 W B W.heap.size e3.lt (Nat.le_refl _) e3.cell ((e5.below hB).mono (by omega)))
      (by omega) (by rw [hps, HKL.out]; omega)
    rw [hcat] at hrd
    have HRD := Lib.hid hrd
    have HK := Lib.hid hK
    clear hrd hcat hpa hrow hbx hc ha hK hps
    gi_wp2_with fail
    refine ⟨trivial, fun _ => by omega, ?_⟩
    refine HRD.out.mono ?_
    rintro e w4 ⟨g4, m, cap4, rfl, hm, hown, hb4⟩
    have hK4 : w4.heap[D]? = some (.deferred (some [])) := (hb4.block _ hDlt).trans HK.out
    have Hm := Lib.hid hm
    have HO := Lib.hid hown
    have HK4 := Lib.hid hK4
    clear hm hown hK4
    gi_wp2
    refine ⟨by simp, .inl ⟨_, _, rfl, run_takeDeferred HK4.out, ?_⟩⟩
    refine ⟨.slice (some ⟨g4, 0, none⟩) m cap4, by simp [results, Try.f76, go_sem], g4, m, cap4, rfl, Hm.out, ownsRow_base (ownsRow_putObj HO.out _ HK4.out rfl) (by omega), ?_⟩
    exact (hBW.trans (hb4.mono (by omega))).trans (belowK_b (w := w2) (Nat.le_refl _) w4 D _ _ (by omega) HK4.out rfl rfl)

end Go.Proofs.Ytebgcebjlbhjjaa

/- Commutators, parity, cores and putting, over lists of letters. -/

namespace Go.Proofs.Ytebgcebjlbhjjaa
open Go.RowKit

/-! ### Commutators -/
theorem comm_back {a b : List UInt8} (ha : letL a = true) (hb : letL b = true) : backL (commL a b) = commL b a := by
  unfold commL
  rw [backL_append, backL_append, backL_append, back_back a ha, back_back b hb]
  simp
theorem comm_let {a b : List UInt8} (ha : letL a = true) (hb : letL b = true) : letL (commL a b) = true := by
  unfold commL
  rw [letL_append, letL_append, letL_append, ha, hb, letL_back a ha, letL_back b hb]; rfl
theorem comm_sg (i : Nat) {a b : List UInt8} (ha : letL a = true) (hb : letL b = true) : sgL i (commL a b) = 0 := by
  unfold commL
  rw [sgL_append, sgL_append, sgL_append, sgL_back i a ha, sgL_back i b hb]; omega
/-- A commutator ahead of the product the other way. -/
theorem comm_times {a b : List UInt8} (ha : letL a = true) (hb : letL b = true) : redL [] (commL a b ++ (b ++ a)) = redL [] (a ++ b) := by
  unfold commL
  rw [show a ++ b ++ backL a ++ backL b ++ (b ++ a) = (a ++ b ++ backL a ++ backL b ++ b) ++ a by simp, redL_append, red_inv2 hb, ← redL_append, red_inv2 ha]
theorem sums_comm {a b : List UInt8} (ha : letL a = true) (hb : letL b = true) : sumsL (redL [] (commL a b)) = [0, 0, 0, 0] := by
  have hl := letL_red2 _ [] (comm_let ha hb) rfl
  have h4 := (sumsL_inv _ hl).1
  refine List.ext_getElem (by rw [h4]; rfl) fun i hi hj => ?_
  rw [sums_get _ hl, sgL_red i _ [] (comm_let ha hb), comm_sg i ha hb]
  have hj4 : i < 4 := hj
  rcases (show i = 0 ∨ i = 1 ∨ i = 2 ∨ i = 3 by omega) with rfl | rfl | rfl | rfl <;> rfl
/-! ### Parity -/
theorem step_parity (l : List UInt8) (c : UInt8) : ∃ k, (redStep l c).length + 2 * k = l.length + 1 := by
  unfold redStep
  split
  · refine ⟨1, ?_⟩
    rename_i h
    cases l with
    | nil => simp at h
    | cons a r => simp
  · exact ⟨0, by simp⟩
theorem red_parity : ∀ (s l : List UInt8), ∃ k, (redL l s).length + 2 * k = l.length + s.length
  | [], l => ⟨0, by simp [redL_nil]⟩
  | c :: s, l => by
    obtain ⟨k, hk⟩ := step_parity l c
    obtain ⟨j, hj⟩ := red_parity s (redStep l c)
    refine ⟨k + j, ?_⟩
    have e : redL l (c :: s) = redL (redStep l c) s := rfl
    rw [e, List.length_cons]; omega
/-! ### Cores -/
theorem coreF_core : ∀ (m : Nat) (l : List UInt8), l.length ≤ m → coreC (coreF m l) = false
  | 0, l, h => by
    have : l = [] := List.length_eq_zero_iff.1 (by omega)
    subst this
    rfl
  | m + 1, l, h => by
    rw [coreF]
    split
    · rename_i hc
      have h1 : 1 < l.length := by unfold coreC at hc; simp only [Bool.and_eq_true, decide_eq_true_eq] at hc; exact hc.1
      exact coreF_core m _ (by rw [core_len]; omega)
    · rename_i hc; simpa using hc
theorem core_core (l : List UInt8) : coreL (coreL l) = coreL l := coreF_false (coreF_core l.length l (Nat.le_refl _)) _
theorem core_le (l : List UInt8) : (coreL l).length ≤ l.length := coreF_len _ _
theorem core_ends {l : List UInt8} (hl : letL l = true) (hc : coreC l = true) : ∃ c, letB c = true ∧ l = [turnB c] ++ l.tail.dropLast ++ [c] := by
  have h1 : 1 < l.length := by unfold coreC at hc; simp only [Bool.and_eq_true, decide_eq_true_eq] at hc; exact hc.1
  obtain ⟨p, c, rfl⟩ := last_split l (by omega)
  cases p with
  | nil => simp at h1
  | cons x q =>
    have hx : x = turnB c := by
      unfold coreC at hc
      simp only [Bool.and_eq_true, decide_eq_true_eq] at hc
      have h2 := hc.2
      have e : (x :: q ++ [c]).getLast? = some c := List.getLast?_concat
      rw [e] at h2
      simpa using h2
    refine ⟨c, letL_get _ hl ((x :: q ++ [c]).length - 1) (by simp) |> fun h => by simpa using h, ?_⟩
    subst hx
    simp
theorem coreF_word : ∀ (m : Nat) (l : List UInt8), letL l = true → noC l → letL (coreF m l) = true ∧ noC (coreF m l)
  | 0, l, h1, h2 => ⟨h1, h2⟩
  | m + 1, l, h1, h2 => by
    rw [coreF]
    split
    · rename_i hc
      obtain ⟨c, _, e⟩ := core_ends h1 hc
      refine coreF_word m _ (letL_core l h1) ?_
      rw [e] at h2
      intro p x y q h3
      refine h2 (turnB c :: p) x y (q ++ [c]) ?_
      rw [h3]; simp
    · exact ⟨h1, h2⟩
theorem core_word {l : List UInt8} (h : wordB l = true) : wordB (coreL l) = true := by
  obtain ⟨h1, h2, h3⟩ := (wordB_iff _).1 h
  obtain ⟨h4, h5⟩ := coreF_word l.length l h2 ((red_iff _).1 h3)
  refine (wordB_iff _).2 ⟨by have := core_le l; omega, h4, (red_iff _).2 h5⟩
theorem coreF_sg (i : Nat) : ∀ (m : Nat) (l : List UInt8), letL l = true → sgL i (coreF m l) = sgL i l
  | 0, l, h1 => rfl
  | m + 1, l, h1 => by
    rw [coreF]
    split
    · rename_i hc
      obtain ⟨c, hcl, e⟩ := core_ends h1 hc
      have h2 := coreF_sg i m _ (letL_core l h1)
      rw [h2]
      have h3 : sgL i l = sgL i ([turnB c] ++ l.tail.dropLast ++ [c]) := congrArg _ e
      rw [sgL_append, sgL_append, sgL_turn i hcl] at h3
      omega
    · rfl
theorem sums_core {l : List UInt8} (h : letL l = true) (h2 : letL (coreL l) = true) : sumsL (coreL l) = sumsL l := sums_eq h2 h fun i _ => coreF_sg i _ l h
/-! ### Putting -/
theorem img_turn (zs : List ByteArray) (hz : ∀ z ∈ zs, wordB z.data.toList = true) {c : UInt8} (hc : letB c = true) : imgL zs (turnB c) = backL (imgL zs c) := by
  have hl : letL (zs.getD (idxB c) ByteArray.empty).data.toList = true := by
    rw [List.getD_eq_getElem?_getD]
    cases h : zs[idxB c]? with
    | none => rfl
    | some z => exact ((wordB_iff _).1 (hz z (List.mem_of_getElem? h))).2.1
  have hi := (sg_turn hc).1
  unfold imgL
  rw [hi]
  have h := (letB_iff c).1 hc
  rcases h with h | h
  · have := turnB_hi c h.1
    rw [if_pos (by omega), if_neg (by omega)]
  · have := turnB_lo c (by omega)
    rw [if_neg (by omega), if_pos (by omega), back_back _ hl]
theorem putL_append (zs : List ByteArray) (a b : List UInt8) : putL zs (a ++ b) = putL zs a ++ putL zs b := by simp [putL]
theorem put_back (zs : List ByteArray) (hz : ∀ z ∈ zs, wordB z.data.toList = true) : ∀ s : List UInt8, letL s = true → putL zs (backL s) = backL (putL zs s)
  | [], _ => rfl
  | c :: s, h => by
    rw [letL_cons, Bool.and_eq_true] at h
    have e : backL (c :: s) = backL s ++ [turnB c] := by simp [backL]
    have e1 : putL zs [turnB c] = imgL zs (turnB c) := by simp [putL]
    have e2 : putL zs (c :: s) = imgL zs c ++ putL zs s := by simp [putL]
    rw [e, putL_append, put_back zs hz s h.2, e1, img_turn zs hz h.1, e2, backL_append]
def abcd : List ByteArray := [{ data := #[97] }, { data := #[98] }, { data := #[99] }, { data := #[100] }]
theorem abcd_four : fourB abcd = true := by decide +kernel
theorem abcd_tab : ∀ n : Fin 256, letB (UInt8.ofNat n.val) = true → imgL abcd (UInt8.ofNat n.val) = [UInt8.ofNat n.val] := by decide +kernel
theorem abcd_img {c : UInt8} (h : letB c = true) : imgL abcd c = [c] := by
  have := abcd_tab ⟨c.toNat, c.toNat_lt⟩
  simp only [UInt8.ofNat_toNat] at this
  exact this h
theorem abcd_put : ∀ s : List UInt8, letL s = true → putL abcd s = s
  | [], _ => rfl
  | c :: s, h => by
    rw [letL_cons, Bool.and_eq_true] at h
    have e2 : putL abcd (c :: s) = imgL abcd c ++ putL abcd s := by simp [putL]
    rw [e2, abcd_img h.1, abcd_put s h.2]; rfl
theorem put_let (zs : List ByteArray) (hz : ∀ z ∈ zs, wordB z.data.toList = true) (s : List UInt8) : letL (putL zs s) = true := (putX_eq zs s hz).2

/-! ### Words of letters that reduce to few -/
theorem word_of_red {s : List UInt8} (hl : letL s = true) (h : (redL [] s).length ≤ 60) : wordB (redL [] s) = true := (wordB_iff _).2 ⟨h, letL_red2 s [] hl rfl, red_red s⟩
theorem word_back {s : List UInt8} (h : wordB s = true) : wordB (backL s) = true := by
  obtain ⟨h1, h2, h3⟩ := (wordB_iff _).1 h
  exact (wordB_iff _).2 ⟨by rw [backL_length]; exact h1, letL_back s h2, red_back s h2 h3⟩

end Go.Proofs.Ytebgcebjlbhjjaa

/- The algebra of sums: functionals, products, maps of words, all up to the order of terms. -/

namespace Go.Proofs.Ytebgcebjlbhjjaa
open Go.RowKit

theorem plain_is : ∀ ts : List Tm, plainZ ts = linT (fun _ => 1) ts
  | [] => rfl
  | t :: r => by
    have := plain_is r
    unfold plainZ at *
    rw [List.map_cons, List.sum_cons, linT, this]; omega
theorem linT_scl (f : ByteArray → Int) (c : Int) : ∀ ts, linT f (scaleT c ts) = c * linT f ts
  | [] => by simp [scaleT, linT]
  | t :: r => by
    have ih := linT_scl f c r
    unfold scaleT at *
    rw [List.map_cons, linT, linT, ih, Int.mul_add, Int.mul_assoc]
theorem linT_add2 (f g : ByteArray → Int) : ∀ ts, linT (fun s => f s + g s) ts = linT f ts + linT g ts
  | [] => by simp [linT]
  | t :: r => by rw [linT, linT, linT, linT_add2 f g r, Int.mul_add]; omega
theorem linT_mul (c : Int) (f : ByteArray → Int) : ∀ ts, linT (fun s => c * f s) ts = c * linT f ts
  | [] => by simp [linT]
  | t :: r => by rw [linT, linT, linT_mul c f r, Int.mul_add, Int.mul_left_comm]
theorem linT_zero : ∀ ts, linT (fun _ => 0) ts = 0
  | [] => rfl
  | t :: r => by rw [linT, linT_zero r]; simp
theorem linT_congr {f g : ByteArray → Int} : ∀ {ts : List Tm}, (∀ t ∈ ts, f t.s = g t.s) → linT f ts = linT g ts
  | [], _ => rfl
  | t :: r, h => by rw [linT, linT, h t (by simp), linT_congr (ts := r) fun u hu => h u (by simp [hu])]
/-- In whichever order. -/
theorem linT_swap (F : ByteArray → ByteArray → Int) (y : List Tm) : ∀ x : List Tm, linT (fun s => linT (fun r => F s r) y) x = linT (fun r => linT (fun s => F s r) x) y
  | [] => by simp only [linT]; exact (linT_zero y).symm
  | t :: x => by
    rw [linT, linT_swap F y x]
    have e : (fun r => linT (fun s => F s r) (t :: x)) = fun r => t.c * F t.s r + linT (fun s => F s r) x := by funext r; rw [linT]
    rw [e, linT_add2, linT_mul]
def hitB (q s : ByteArray) : Int := if s = q then 1 else 0
theorem coef_lin (q : ByteArray) : ∀ ts, coefAt q ts = linT (hitB q) ts
  | [] => rfl
  | t :: r => by
    rw [coefAt, linT, coef_lin q r]
    unfold hitB
    split <;> omega
def mulB (s r : ByteArray) : ByteArray := bstr (redL [] (s.data.toList ++ r.data.toList))
theorem lin_row (f : ByteArray → Int) (t : Tm) : ∀ y : List Tm, linT f (y.map (pairT t)) = t.c * linT (fun r => f (mulB t.s r)) y
  | [] => by simp [linT]
  | u :: y => by
    rw [List.map_cons, linT, linT, lin_row f t y, Int.mul_add]
    show t.c * u.c * f (mulB t.s u.s) + _ = _
    rw [Int.mul_assoc]
theorem lin_pairs (f : ByteArray → Int) (y : List Tm) : ∀ x : List Tm, linT f (pairsT x y) = linT (fun s => linT (fun r => f (mulB s r)) y) x
  | [] => rfl
  | t :: x => by
    have e : pairsT (t :: x) y = y.map (pairT t) ++ pairsT x y := by unfold pairsT; rw [List.flatMap_cons]
    rw [e, linT_append, lin_row, lin_pairs f y x, linT]
theorem lin_map (f : ByteArray → Int) (g : List UInt8 → List UInt8) : ∀ x : List Tm, linT f (x.map (mapT g)) = linT (fun s => f (bstr (g s.data.toList))) x
  | [] => rfl
  | t :: x => by rw [List.map_cons, linT, linT, lin_map f g x]; rfl
/-- Two lists of terms that are the same up to order. -/
def Same (x y : List Tm) : Prop := ∀ f : ByteArray → Int, linT f x = linT f y
theorem Same.refl (x : List Tm) : Same x x := fun _ => rfl
theorem Same.symm {x y : List Tm} (h : Same x y) : Same y x := fun f => (h f).symm
theorem Same.trans {x y z : List Tm} (h : Same x y) (h2 : Same y z) : Same x z := fun f => (h f).trans (h2 f)
theorem Same.canon (x : List Tm) : Same (canonT x) x := fun f => linT_canon f x
theorem Same.eq {x y : List Tm} (h : Same x y) : canonT x = canonT y := canonT_congr fun s => by rw [coef_lin, coef_lin]; exact h _
theorem Same.eq_of {x y : List Tm} (h : Same x y) (hy : Canon y) : canonT x = y := by rw [h.eq, canon_id hy]
theorem Same.pairs {x x' y y' : List Tm} (h : Same x x') (h2 : Same y y') : Same (pairsT x y) (pairsT x' y') := fun f => by
  rw [lin_pairs, lin_pairs, h]
  refine congrArg (fun k => linT k x') ?_
  funext s; exact h2 _
theorem Same.map {x x' : List Tm} (h : Same x x') (g : List UInt8 → List UInt8) : Same (x.map (mapT g)) (x'.map (mapT g)) := fun f => by rw [lin_map, lin_map]; exact h _
theorem Same.append {x x' y y' : List Tm} (h : Same x x') (h2 : Same y y') : Same (x ++ y) (x' ++ y') := fun f => by rw [linT_append, linT_append, h, h2]
theorem same_comm (x y : List Tm) : Same (x ++ y) (y ++ x) := fun f => by rw [linT_append, linT_append]; omega
theorem Same.scale {x x' : List Tm} (h : Same x x') (c : Int) : Same (scaleT c x) (scaleT c x') := fun f => by rw [linT_scl, linT_scl, h]
theorem same_of_coef {x y : List Tm} (h : ∀ q, coefAt q x = coefAt q y) : Same x y := fun f => linT_same h f
theorem same_perm {x y : List Tm} (h : x.Perm y) : Same x y := same_of_coef fun q => coefAt_perm q h
theorem same_pairs_add (x y z : List Tm) : Same (pairsT x (y ++ z)) (pairsT x y ++ pairsT x z) := fun f => by
  rw [linT_append, lin_pairs, lin_pairs, lin_pairs, ← linT_add2]
  refine congrArg (fun k => linT k x) ?_
  funext s; exact linT_append _ y z
theorem plain_same {x y : List Tm} (h : Same x y) : plainZ x = plainZ y := by rw [plain_is, plain_is]; exact h _
theorem plain_canon (x : List Tm) : plainZ (canonT x) = plainZ x := plain_same (Same.canon x)
theorem plain_append (x y : List Tm) : plainZ (x ++ y) = plainZ x + plainZ y := by rw [plain_is, plain_is, plain_is, linT_append]
theorem linT_const (c : Int) (ts : List Tm) : linT (fun _ => c) ts = c * plainZ ts := by
  rw [plain_is, ← linT_mul]; simp
theorem plain_pairs (x y : List Tm) : plainZ (pairsT x y) = plainZ x * plainZ y := by
  rw [plain_is, lin_pairs]
  have e : (fun _ : ByteArray => linT (fun _ => 1) y) = fun _ => plainZ y := by funext _; rw [plain_is]
  rw [e, linT_const, Int.mul_comm]
theorem plain_map (g : List UInt8 → List UInt8) (x : List Tm) : plainZ (x.map (mapT g)) = plainZ x := by rw [plain_is, plain_is, lin_map]

/-! ### Words in sums -/
def WordsT (x : List Tm) : Prop := ∀ t ∈ x, wordB t.s.data.toList = true
theorem words_of_tw {x : List Tm} (h : twB x = true) : WordsT x := fun t ht => by
  unfold twB at h
  simp only [Bool.and_eq_true] at h
  have := List.all_eq_true.1 h.2 t ht
  unfold termB at this
  simp only [Bool.and_eq_true] at this
  exact this.1
theorem words_of_sum {x : List Tm} (h : sumB x = true) : WordsT x := words_of_tw (sumB_parts h).1
theorem canon_of_sum {x : List Tm} (h : sumB x = true) : Canon x := (sumB_parts h).2
theorem sum_id {x : List Tm} (h : sumB x = true) : canonT x = x := canon_id (canon_of_sum h)
theorem sum_of_tw {x : List Tm} (h : twB (canonT x) = true) : sumB (canonT x) = true := by rw [sumB_canon (canonT_spec x).1]; exact h
theorem map_id_same {x : List Tm} {g : List UInt8 → List UInt8} (h : ∀ t ∈ x, g t.s.data.toList = t.s.data.toList) : x.map (mapT g) = x := by
  refine (List.map_congr_left fun t ht => ?_).trans (List.map_id x)
  show mapT g t = t
  unfold mapT
  rw [h t ht, bstr_of]
theorem map_map_same {x : List Tm} {g k : List UInt8 → List UInt8} (h : ∀ t ∈ x, k (g t.s.data.toList) = t.s.data.toList) : (x.map (mapT g)).map (mapT k) = x := by
  rw [List.map_map]
  refine (List.map_congr_left fun t ht => ?_).trans (List.map_id x)
  show (⟨t.c, bstr (k (bstr (g t.s.data.toList)).data.toList)⟩ : Tm) = t
  rw [bstr_toList, h t ht, bstr_of]
def oneS (s : ByteArray) : List Tm := [⟨1, s⟩]
theorem pairs_one {x : List Tm} (h : WordsT x) : pairsT x (oneS noS) = x := by
  induction x with
  | nil => rfl
  | cons t r ih =>
    have e : pairsT (t :: r) (oneS noS) = (oneS noS).map (pairT t) ++ pairsT r (oneS noS) := by unfold pairsT; rw [List.flatMap_cons]
    rw [e, ih fun u hu => h u (by simp [hu])]
    have e2 : pairT t ⟨1, noS⟩ = t := by
      unfold pairT
      have h0 : (noS : ByteArray).data.toList = [] := rfl
      show (⟨t.c * 1, bstr (redL [] (t.s.data.toList ++ noS.data.toList))⟩ : Tm) = t
      rw [h0, List.append_nil, ((wordB_iff _).1 (h t (by simp))).2.2, bstr_of, Int.mul_one]
    show [pairT t ⟨1, noS⟩] ++ r = t :: r
    rw [e2]; rfl
theorem back_mul {s r : ByteArray} (hs : letL s.data.toList = true) (hr : letL r.data.toList = true) : bstr (backL (mulB s r).data.toList) = mulB (bstr (backL r.data.toList)) (bstr (backL s.data.toList)) := by
  unfold mulB
  rw [bstr_toList, bstr_toList, bstr_toList, back_red (by rw [letL_append, hs, hr]; rfl), backL_append]
/-- Turned products are products the other way. -/
theorem turned_pairs {x y : List Tm} (hx : WordsT x) (hy : WordsT y) : Same ((pairsT x y).map (mapT backL)) (pairsT (y.map (mapT backL)) (x.map (mapT backL))) := fun f => by
  rw [lin_map, lin_pairs, lin_pairs, lin_map, linT_swap]
  refine linT_congr fun u hu => ?_
  rw [lin_map]
  refine linT_congr fun t ht => ?_
  rw [back_mul ((wordB_iff _).1 (hx t ht)).2.1 ((wordB_iff _).1 (hy u hu)).2.1]

end Go.Proofs.Ytebgcebjlbhjjaa

/- The law of a loop over an iterator whose variable is boxed in each round. -/

namespace Go.Proofs.Ytebgcebjlbhjjaa
open Go.RowKit Go.Shelf

/-- **The loop's law**, where each round's variable is boxed. -/
theorem range_law2 {α : Type} {n : Nat} {g : Operand} {ps : Array Tmp} {assign body : Code} {Q : Exit → Act → World → Prop} {a : Act} {w : World} {gf : Nat} {lb : Array Value} (hn : 10 ≤ n)
    (hg : a.eval g = .func (.func gf) #[] lb) (eg : ∀ args w, (callFunc gf args).run Try.prog w = .ok (.enter gf args) w)
    {encs : α → Array Value} (hps : ∀ x, (encs x).size = ps.size) (Kp : Nat → World → World → Prop) (hKt : ∀ {N X Y Z}, Kp N X Y → Kp N Y Z → Kp N X Z)
    (hKp : ∀ N W l o o', l < N → w.heap.size ≤ l → W.heap[l]? = some o → o.isCells = false → o.isWalk = false → Kp N W (W.putObj l o')) (hKm : ∀ {X Y}, Kp w.heap.size X Y → Kp (w.heap.size + 2) X Y)
    (ob : α → Obj) (hKa : ∀ N W o, w.heap.size ≤ W.heap.size → Kp N W (W.alloc o))
    {xs : List α}
    (hseq : ∀ (l : Nat) (J : List α → World → Prop) (V : World), Below w.heap.size w V → w.heap.size < V.heap.size → OwnFrom V.heap.size J →
      (∀ pre x W1, J pre W1 → pre ++ [x] <+: xs → YieldAt Fence.wide (n - 1 - 1) Try.prog l (encs x) W1 fun e W' => e = .returned (.bool true) ∧ J (pre ++ [x]) W' ∧ Kp V.heap.size W1 W') → J [] V →
      CallsIn Fence.wide (n - 1) Try.prog gf (#[.func (.yield l) #[] #[]] ++ lb) V fun e W' => (∃ v, e = .returned v) ∧ J xs W')
    (I : List α → World → Prop) (hI : OwnFrom w.heap.size I) (h0 : I [] w) (a₁ : α → Nat → Act)
    (hassign : ∀ (l : Nat) (x : α) (W : World) (K : Act → World → Prop), K (a₁ x W.heap.size) (W.alloc (ob x)) →
      assign.wpIn (Fence.wide.inRound l) (n - 1 - 1) Try.prog (Exit.then K (fun _ _ _ => False)) { tmps := (ps.zip (encs x)).foldl (fun t (q, v) => t.setIfInBounds q v) a.tmps, defers := [] } W)
    (hbody : ∀ (l : Nat) (pre : List α) (x : α) (b : Nat) (W : World), I pre W → pre ++ [x] <+: xs → W.heap.size = b + 1 → W.heap[b]? = some (ob x) → w.heap.size + 2 ≤ b →
      body.wpIn (Fence.wide.inRound l) (n - 1 - 1) Try.prog (goesOn w.heap.size Kp I (pre ++ [x]) W) (a₁ x b) W)
    (hdone : ∀ (D : Nat) (W : World), w.heap.size ≤ D → I xs W → W.heap[D]? = some (.deferred (some [])) → Q .normal { a with defers := { target := .collected D, args := #[] } :: a.defers } W) :
    (Code.rangeFunc g ps assign body).wpIn Fence.wide n Try.prog Q a w := by
  refine wpIn_rangeFunc fun fn hfn => ?_
  have lp : ∃ lp : LoopState → Loop, lp = fun st => { state := st, pending := none, fn, tmps := a.tmps, params := ps, assign, body, defers := w.heap.size } := ⟨_, rfl⟩
  obtain ⟨lp, hlp⟩ := lp
  have e1 := run_enterLoop_outer (P := Try.prog) (w := w) fn a.tmps ps assign body
  rw [show ({ state := .ready, pending := none, fn, tmps := a.tmps, params := ps, assign, body, defers := w.heap.size } : Loop) = lp .ready by rw [hlp]] at e1
  have kD : ((w.alloc (.deferred (some []))).alloc (.loop (lp .ready))).heap[w.heap.size]? = some (.deferred (some [])) := (Below.heap_alloc _ _ _ (by simp)).trans (World.alloc_heap_new w _)
  have kL : ((w.alloc (.deferred (some []))).alloc (.loop (lp .ready))).heap[w.heap.size + 1]? = some (.loop (lp .ready)) := by
    have := World.alloc_heap_new (w.alloc (.deferred (some []))) (.loop (lp .ready)); rwa [World.size_alloc] at this
  have i0 := hI.alloc (Obj.loop (lp .ready)) (hI.alloc (Obj.deferred (some [])) h0)
  have hs : ((w.alloc (.deferred (some []))).alloc (.loop (lp .ready))).heap.size = w.heap.size + 2 := by simp
  have hb : Below w.heap.size w ((w.alloc (.deferred (some []))).alloc (.loop (lp .ready))) := ((Below.refl _ w).alloc (Nat.le_refl _) _).alloc (by simp) _
  generalize ((w.alloc (.deferred (some []))).alloc (.loop (lp .ready))) = V at e1 kD kL i0 hs hb
  refine ⟨w.heap.size + 1, _, V, { target := .fn (.func gf) lb, args := #[.func (.yield (w.heap.size + 1)) #[] #[]] }, V, gf, #[.func (.yield (w.heap.size + 1)) #[] #[]] ++ lb, V, e1, ?_, fun f' hf' => ?_, ?_, fun _ => by omega, ?_⟩
  · simp only [resolve, hg]
    simp [go_sem]
  · trivial
  · simp [invoke, go_sem, eg]
  · refine (hseq (w.heap.size + 1) (fun pre W => I pre W ∧ W.heap[w.heap.size]? = some (.deferred (some [])) ∧ W.heap[w.heap.size + 1]? = some (.loop (lp .ready))) V hb (by omega) ?_ ?_ ⟨i0, kD, kL⟩).mono ?_
    · rintro s X Y row ⟨h1, h2, h3⟩ hgr hr
      have far : ∀ k, k < V.heap.size → k < X.heap.size → Y.heap[k]? = X.heap[k]? := fun k hk hX => hgr.block k hX (fun e => by have := (hr k e.symm).1; omega)
      exact ⟨hI s X Y row h1 hgr (fun r e => by obtain ⟨q1, q2⟩ := hr r e; exact ⟨by omega, q2⟩), (far _ (by omega) (Array.getElem?_eq_some_iff.1 h2).1).trans h2, (far _ (by omega) (Array.getElem?_eq_some_iff.1 h3).1).trans h3⟩
    · rintro pre x W ⟨h1, h2, h3⟩ hpre
      have hlt : w.heap.size + 1 < W.heap.size := (Array.getElem?_eq_some_iff.1 h3).1
      have hy := run_yield (P := Try.prog) (args := encs x) h3 (by rw [hlp]; exact hps x)
      rw [hlp] at hy
      obtain ⟨U, hU⟩ : ∃ U, W.alloc (ob x) = U := ⟨_, rfl⟩
      have u3 : U.heap[w.heap.size + 1]? = some (.loop (lp .ready)) := by rw [← hU]; exact (Below.heap_alloc _ _ _ hlt).trans h3
      have u2 : U.heap[w.heap.size]? = some (.deferred (some [])) := by rw [← hU]; exact (Below.heap_alloc _ _ _ (by omega)).trans h2
      have u1 : I pre U := by rw [← hU]; exact hI.alloc (ob x) h1
      have uk : Kp (w.heap.size + 2) W U := by rw [← hU]; exact hKa _ _ _ (by omega)
      have un : U.heap[W.heap.size]? = some (ob x) := by rw [← hU]; exact World.alloc_heap_new W _
      have us : U.heap.size = W.heap.size + 1 := by rw [← hU]; simp
      refine ⟨fn, _, assign, body, hy, roundIn_of_wpIn hfn (hassign _ x W _ ?_)⟩
      rw [hU]
      refine ⟨_, run_beginRound u3 (by rw [hlp]), ?_⟩
      have hltU : w.heap.size + 1 < U.heap.size := by omega
      have b3 : (U.putObj (w.heap.size + 1) (.loop { lp .ready with state := .busy })).heap[w.heap.size + 1]? = some (.loop { lp .ready with state := .busy }) := World.putObj_heap_same hltU
      have b2 : (U.putObj (w.heap.size + 1) (.loop { lp .ready with state := .busy })).heap[w.heap.size]? = some (.deferred (some [])) := (World.putObj_heap_other (by omega)).trans u2
      have b1 := hI.putObj (.loop { lp .ready with state := .busy }) u1 (by omega) u3 rfl
      have bn : (U.putObj (w.heap.size + 1) (.loop { lp .ready with state := .busy })).heap[W.heap.size]? = some (ob x) := (World.putObj_heap_other (by omega)).trans un
      have bs : (U.putObj (w.heap.size + 1) (.loop { lp .ready with state := .busy })).heap.size = W.heap.size + 1 := by rw [World.putObj_size]; exact us
      have bk : Kp (w.heap.size + 2) W (U.putObj (w.heap.size + 1) (.loop { lp .ready with state := .busy })) := hKt uk (hKp _ U _ _ _ (by omega) (by omega) u3 rfl rfl)
      have hWs : w.heap.size + 2 ≤ W.heap.size := by omega
      generalize (U.putObj (w.heap.size + 1) (.loop { lp .ready with state := .busy })) = X at b1 b2 b3 bk bn bs
      refine wpIn_mono (hbody _ pre x W.heap.size X b1 hpre bs bn hWs) ?_
      intro e a3 Y hgo
      cases e with
      | normal => ?_
      | _ => exact hgo.elim
      obtain ⟨k3, kp, hi⟩ := hgo
      have c3 := k3.same _ _ (by omega) b3 rfl
      have c2 := k3.same _ _ (Nat.le_refl _) b2 rfl
      have he := run_endRound (P := Try.prog) none c3
      refine ⟨_, _, he, rfl, ⟨hI.putObj _ hi (by omega) c3 rfl, (World.putObj_heap_other (by omega)).trans c2, ?_⟩, ?_⟩
      · rw [hlp]
        rw [hlp] at c3
        exact World.putObj_heap_same (Array.getElem?_eq_some_iff.1 c3).1
      · rw [hs]
        exact hKt (hKt bk (hKm kp)) (hKp _ Y _ _ _ (by omega) (by omega) c3 rfl rfl)
    · rintro e W ⟨⟨v, rfl⟩, h1, h2, h3⟩
      have he := run_endLoop (P := Try.prog) h3 (by rw [hlp]; simp)
      rw [show (lp .ready).pending = none by rw [hlp]] at he
      exact ⟨none, _, he, hdone _ _ (Nat.le_refl _) (hI.putObj _ h1 (by omega) h3 rfl) ((World.putObj_heap_other (by omega)).trans h2)⟩

end Go.Proofs.Ytebgcebjlbhjjaa

/- The contracts of slices.Values, slices.AppendSeq and slices.Collect at terms. -/

namespace Go.Proofs.Ytebgcebjlbhjjaa
open Go.RowKit Go.Shelf

attribute [local go_sem] Oper.semAt_some

abbrev encM (x : Tm) : Array Value := #[.agg #[.int .i64 x.c, .string x.s]]
abbrev VT : Nat := 125
abbrev ST : TypeId := 23

set_option maxRecDepth 100000 in
set_option maxHeartbeats 1000000 in
/-- slices.Values at terms. -/
theorem valuesT_in (n : Nat) (hn : 1 ≤ n) (l Bs n₀ : Nat) (ts : List Tm) (a : Option Addr) (cap len : Nat) (hlen : ts.length = len) (hm : len ≤ maxLen) (J : List Tm → World → Prop) (V : World) (hJ : OwnFrom V.heap.size J) (hn₀ : n₀ ≤ V.heap.size)
    (hY : ∀ pre x W, J pre W → pre ++ [x] <+: ts → YieldAt Fence.wide (n - 1) Try.prog l (encM x) W fun e W' => e = .returned (.bool true) ∧ J (pre ++ [x]) W' ∧ Below n₀ W W')
    (hBs : V.cell? ⟨Bs, 0, none⟩ = some (.slice a len cap)) (hw : 0 < len → ∃ x, a = some x ∧ x.block < n₀ ∧ TermsAt V x ts) (h0 : J [] V) :
    CallsIn Fence.wide n Try.prog VT #[.func (.yield l) #[] #[], .pointer (some ⟨Bs, 0, none⟩)] V fun e W' => (∃ v, e = .returned v) ∧ J ts W' := by
  have HW := Lib.hid hw
  have HL := Lib.hid hlen
  clear hw hlen
  unfold maxLen at hm
  refine callsIn_of_wp Try.func125 rfl trivial ?_ rfl
  simp only [Try.ntmps125, List.size_toArray, List.length_cons, List.length_nil, Nat.reduceAdd, Nat.reduceSub, Array.replicate_succ, Array.replicate_zero, List.push_toArray, List.append_toArray, List.nil_append, List.cons_append]
  gi_wp2
  gi_loopw [7] (fun i wr => ∃ k : Nat, k ≤ len ∧ i = .int .i64 k ∧ J (ts.take k) wr ∧ Below n₀ V wr) (fun i _ => len - (intOf i).toNat)
  case atStart => exact ⟨0, Nat.zero_le _, rfl, h0, Below.refl _ _⟩
  case round =>
    obtain ⟨k, hk, rfl, hJs, hnx⟩ := hrel
    by_cases hlt : k < len
    · have hkl : k < ts.length := by rw [HL.out]; exact hlt
      obtain ⟨ad, rfl, hb, hx⟩ := HW.out (by omega)
      obtain ⟨t, ht⟩ : ∃ t, ts[k] = t := ⟨_, rfl⟩
      have hc := hx.2 k hkl
      rw [ht, addr_next] at hc
      have c0 := (hnx.cell (p := ad.add (k * 2)) (by rw [addr_add_block]; exact hb)).trans hc.1
      have c1 := (hnx.cell (p := ⟨(ad.add (k * 2)).block, (ad.add (k * 2)).off + 1, none⟩) (by show (ad.add (k * 2)).block < _; rw [addr_add_block]; exact hb)).trans hc.2
      have HS : Hid (ts.take (k + 1) = ts.take k ++ [t]) := by rw [← ht]; exact Lib.hid (List.take_succ_eq_append_getElem hkl)
      have hJa := hJ.alloc (Obj.cells #[.int .i64 t.c, .string t.s] TI) hJs
      obtain ⟨fn, tmps, assign, body, hy, hR⟩ := hY _ t _ hJa (by rw [← HS.out]; exact List.take_prefix _ _)
      have hba : Below n₀ wr (wr.alloc (Obj.cells #[.int .i64 t.c, .string t.s] TI)) := (Below.refl _ _).alloc (Nat.le_trans hn₀ hnx.size) _
      have HBa := Lib.hid hba
      clear ht hkl hc hx hJa hba
      gi_wp2
      refine hR.mono ?_
      rintro e W3 ⟨rfl, hJ3, hk3⟩
      gi_wp2
      go_roundw
      case rel => exact ⟨k + 1, by omega, by simp, by rw [HS.out]; exact hJ3, hnx.trans (HBa.out.trans hk3)⟩
      case measure => simp [intOf]; omega
    · have HA : Hid (ts.take k = ts) := Lib.hid (List.take_of_length_le (by rw [HL.out]; omega))
      gi_wp2
      go_end0
      exact ⟨⟨_, rfl⟩, by rw [← HA.out]; exact hJs⟩

theorem valuesT_any (a : Option Addr) (len cap : Nat) (w : World) :
    Calls Try.prog 113 #[.slice a len cap] w fun e w' => e = .returned (.func (.func VT) #[] #[.pointer (some ⟨w.heap.size, 0, none⟩)]) ∧ w' = w.alloc (.cells #[.slice a len cap] ST) := by
  go_enter Try.func113, Try.ntmps113
  go_wp2
  go_ret
  exact ⟨rfl, rfl⟩

/-- The box B holds a slice that owns the terms. -/
def HoldT (base B : Nat) (pre : List Tm) (W : World) : Prop :=
  ∃ v, Boxed W B ST v ∧ W.ownsRow base TI 2 v pre.length (termsV pre) ∧ True
theorem HoldT.own (base B : Nat) : Own (HoldT base B) := holdsRow_own base B ST TI 2 (fun pre : List Tm => pre.length) (fun pre => termsV pre) (fun _ _ => True)

set_option maxRecDepth 100000 in
set_option maxHeartbeats 4000000 in
theorem appendSeq_in (n : Nat) (hn : 20 ≤ n) (Bs : Nat) (ts : List Tm) (a : Option Addr) (cap len : Nat) (w : World) (hlen : ts.length = len) (hm : len ≤ 1000000) (hBsz : Bs < w.heap.size)
    (hBs : w.cell? ⟨Bs, 0, none⟩ = some (.slice a len cap)) (hw : 0 < len → ∃ x, a = some x ∧ TermsAt w x ts) :
    CallsIn Fence.wide n Try.prog 129 #[.slice none 0 0, .func (.func VT) #[] #[.pointer (some ⟨Bs, 0, none⟩)]] w fun e w' =>
      (∃ v, e = .returned v ∧ w'.ownsRow w.heap.size TI 2 v len (termsV ts)) ∧ Below w.heap.size w w' := by
  obtain ⟨i0, hi, hz0, hz1, hz2⟩ := info_parts infoTerm
  have HW := Lib.hid hw
  have HL := Lib.hid hlen
  clear hw hlen
  refine callsIn_of_wp_marks Try.func129 rfl trivial ?_ rfl
  simp only [Try.ntmps129, List.size_toArray, List.length_cons, List.length_nil, Nat.reduceAdd, Nat.reduceSub, Array.replicate_succ, Array.replicate_zero, List.push_toArray, List.append_toArray, List.nil_append, List.cons_append]
  have hb0 := Boxed.new w ST (.slice none 0 0)
  have hBv : Below w.heap.size w (w.alloc (.cells #[.slice none 0 0] ST)) := (Below.refl _ w).alloc (Nat.le_refl _) _
  have hsz : (w.alloc (.cells #[.slice none 0 0] ST)).heap.size = w.heap.size + 1 := by simp
  obtain ⟨V, hV⟩ : ∃ V, w.alloc (.cells #[.slice none 0 0] ST) = V := ⟨_, rfl⟩
  rw [hV] at hb0 hBv hsz
  have HV := Lib.hid hV
  have HB0 := Lib.hid hb0
  clear hV hb0
  gi_wp2
  rw [HV.out]
  refine range_law2 (by omega) (gf := VT) (lb := #[.pointer (some ⟨Bs, 0, none⟩)]) rfl (enters_of Try.func125 (by kernel_rfl) rfl) (encs := encM) (fun _ => rfl) (KeepP w.heap.size) (fun h k => ⟨h.1.trans k.1, h.2.trans k.2⟩)
    (fun N W l o o' hl hwl hW ho hwk => ⟨belowK_b (w := V) (by omega) W l o o' hwl hW ho hwk, KeepsFrom.of_grownBy (grownBy_putObj' W l o') (fun j e => by cases e; exact hl)⟩)
    (fun h => ⟨h.1, keepsFrom_mono h.2 (by omega)⟩)
    (fun x => .cells #[.int .i64 x.c, .string x.s] TI) (fun N W o hs => ⟨(Below.refl _ _).alloc (by omega) _, (KeepsOthers.alloc _ _).from _⟩)
    (xs := ts)
    (fun l J X hX hlt hJ hY h0 => valuesT_in (n - 1) (by omega) l Bs w.heap.size ts a cap len HL.out (by unfold maxLen; omega) J X hJ (by omega) (fun pre x W1 hj hl => (hY pre x W1 hj hl).mono (fun _ _ ⟨a, b, c⟩ => ⟨a, b, c.1⟩))
      (((hX.cell (p := ⟨Bs, 0, none⟩) (by show Bs < V.heap.size; omega)).trans (hBv.cell (p := ⟨Bs, 0, none⟩) hBsz)).trans hBs) (fun h => by
        obtain ⟨ad, e, hx⟩ := HW.out h
        exact ⟨ad, e, hx.1, (hx.below hBv).below hX⟩) h0)
    (fun pre X => HoldT w.heap.size w.heap.size pre X ∧ Below w.heap.size w X)
    (OwnFrom.and (Own.from (HoldT.own _ _) _) (ownFrom_below (by omega) (by omega)))
    ⟨⟨_, HB0.out, ⟨rfl, .inl ⟨rfl, rfl⟩⟩, trivial⟩, hBv⟩
    (fun x b => { tmps := #[.slice none 0 0, .func (.func VT) #[] #[.pointer (some ⟨Bs, 0, none⟩)], .pointer (some ⟨w.heap.size, 0, none⟩), undef, .slice none 0 0, .pointer (some ⟨b, 0, none⟩), .func (.func VT) #[] #[.pointer (some ⟨Bs, 0, none⟩)], .agg #[.int .i64 x.c, .string x.s], undef, undef, undef, undef, undef], defers := [] }) ?assign ?body ?done
  case assign =>
    intro l x W K hK
    gi_wp2
    exact hK
  case body =>
    rintro l pre x b W ⟨⟨v, hbx, hrow, _⟩, hB⟩ hpre hsW hbn hb2
    have hplen := prefix_len hpre
    rw [HL.out] at hplen
    have hcell := hbx.cell
    have hbb : Boxed W b TI (.int .i64 0) → True := fun _ => trivial
    have c0 : W.cell? ⟨b, 0, none⟩ = some (.int .i64 x.c) := by simp [World.cell?, hbn]
    have c1 : W.cell? ⟨b, 1, none⟩ = some (.string x.s) := by simp [World.cell?, hbn]
    have HROW := Lib.hid hrow
    have HBX := Lib.hid hbx
    have HBn := Lib.hid hbn
    clear hrow hbx hpre hbn hbb
    have HPN := cell_pair_new W (.int .i64 x.c) (.string x.s) TI
    rw [hsW] at HPN
    have HP := Lib.hid HPN
    have hnr := HBX.out.not_row (by decide) HROW.out
    have HNR := Lib.hid hnr
    clear HPN hnr
    gi_wp2_with (refine wpListIn_append_own _ rfl (.tmp 8) (.tmp 10) ST rfl w.heap.size TI i0 (.agg #[.int .i64 0, .string ByteArray.empty]) 2 24 Try.underlying23 hi hz0 hz1 hz2 rfl (by decide) v pre.length (termsV pre) rfl (HROW.out.alloc _) ⟨b + 1, 0, none⟩ 1 1 [.int .i64 x.c, .string x.s] rfl rfl HP.out (fun u hu => by simp at hu; rcases hu with rfl | rfl <;> rfl) (by unfold maxLen; omega) (by omega) (by simp; omega) ?_)
    intro v' w1 hown' hgr' _
    have hbX : Boxed w1 w.heap.size ST v := (HBX.out.alloc _).kept hgr' HNR.out
    have hrowb : ∀ j, v.ownBlock = some j → w.heap.size ≤ j ∧ ∃ cs r, W.heap[j]? = some (.cells cs TI r) := by
      intro j ej
      rcases HROW.out.2 with ⟨rfl, _⟩ | ⟨g1', cap1', cur1, rfl, hg1, hg2, _⟩
      · cases ej
      · simp [Value.ownBlock] at ej
        subst ej
        exact ⟨hg1, _, _, hg2⟩
    have hko : KeepsOthers W (w1.setCell ⟨w.heap.size, 0, none⟩ v') := by
      refine (KeepsOthers.alloc _ _).trans ((KeepsOthers.of_grownBy hgr' fun j o ej hj => ?_).trans (KeepsOthers.setCell _ _ _))
      obtain ⟨hj1, cs, r, hjc⟩ := hrowb j ej
      have hlt : j < W.heap.size := (Array.getElem?_eq_some_iff.1 hjc).1
      rw [Below.heap_alloc _ _ _ hlt, hjc] at hj
      cases hj; rfl
    have hbel : Below w.heap.size W (w1.setCell ⟨w.heap.size, 0, none⟩ v') :=
      ((((Below.refl _ W).alloc (by omega) _).grown hgr' (by simp; omega) (fun j ej => (hrowb j ej).1))).setCell (p := ⟨w.heap.size, 0, none⟩) (Nat.le_refl _) _
    have hown'' : (w1.setCell ⟨w.heap.size, 0, none⟩ v').ownsRow w.heap.size TI 2 v' (pre.length + 1) (termsV pre ++ [.int .i64 x.c, .string x.s]) := hown'.kept (grownBy_setCell' w1 w.heap.size v') (.inr (hbX.not_row (by decide) hown').symm)
    have hcX := hbX.cell
    have hfX := hbX.frozen
    have hbs := hbX.set v'
    have HO := Lib.hid hown''
    have HKO := Lib.hid hko
    have HBL := Lib.hid hbel
    have HBS := Lib.hid hbs
    obtain ⟨g', cap', rfl⟩ := ownsRow_succ hown'
    clear hown' hown'' hgr' hko hbel hbs hrowb
    gi_wp2
    refine ⟨HKO.out.from _, ⟨HBL.out, HKO.out.from _⟩, ⟨_, HBS.out, ?_, trivial⟩, hB.trans HBL.out⟩
    rw [List.length_append, termsV_append]
    exact HO.out
  case done =>
    rintro D W hD ⟨⟨v, hbx, hrow, _⟩, hB⟩ hK
    have hcell := hbx.cell
    have HROW := Lib.hid hrow
    have HK := Lib.hid hK
    clear hrow hbx hK
    gi_wp2
    refine ⟨by simp, .inl ⟨_, _, rfl, run_takeDeferred HK.out, ?_⟩⟩
    refine ⟨v, by simp [results, Try.f129, go_sem], ⟨v, rfl, ?_⟩, hB.trans (belowK_b (w := w) (Nat.le_refl _) W D _ _ (by omega) HK.out rfl rfl)⟩
    have := ownsRow_putObj HROW.out (.deferred none) HK.out rfl
    rw [HL.out] at this
    exact this

theorem collect_any (Bs : Nat) (ts : List Tm) (a : Option Addr) (cap len : Nat) (w : World) (hlen : ts.length = len) (hm : len ≤ 1000000) (hBsz : Bs < w.heap.size)
    (hBs : w.cell? ⟨Bs, 0, none⟩ = some (.slice a len cap)) (hw : 0 < len → ∃ x, a = some x ∧ TermsAt w x ts) :
    Calls Try.prog 123 #[.func (.func VT) #[] #[.pointer (some ⟨Bs, 0, none⟩)]] w fun e w' =>
      (∃ v, e = .returned v ∧ w'.ownsRow w.heap.size TI 2 v len (termsV ts)) ∧ Below w.heap.size w w' := by
  have H := Lib.hid ((callsIn_wide (n := 30)).1 (appendSeq_in 30 (by omega) Bs ts a cap len w hlen hm hBsz hBs hw))
  clear hlen hBs hw
  go_enter Try.func123, Try.ntmps123
  go_wp2_with fail
  refine H.out.mono ?_
  rintro e w1 ⟨⟨v, rfl, ho⟩, hb⟩
  have HO := Lib.hid ho
  clear ho
  go_wp2
  go_ret
  exact ⟨⟨_, rfl, HO.out⟩, hb⟩

end Go.Proofs.Ytebgcebjlbhjjaa

/- The library's sort, at terms and 'compareTerms'. -/

namespace Go.Proofs.Ytebgcebjlbhjjaa
open Go.Shelf Go.RowKit Go.Lib Go.Sort

def sortT_ren : Go.Shelf.Ren := ⟨fun | 6 => 124 | 15 => 131 | 14 => 130 | 28 => 140 | 29 => 141 | 20 => 132 | 21 => 133 | 22 => 134 | 23 => 135 | 24 => 136 | 25 => 137 | 26 => 138 | 27 => 139 | 46 => 142 | 47 => 143 | 48 => 144 | 49 => 145 | 50 => 146 | 57 => 147 | n => n, fun | 22 => 23 | 24 => 30 | 25 => 100 | 3 => 3 | 39 => 142 | 0 => 0 | 53 => 151 | 55 => 153 | 4 => 4 | 46 => 145 | 45 => 144 | 50 => 35 | 5 => 5 | 9 => 9 | 66 => 154 | 70 => 158 | 76 => 160 | 77 => 161 | n => n, fun n => n⟩
theorem sortT : SlLaysF0.n6 Try.prog sortT_ren := {
  mixed := by kernel_rfl
  f6 := Exists.intro "slices.SortFunc[[]loop.example/foxcalculus/impl.Term,loop.example/foxcalculus/impl.Term]" ⟨of_decide_eq_true (by kernel_rfl), Try.func124.trans (congrArg some (by kernel_rfl))⟩
  f14 := Exists.intro "slices.pdqsortCmpFunc[loop.example/foxcalculus/impl.Term]" ⟨of_decide_eq_true (by kernel_rfl), Try.func130.trans (congrArg some (by kernel_rfl))⟩
  f15 := Try.func131.trans (congrArg some (by kernel_rfl))
  f20 := Exists.intro "slices.insertionSortCmpFunc[loop.example/foxcalculus/impl.Term]" ⟨of_decide_eq_true (by kernel_rfl), Try.func132.trans (congrArg some (by kernel_rfl))⟩
  f21 := Exists.intro "slices.heapSortCmpFunc[loop.example/foxcalculus/impl.Term]" ⟨of_decide_eq_true (by kernel_rfl), Try.func133.trans (congrArg some (by kernel_rfl))⟩
  f22 := Exists.intro "slices.breakPatternsCmpFunc[loop.example/foxcalculus/impl.Term]" ⟨of_decide_eq_true (by kernel_rfl), Try.func134.trans (congrArg some (by kernel_rfl))⟩
  f23 := Exists.intro "slices.choosePivotCmpFunc[loop.example/foxcalculus/impl.Term]" ⟨of_decide_eq_true (by kernel_rfl), Try.func135.trans (congrArg some (by kernel_rfl))⟩
  f24 := Exists.intro "slices.reverseRangeCmpFunc[loop.example/foxcalculus/impl.Term]" ⟨of_decide_eq_true (by kernel_rfl), Try.func136.trans (congrArg some (by kernel_rfl))⟩
  f25 := Exists.intro "slices.partialInsertionSortCmpFunc[loop.example/foxcalculus/impl.Term]" ⟨of_decide_eq_true (by kernel_rfl), Try.func137.trans (congrArg some (by kernel_rfl))⟩
  f26 := Exists.intro "slices.partitionEqualCmpFunc[loop.example/foxcalculus/impl.Term]" ⟨of_decide_eq_true (by kernel_rfl), Try.func138.trans (congrArg some (by kernel_rfl))⟩
  f27 := Exists.intro "slices.partitionCmpFunc[loop.example/foxcalculus/impl.Term]" ⟨of_decide_eq_true (by kernel_rfl), Try.func139.trans (congrArg some (by kernel_rfl))⟩
  f28 := Try.func140.trans (congrArg some (by kernel_rfl))
  f29 := Try.func141.trans (congrArg some (by kernel_rfl))
  f46 := Exists.intro "slices.siftDownCmpFunc[loop.example/foxcalculus/impl.Term]" ⟨of_decide_eq_true (by kernel_rfl), Try.func142.trans (congrArg some (by kernel_rfl))⟩
  f47 := Try.func143.trans (congrArg some (by kernel_rfl))
  f48 := Try.func144.trans (congrArg some (by kernel_rfl))
  f49 := Exists.intro "slices.medianAdjacentCmpFunc[loop.example/foxcalculus/impl.Term]" ⟨of_decide_eq_true (by kernel_rfl), Try.func145.trans (congrArg some (by kernel_rfl))⟩
  f50 := Exists.intro "slices.medianCmpFunc[loop.example/foxcalculus/impl.Term]" ⟨of_decide_eq_true (by kernel_rfl), Try.func146.trans (congrArg some (by kernel_rfl))⟩
  f57 := Exists.intro "slices.order2CmpFunc[loop.example/foxcalculus/impl.Term]" ⟨of_decide_eq_true (by kernel_rfl), Try.func147.trans (congrArg some (by kernel_rfl))⟩
  t0 := Try.underlying0
  a0 := Try.isAgg0
  z0 := Try.sizeOf0
  v0 := Try.zeroValue0
  t3 := Try.underlying3
  a3 := Try.isAgg3
  z3 := Try.sizeOf3
  v3 := Try.zeroValue3
  t4 := Try.underlying4
  a4 := Try.isAgg4
  z4 := Try.sizeOf4
  v4 := Try.zeroValue4
  t5 := Try.underlying5
  a5 := Try.isAgg5
  z5 := Try.sizeOf5
  v5 := Try.zeroValue5
  t9 := Try.underlying9
  a9 := Try.isAgg9
  z9 := Try.sizeOf9
  v9 := Try.zeroValue9
  t22 := Try.underlying23
  a22 := Try.isAgg23
  z22 := Try.sizeOf23
  v22 := Try.zeroValue23
  t25 := Try.underlying100
  a25 := Try.isAgg100
  z25 := Try.sizeOf100
  v25 := Try.zeroValue100
  t39 := Try.underlying142
  a39 := Try.isAgg142
  z39 := Try.sizeOf142
  v39 := Try.zeroValue142
  t45 := Try.underlying144
  a45 := Try.isAgg144
  z45 := Try.sizeOf144
  v45 := Try.zeroValue144
  t46 := Try.underlying145
  a46 := Try.isAgg145
  z46 := Try.sizeOf145
  v46 := Try.zeroValue145
  t50 := Try.underlying35
  a50 := Try.isAgg35
  z50 := Try.sizeOf35
  v50 := Try.zeroValue35
  t53 := Try.underlying151
  a53 := Try.isAgg151
  z53 := Try.sizeOf151
  v53 := Try.zeroValue151
  t55 := Try.underlying153
  a55 := Try.isAgg153
  z55 := Try.sizeOf153
  v55 := Try.zeroValue153
  t66 := Try.underlying154
  a66 := Try.isAgg154
  z66 := Try.sizeOf154
  v66 := Try.zeroValue154
  t70 := Try.underlying158
  a70 := Try.isAgg158
  z70 := Try.sizeOf158
  v70 := Try.zeroValue158
  t76 := Try.underlying160
  a76 := Try.isAgg160
  z76 := Try.sizeOf160
  v76 := Try.zeroValue160
  t77 := Try.underlying161
  a77 := Try.isAgg161
  z77 := Try.sizeOf161
  v77 := Try.zeroValue161 }

def encT (t : Tm) : List Value := [.int .i64 t.c, .string t.s]
def cmpT (a b : Tm) : Int := cmpW a.s b.s
theorem ltOf_cmpT (a b : Tm) : ltOf cmpT a b = lessW a.s b.s := by rw [lessW_cmp]; rfl
theorem swoT : SWO (ltOf cmpT) where
  irrefl x := by rw [ltOf_cmpT]; exact lessW_irrefl _
  trans x y z h1 h2 := by rw [ltOf_cmpT] at *; exact lessW_trans h1 h2
  ntrans x y z h1 h2 := by
    rw [ltOf_cmpT] at *
    cases h3 : lessW x.s z.s with
    | false => rfl
    | true =>
      cases h4 : lessW y.s x.s with
      | true => have := lessW_trans h4 h3; rw [h2] at this; cases this
      | false => have := lessW_tri h1 h4; rw [this, h2] at h3; cases h3

theorem cmpLaysT (blk off size : Nat) (w : World) : CmpLays Try.prog 88 #[] encT 2 cmpT blk off size w :=
  fun _ _ _ _ x y => compareTerms_any x y _

theorem sortTerms (blk off cap : Nat) (d : Array Tm) (w : World) (hH : HoldsK encT 2 w blk off d) (hblk : blk < w.heap.size) (hsz : d.size < 4611686018427387904) :
    Calls Try.prog 124 #[.slice (some ⟨blk, off, none⟩) d.size cap, .func (.func 88) #[] #[]] w fun e w' => e = .returned (.tuple #[]) ∧ ∃ d' n os, PermIn 0 d.size d d' ∧ SortedIn (ltOf cmpT) 0 d.size d' ∧ w' = sortWorldK encT 2 w blk off n d' os :=
  AnyQ.slices_SortFunc sortT 2 Try.isAgg30 Try.sizeOf30 encT (fun _ => rfl) (fun x v hv => by simp [encT] at hv; rcases hv with rfl | rfl <;> rfl) cmpT swoT 88 #[] blk off cap d w
    (enters_of Try.func88 (by kernel_rfl) rfl) (cmpLaysT blk off d.size w) hH hblk hsz

end Go.Proofs.Ytebgcebjlbhjjaa

/- The contract of slices.SortedFunc at terms. -/

namespace Go.Proofs.Ytebgcebjlbhjjaa
open Go.RowKit Go.Shelf Go.Sort

theorem flat_terms (d : Array Tm) : flatK encT 2 d = (termsV d.toList).toArray := by
  apply Array.toList_inj.1
  apply List.ext_getElem
  · simp [flatK, termsV_len]
  · intro j h1 h2
    have hj : j < d.size * 2 := by simpa [flatK] using h1
    have hq : j / 2 < d.toList.length := by simp; omega
    have hg := termsV_get d.toList (j / 2) hq
    have e1 : (flatK encT 2 d).toList[j] = (encT d[j / 2]!)[j % 2]! := by simp [flatK]
    have e0 : d[j / 2]! = d.toList[j / 2] := by rw [getElem!_pos d (j / 2) (by simpa using hq)]; simp
    rw [e1, e0]
    rcases Nat.mod_two_eq_zero_or_one j with h | h
    · rw [h]
      have e2 : j / 2 * 2 = j := by omega
      rw [e2] at hg
      exact ((List.getElem?_eq_some_iff.1 hg.1).2).symm
    · rw [h]
      have e2 : j / 2 * 2 + 1 = j := by omega
      rw [e2] at hg
      exact ((List.getElem?_eq_some_iff.1 hg.2).2).symm

theorem holdsK_of_owns {w : World} {base g cap n : Nat} {ts : List Tm} (hn : ts.length = n) (h : w.ownsRow base TI 2 (.slice (some ⟨g, 0, none⟩) n cap) n (termsV ts)) : HoldsK encT 2 w g 0 ts.toArray := by
  unfold HoldsK
  rw [flat_terms]
  intro j hj
  have hj2 : j < (termsV ts).length := by simpa using hj
  have hj3 : j < n * 2 := by rw [termsV_len] at hj2; omega
  refine ⟨?_, by rw [Nat.zero_add]; exact h.frozenAt j⟩
  rw [Nat.zero_add, h.cellAt j hj3, List.getElem?_eq_getElem hj2]
  simp only [id]
  rw [getElem!_pos _ j (by simpa using hj2)]
  simp

theorem owns_put {w : World} {base g cap n m : Nat} {os : Array Obj} {F : List Value} {xs : List Value} (hF : F.length = n * 2) (h : w.ownsRow base TI 2 (.slice (some ⟨g, 0, none⟩) n cap) n xs) :
    (grow (putRow id (Sort.ahead w m) g 0 F.toArray) os).ownsRow base TI 2 (.slice (some ⟨g, 0, none⟩) n cap) n F ∧ w.grownBy (grow (putRow id (Sort.ahead w m) g 0 F.toArray) os) (some g) := by
  rcases h.2 with ⟨h, _⟩ | ⟨g1, cap1, cur, h1, hb, hg, hn, hc, hs, ht⟩
  · cases h
  · cases h1
    have hlt : g < w.heap.size := (Array.getElem?_eq_some_iff.1 hg).1
    have hh : (grow (putRow id (Sort.ahead w m) g 0 F.toArray) os).heap[g]? = some (.cells (putCells id 0 F.toArray cur) TI (0, 0)) := by
      rw [heap_grow_old _ _ (by simpa using hlt)]
      simp [putRow, mapBlock, Sort.ahead, Array.getElem?_modify, hg, onCells]
    refine ⟨⟨hF, .inr ⟨g, cap, _, rfl, hb, hh, hn, hc, by simp [putCells, hs], ?_⟩⟩, ⟨rfl, rfl, rfl, by simp, fun k hk hne => ?_⟩⟩
    · have hle : F.length ≤ cur.size := by rw [hs, hF]; omega
      rw [← hF]
      apply List.ext_getElem?
      intro j
      by_cases hj : j < F.length
      · rw [List.getElem?_take_of_lt hj, Array.getElem?_toList]
        simp [putCells, hj, show j < cur.size by omega]
      · rw [List.getElem?_take_eq_none (by omega), List.getElem?_eq_none (by omega)]
    · rw [heap_grow_old _ _ (by simpa using hk)]
      have : g ≠ k := fun e => hne (by rw [e])
      simp [putRow, mapBlock, Sort.ahead, Array.getElem?_modify, this]

theorem perm_of {ts : List Tm} {d : Array Tm} (h : PermIn 0 ts.toArray.size ts.toArray d) : d.toList.Perm ts := by
  obtain ⟨h1, _, h3⟩ := h
  have e1 : d.extract 0 ts.toArray.size = d := by rw [← h1]; simp
  have e2 : ts.toArray.extract 0 ts.toArray.size = ts.toArray := by simp
  rw [e1, e2] at h3
  simpa using h3
theorem sorted_of {d : Array Tm} {n : Nat} (hn : d.size = n) (h : SortedIn (ltOf cmpT) 0 n d) : d.toList.Pairwise (fun a b => lessW b.s a.s = false) := by
  rw [List.pairwise_iff_getElem]
  intro i j hi hj hij
  have := h i j (Nat.zero_le _) hij (by rw [← hn]; simpa using hj)
  rw [ltOf_cmpT, getElem!_pos d j (by simpa using hj), getElem!_pos d i (by simpa using hi)] at this
  simpa using this

/-- The library's sort on a row of the call's own. -/
theorem sortOwn_any (base : Nat) (v : Value) (n : Nat) (ts : List Tm) (w : World) (hn : ts.length = n) (hm : n ≤ 1000000) (hbase : base ≤ w.heap.size) (h : w.ownsRow base TI 2 v n (termsV ts)) :
    Calls Try.prog 124 #[v, .func (.func 88) #[] #[]] w fun e w' =>
      e = .returned (.tuple #[]) ∧ (∃ ss : List Tm, ss.Perm ts ∧ ss.Pairwise (fun a b => lessW b.s a.s = false) ∧ w'.ownsRow base TI 2 v n (termsV ss)) ∧ Below base w w' := by
  by_cases h0 : n = 0
  · subst h0
    obtain rfl := List.length_eq_zero_iff.1 hn
    obtain ⟨p, cap, rfl⟩ : ∃ p cap, v = .slice p 0 cap := by
      rcases h.2 with ⟨rfl, _⟩ | ⟨g, cap, cur, rfl, _⟩
      · exact ⟨_, _, rfl⟩
      · exact ⟨_, _, rfl⟩
    refine (AnyF.slices_SortFunc_none (ρ := sortT_ren) { sortT with } p cap (.func (.func 88) #[] #[]) w).mono ?_
    rintro e w' ⟨rfl, rfl⟩
    exact ⟨rfl, ⟨[], List.Perm.refl _, List.Pairwise.nil, h⟩, Below.refl _ _⟩
  · rcases h.2 with ⟨rfl, h0'⟩ | ⟨g, cap, cur, rfl, hb, hg, hnc, hcm, _⟩
    · exact absurd h0' h0
    have hs := sortTerms g 0 cap ts.toArray w (holdsK_of_owns hn h) (Array.getElem?_eq_some_iff.1 hg).1 (by simp; omega)
    rw [show ts.toArray.size = n by simpa using hn] at hs
    refine hs.mono ?_
    rintro e w' ⟨rfl, d', m, os, hp, hso, rfl⟩
    have hsz : d'.size = n := by rw [hp.1]; simpa using hn
    have hp' : PermIn 0 ts.toArray.size ts.toArray d' := by rw [show ts.toArray.size = n by simpa using hn]; exact hp
    have ho := owns_put (m := m) (os := os) (F := termsV d'.toList) (by rw [termsV_len]; simp [hsz]) h
    have e1 : sortWorldK encT 2 w g 0 m d' os = grow (putRow id (Sort.ahead w m) g 0 (termsV d'.toList).toArray) os := by
      unfold sortWorldK putRowK; rw [flat_terms]
    rw [e1]
    exact ⟨rfl, ⟨d'.toList, perm_of hp', sorted_of hsz hso, ho.1⟩, (Below.refl _ _).grown ho.2 hbase (fun j ej => by cases ej; exact hb)⟩

set_option maxHeartbeats 1000000 in
theorem sortedFunc_any (Bs : Nat) (ts : List Tm) (a : Option Addr) (cap len : Nat) (w : World) (hlen : ts.length = len) (hm : len ≤ 1000000) (hBsz : Bs < w.heap.size)
    (hBs : w.cell? ⟨Bs, 0, none⟩ = some (.slice a len cap)) (hw : 0 < len → ∃ x, a = some x ∧ TermsAt w x ts) :
    Calls Try.prog 112 #[.func (.func VT) #[] #[.pointer (some ⟨Bs, 0, none⟩)], .func (.func 88) #[] #[]] w fun e w' =>
      (∃ v, e = .returned v ∧ ∃ ss : List Tm, ss.Perm ts ∧ ss.Pairwise (fun a b => lessW b.s a.s = false) ∧ w'.ownsRow w.heap.size TI 2 v len (termsV ss)) ∧ Below w.heap.size w w' := by
  have H := Lib.hid (collect_any Bs ts a cap len w hlen hm hBsz hBs hw)
  have HL := Lib.hid hlen
  clear hlen hBs hw
  go_enter Try.func112, Try.ntmps112
  go_wp2_with fail
  refine H.out.mono ?_
  rintro e w1 ⟨⟨v, rfl, ho⟩, hb⟩
  have HO := Lib.hid ho
  clear ho
  go_wp2_with fail
  refine (sortOwn_any w.heap.size v len ts w1 HL.out hm hb.size HO.out).mono ?_
  rintro e w2 ⟨rfl, ⟨ss, hp, hs, ho⟩, hb2⟩
  have HS := Lib.hid (And.intro hp (And.intro hs ho))
  clear hp hs ho
  go_wp2
  go_ret
  exact ⟨⟨_, rfl, ss, HS.out⟩, hb.trans hb2⟩

end Go.Proofs.Ytebgcebjlbhjjaa

/- The contracts of the program's 'joinTerms' and 'push'. -/

namespace Go.Proofs.Ytebgcebjlbhjjaa
open Go.RowKit Go.Shelf

set_option maxHeartbeats 1000000 in
theorem joinTerms_any (a b : Tm) (w : World) (hc : -9223372036854775808 ≤ a.c + b.c ∧ a.c + b.c ≤ 9223372036854775807) :
    Calls Try.prog 97 #[.agg #[.int .i64 a.c, .string a.s], .agg #[.int .i64 b.c, .string b.s]] w fun e w' => e = .returned (.agg #[.int .i64 (a.c + b.c), .string a.s]) ∧ Below w.heap.size w w' := by
  obtain ⟨c, s⟩ := a
  obtain ⟨d, t⟩ := b
  have hw : IntKind.i64.wrap (c + d) = c + d := IntWalk.i64_in _ hc
  go_enter Try.func97, Try.ntmps97
  go_wp2
  exact bodyPost_ret (v := .agg #[.int .i64 (c + d), .string s]) (by simp [results, Try.results97, go_sem]) rfl ⟨rfl, (((Below.refl _ _).alloc (Nat.le_refl _) _).alloc (by simp) _).alloc (by simp; omega) _⟩

/-- All below B as it was, but for the block bs. -/
structure BelowBut (bs B : Nat) (w w' : World) : Prop where
  os : w'.os = w.os
  tape : w'.tape = w.tape
  output : w'.output = w.output
  size : w.heap.size ≤ w'.heap.size
  block : ∀ k, k < B → k ≠ bs → w'.heap[k]? = w.heap[k]?
theorem BelowBut.refl (bs B : Nat) (w : World) : BelowBut bs B w w := ⟨rfl, rfl, rfl, Nat.le_refl _, fun _ _ _ => rfl⟩
theorem BelowBut.trans {bs B : Nat} {a b c : World} (h : BelowBut bs B a b) (k : BelowBut bs B b c) : BelowBut bs B a c :=
  ⟨k.os.trans h.os, k.tape.trans h.tape, k.output.trans h.output, Nat.le_trans h.size k.size, fun i hi hb => (k.block i hi hb).trans (h.block i hi hb)⟩
theorem BelowBut.of {B : Nat} {w w' : World} (bs : Nat) (h : Below B w w') : BelowBut bs B w w' := ⟨h.os, h.tape, h.output, h.size, fun k hk _ => h.block k hk⟩

abbrev SrT : TypeId := 102
abbrev CF : Value := .func (.func 88) #[] #[]
/-- The struct at bs holds the terms. -/
def HoldS (base bs : Nat) (acc : List Tm) (W : World) : Prop :=
  ∃ v, W.heap[bs]? = some (.cells #[v, CF] SrT (0, 0)) ∧ W.ownsRow base TI 2 v acc.length (termsV acc)

/-- What the calls of push share. -/
theorem push_cells {base bs : Nat} {acc : List Tm} {w : World} (h : HoldS base bs acc w) (hbs : bs < base) (hbase : base ≤ w.heap.size) (x : Tm) :
    ∃ v, (w.alloc (.cells #[.int .i64 x.c, .string x.s] TI)).cell? ⟨bs, 0, none⟩ = some v ∧ (w.alloc (.cells #[.int .i64 x.c, .string x.s] TI)).cell? ⟨bs, 1, none⟩ = some CF ∧
      (w.alloc (.cells #[.int .i64 x.c, .string x.s] TI)).cell? ⟨w.heap.size, 0, none⟩ = some (.int .i64 x.c) ∧ (w.alloc (.cells #[.int .i64 x.c, .string x.s] TI)).cell? ⟨w.heap.size, 1, none⟩ = some (.string x.s) ∧
      (w.alloc (.cells #[.int .i64 x.c, .string x.s] TI)).ownsRow base TI 2 v acc.length (termsV acc) ∧ (w.alloc (.cells #[.int .i64 x.c, .string x.s] TI)).heap[bs]? = some (.cells #[v, CF] SrT (0, 0)) ∧ ∀ j, v.ownBlock = some j → base ≤ j ∧ j < w.heap.size := by
  obtain ⟨v, hbx, hrow⟩ := h
  have hbV : Below w.heap.size w (w.alloc (.cells #[.int .i64 x.c, .string x.s] TI)) := (Below.refl _ _).alloc (Nat.le_refl _) _
  have hbxV := (hbV.block bs (by omega)).trans hbx
  have hxV : (w.alloc (.cells #[.int .i64 x.c, .string x.s] TI)).heap[w.heap.size]? = some (.cells #[.int .i64 x.c, .string x.s] TI (0, 0)) := World.alloc_heap_new _ _
  exact ⟨v, by simp [World.cell?, hbxV], by simp [World.cell?, hbxV], (by unfold World.cell?; rw [hxV]; rfl), (by unfold World.cell?; rw [hxV]; rfl), hrow.alloc _, hbxV, fun j ej => by
    rcases hrow.2 with ⟨rfl, _⟩ | ⟨g1, cap1, cur1, rfl, hg1, hg2, _⟩
    · cases ej
    · simp [Value.ownBlock] at ej
      subst ej
      exact ⟨hg1, (Array.getElem?_eq_some_iff.1 hg2).1⟩⟩

theorem HoldS.set {bs : Nat} {w : World} {v : Value} (h : w.heap[bs]? = some (.cells #[v, CF] SrT (0, 0))) (u : Value) : (w.setCell ⟨bs, 0, none⟩ u).heap[bs]? = some (.cells #[u, CF] SrT (0, 0)) := by
  simp [World.setCell, Array.getElem?_modify, h]
theorem bs_frozen {bs : Nat} {w : World} {v : Value} (h : w.heap[bs]? = some (.cells #[v, CF] SrT (0, 0))) : w.frozen? ⟨bs, 0, none⟩ = false := by
  simp [World.frozen?, h]
theorem frozen_past {w : World} {a : Addr} (h : w.frozen? a = false) (hb : a.block < w.heap.size) (o : Obj) : (w.alloc o).frozen? a = false :=
  (World.frozen?_of_block (w := w) (Below.heap_alloc w o a.block hb)).trans h
theorem ownLow {W : World} {base : Nat} {e : TypeId} {size : Nat} {v : Value} {n : Nat} {xs : List Value} (h : W.ownsRow base e size v n xs) : ∀ j, v.ownBlock = some j → base ≤ j := by
  intro j ej
  rcases h.2 with ⟨rfl, _⟩ | ⟨g1, cap1, cur1, rfl, hg1, _⟩
  · cases ej
  · simp [Value.ownBlock] at ej
    subst ej
    exact hg1
/-- What an append stored into the struct leaves. -/
theorem push_done {base bs m : Nat} {W w1 : World} {v v' : Value} {o : Obj} {us : List Tm} {xs zs : List Value} {n : Nat} (hbx : W.heap[bs]? = some (.cells #[v, CF] SrT (0, 0))) (hbs : bs < base) (hbase : base ≤ W.heap.size)
    (hrow : W.ownsRow base TI 2 v n zs) (hown1 : w1.ownsRow base TI 2 v' m xs) (hm : m = us.length) (hx : xs = termsV us) (hgrow : (W.drew.alloc o).grownBy w1 v.ownBlock) :
    HoldS base bs us (w1.setCell ⟨bs, 0, none⟩ v') ∧ BelowBut bs base W (w1.setCell ⟨bs, 0, none⟩ v') := by
  have hl := ownLow hrow
  have hB : Below base W w1 := ((Below.refl base W).drew.alloc (by show base ≤ W.heap.size; exact hbase) _).grown hgrow (by simp; show base ≤ W.heap.size + 1; omega) hl
  have h1 : w1.heap[bs]? = some (.cells #[v, CF] SrT (0, 0)) := (hB.block bs hbs).trans hbx
  refine ⟨⟨v', HoldS.set h1 v', ?_⟩, (BelowBut.of bs hB).trans ⟨rfl, rfl, rfl, (KeepsWalks.setCell w1 _ _).size, fun k _ hk => Below.heap_setCell _ _ _ k hk⟩⟩
  rw [← hm, ← hx]
  exact ownsRow_setCell_below hown1 hbs _

set_option maxRecDepth 100000 in
set_option maxHeartbeats 4000000 in
theorem push_empty (base bs : Nat) (x : Tm) (w : World) (h : HoldS base bs [] w) (hbs : bs < base) (hbase : base ≤ w.heap.size) :
    Calls Try.prog 114 #[.pointer (some ⟨bs, 0, none⟩), .agg #[.int .i64 x.c, .string x.s], .func (.func 97) #[] #[]] w fun e w' =>
      e = .returned (.tuple #[]) ∧ HoldS base bs [x] w' ∧ BelowBut bs base w w' := by
  have hmx : Try.prog.follows .mixedOrders = true := by kernel_rfl
  obtain ⟨i0, hi, hz0, hz1, hz2⟩ := info_parts infoTerm
  obtain ⟨v, s0, s1, x0, x1, hrow, hbx, hblk⟩ := push_cells h hbs hbase x
  obtain ⟨a, cap, rfl⟩ : ∃ a cap, v = .slice a 0 cap := by
    rcases hrow.2 with ⟨rfl, _⟩ | ⟨g, cap, cur, rfl, _⟩
    · exact ⟨_, _, rfl⟩
    · exact ⟨_, _, rfl⟩
  obtain ⟨N, hN⟩ : ∃ N, w.heap.size = N := ⟨_, rfl⟩
  have hs : (w.alloc (.cells #[.int .i64 x.c, .string x.s] TI)).heap.size = N + 1 := by simp [hN]
  have hbw : Below w.heap.size w (w.alloc (.cells #[.int .i64 x.c, .string x.s] TI)) := (Below.refl _ _).alloc (Nat.le_refl _) _
  rw [hN] at x0 x1 hbase hbw
  have HR := Lib.hid hrow
  have HBX := Lib.hid hbx
  have HS := Lib.hid hs
  have HBW := Lib.hid hbw
  have HN := Lib.hid hN
  clear hrow hbx hs h hbw
  go_enter Try.func114, Try.ntmps114
  go_wp2_with fail
  try rw [hN]
  generalize (w.alloc (.cells #[.int .i64 x.c, .string x.s] TI)) = V at *
  refine wp_region_below hmx (by kernel_rfl) ?_
  repeat (((with_reducible refine wpQuiet_step (fun K hK => ?_)); go_simp; first | ((with_reducible refine hK _ ?_); clear hK K) | (refine (if_neg (by decide)).mpr ?_; (with_reducible refine hK _ ?_); clear hK K)))
  with_reducible refine wpQuiet_nil ?_
  rintro W ⟨⟨W, hW⟩, rfl⟩
  have y0 := (hW.cell (p := ⟨bs, 0, none⟩) (by show bs < _; rw [HS.out]; omega)).trans s0
  have y1 := (hW.cell (p := ⟨N, 0, none⟩) (by show N < _; rw [HS.out]; omega)).trans x0
  have y2 := (hW.cell (p := ⟨N, 1, none⟩) (by show N < _; rw [HS.out]; omega)).trans x1
  have hrW : W.ownsRow base TI 2 (.slice a 0 cap) 0 [] := OwnT.below (ts := []) HR.out hW
  have hbW : W.heap[bs]? = some (.cells #[.slice a 0 cap, CF] SrT (0, 0)) := (hW.block bs (by rw [HS.out]; omega)).trans HBX.out
  have hsz : N + 1 ≤ W.heap.size := by rw [← HS.out]; exact hW.size
  have HBB : Hid (BelowBut bs base w W) := Lib.hid ((BelowBut.of bs (HBW.out.mono hbase)).trans (BelowBut.of bs (hW.mono (by rw [HS.out]; omega))))
  change Exit.then _ _ _ _ W
  clear s0 s1 x0 x1 hW HR HBX HS HBW
  have HRW := Lib.hid hrW
  have HBXW := Lib.hid hbW
  have hf := bs_frozen hbW
  clear hrW hbW
  have hbs2 : bs < W.heap.size := by omega
  have hne : some bs ≠ (Value.slice a 0 cap).ownBlock := fun e => by have := (hblk bs e.symm).1; omega
  have hneN : some N ≠ (Value.slice a 0 cap).ownBlock := fun e => by have := (hblk N e.symm).2; omega
  have hNlt : N < W.heap.size := by omega
  clear hblk
  go_wp2_with fail
  have hwr : W.drew.heap.size = W.heap.size := rfl
  go_region_law
    ((refine step_append_lies _ (by rfl) _ _ _ (by rfl) base TI i0 _ 2 24 Try.underlying23 hi hz0 hz1 hz2 rfl (by omega) (.slice a 0 cap) 0 [] (by rfl) ((HRW.out.alloc _).drew)
        ⟨W.heap.size, 0, none⟩ 1 1 [.int .i64 x.c, .string x.s] (by rfl) (by rfl) (World.news_of_block (cs := #[.int .i64 x.c, .string x.s]) (t := TI) (fr := (0, 0)) (heap_alloc_new W _)) (by simp [Value.oneCell'])
        (by omega) (by decide) (by decide) (by simp; omega) (W.heap.size + 1) (by simp) ?_; intro gg cap1 w1 hown1 hgrow hat hlt; have hf1 : w1.frozen? ⟨bs, 0, none⟩ = false := (hgrow.frozen_far _ (by simp; omega) hne).trans (frozen_past hf hbs2 _); have hc1 : w1.cell? ⟨bs, 0, none⟩ = some (.slice a 0 cap) := (hgrow.cell_far _ (by simp; omega) hne).trans (cell_past (cell_drawn y0) _)))
  all_goals
    obtain ⟨d1, d2⟩ := push_done (us := [x]) HBXW.out hbs (by omega) HRW.out hown1 rfl rfl hgrow
    exact bodyPost_end (results_none rfl _ _ _) rfl ⟨rfl, d1, HBB.out.trans d2⟩

theorem add_off (g n : Nat) : (⟨g, 0, none⟩ : Addr).add n = ⟨g, n, none⟩ := by
  unfold Addr.add
  by_cases h : n = 0
  · subst h; simp
  · simp [h]
theorem compareBytes_zero : ∀ a b : List UInt8, Lib.compareBytes a b = 0 → a = b
  | [], [], _ => rfl
  | [], _ :: _, h => by simp [Lib.compareBytes] at h
  | _ :: _, [], h => by simp [Lib.compareBytes] at h
  | a :: ar, b :: bs, h => by
    unfold Lib.compareBytes at h
    by_cases h1 : a < b
    · rw [if_pos h1] at h; cases h
    · by_cases h2 : b < a
      · rw [if_neg h1, if_pos h2] at h; cases h
      · rw [if_neg h1, if_neg h2] at h
        rw [compareBytes_zero ar bs h]
        have : a = b := by
          apply UInt8.toNat_inj.1
          rw [UInt8.lt_iff_toNat_lt] at h1 h2
          omega
        rw [this]
theorem cmpW_zero {a b : ByteArray} (h : cmpW a b = 0) : a = b := by
  unfold cmpW orInt at h
  split at h
  · exact ByteArray.ext (Array.ext' (compareBytes_zero _ _ h))
  · rename_i h0
    exact absurd h (by first | exact h0 | simpa using h0)
theorem compareBytes_self : ∀ a : List UInt8, Lib.compareBytes a a = 0
  | [] => rfl
  | a :: ar => by
    unfold Lib.compareBytes
    rw [if_neg (by rw [UInt8.lt_iff_toNat_lt]; omega), if_neg (by rw [UInt8.lt_iff_toNat_lt]; omega)]
    exact compareBytes_self ar
theorem cmpW_self (a : ByteArray) : cmpW a a = 0 := by
  unfold cmpW orInt Lib.compareInt
  simp [compareBytes_self]

set_option maxRecDepth 100000 in
set_option maxHeartbeats 4000000 in
theorem push_more (base bs : Nat) (pre : List Tm) (l x : Tm) (w : World) (h : HoldS base bs (pre ++ [l]) w) (hls : l.s ≠ x.s) (hlen : pre.length ≤ 1000000) (hbs : bs < base) (hbase : base ≤ w.heap.size) :
    Calls Try.prog 114 #[.pointer (some ⟨bs, 0, none⟩), .agg #[.int .i64 x.c, .string x.s], .func (.func 97) #[] #[]] w fun e w' =>
      e = .returned (.tuple #[]) ∧ HoldS base bs (pre ++ [l] ++ [x]) w' ∧ BelowBut bs base w w' := by
  have hmx : Try.prog.follows .mixedOrders = true := by kernel_rfl
  obtain ⟨i0, hi, hz0, hz1, hz2⟩ := info_parts infoTerm
  obtain ⟨v, s0, s1, x0, x1, hrow, hbx, hblk⟩ := push_cells h hbs hbase x
  obtain ⟨g, cap, rfl⟩ : ∃ g cap, v = .slice (some ⟨g, 0, none⟩) (pre ++ [l]).length cap := by
    rcases hrow.2 with ⟨rfl, h0⟩ | ⟨g, cap, cur, rfl, _⟩
    · rw [List.length_append] at h0; simp at h0
    · exact ⟨_, _, rfl⟩
  have hta := termsAt_of_owns rfl hrow
  obtain ⟨hgb, hgN⟩ := hblk g rfl
  obtain ⟨l0, l1⟩ := hta.2 pre.length (by rw [List.length_append]; exact Nat.lt_succ_self _)
  rw [List.getElem_append_right (Nat.le_refl _)] at l0 l1
  simp only [Nat.sub_self, List.getElem_cons_zero] at l0 l1
  rw [addr_next] at l1
  obtain ⟨k, hk⟩ : ∃ k, pre.length = k := ⟨_, rfl⟩
  have hll : (pre ++ [l]).length = k + 1 := by rw [List.length_append, hk]; rfl
  have hw1 : IntKind.i64.wrap (((k + 1 : Nat) : Int) - 1) = (k : Int) := by rw [IntWalk.i64_in _ (by omega)]; omega
  have hw2 : IntKind.i64.wrap ((k : Int) + 1 - 1) = (k : Int) := by rw [IntWalk.i64_in _ (by omega)]; omega
  rw [hk] at l0 l1 hlen
  rw [hll] at hrow s0 hbx hblk
  obtain ⟨us, hus⟩ : ∃ us, pre ++ [l] = us := ⟨_, rfl⟩
  rw [hus] at hrow ⊢
  have HLL := Lib.hid hll
  have HUS := Lib.hid hus
  have HK := Lib.hid hk
  clear hll hus hta hk
  obtain ⟨N, hN⟩ : ∃ N, w.heap.size = N := ⟨_, rfl⟩
  have hs : (w.alloc (.cells #[.int .i64 x.c, .string x.s] TI)).heap.size = N + 1 := by simp [hN]
  have hbw : Below w.heap.size w (w.alloc (.cells #[.int .i64 x.c, .string x.s] TI)) := (Below.refl _ _).alloc (Nat.le_refl _) _
  rw [hN] at x0 x1 hbase hbw
  have HR := Lib.hid hrow
  have HBX := Lib.hid hbx
  have HS := Lib.hid hs
  have HBW := Lib.hid hbw
  have HN := Lib.hid hN
  obtain ⟨v, hv⟩ : ∃ v, cmpW l.s x.s = v := ⟨_, rfl⟩
  have HC : Hid (∀ W : World, Calls Try.prog 88 #[.agg #[.int .i64 l.c, .string l.s], .agg #[.int .i64 x.c, .string x.s]] W fun e w' => e = .returned (.int .i64 v) ∧ Below W.heap.size W w') := Lib.hid (fun W => by
    rw [← hv]
    exact (compareTerms_any l x W).mono fun _ _ ⟨h1, h2⟩ => ⟨h1, h2.below⟩)
  have hk0 : (0 : Int) ≤ (k : Int) := Int.natCast_nonneg _
  have hk1 : (k : Int) < (k : Int) + 1 := by omega
  have hk2 : (k : Int) < ((k + 1 : Nat) : Int) := by omega
  have hv0 : v ≠ 0 := fun e => hls (cmpW_zero (hv.trans e))
  have hd0 : (v == 0) = false := by simpa using hv0
  have hd1 : decide (v = 0) = false := by simpa using hv0
  have v0 := BelowBy.cell (a := ⟨bs, 0, none⟩) (by show bs < _; rw [hs]; omega) s0
  have v1 := BelowBy.cell (a := ⟨bs, 1, none⟩) (by show bs < _; rw [hs]; omega) s1
  have v2 := BelowBy.cell (a := ⟨N, 0, none⟩) (by show N < _; rw [hs]; omega) x0
  have v3 := BelowBy.cell (a := ⟨N, 1, none⟩) (by show N < _; rw [hs]; omega) x1
  simp only [add_off] at l0 l1
  have v4 := BelowBy.cell (a := ⟨g, k * 2, none⟩) (by rw [hs]; show g < _; omega) l0
  have v5 := BelowBy.cell (a := ⟨g, k * 2 + 1, none⟩) (by rw [hs]; show g < _; omega) l1
  clear hrow hbx hs h hbw hv l0 l1
  go_enter Try.func114, Try.ntmps114
  go_wp2_with fail
  try rw [hN]
  generalize (w.alloc (.cells #[.int .i64 x.c, .string x.s] TI)) = V at *
  refine wp_region_below hmx (by kernel_rfl) ?_
  repeat (((with_reducible refine wpQuiet_step (fun K hK => ?_)); go_simp; first | ((with_reducible refine hK _ ?_); clear hK K) | (refine (if_neg (by decide)).mpr ?_; (with_reducible refine hK _ ?_); clear hK K) | (apply Exists.intro; (with_reducible refine ⟨fun _ => ?_, hK _ ?_⟩); (go_at_call 88; exact Calls.bel (HC.out _)); clear hK K)))
  with_reducible refine wpQuiet_nil ?_
  rintro W ⟨⟨W, hW⟩, rfl⟩
  have y0 := (hW.cell (p := ⟨bs, 0, none⟩) (by show bs < _; rw [HS.out]; omega)).trans s0
  have y1 := (hW.cell (p := ⟨N, 0, none⟩) (by show N < _; rw [HS.out]; omega)).trans x0
  have y2 := (hW.cell (p := ⟨N, 1, none⟩) (by show N < _; rw [HS.out]; omega)).trans x1
  have hrW : W.ownsRow base TI 2 (.slice (some ⟨g, 0, none⟩) (k + 1) cap) (k + 1) (termsV us) := by
    have := HR.out
    rw [← HLL.out, HUS.out] at this ⊢
    exact OwnT.below this hW
  have hbW : W.heap[bs]? = some (.cells #[.slice (some ⟨g, 0, none⟩) (k + 1) cap, CF] SrT (0, 0)) := (hW.block bs (by rw [HS.out]; omega)).trans HBX.out
  have hsz : N + 1 ≤ W.heap.size := by rw [← HS.out]; exact hW.size
  have HBB : Hid (BelowBut bs base w W) := Lib.hid ((BelowBut.of bs (HBW.out.mono hbase)).trans (BelowBut.of bs (hW.mono (by rw [HS.out]; omega))))
  change Exit.then _ _ _ _ W
  clear s0 s1 x0 x1 v0 v1 v2 v3 v4 v5 hW HR HBX HS HBW
  have HRW := Lib.hid hrW
  have HBXW := Lib.hid hbW
  have hf := bs_frozen hbW
  clear hrW hbW
  have hbs2 : bs < W.heap.size := by omega
  have hne : some bs ≠ (Value.slice (some ⟨g, 0, none⟩) (k + 1) cap).ownBlock := fun e => by have := (hblk bs e.symm).1; omega
  have hneN : some N ≠ (Value.slice (some ⟨g, 0, none⟩) (k + 1) cap).ownBlock := fun e => by have := (hblk N e.symm).2; omega
  have hNlt : N < W.heap.size := by omega
  clear hblk
  go_wp2_with fail
  have hwr : W.drew.heap.size = W.heap.size := rfl
  go_region_law
    ((refine step_append_lies _ (by rfl) _ _ _ (by rfl) base TI i0 _ 2 24 Try.underlying23 hi hz0 hz1 hz2 rfl (by omega) (.slice (some ⟨g, 0, none⟩) (k + 1) cap) (k + 1) (termsV us) (by rfl) ((HRW.out.alloc _).drew)
        ⟨W.heap.size, 0, none⟩ 1 1 [.int .i64 x.c, .string x.s] (by rfl) (by rfl) (World.news_of_block (cs := #[.int .i64 x.c, .string x.s]) (t := TI) (fr := (0, 0)) (heap_alloc_new W _)) (by simp [Value.oneCell'])
        (by omega) (by unfold maxLen; omega) (by omega) (by simp; omega) (W.heap.size + 1) (by simp) ?_; intro gg cap1 w1 hown1 hgrow hat hlt; have hf1 : w1.frozen? ⟨bs, 0, none⟩ = false := (hgrow.frozen_far _ (by simp; omega) hne).trans (frozen_past hf hbs2 _); have hc1 : w1.cell? ⟨bs, 0, none⟩ = some (.slice (some ⟨g, 0, none⟩) (k + 1) cap) := (hgrow.cell_far _ (by simp; omega) hne).trans (cell_past (cell_drawn y0) _)))
  all_goals
    obtain ⟨d1, d2⟩ := push_done (us := us ++ [x]) HBXW.out hbs (by omega) HRW.out hown1 (by rw [List.length_append, ← HUS.out, HLL.out]; rfl) (by rw [termsV_append]; rfl) hgrow
    exact bodyPost_end (results_none rfl _ _ _) rfl ⟨rfl, d1, HBB.out.trans d2⟩

end Go.Proofs.Ytebgcebjlbhjjaa

/- The contract of the program's 'push'. -/

namespace Go.Proofs.Ytebgcebjlbhjjaa
open Go.RowKit Go.Shelf

theorem set_last (pre : List Tm) (l : Tm) (c : Int) (k : Nat) (hk : pre.length = k) :
    ((termsV (pre ++ [l])).set (k * 2) (.int .i64 c)).set (k * 2 + 1) (.string l.s) = termsV (pre ++ [⟨c, l.s⟩]) := by
  have hl := termsV_len pre
  rw [hk] at hl
  rw [termsV_append, termsV_append, List.set_append_right _ _ (by omega), List.set_append_right _ _ (by omega), hl, Nat.sub_self, show k * 2 + 1 - k * 2 = 1 by omega]
  rfl
/-- What the join that is stored leaves. -/
theorem join_done {base bs g k cap : Nat} {w W w2 : World} {pre us : List Tm} {l : Tm} {c : Int} (HBB : BelowBut bs base w W) (hb2 : Below W.drew.heap.size W.drew w2)
    (hbx : W.heap[bs]? = some (.cells #[.slice (some ⟨g, 0, none⟩) (k + 1) cap, CF] SrT (0, 0))) (hrow : W.ownsRow base TI 2 (.slice (some ⟨g, 0, none⟩) (k + 1) cap) (k + 1) (termsV us))
    (hus : pre ++ [l] = us) (hk : pre.length = k) (hbs : bs < base) (hgb : base ≤ g) (hbase : base ≤ W.heap.size) :
    HoldS base bs (pre ++ [⟨c, l.s⟩]) ((w2.setCell ⟨g, k * 2, none⟩ (.int .i64 c)).setCell ⟨g, k * 2 + 1, none⟩ (.string l.s)) ∧
      BelowBut bs base w ((w2.setCell ⟨g, k * 2, none⟩ (.int .i64 c)).setCell ⟨g, k * 2 + 1, none⟩ (.string l.s)) := by
  subst hus
  have hB : Below W.heap.size W w2 := (Below.refl _ W).drew.trans hb2
  have hll : (pre ++ [l]).length = k + 1 := by rw [List.length_append, hk]; rfl
  have hr2 : w2.ownsRow base TI 2 (.slice (some ⟨g, 0, none⟩) (k + 1) cap) (k + 1) (termsV (pre ++ [l])) := by
    rw [← hll] at hrow ⊢
    exact OwnT.below hrow hB
  have hst := ((hr2.stored (k * 2) (.int .i64 c)).1.stored (k * 2 + 1) (.string l.s)).1
  rw [set_last pre l c k hk] at hst
  have hb3 : Below base W ((w2.setCell ⟨g, k * 2, none⟩ (.int .i64 c)).setCell ⟨g, k * 2 + 1, none⟩ (.string l.s)) :=
    ((hB.mono hbase).setCell (p := ⟨g, k * 2, none⟩) hgb _).setCell (p := ⟨g, k * 2 + 1, none⟩) hgb _
  have hl2 : (pre ++ [(⟨c, l.s⟩ : Tm)]).length = k + 1 := by rw [List.length_append, hk]; rfl
  exact ⟨⟨_, (hb3.block bs hbs).trans hbx, by rw [hl2]; exact hst⟩, HBB.trans (BelowBut.of bs hb3)⟩

set_option maxRecDepth 100000 in
set_option maxHeartbeats 4000000 in
theorem push_join (base bs : Nat) (pre : List Tm) (l x : Tm) (w : World) (h : HoldS base bs (pre ++ [l]) w) (hls : l.s = x.s) (hsum : -9223372036854775808 ≤ l.c + x.c ∧ l.c + x.c ≤ 9223372036854775807) (hlen : pre.length ≤ 1000000) (hbs : bs < base) (hbase : base ≤ w.heap.size) :
    Calls Try.prog 114 #[.pointer (some ⟨bs, 0, none⟩), .agg #[.int .i64 x.c, .string x.s], .func (.func 97) #[] #[]] w fun e w' =>
      e = .returned (.tuple #[]) ∧ HoldS base bs (pre ++ [⟨l.c + x.c, l.s⟩]) w' ∧ BelowBut bs base w w' := by
  have hmx : Try.prog.follows .mixedOrders = true := by kernel_rfl
  obtain ⟨i0, hi, hz0, hz1, hz2⟩ := info_parts infoTerm
  obtain ⟨v, s0, s1, x0, x1, hrow, hbx, hblk⟩ := push_cells h hbs hbase x
  obtain ⟨g, cap, rfl⟩ : ∃ g cap, v = .slice (some ⟨g, 0, none⟩) (pre ++ [l]).length cap := by
    rcases hrow.2 with ⟨rfl, h0⟩ | ⟨g, cap, cur, rfl, _⟩
    · rw [List.length_append] at h0; simp at h0
    · exact ⟨_, _, rfl⟩
  have hta := termsAt_of_owns rfl hrow
  obtain ⟨hgb, hgN⟩ := hblk g rfl
  obtain ⟨l0, l1⟩ := hta.2 pre.length (by rw [List.length_append]; exact Nat.lt_succ_self _)
  rw [List.getElem_append_right (Nat.le_refl _)] at l0 l1
  simp only [Nat.sub_self, List.getElem_cons_zero] at l0 l1
  rw [addr_next] at l1
  obtain ⟨k, hk⟩ : ∃ k, pre.length = k := ⟨_, rfl⟩
  have hll : (pre ++ [l]).length = k + 1 := by rw [List.length_append, hk]; rfl
  have hw1 : IntKind.i64.wrap (((k + 1 : Nat) : Int) - 1) = (k : Int) := by rw [IntWalk.i64_in _ (by omega)]; omega
  have hw2 : IntKind.i64.wrap ((k : Int) + 1 - 1) = (k : Int) := by rw [IntWalk.i64_in _ (by omega)]; omega
  rw [hk] at l0 l1 hlen
  rw [hll] at hrow s0 hbx hblk
  obtain ⟨us, hus⟩ : ∃ us, pre ++ [l] = us := ⟨_, rfl⟩
  rw [hus] at hrow
  have HLL := Lib.hid hll
  have HUS := Lib.hid hus
  have HK := Lib.hid hk
  clear hll hus hta hk
  obtain ⟨N, hN⟩ : ∃ N, w.heap.size = N := ⟨_, rfl⟩
  have hs : (w.alloc (.cells #[.int .i64 x.c, .string x.s] TI)).heap.size = N + 1 := by simp [hN]
  have hbw : Below w.heap.size w (w.alloc (.cells #[.int .i64 x.c, .string x.s] TI)) := (Below.refl _ _).alloc (Nat.le_refl _) _
  rw [hN] at x0 x1 hbase hbw
  have HR := Lib.hid hrow
  have HBX := Lib.hid hbx
  have HS := Lib.hid hs
  have HBW := Lib.hid hbw
  have HN := Lib.hid hN
  have HC : Hid (∀ W : World, Calls Try.prog 88 #[.agg #[.int .i64 l.c, .string l.s], .agg #[.int .i64 x.c, .string x.s]] W fun e w' => e = .returned (.int .i64 0) ∧ Below W.heap.size W w') := Lib.hid (fun W => by
    have hv0 : cmpW l.s x.s = 0 := by rw [hls]; exact cmpW_self _
    rw [← hv0]
    exact (compareTerms_any l x W).mono fun _ _ ⟨h1, h2⟩ => ⟨h1, h2.below⟩)
  have HLS := Lib.hid hls
  have HSUM := Lib.hid hsum
  have hk0 : (0 : Int) ≤ (k : Int) := Int.natCast_nonneg _
  have hk1 : (k : Int) < (k : Int) + 1 := by omega
  have hk2 : (k : Int) < ((k + 1 : Nat) : Int) := by omega
  have v0 := BelowBy.cell (a := ⟨bs, 0, none⟩) (by show bs < _; rw [hs]; omega) s0
  have v1 := BelowBy.cell (a := ⟨bs, 1, none⟩) (by show bs < _; rw [hs]; omega) s1
  have v2 := BelowBy.cell (a := ⟨N, 0, none⟩) (by show N < _; rw [hs]; omega) x0
  have v3 := BelowBy.cell (a := ⟨N, 1, none⟩) (by show N < _; rw [hs]; omega) x1
  simp only [add_off] at l0 l1
  have v4 := BelowBy.cell (a := ⟨g, k * 2, none⟩) (by rw [hs]; show g < _; omega) l0
  have v5 := BelowBy.cell (a := ⟨g, k * 2 + 1, none⟩) (by rw [hs]; show g < _; omega) l1
  clear hrow hbx hs h hbw hls hsum
  go_enter Try.func114, Try.ntmps114
  go_wp2_with fail
  try rw [hN]
  generalize (w.alloc (.cells #[.int .i64 x.c, .string x.s] TI)) = V at *
  refine wp_region_below hmx (by kernel_rfl) ?_
  repeat (((with_reducible refine wpQuiet_step (fun K hK => ?_)); go_simp; first | ((with_reducible refine hK _ ?_); clear hK K) | (refine (if_neg (by decide)).mpr ?_; (with_reducible refine hK _ ?_); clear hK K) | (apply Exists.intro; (with_reducible refine ⟨fun _ => ?_, hK _ ?_⟩); (go_at_call 88; exact Calls.bel (HC.out _)); clear hK K)))
  with_reducible refine wpQuiet_nil ?_
  rintro W ⟨⟨W, hW⟩, rfl⟩
  have y0 := (hW.cell (p := ⟨bs, 0, none⟩) (by show bs < _; rw [HS.out]; omega)).trans s0
  have y1 := (hW.cell (p := ⟨N, 0, none⟩) (by show N < _; rw [HS.out]; omega)).trans x0
  have y2 := (hW.cell (p := ⟨N, 1, none⟩) (by show N < _; rw [HS.out]; omega)).trans x1
  have hrW : W.ownsRow base TI 2 (.slice (some ⟨g, 0, none⟩) (k + 1) cap) (k + 1) (termsV us) := by
    have := HR.out
    rw [← HLL.out, HUS.out] at this ⊢
    exact OwnT.below this hW
  have hbW : W.heap[bs]? = some (.cells #[.slice (some ⟨g, 0, none⟩) (k + 1) cap, CF] SrT (0, 0)) := (hW.block bs (by rw [HS.out]; omega)).trans HBX.out
  have hsz : N + 1 ≤ W.heap.size := by rw [← HS.out]; exact hW.size
  have HBB : Hid (BelowBut bs base w W) := Lib.hid ((BelowBut.of bs (HBW.out.mono hbase)).trans (BelowBut.of bs (hW.mono (by rw [HS.out]; omega))))
  change Exit.then _ _ _ _ W
  have y3 := (hW.cell (p := ⟨g, k * 2, none⟩) (by show g < _; rw [HS.out]; omega)).trans l0
  have y4 := (hW.cell (p := ⟨g, k * 2 + 1, none⟩) (by show g < _; rw [HS.out]; omega)).trans l1
  clear s0 s1 x0 x1 l0 l1 v0 v1 v2 v3 v4 v5 hW HR HBX HS HBW
  have HRW := Lib.hid hrW
  have HBXW := Lib.hid hbW
  have hf3 : W.frozen? ⟨g, k * 2, none⟩ = false := hrW.frozenAt (k * 2)
  have hf4 : W.frozen? ⟨g, k * 2 + 1, none⟩ = false := hrW.frozenAt (k * 2 + 1)
  clear hrW hbW
  have hbs2 : bs < W.heap.size := by omega
  have hg2 : g < W.heap.size := by omega
  clear hblk
  go_wp2_with fail
  go_region_with ((go_at_call 97; refine (joinTerms_any l x _ HSUM.out).mono ?_; rintro e w2 ⟨rfl, hb2⟩; have z0 := (hb2.cell (p := ⟨bs, 0, none⟩) hbs2).trans y0; have z3 := (hb2.cell (p := ⟨g, k * 2, none⟩) hg2).trans y3; have z4 := (hb2.cell (p := ⟨g, k * 2 + 1, none⟩) hg2).trans y4; have f3 := (hb2.frozen (p := ⟨g, k * 2, none⟩) hg2).trans hf3; have f4 := (hb2.frozen (p := ⟨g, k * 2 + 1, none⟩) hg2).trans hf4))
  all_goals
    go_wp2
    exact bodyPost_ret (results_none rfl _ _ _) rfl ⟨rfl, join_done HBB.out hb2 HBXW.out HRW.out HUS.out HK.out hbs hgb (by omega)⟩

end Go.Proofs.Ytebgcebjlbhjjaa

/- The contracts of the program's 'push' (all ways in one) and 'gathered'. -/

namespace Go.Proofs.Ytebgcebjlbhjjaa
open Go.RowKit Go.Shelf

theorem push_any (base bs : Nat) (acc : List Tm) (x : Tm) (w : World) (h : HoldS base bs acc w) (hbs : bs < base) (hbase : base ≤ w.heap.size) (hlen : acc.length ≤ 1000000)
    (hsum : ∀ l, acc.getLast? = some l → -9223372036854775808 ≤ l.c + x.c ∧ l.c + x.c ≤ 9223372036854775807) :
    Calls Try.prog 114 #[.pointer (some ⟨bs, 0, none⟩), .agg #[.int .i64 x.c, .string x.s], .func (.func 97) #[] #[]] w fun e w' =>
      e = .returned (.tuple #[]) ∧ HoldS base bs (pushT acc x) w' ∧ BelowBut bs base w w' := by
  rcases List.eq_nil_or_concat acc with rfl | ⟨pre, l, rfl⟩
  · exact push_empty base bs x w h hbs hbase
  · rw [List.concat_eq_append] at *
    have hp : pre.length ≤ 1000000 := by rw [List.length_append] at hlen; omega
    by_cases hls : l.s = x.s
    · rw [push_last, if_pos hls]
      exact push_join base bs pre l x w h hls (hsum l (by simp)) hp hbs hbase
    · rw [push_last, if_neg hls]
      exact push_more base bs pre l x w h hls hp hbs hbase

theorem push_len (acc : List Tm) (t : Tm) : (pushT acc t).length ≤ acc.length + 1 := by
  rcases List.eq_nil_or_concat acc with rfl | ⟨b, l, rfl⟩
  · rw [push_nil]; simp
  · rw [List.concat_eq_append, push_last]; split <;> simp
theorem push_bnd {acc : List Tm} {t : Tm} {B C : Int} (h : ∀ u ∈ acc, -B ≤ u.c ∧ u.c ≤ B) (ht : -C ≤ t.c ∧ t.c ≤ C) (hB : 0 ≤ B) (hC : 0 ≤ C) : ∀ u ∈ pushT acc t, -(B + C) ≤ u.c ∧ u.c ≤ B + C := by
  intro u hu
  rcases List.eq_nil_or_concat acc with rfl | ⟨b, l, rfl⟩
  · rw [push_nil] at hu; rw [List.mem_singleton.1 hu]; omega
  · rw [List.concat_eq_append] at *
    rw [push_last] at hu
    have hl := h l (by simp)
    split at hu
    · rcases List.mem_append.1 hu with hu | hu
      · have := h u (by simp [hu]); omega
      · rw [List.mem_singleton.1 hu]; show -(B + C) ≤ l.c + t.c ∧ l.c + t.c ≤ B + C; omega
    · rcases List.mem_append.1 hu with hu | hu
      · have := h u hu; omega
      · rw [List.mem_singleton.1 hu]; omega
theorem merge_take {ts : List Tm} {k : Nat} (hk : k < ts.length) : mergeT (ts.take (k + 1)) = pushT (mergeT (ts.take k)) ts[k] := by
  unfold mergeT
  rw [List.take_add_one, List.getElem?_eq_getElem hk, List.foldl_append]
  rfl
theorem merge_len (ts : List Tm) : ∀ k, (mergeT (ts.take k)).length ≤ k
  | 0 => by simp [mergeT]
  | k + 1 => by
    by_cases hk : k < ts.length
    · rw [merge_take hk]
      have := push_len (mergeT (ts.take k)) ts[k]
      have := merge_len ts k
      omega
    · have := merge_len ts k
      rw [List.take_of_length_le (by omega)] at this ⊢
      omega
theorem merge_bnd {ts : List Tm} {C : Int} (hC : 0 ≤ C) (h : ∀ u ∈ ts, -C ≤ u.c ∧ u.c ≤ C) : ∀ k : Nat, ∀ u ∈ mergeT (ts.take k), -(C * k) ≤ u.c ∧ u.c ≤ C * k
  | 0, u, hu => by simp [mergeT] at hu
  | k + 1, u, hu => by
    have e : C * ((k + 1 : Nat) : Int) = C * k + C := by rw [Int.natCast_add, Int.mul_add]; simp
    have hk0 : 0 ≤ C * (k : Int) := Int.mul_nonneg hC (Int.natCast_nonneg _)
    rw [e]
    by_cases hk : k < ts.length
    · rw [merge_take hk] at hu
      exact push_bnd (merge_bnd hC h k) (h _ (List.getElem_mem hk)) hk0 hC u hu
    · rw [List.take_of_length_le (by omega)] at hu
      have := merge_bnd hC h k u (by rw [List.take_of_length_le (by omega)]; exact hu)
      omega
theorem merge_all (ts : List Tm) : mergeT (ts.take ts.length) = mergeT ts := by rw [List.take_of_length_le (Nat.le_refl _)]

theorem HoldS.alloc {base bs : Nat} {acc : List Tm} {w : World} (h : HoldS base bs acc w) (hb : bs < w.heap.size) (o : Obj) : HoldS base bs acc (w.alloc o) := by
  obtain ⟨v, h1, h2⟩ := h
  exact ⟨v, (Below.heap_alloc _ _ _ hb).trans h1, h2.alloc _⟩
theorem smallT_perm {ss ts : List Tm} (hp : ss.Perm ts) (hl : ts.length ≤ maxLen) (h : ∀ t ∈ ts, t.s.size ≤ maxLen ∧ -9223372036854775808 ≤ t.c ∧ t.c ≤ 9223372036854775807) : SmallT ss :=
  ⟨by rw [hp.length_eq]; exact hl, fun t ht => h t (hp.mem_iff.1 ht)⟩

set_option maxRecDepth 100000 in
set_option maxHeartbeats 2000000 in
/-- The program's 'gathered' at terms. -/
theorem gathered_any (a : Option Addr) (cap n : Nat) (ts : List Tm) (w : World) (hs : IsTerms w a n ts) (hn : n ≤ 100000) (hc : ∀ t ∈ ts, -1000000000000 ≤ t.c ∧ t.c ≤ 1000000000000) :
    Calls Try.prog 96 #[.slice a n cap, CF, .func (.func 97) #[] #[]] w fun e w' =>
      (∃ v, e = .returned (.agg #[v, CF]) ∧ ∃ ss : List Tm, ss.Perm ts ∧ ss.Pairwise (fun a b => lessW b.s a.s = false) ∧ OwnT w.heap.size w' v (mergeT ss)) ∧ Below w.heap.size w w' := by
  have HS := Lib.hid hs
  have HC := Lib.hid hc
  clear hs hc
  go_enter Try.func96, Try.ntmps96
  go_wp2_with fail
  refine (valuesT_any a n cap _).mono ?_
  rintro e w2 ⟨rfl, rfl⟩
  obtain ⟨N, hN⟩ : ∃ N, w.heap.size = N := ⟨_, rfl⟩
  have q0 : ((((w.alloc (.cells #[.slice none 0 0, .nilFunc] SrT)).alloc (.cells #[.slice none 0 0, CF] SrT)).alloc (.cells #[.slice a n cap] ST))).heap[N]? = some (.cells #[.slice none 0 0, .nilFunc] SrT (0, 0)) := by
    rw [← hN, Below.heap_alloc _ _ _ (by simp; omega), Below.heap_alloc _ _ _ (by simp)]
    exact World.alloc_heap_new _ _
  have q1 : ((((w.alloc (.cells #[.slice none 0 0, .nilFunc] SrT)).alloc (.cells #[.slice none 0 0, CF] SrT)).alloc (.cells #[.slice a n cap] ST))).heap[N + 1]? = some (.cells #[.slice none 0 0, CF] SrT (0, 0)) := by
    rw [← hN, Below.heap_alloc _ _ _ (by simp)]
    have := World.alloc_heap_new (w.alloc (.cells #[.slice none 0 0, .nilFunc] SrT)) (.cells #[.slice none 0 0, CF] SrT)
    simpa using this
  have q2 : ((((w.alloc (.cells #[.slice none 0 0, .nilFunc] SrT)).alloc (.cells #[.slice none 0 0, CF] SrT)).alloc (.cells #[.slice a n cap] ST))).cell? ⟨N + 2, 0, none⟩ = some (.slice a n cap) := by
    have := World.alloc_heap_new ((w.alloc (.cells #[.slice none 0 0, .nilFunc] SrT)).alloc (.cells #[.slice none 0 0, CF] SrT)) (.cells #[.slice a n cap] ST)
    simp only [World.size_alloc, hN] at this
    unfold World.cell?
    rw [show N + 2 = N + 1 + 1 from rfl, this]
    rfl
  have hsz : ((((w.alloc (.cells #[.slice none 0 0, .nilFunc] SrT)).alloc (.cells #[.slice none 0 0, CF] SrT)).alloc (.cells #[.slice a n cap] ST))).heap.size = N + 3 := by simp [hN]
  have hbV : Below w.heap.size w ((((w.alloc (.cells #[.slice none 0 0, .nilFunc] SrT)).alloc (.cells #[.slice none 0 0, CF] SrT)).alloc (.cells #[.slice a n cap] ST))) := (((Below.refl _ _).alloc (Nat.le_refl _) _).alloc (by simp) _).alloc (by simp; omega) _
  simp only [World.size_alloc, hN]
  generalize ((((w.alloc (.cells #[.slice none 0 0, .nilFunc] SrT)).alloc (.cells #[.slice none 0 0, CF] SrT)).alloc (.cells #[.slice a n cap] ST))) = V at *
  have HS2 : Hid (0 < n → ∃ x, a = some x ∧ TermsAt V x ts) := Lib.hid (HS.out.below hbV).at_
  have HQ0 := Lib.hid q0
  have HQ1 := Lib.hid q1
  have HQ2 := Lib.hid q2
  have HSZ := Lib.hid hsz
  have HBV := Lib.hid hbV
  have HN := Lib.hid hN
  clear q0 q1 q2 hsz hbV hN
  go_wp2_with fail
  refine (sortedFunc_any (N + 1 + 1) ts a cap n V HS.out.len (by omega) (by rw [HSZ.out]; omega) HQ2.out HS2.out).mono ?_
  rintro e w3 ⟨⟨v3, rfl, ss, hp, hso, ho⟩, hb3⟩
  have hsl : ss.length = n := hp.length_eq.trans HS.out.len
  have hsm : SmallT ss := smallT_perm hp (by rw [HS.out.len]; exact HS.out.max) HS.out.small
  have hoT : OwnT V.heap.size w3 v3 ss := by unfold OwnT; rw [hsl]; exact ho
  obtain ⟨a3, cap3, rfl, hI⟩ := hoT.isTerms hsm
  have hlow : ∀ j, (Value.slice a3 ss.length cap3).ownBlock = some j → V.heap.size ≤ j := ownLow hoT
  have hcs : ∀ t ∈ ss, -1000000000000 ≤ t.c ∧ t.c ≤ 1000000000000 := fun t ht => HC.out t (hp.mem_iff.1 ht)
  have hfar : ∀ x, a3 = some x → N + 3 ≤ x.block := by
    intro x ex
    rcases ho.2 with ⟨e0, _⟩ | ⟨g1, cap1, cur1, e0, hg1, _⟩
    · simp only [Value.slice.injEq] at e0
      rw [e0.1] at ex; cases ex
    · simp only [Value.slice.injEq] at e0
      rw [e0.1] at ex
      cases ex
      rw [← HSZ.out]; exact hg1
  rw [hsl]
  have hs3 : N + 3 ≤ w3.heap.size := by rw [← HSZ.out]; exact hb3.size
  have q1 : w3.heap[N + 1]? = some (.cells #[.slice none 0 0, CF] SrT (0, 0)) := (hb3.block (N + 1) (by rw [HSZ.out]; omega)).trans HQ1.out
  have q0 : w3.heap[N]? = some (.cells #[.slice none 0 0, .nilFunc] SrT (0, 0)) := (hb3.block N (by rw [HSZ.out]; omega)).trans HQ0.out
  obtain ⟨base, hbase⟩ : ∃ base, w3.heap.size = base := ⟨_, rfl⟩
  have h0 : HoldS base (N + 1) (mergeT (ss.take 0)) w3 := ⟨_, q1, ⟨rfl, .inl ⟨rfl, rfl⟩⟩⟩
  have HP := Lib.hid hp
  have HSO := Lib.hid hso
  have HSL := Lib.hid hsl
  have HI := Lib.hid hI
  have HCS := Lib.hid hcs
  have HFAR := Lib.hid hfar
  have HB3 := Lib.hid (HBV.out.trans (hb3.mono (by rw [HSZ.out, HN.out]; omega)))
  have HBASE := Lib.hid hbase
  have HQ0' := Lib.hid q0
  clear hp hso ho hsl hsm hoT hI hlow hcs hfar hb3 q1 q0 HQ0 HQ1 HQ2 HBV HS2
  rw [hbase] at hs3
  clear hbase
  go_wp2_with fail
  go_loopw [17] (fun i wr => ∃ k : Nat, k ≤ n ∧ i = .int .i64 k ∧ Hid (HoldS base (N + 1) (mergeT (ss.take k)) wr) ∧ Hid (BelowBut (N + 1) base w3 wr)) (fun i _ => n - (intOf i).toNat)
  case atStart => exact ⟨0, Nat.zero_le _, rfl, Lib.hid h0, Lib.hid (BelowBut.refl _ _ _)⟩
  case round =>
    obtain ⟨k, hk, rfl, HH, HB⟩ := hrel
    by_cases hlt : k < n
    · have hkz : k < ss.length := by rw [HSL.out]; exact hlt
      obtain ⟨x, rfl, hx⟩ := HI.out.at_ (by rw [HSL.out]; omega)
      obtain ⟨t, ht⟩ : ∃ t, ss[k] = t := ⟨_, rfl⟩
      have hxf := HFAR.out x rfl
      have hxb := hx.1
      rw [HBASE.out] at hxb
      have hblk : wr.heap[x.block]? = w3.heap[x.block]? := HB.out.block x.block hxb (by omega)
      have hc := hx.2 k hkz
      rw [ht, addr_next] at hc
      obtain ⟨hc0, hc1⟩ := hc
      have c0 : wr.cell? (x.add (k * 2)) = some (.int .i64 t.c) := (World.cell?_of_block (w := w3) (by rw [addr_add_block]; exact hblk)).trans hc0
      have c1 : wr.cell? ⟨(x.add (k * 2)).block, (x.add (k * 2)).off + 1, none⟩ = some (.string t.s) := (World.cell?_of_block (w := w3) (a := ⟨(x.add (k * 2)).block, (x.add (k * 2)).off + 1, none⟩) (by show wr.heap[(x.add (k * 2)).block]? = _; rw [addr_add_block]; exact hblk)).trans hc1
      have HT := Lib.hid ht
      have hbw : base ≤ wr.heap.size := by rw [← HBASE.out]; exact HB.out.size
      have hsum : ∀ l, (mergeT (ss.take k)).getLast? = some l → -9223372036854775808 ≤ l.c + t.c ∧ l.c + t.c ≤ 9223372036854775807 := by
        intro l hl
        have h1 := merge_bnd (C := 1000000000000) (by omega) HCS.out k l (List.mem_of_getLast? hl)
        have h2 := HCS.out ss[k] (List.getElem_mem hkz)
        rw [ht] at h2
        omega
      have hml := merge_len ss k
      have hmt := merge_take hkz
      rw [ht] at hmt
      have HMT := Lib.hid hmt
      have hpush := push_any base (N + 1) (mergeT (ss.take k)) t (wr.alloc (.cells #[.int .i64 t.c, .string t.s] TI)) (HH.out.alloc (by omega) _) (by omega) (by simp; omega) (by omega) hsum
      have HPU := Lib.hid hpush
      clear ht hx hc0 hc1 hblk h0 hsum hml hmt hpush
      go_wp2_with fail
      refine HPU.out.mono ?_
      rintro e w4 ⟨rfl, hh4, hb4⟩
      have HH4 := Lib.hid hh4
      have HB4 := Lib.hid (HB.out.trans ((BelowBut.of (N + 1) ((Below.refl base wr).alloc hbw _)).trans hb4))
      clear hh4 hb4
      go_wp2
      go_roundw
      case rel => exact ⟨k + 1, by omega, by go_num, Lib.hid (by rw [HMT.out]; exact HH4.out), HB4⟩
      case measure => simp [intOf]; omega
    · obtain rfl : k = n := by omega
      clear h0
      obtain ⟨v, hbx, hrow⟩ := HH.out
      obtain ⟨av, mv, cv, rfl⟩ : ∃ a m c, v = .slice a m c := by
        rcases hrow.2 with ⟨rfl, _⟩ | ⟨g, cap, cur, rfl, _⟩
        · exact ⟨_, _, _, rfl⟩
        · exact ⟨_, _, _, rfl⟩
      have r0 : wr.cell? ⟨N + 1, 0, none⟩ = some (.slice av mv cv) := by simp [World.cell?, hbx]
      have r1 : wr.cell? ⟨N + 1, 1, none⟩ = some CF := by simp [World.cell?, hbx]
      have hq0 := (HB.out.block N (by omega) (by omega)).trans HQ0'.out
      have p0 : wr.cell? ⟨N, 0, none⟩ = some (.slice none 0 0) := by simp [World.cell?, hq0]
      have p1 : wr.cell? ⟨N, 1, none⟩ = some .nilFunc := by simp [World.cell?, hq0]
      have f0 : wr.frozen? ⟨N, 0, none⟩ = false := by simp [World.frozen?, hq0]
      have f1 : wr.frozen? ⟨N, 1, none⟩ = false := by simp [World.frozen?, hq0]
      have HROW := Lib.hid hrow
      clear hbx hrow hq0
      have hqN := (HB.out.block N (by omega) (by omega)).trans HQ0'.out
      have hqr : ((wr.setCell ⟨N, 0, none⟩ (.slice av mv cv)).setCell ⟨N, 1, none⟩ CF).heap[N]? = some (.cells #[.slice av mv cv, CF] SrT (0, 0)) := by
        simp [World.setCell, Array.getElem?_modify, hqN]
      have HQR := Lib.hid hqr
      clear hqN hqr
      go_wp2
      refine bodyPost_ret (results_cell_row rfl _ _ N SrT #[.slice av mv cv, CF] (0, 0) _ rfl HQR.out Try.underlying102 rfl (by kernel_rfl)) rfl ?_
      have hk : ss.take k = ss := List.take_of_length_le (by rw [HSL.out]; exact Nat.le_refl _)
      have hr := HROW.out
      rw [hk] at hr
      have hbb : Below w.heap.size w wr := HB3.out.trans ⟨HB.out.os, HB.out.tape, HB.out.output, HB.out.size, fun j hj => HB.out.block j (by rw [HN.out] at hj; omega) (by rw [HN.out] at hj; omega)⟩
      refine ⟨⟨_, rfl, ss, HP.out, HSO.out, ?_⟩, (hbb.setCell (p := ⟨N, 0, none⟩) (by show w.heap.size ≤ N; rw [HN.out]; exact Nat.le_refl _) _).setCell (p := ⟨N, 1, none⟩) (by show w.heap.size ≤ N; rw [HN.out]; exact Nat.le_refl _) _⟩
      exact ownsRow_base (ownsRow_setCell_below (ownsRow_setCell_below hr (by show N < base; omega) _) (by show N < base; omega) _) (by rw [HN.out]; omega)

end Go.Proofs.Ytebgcebjlbhjjaa

/- The contracts of the laws' own helpers that mark memory and look the marks up. -/

namespace Go.Proofs.Ytebgcebjlbhjjaa
open Go.RowKit Go.Shelf

/-- A term is stored: its two cells. -/
theorem set_terms (us : List Tm) (i : Nat) (t : Tm) (hi : i < us.length) : ((termsV us).set (i * 2) (.int .i64 t.c)).set (i * 2 + 1) (.string t.s) = termsV (us.set i t) := by
  have e : us = us.take i ++ us[i] :: us.drop (i + 1) := by rw [List.getElem_cons_drop]; exact (List.take_append_drop i us).symm
  have hl : (termsV (us.take i)).length = i * 2 := by rw [termsV_len, List.length_take, Nat.min_eq_left (by omega)]
  have hset : us.set i t = us.take i ++ t :: us.drop (i + 1) := by rw [List.set_eq_take_append_cons_drop, if_pos hi]
  rw [hset]
  have e2 : termsV us = termsV (us.take i) ++ .int .i64 us[i].c :: .string us[i].s :: termsV (us.drop (i + 1)) := by
    rw [← termsV_cons, ← termsV_append, ← e]
  rw [e2, termsV_append, termsV_cons, List.set_append_right _ _ (by omega), List.set_append_right _ _ (by omega), hl, Nat.sub_self, show i * 2 + 1 - i * 2 = 1 by omega]
  rfl

/-- The text of a mark. -/
def mkB (m : Nat) (t : ByteArray) : ByteArray :=
  if _h : m = 0 then t else mkB (m / 10) (⟨#[UInt8.ofNat (48 + m % 10)]⟩ ++ t)
termination_by m
decreasing_by omega
theorem mkB_zero (t : ByteArray) : mkB 0 t = t := by rw [mkB]; simp
theorem mkB_step {m : Nat} (h : m ≠ 0) (t : ByteArray) : mkB (m / 10) (⟨#[UInt8.ofNat (48 + m % 10)]⟩ ++ t) = mkB m t := by conv => rhs; rw [mkB, dif_neg h]
def mkS (k : Nat) : ByteArray := ⟨#[109]⟩ ++ mkB k ⟨#[]⟩

end Go.Proofs.Ytebgcebjlbhjjaa

/- The contract of slices.DeleteFunc at 'isZero'. -/

namespace Go.Proofs.Ytebgcebjlbhjjaa
open Go.RowKit Go.Shelf

/-- A shorter slice of the same row. -/
theorem ownsRow_shorter {w : World} {base : Nat} {e : TypeId} {size g n k cap : Nat} {xs : List Value} (h : w.ownsRow base e size (.slice (some ⟨g, 0, none⟩) n cap) n xs) (hk : k ≤ n) :
    w.ownsRow base e size (.slice (some ⟨g, 0, none⟩) k cap) k (xs.take (k * size)) := by
  have hks : k * size ≤ n * size := Nat.mul_le_mul_right _ hk
  rcases h.2 with ⟨h', _⟩ | ⟨g', cap', cur, h', hb, hg, hnc, hcm, hcs, htake⟩
  · simp at h'
  · simp only [Value.slice.injEq, Option.some.injEq, Addr.mk.injEq, and_true, true_and] at h'
    obtain ⟨rfl, rfl⟩ := h'
    refine ⟨by rw [List.length_take, h.1]; omega, .inr ⟨g, cap, cur, rfl, hb, hg, by omega, hcm, hcs, ?_⟩⟩
    rw [← htake, List.take_take, Nat.min_eq_left hks]
/-- Stores behind the first m cells. -/
theorem ownsRow_behind {base : Nat} {e : TypeId} {size g n cap m : Nat} : ∀ (vs : List Value) (o : Nat) {w : World} {xs : List Value}, w.ownsRow base e size (.slice (some ⟨g, 0, none⟩) n cap) n xs → m ≤ o →
    ∃ ys, (w.setCells g o vs).ownsRow base e size (.slice (some ⟨g, 0, none⟩) n cap) n ys ∧ ys.take m = xs.take m
  | [], _, _, xs, h, _ => ⟨xs, h, rfl⟩
  | v :: r, o, w, xs, h, hm => by
    obtain ⟨ys, h1, h2⟩ := ownsRow_behind (m := m) r (o + 1) (h.stored o v).1 (by omega)
    refine ⟨ys, h1, h2.trans ?_⟩
    rw [List.take_set, List.set_eq_of_length_le (by rw [List.length_take]; omega)]
theorem below_cells {B g : Nat} (hg : B ≤ g) : ∀ (vs : List Value) (o : Nat) {w0 w : World}, Below B w0 w → Below B w0 (w.setCells g o vs)
  | [], _, _, _, h => h
  | v :: r, o, _, _, h => below_cells hg r (o + 1) (h.setCell (p := ⟨g, o, none⟩) hg v)

/-- 'clear' at a slice of terms. -/
theorem clear_terms {P : Program} (w : World) (t : TypeId) (ht : P.underlying t = some (.slice TI)) (hv : ∀ w, (zeroValue TI).run P w = .ok (.agg #[.int .i64 0, .string ByteArray.empty]) w) (b o n c : Nat) (hn : 0 < n)
    (hc : ∀ j, j < n * 2 → (w.cell? ⟨b, o + j, none⟩).isSome = true) (hf : ∀ j, w.frozen? ⟨b, j, none⟩ = false) :
    ∃ vs, ∀ ty, (Builtin.clear_ #[t] ty #[.slice (some ⟨b, o, none⟩) n c]).run P w = .ok (.tuple #[]) (w.setCells b o vs) := by
  refine ⟨(Builtin.zeroCells #[.int .i64 0, .string ByteArray.empty] n).toList, fun ty => ?_⟩
  have hlen : (Builtin.zeroCells #[.int .i64 0, .string ByteArray.empty] n).toList.length = n * 2 := by simp [Builtin.zeroCells]
  have hst := run_storeCells_cells (P := P) b o (Builtin.zeroCells #[.int .i64 0, .string ByteArray.empty] n).toList 0 w (by rw [hlen]; simpa using hc) (fun j _ => hf _) (by
    intro u hu
    simp only [Builtin.zeroCells, Array.toList_map, List.mem_map] at hu
    obtain ⟨i, _, rfl⟩ := hu
    have h2 : i % 2 < 2 := Nat.mod_lt _ (by omega)
    rcases (by omega : i % 2 = 0 ∨ i % 2 = 1) with h | h
    · simp [h, Value.oneCell']
    · simp [h, Value.oneCell'])
  simp only [Nat.add_zero] at hst
  obtain ⟨m, rfl⟩ : ∃ m, n = m + 1 := ⟨n - 1, by omega⟩
  simp [Builtin.clear_, run_underlying ht, hv, Value.cells, hst]

abbrev nzT (ts : List Tm) : List Tm := ts.filter fun t => !(t.c == 0)
theorem nzT_all {ts : List Tm} (h : ∀ j (h : j < ts.length), ts[j].c ≠ 0) : nzT ts = ts := by
  refine List.filter_eq_self.2 fun t ht => ?_
  obtain ⟨j, hj, rfl⟩ := List.getElem_of_mem ht
  simpa using h j hj
theorem nzT_first {ts : List Tm} {i : Nat} (hi : i < ts.length) (h0 : ts[i].c = 0) (h : ∀ j (h : j < i), ts[j].c ≠ 0) : nzT (ts.take (i + 1)) = ts.take i := by
  rw [List.take_add_one, List.getElem?_eq_getElem hi]
  unfold nzT
  rw [List.filter_append]
  have h1 : (ts.take i).filter (fun t => !(t.c == 0)) = ts.take i := nzT_all fun j hj => by
    rw [List.length_take] at hj
    rw [List.getElem_take]
    exact h j (by omega)
  rw [h1]
  simp [h0]
theorem nzT_step {ts : List Tm} {j : Nat} {t : Tm} (hj : j < ts.length) (ht : ts[j] = t) : nzT (ts.take (j + 1)) = nzT (ts.take j) ++ (if t.c = 0 then [] else [t]) := by
  rw [List.take_add_one, List.getElem?_eq_getElem hj]
  unfold nzT
  rw [List.filter_append, ht]
  by_cases h : t.c = 0 <;> simp [h]
theorem nzT_len (ts : List Tm) (j : Nat) : (nzT (ts.take j)).length ≤ j := Nat.le_trans (List.length_filter_le _ _) (by rw [List.length_take]; omega)

/-- The terms kept so far, and the rest as it was. -/
structure Kept (base : Nat) (w : World) (g cap n i j : Nat) (ts us : List Tm) : Prop where
  own : w.ownsRow base TI 2 (.slice (some ⟨g, 0, none⟩) n cap) n (termsV us)
  len : us.length = n
  head : us.take i = nzT (ts.take j)
  tail : us.drop j = ts.drop j
  hi : i < j
  hj : j ≤ n
theorem Kept.below {base : Nat} {w w' : World} {g cap n i j : Nat} {ts us : List Tm} (h : Kept base w g cap n i j ts us) (hb : Below w.heap.size w w') : Kept base w' g cap n i j ts us :=
  ⟨by have := h.own; rw [← h.len] at this ⊢; exact OwnT.below this hb, h.len, h.head, h.tail, h.hi, h.hj⟩
theorem Kept.at_ {base : Nat} {w : World} {g cap n i j : Nat} {ts us : List Tm} (h : Kept base w g cap n i j ts us) (hjn : j < n) (hz : j < ts.length) :
    w.cell? ⟨g, j * 2, none⟩ = some (.int .i64 ts[j].c) ∧ w.cell? ⟨g, j * 2 + 1, none⟩ = some (.string ts[j].s) := by
  have hta := termsAt_of_owns (ts := us) (g := g) (cap := cap) rfl (by rw [h.len]; exact h.own)
  have hju : j < us.length := by rw [h.len]; exact hjn
  obtain ⟨h1, h2⟩ := hta.2 j hju
  have e : us[j] = ts[j] := by
    have := congrArg (·[0]?) h.tail
    simp only [List.getElem?_drop, Nat.add_zero, List.getElem?_eq_getElem hju, List.getElem?_eq_getElem hz] at this
    exact Option.some.inj this
  rw [e] at h1 h2
  rw [add_off] at h1 h2
  exact ⟨h1, h2⟩
theorem Kept.keep {base : Nat} {w : World} {g cap n i j : Nat} {ts us : List Tm} {t : Tm} (h : Kept base w g cap n i j ts us) (hz : j < ts.length) (hjn : j < n) (ht : ts[j] = t) (hc : t.c ≠ 0) :
    Kept base ((w.setCell ⟨g, i * 2, none⟩ (.int .i64 t.c)).setCell ⟨g, i * 2 + 1, none⟩ (.string t.s)) g cap n (i + 1) (j + 1) ts (us.set i t) := by
  have hiu : i < us.length := by rw [h.len]; have := h.hi; omega
  refine ⟨?_, by rw [List.length_set]; exact h.len, ?_, ?_, by have := h.hi; omega, by omega⟩
  · rw [← set_terms us i t hiu]
    exact ((h.own.stored (i * 2) (.int .i64 t.c)).1.stored (i * 2 + 1) (.string t.s)).1
  · rw [nzT_step hz ht, if_neg hc, ← h.head, List.take_add_one, List.getElem?_set_self hiu, List.take_set, List.set_eq_of_length_le (by rw [List.length_take]; omega)]
    rfl
  · have := congrArg (List.drop 1) h.tail
    rw [List.drop_drop, List.drop_drop] at this
    rw [List.drop_set, if_pos (by have := h.hi; omega)]
    exact this
theorem Kept.skip {base : Nat} {w : World} {g cap n i j : Nat} {ts us : List Tm} {t : Tm} (h : Kept base w g cap n i j ts us) (hz : j < ts.length) (hjn : j < n) (ht : ts[j] = t) (hc : t.c = 0) : Kept base w g cap n i (j + 1) ts us := by
  refine ⟨h.own, h.len, ?_, ?_, by have := h.hi; omega, by omega⟩
  · rw [nzT_step hz ht, if_pos hc, List.append_nil]; exact h.head
  · have := congrArg (List.drop 1) h.tail
    rw [List.drop_drop, List.drop_drop] at this
    exact this

set_option maxRecDepth 100000 in
set_option maxHeartbeats 2000000 in
theorem deleteZero_any (base : Nat) (v : Value) (ts : List Tm) (w : World) (h : OwnT base w v ts) (hsm : SmallT ts) (hbase : base ≤ w.heap.size) :
    Calls Try.prog 95 #[v, ZF] w fun e w' =>
      (∃ r, e = .returned r ∧ OwnT base w' r (nzT ts)) ∧ Below base w w' := by
  obtain ⟨a, cap, rfl, hI⟩ := h.isTerms hsm
  have hmax : ts.length ≤ maxLen := hsm.1
  unfold maxLen at hmax
  have HI := Lib.hid hI
  have HO := Lib.hid h
  obtain ⟨n, hn⟩ : ∃ n, ts.length = n := ⟨_, rfl⟩
  rw [hn] at hmax HI HO ⊢
  have HN := Lib.hid hn
  clear hI h hsm hn
  go_enter Try.func95, Try.ntmps95
  go_wp2_with fail
  refine (indexZero_any a cap n ts _ HI.out).mono ?_
  rintro e w2 ⟨⟨r, rfl, hr⟩, hb2⟩
  have HB2 := Lib.hid hb2
  rcases hr with ⟨rfl, hall⟩ | ⟨i, hi, rfl, hz, hbef⟩
  · have HA := Lib.hid hall
    clear hall hb2
    go_wp2
    go_ret
    refine ⟨⟨_, rfl, ?_⟩, HB2.out.mono hbase⟩
    rw [nzT_all HA.out]
    have := HO.out.below HB2.out
    exact this
  · have hin : i < n := by rw [← HN.out]; exact hi
    have hd : decide ((i : Int) = -1) = false := by simp
    obtain ⟨g, rfl, hg⟩ : ∃ g, a = some ⟨g, 0, none⟩ ∧ base ≤ g := by
      rcases HO.out.2 with ⟨_, e1⟩ | ⟨g, cap1, cur, e0, hg, _⟩
      · rw [HN.out] at e1; omega
      · simp only [Value.slice.injEq] at e0; exact ⟨g, e0.1, hg⟩
    have hok : (w2.ownsRow base TI 2 (.slice (some ⟨g, 0, none⟩) n cap) n (termsV ts)) := by
      have := HO.out.below HB2.out
      unfold OwnT at this
      rw [HN.out] at this
      exact this
    have hcap : n ≤ cap := (ownsRow_cap hok).1
    have hcm : cap ≤ 2 ^ 63 - 1 := (ownsRow_cap hok).2.1
    have hk0 : Kept base w2 g cap n i (i + 1) ts ts := ⟨hok, HN.out, (nzT_first hi hz hbef).symm, rfl, by omega, by omega⟩
    have HK0 := Lib.hid hk0
    have HBB := Lib.hid (HB2.out.mono hbase)
    clear hz hbef hb2 hok hk0 hi
    go_wp2_with fail
    go_loopw [5, 6] (fun p q wr => ∃ (i j : Nat) (us : List Tm), p = .int .i64 i ∧ q = .int .i64 j ∧ Hid (Kept base wr g cap n i j ts us) ∧ i < j ∧ j ≤ n ∧ Hid (Below base w wr)) (fun _ q _ => n - (intOf q).toNat)
    case atStart => exact ⟨i, i + 1, ts, rfl, by go_num, HK0, by omega, by omega, HBB⟩
    case round =>
      obtain ⟨i, j, us, rfl, rfl, HK, hij, hjn, HB⟩ := hrel
      by_cases hlt : j < n
      · have hjz : j < ts.length := by rw [HN.out]; exact hlt
        obtain ⟨t, ht⟩ : ∃ t, ts[j] = t := ⟨_, rfl⟩
        obtain ⟨c0, c1⟩ := HK.out.at_ hlt hjz
        rw [ht] at c0 c1
        have HT := Lib.hid ht
        have hgw : g < wr.heap.size := (ownsRow_cap HK.out.own).2.2.2
        have hbw : base ≤ wr.heap.size := by omega
        clear ht
        go_wp2_with fail
        refine (isZero_any t _).mono ?_
        rintro e w4 ⟨rfl, hg4⟩
        have hb4 := hg4.below
        have hbw4 : Below wr.heap.size wr w4 := ((Below.refl _ wr).alloc (Nat.le_refl _) _).trans (hb4.mono (by simp))
        have hK4 := HK.out.below hbw4
        have HB4 := Lib.hid (HB.out.trans (hbw4.mono hbw))
        have hxb : (wr.alloc (.cells #[.int .i64 t.c, .string t.s] TI)).heap[wr.heap.size]? = some (.cells #[.int .i64 t.c, .string t.s] TI (0, 0)) := World.alloc_heap_new _ _
        have hxb4 := (hb4.block wr.heap.size (by simp)).trans hxb
        have d0 : w4.cell? ⟨wr.heap.size, 0, none⟩ = some (.int .i64 t.c) := by unfold World.cell?; rw [hxb4]; rfl
        have d1 : w4.cell? ⟨wr.heap.size, 1, none⟩ = some (.string t.s) := by unfold World.cell?; rw [hxb4]; rfl
        have hlu : (termsV us).length = n * 2 := by rw [termsV_len, hK4.len]
        have hd0 : ∃ u, w4.cell? ⟨g, i * 2, none⟩ = some u := by rw [hK4.own.cellAt _ (by omega)]; exact ⟨_, List.getElem?_eq_getElem (by omega)⟩
        have hd1 : ∃ u, w4.cell? ⟨g, i * 2 + 1, none⟩ = some u := by rw [hK4.own.cellAt _ (by omega)]; exact ⟨_, List.getElem?_eq_getElem (by omega)⟩
        obtain ⟨u0, hu0⟩ := hd0
        obtain ⟨u1, hu1⟩ := hd1
        have hf0 := hK4.own.frozenAt (i * 2)
        have hf1 := hK4.own.frozenAt (i * 2 + 1)
        have hin2 : i < n := by omega
        have HK4 := Lib.hid hK4
        clear hg4 hb4 hbw4 hK4 hxb hxb4 hlu c0 c1
        by_cases hz : t.c = 0
        · have hzb : (t.c == 0) = true := by simpa using hz
          have HZ := Lib.hid hz
          clear hz
          go_wp2
          go_roundw
          case rel =>
            refine ⟨_, _, _, _, _, _, _, _, _, _, _, _, _, _, _, _, _, _, _, _, _, _, _, ?_, rfl⟩
            exact ⟨i, j + 1, us, rfl, by go_num, Lib.hid (HK4.out.skip hjz hlt HT.out HZ.out), by omega, by omega, HB4⟩
          case measure => simp [intOf]; omega
        · have hzb : (t.c == 0) = false := by simpa using hz
          have HZ := Lib.hid hz
          clear hz
          go_wp2
          go_roundw
          case rel =>
            refine ⟨_, _, _, _, _, _, _, _, _, _, _, _, _, _, _, _, _, _, _, _, _, _, _, ?_, rfl⟩
            exact ⟨i + 1, j + 1, us.set i t, by go_num, by go_num, Lib.hid (HK4.out.keep hjz hlt HT.out HZ.out), by omega, by omega, Lib.hid ((HB4.out.setCell (p := ⟨g, i * 2, none⟩) hg _).setCell (p := ⟨g, i * 2 + 1, none⟩) hg _)⟩
          case measure => simp [intOf]; omega
      · obtain rfl : j = n := by omega
        obtain ⟨i0, hi, hz0, hz1, hz2⟩ := info_parts infoTerm
        have hzv : ∀ w, (zeroValue TI).run Try.prog w = .ok (.agg #[.int .i64 0, .string ByteArray.empty]) w := fun w => by simp [zeroValue, typeInfo, hi, hz0]
        have hlu : (termsV us).length = j * 2 := by rw [termsV_len, HK.out.len]
        obtain ⟨vs, hcl⟩ := clear_terms (P := Try.prog) wr 23 Try.underlying23 hzv g (i * 2) (j - i) (cap - i) (by omega)
          (fun m hm => by rw [HK.out.own.cellAt _ (by omega), List.getElem?_eq_getElem (by omega)]; rfl) (fun m => HK.out.own.frozenAt m)
        clear hi hz0 hz1 hz2 hzv hlu
        go_wp2
        go_ret
        obtain ⟨ys, h1, h2⟩ := ownsRow_behind (m := i * 2) vs (i * 2) HK.out.own (Nat.le_refl _)
        have h3 := ownsRow_shorter (k := i) h1 (by omega)
        refine ⟨⟨_, rfl, ?_⟩, below_cells hg vs _ HB.out⟩
        have hnz : nzT ts = us.take i := by rw [HK.out.head, List.take_of_length_le (by rw [HN.out]; exact Nat.le_refl _)]
        have hl : (us.take i).length = i := by rw [List.length_take, HK.out.len]; omega
        have ht : (termsV us).take (i * 2) = termsV (us.take i) := by
          have e : us = us.take i ++ us.drop i := (List.take_append_drop i us).symm
          conv => lhs; rw [e]
          rw [termsV_append, List.take_append_of_le_length (by rw [termsV_len, hl]; exact Nat.le_refl _), List.take_of_length_le (by rw [termsV_len, hl]; exact Nat.le_refl _)]
        rw [h2, ht] at h3
        unfold OwnT
        rw [hnz, hl]
        exact h3

end Go.Proofs.Ytebgcebjlbhjjaa

/- The contracts of the program's 'toldSum' and 'SumOf'. -/

namespace Go.Proofs.Ytebgcebjlbhjjaa
open Go.RowKit Go.Shelf

/-- What a call of the program answers that tells a sum. -/
def ITold (w : World) (b : Bool) (us : List Tm) (e : Ending) (w' : World) : Prop := (∃ v', e = .returned (.tuple #[v', .bool b]) ∧ OwnT w.heap.size w' v' (cond b us [])) ∧ Below w.heap.size w w'
theorem ownNil (base : Nat) (w : World) : OwnT base w (.slice none 0 0) [] := ⟨rfl, .inl ⟨rfl, rfl⟩⟩
/-- Terms that may be gathered: not too many, not too great, their words of whatever length. -/
theorem filter_small {ts : List Tm} {p : Tm → Bool} (h : SmallT ts) : SmallT (ts.filter p) :=
  ⟨Nat.le_trans (List.length_filter_le _ _) h.1, fun t ht => h.2 t (List.mem_filter.1 ht).1⟩
theorem push_words {acc : List Tm} {t : Tm} {M : Nat} (h : ∀ u ∈ acc, u.s.size ≤ M) (ht : t.s.size ≤ M) : ∀ u ∈ pushT acc t, u.s.size ≤ M := by
  intro u hu
  rcases List.eq_nil_or_concat acc with rfl | ⟨b, l, rfl⟩
  · rw [push_nil] at hu; rw [List.mem_singleton.1 hu]; exact ht
  · rw [List.concat_eq_append] at *
    rw [push_last] at hu
    have hl := h l (by simp)
    split at hu
    · rcases List.mem_append.1 hu with hu | hu
      · exact h u (by simp [hu])
      · rw [List.mem_singleton.1 hu]; exact hl
    · rcases List.mem_append.1 hu with hu | hu
      · exact h u hu
      · rw [List.mem_singleton.1 hu]; exact ht
theorem merge_words {M : Nat} : ∀ (ts acc : List Tm), (∀ u ∈ acc, u.s.size ≤ M) → (∀ u ∈ ts, u.s.size ≤ M) → ∀ u ∈ ts.foldl pushT acc, u.s.size ≤ M
  | [], _, h, _ => h
  | t :: r, acc, h, ht => merge_words r (pushT acc t) (push_words h (ht t (by simp))) (fun u hu => ht u (by simp [hu]))
theorem merge_small {ts : List Tm} (hn : ts.length ≤ 100000) (hc : ∀ t ∈ ts, -1000000000000 ≤ t.c ∧ t.c ≤ 1000000000000) (hs : ∀ t ∈ ts, t.s.size ≤ maxLen) : SmallT (mergeT ts) := by
  have h1 := merge_len ts ts.length
  have h2 := merge_bnd (C := 1000000000000) (by omega) hc ts.length
  rw [merge_all] at h1 h2
  refine ⟨by unfold maxLen; omega, fun t ht => ⟨merge_words ts [] (fun u h => by cases h) hs t ht, ?_⟩⟩
  have := h2 t ht
  omega

set_option maxRecDepth 100000 in
set_option maxHeartbeats 1000000 in
theorem toldSum_any (a : Option Addr) (cap n : Nat) (ts : List Tm) (b : Bool) (w : World) (hs : IsTerms w a n ts) (hn : n ≤ 100000) (hc : ∀ t ∈ ts, -1000000000000 ≤ t.c ∧ t.c ≤ 1000000000000) (hb : twB (canonT ts) = b) :
    Calls Try.prog 59 #[.slice a n cap] w (ITold w b (canonT ts)) := by
  have HS := Lib.hid hs
  have HC := Lib.hid hc
  have HBB := Lib.hid hb
  clear hs hc hb
  go_enter Try.func59, Try.ntmps59
  go_wp2_with fail
  refine (gathered_any a cap n ts _ HS.out hn HC.out).mono ?_
  rintro e w1 ⟨⟨v, rfl, ss, hp, hso, ho⟩, hb1⟩
  obtain ⟨av, mv, cv, rfl⟩ : ∃ a m c, v = .slice a m c := by
    rcases ho.2 with ⟨rfl, _⟩ | ⟨g, cap, cur, rfl, _⟩
    · exact ⟨_, _, _, rfl⟩
    · exact ⟨_, _, _, rfl⟩
  have hss : SmallT (mergeT ss) := merge_small (by rw [hp.length_eq, HS.out.len]; exact hn) (fun t ht => HC.out t (hp.mem_iff.1 ht)) (fun t ht => (HS.out.small t (hp.mem_iff.1 ht)).1)
  have heq : nzT (mergeT ss) = canonT ts := gathered_eq hp hso
  have hsc : SmallT (canonT ts) := by rw [← heq]; exact filter_small hss
  have hdel := deleteZero_any w.heap.size (.slice av mv cv) (mergeT ss) w1 ho hss hb1.size
  rw [heq] at hdel
  have HD := Lib.hid hdel
  have hfield : (Instr.field SrT (.agg #[.slice av mv cv, CF]) 0).run Try.prog w1 = .ok (.slice av mv cv) w1 := by
    simp [Instr.field, run_underlying Try.underlying102, part, run_isAgg_plain Try.underlying23 rfl, asAgg, Result.andThen]
  have HSC := Lib.hid hsc
  have HB1 := Lib.hid hb1
  clear hp hso ho hss heq hsc hdel hb1
  go_wp2_with fail
  refine HD.out.mono ?_
  rintro e w2 ⟨⟨r, rfl, ho⟩, hb2⟩
  obtain ⟨ar, cr, rfl, hI⟩ := ho.isTerms HSC.out
  have HO := Lib.hid ho
  have HI := Lib.hid hI
  have HB2 := Lib.hid (HB1.out.trans hb2)
  clear ho hI hb2
  go_wp2_with fail
  refine (termWords_any ar cr _ (canonT ts) _ HI.out).mono ?_
  rintro e w3 ⟨⟨rfl, hf⟩ | ⟨g, vals, rfl, hf, _, _⟩, hb3⟩
  · obtain rfl : b = false := by rw [← HBB.out, hf]
    have HB3 := Lib.hid hb3
    clear hb3 hf
    go_wp2
    go_ret2
    exact ⟨⟨_, rfl, ownNil _ _⟩, HB2.out.trans (HB3.out.mono HB2.out.size)⟩
  · obtain rfl : b = true := by rw [← HBB.out, hf]
    have HB3 := Lib.hid hb3
    clear hb3 hf
    go_wp2
    go_ret2
    exact ⟨⟨_, rfl, HO.out.below HB3.out⟩, HB2.out.trans (HB3.out.mono HB2.out.size)⟩

set_option maxRecDepth 100000 in
set_option maxHeartbeats 1000000 in
theorem iSumOf_any (a : Option Addr) (cap n : Nat) (ts : List Tm) (b : Bool) (w : World) (hs : IsTerms w a n ts) (hb : ofB ts = b) :
    Calls Try.prog 18 #[.slice a n cap] w (ITold w b (canonT ts)) := by
  have HS := Lib.hid hs
  have HBB := Lib.hid hb
  clear hs hb
  go_enter Try.func18, Try.ntmps18
  go_wp2_with fail
  refine (termWords_any a cap n ts _ HS.out).mono ?_
  rintro e w3 ⟨⟨rfl, hf⟩ | ⟨g, vals, rfl, hf, _, _⟩, hb3⟩
  · obtain rfl : b = false := by rw [← HBB.out, ofB, hf]; rfl
    have HB3 := Lib.hid hb3
    clear hb3 hf
    go_wp2
    go_ret2
    exact ⟨⟨_, rfl, ownNil _ _⟩, HB3.out⟩
  · have hcl := canon_len_words hf
    have hn : n ≤ 100000 := by rw [← HS.out.len]; omega
    have hbb : twB (canonT ts) = b := by rw [← HBB.out, ofB, hf, Bool.true_and, sumB_canon (canon_of ts)]
    have htold := toldSum_any a cap n ts b w3 (HS.out.below hb3) hn (fun t ht => by have := (termB_iff (hcl.2 t ht)).2; omega) hbb
    have HT := Lib.hid htold
    have HB3 := Lib.hid hb3
    clear hb3 hf hcl hn hbb htold
    go_wp2_with fail
    refine HT.out.mono ?_
    rintro e w4 ⟨⟨v', rfl, ho⟩, hb4⟩
    have HO := Lib.hid ho
    have HB4 := Lib.hid hb4
    clear ho hb4
    go_wp2
    go_ret2
    exact ⟨⟨_, rfl, HO.out.mono HB3.out.size⟩, HB3.out.trans (HB4.out.mono HB3.out.size)⟩

end Go.Proofs.Ytebgcebjlbhjjaa

/- The contracts of the program's 'SumAdd'; both SumAdds as a law wants them. -/

namespace Go.Proofs.Ytebgcebjlbhjjaa
open Go.RowKit Go.Shelf

theorem sumB_small {x : List Tm} (h : sumB x = true) : x.length ≤ 300 ∧ (∀ t ∈ x, t.s.size ≤ 60 ∧ -1000000 ≤ t.c ∧ t.c ≤ 1000000) ∧ SmallT x := by
  obtain ⟨h1, h2⟩ := canon_len_words (sumB_parts h).1
  have h3 : ∀ t ∈ x, t.s.size ≤ 60 ∧ -1000000 ≤ t.c ∧ t.c ≤ 1000000 := fun t ht => termB_iff (h2 t ht)
  exact ⟨h1, h3, by unfold maxLen; omega, fun t ht => by have := h3 t ht; unfold maxLen; omega⟩
theorem told_small {b : Bool} {L us : List Tm} (h : b = true → twB L = true) (hus : cond b L [] = us) : SmallT us ∧ us.length ≤ 300 := by
  cases b with
  | false => subst hus; exact ⟨⟨Nat.zero_le _, fun t h => by cases h⟩, Nat.zero_le _⟩
  | true =>
    have hus : L = us := hus
    subst hus
    obtain ⟨h1, h2⟩ := canon_len_words (h rfl)
    exact ⟨⟨by unfold maxLen; omega, fun t ht => by have := termB_iff (h2 t ht); unfold maxLen; omega⟩, h1⟩

set_option maxRecDepth 100000 in
set_option maxHeartbeats 4000000 in
theorem iSumAdd_no (a1 a2 : Option Addr) (c1 c2 n m : Nat) (x y : List Tm) (w : World) (hx : IsTerms w a1 n x) (hy : IsTerms w a2 m y) (hb : sumB x = false ∨ sumB y = false) :
    Calls Try.prog 24 #[.slice a1 n c1, .slice a2 m c2] w (ITold w false []) := by
  have HX := Lib.hid hx
  have HY := Lib.hid hy
  clear hx hy
  cases hbx : sumB x with
  | false =>
    have HBX := Lib.hid hbx
    clear hbx hb
    go_enter Try.func24, Try.ntmps24
    go_wp2_with fail
    refine (iSumIn_is a1 c1 n x false _ HX.out HBX.out).mono ?_
    rintro e w1 ⟨rfl, hb1⟩
    have HB1 := Lib.hid hb1
    clear hb1
    go_wp2
    go_ret2
    exact ⟨⟨_, rfl, ownNil _ _⟩, HB1.out⟩
  | true =>
    have hby : sumB y = false := by rcases hb with h | h; · rw [h] at hbx; cases hbx
                                    · exact h
    have HBX := Lib.hid hbx
    have HBY := Lib.hid hby
    clear hbx hby hb
    go_enter Try.func24, Try.ntmps24
    go_wp2_with fail
    refine (iSumIn_is a1 c1 n x true _ HX.out HBX.out).mono ?_
    rintro e w1 ⟨rfl, hb1⟩
    have HB1 := Lib.hid hb1
    clear hb1
    go_wp2_with fail
    refine (iSumIn_is a2 c2 m y false _ (HY.out.below HB1.out) HBY.out).mono ?_
    rintro e w2 ⟨rfl, hb2⟩
    have HB2 := Lib.hid (HB1.out.trans (hb2.mono HB1.out.size))
    clear hb2
    go_wp2
    go_ret2
    exact ⟨⟨_, rfl, ownNil _ _⟩, HB2.out⟩

theorem two_cells (w : World) (u v : Value) (x y : List Tm) (t : TypeId) : ∀ i (h : i < [(u, x), (v, y)].length), (w.alloc (.cells #[u, v] t)).cell? ⟨w.heap.size, i, none⟩ = some [(u, x), (v, y)][i].1 := fun i h => by
  rw [World.cell?_alloc_at _ _ _ _ rfl]
  match i, h with
  | 0, _ => rfl
  | 1, _ => rfl
theorem concat_two (u v : Value) (x y : List Tm) (w : World) (hx : PartT w u x) (hy : PartT w v y) (hs : x.length + y.length ≤ 200000) :
    Calls Try.prog 68 #[.slice (some ⟨w.heap.size, 0, none⟩) 2 2] (w.alloc (.cells #[u, v] 23)) fun e w' => (∃ r, e = .returned r ∧ OwnT w.heap.size w' r (x ++ y)) ∧ Below w.heap.size w w' := by
  have hba : Below w.heap.size w (w.alloc (.cells #[u, v] 23)) := (Below.refl _ _).alloc (Nat.le_refl _) _
  refine (concat_any w.heap.size 2 2 [(u, x), (v, y)] _ rfl (by omega) (by simp) (two_cells w u v x y _) (fun p hp => by
    simp only [List.mem_cons, List.not_mem_nil, or_false] at hp
    rcases hp with rfl | rfl
    · exact hx.below hba
    · exact hy.below hba) (by unfold lens; simp; omega)).mono ?_
  rintro e w4 ⟨⟨r, rfl, ho⟩, hb4⟩
  have hfl : flatT [(u, x), (v, y)] = x ++ y := by unfold flatT; simp
  rw [hfl] at ho
  exact ⟨⟨_, rfl, ho.mono (by simp)⟩, hba.trans (hb4.mono (by simp))⟩

set_option maxRecDepth 100000 in
set_option maxHeartbeats 4000000 in
theorem iSumAdd_yes (a1 a2 : Option Addr) (c1 c2 n m : Nat) (x y : List Tm) (b : Bool) (w : World) (hx : IsTerms w a1 n x) (hy : IsTerms w a2 m y) (px : PartT w (.slice a1 n c1) x) (py : PartT w (.slice a2 m c2) y)
    (hbx : sumB x = true) (hby : sumB y = true) (hb : twB (canonT (x ++ y)) = b) :
    Calls Try.prog 24 #[.slice a1 n c1, .slice a2 m c2] w (ITold w b (canonT (x ++ y))) := by
  obtain ⟨hlx, hwx, hsx⟩ := sumB_small hbx
  obtain ⟨hly, hwy, hsy⟩ := sumB_small hby
  have hsm : SmallT (x ++ y) := ⟨by rw [List.length_append]; unfold maxLen; omega, fun t ht => by
    rcases List.mem_append.1 ht with h | h
    · exact hsx.2 t h
    · exact hsy.2 t h⟩
  have hcf : ∀ t ∈ x ++ y, -1000000000000 ≤ t.c ∧ t.c ≤ 1000000000000 := fun t ht => by
    rcases List.mem_append.1 ht with h | h
    · have := hwx t h; omega
    · have := hwy t h; omega
  have hln : (x ++ y).length ≤ 100000 := by rw [List.length_append]; omega
  have HX := Lib.hid hx
  have HY := Lib.hid hy
  have HPX := Lib.hid px
  have HPY := Lib.hid py
  have HBX := Lib.hid hbx
  have HBY := Lib.hid hby
  have HBB := Lib.hid hb
  have HSM := Lib.hid hsm
  have HCF := Lib.hid hcf
  have HLN := Lib.hid hln
  have HLS : Hid (x.length + y.length ≤ 200000) := Lib.hid (by omega)
  clear hx hy px py hbx hby hb hlx hwx hsx hly hwy hsy hsm hcf hln
  go_enter Try.func24, Try.ntmps24
  go_wp2_with fail
  refine (iSumIn_is a1 c1 n x true _ HX.out HBX.out).mono ?_
  rintro e w1 ⟨rfl, hb1⟩
  have HB1 := Lib.hid hb1
  clear hb1
  go_wp2_with fail
  refine (iSumIn_is a2 c2 m y true _ (HY.out.below HB1.out) HBY.out).mono ?_
  rintro e w2 ⟨rfl, hb2⟩
  have HB2 := Lib.hid (HB1.out.trans (hb2.mono HB1.out.size))
  clear hb2
  go_wp2_with fail
  with_reducible refine (concat_two (.slice a1 n c1) (.slice a2 m c2) x y w2 (HPX.out.below HB2.out) (HPY.out.below HB2.out) HLS.out).mono ?_
  rintro e w4 ⟨⟨v, rfl, ho⟩, hb4⟩
  obtain ⟨av, cv, rfl, hI⟩ := ho.isTerms HSM.out
  obtain ⟨N, hN⟩ : ∃ N, (x ++ y).length = N := ⟨_, rfl⟩
  have hln := HLN.out
  rw [hN] at hI hln ⊢
  have HB4 := Lib.hid (HB2.out.trans (hb4.mono HB2.out.size))
  have htold := toldSum_any av cv N (x ++ y) b w4 hI hln HCF.out HBB.out
  have HT := Lib.hid htold
  clear ho hI hb4 htold hN
  go_wp2_with fail
  with_reducible refine HT.out.mono ?_
  rintro e w5 ⟨⟨v', rfl, ho⟩, hb5⟩
  have HO := Lib.hid ho
  have HB5 := Lib.hid hb5
  clear ho hb5
  go_wp2
  go_ret2
  exact ⟨⟨_, rfl, HO.out.mono HB4.out.size⟩, HB4.out.trans (HB5.out.mono HB4.out.size)⟩

/-! ### As a law wants them -/
theorem addB_tw {x y : List Tm} {b : Bool} (h : addB x y = b) : b = true → twB (canonT (x ++ y)) = true := by
  intro hb
  subst hb
  unfold addB at h
  simp only [Bool.and_eq_true] at h
  exact h.2.2
theorem sSumAdd_law {g1 g2 c1 c2 n m : Nat} {x y : List Tm} {b : Bool} {w : World} (hx : IsTerms w (some ⟨g1, 0, none⟩) n x) (hy : IsTerms w (some ⟨g2, 0, none⟩) m y) (hb : addB x y = b) :
    Calls Try.prog 25 #[.slice (some ⟨g1, 0, none⟩) n c1, .slice (some ⟨g2, 0, none⟩) m c2] w (STold w b (canonT (x ++ y))) := by
  unfold addB at hb
  cases hbx : sumB x with
  | false => rw [hbx] at hb; subst hb; exact sSumAdd_no _ _ _ _ _ _ x y w hx hy (.inl hbx)
  | true =>
    cases hby : sumB y with
    | false => rw [hbx, hby] at hb; subst hb; exact sSumAdd_no _ _ _ _ _ _ x y w hx hy (.inr hby)
    | true => rw [hbx, hby] at hb; exact sSumAdd_yes _ _ _ _ _ _ x y b w hx hy hbx hby hb
theorem iSumAdd_law {g1 g2 c1 c2 n m : Nat} {x y : List Tm} {b : Bool} {w : World} (hx : IsTerms w (some ⟨g1, 0, none⟩) n x) (hy : IsTerms w (some ⟨g2, 0, none⟩) m y) (hb : addB x y = b) :
    Calls Try.prog 24 #[.slice (some ⟨g1, 0, none⟩) n c1, .slice (some ⟨g2, 0, none⟩) m c2] w (ITold w b (canonT (x ++ y))) := by
  unfold addB at hb
  cases hbx : sumB x with
  | false => rw [hbx] at hb; subst hb; exact iSumAdd_no _ _ _ _ _ _ x y w hx hy (.inl hbx)
  | true =>
    cases hby : sumB y with
    | false => rw [hbx, hby] at hb; subst hb; exact iSumAdd_no _ _ _ _ _ _ x y w hx hy (.inr hby)
    | true => rw [hbx, hby] at hb; exact iSumAdd_yes _ _ _ _ _ _ x y b w hx hy (partT_of hx) (partT_of hy) hbx hby hb

end Go.Proofs.Ytebgcebjlbhjjaa

/- The contracts of the program's 'SumTimes'; both SumTimes as a law wants them. -/

namespace Go.Proofs.Ytebgcebjlbhjjaa
open Go.RowKit Go.Shelf

/-- A row of words, those of the terms. -/
def WordsAt (w : World) (g : Nat) (ts : List Tm) : Prop :=
  g < w.heap.size ∧ ∀ j (h : j < ts.length), ∃ gw cap, w.cell? ⟨g, j, none⟩ = some (.slice (some ⟨gw, 0, none⟩) ts[j].s.size cap) ∧ IsWord w.heap.size w (.slice (some ⟨gw, 0, none⟩) ts[j].s.size cap) ts[j].s.data.toList
theorem WordsAt.below {w w' : World} {g : Nat} {ts : List Tm} (h : WordsAt w g ts) (hb : Below w.heap.size w w') : WordsAt w' g ts :=
  ⟨Nat.lt_of_lt_of_le h.1 hb.size, fun j hj => by
    obtain ⟨gw, cap, h1, h2⟩ := h.2 j hj
    exact ⟨gw, cap, (hb.cell (p := ⟨g, j, none⟩) h.1).trans h1, (h2.below hb).mono hb.size⟩⟩
theorem wordsAt_of {w : World} {base lo g cap n : Nat} {vals : List Value} {ts : List Tm} (hn : ts.length = n) (h : w.ownsRow base WT 1 (.slice (some ⟨g, 0, none⟩) n cap) n vals) (hv : ∀ j (h : j < ts.length) v, vals[j]? = some v → WordAt lo w v ts[j].s.data.toList) : WordsAt w g ts :=
  ⟨(ownsRow_cap h).2.2.2, fun j hj => by
    have hl := h.1
    rw [Nat.mul_one] at hl
    have hjv : j < vals.length := by omega
    have hw := hv j hj vals[j] (List.getElem?_eq_getElem hjv)
    have hi := hw.isWord
    obtain ⟨gw, cp, e⟩ := hw.slice
    have hsz : ts[j].s.data.toList.length = ts[j].s.size := by simp
    rw [hsz] at e
    refine ⟨gw, cp, ?_, by rw [← e]; exact hi⟩
    rw [h.cellAt j (by omega), List.getElem?_eq_getElem hjv, e]⟩

theorem reduced_boxes0 (w : World) (its : List Item) (hG : ∀ it ∈ its, Gives it ∧ IsWord w.heap.size w it.sv it.L) (hl : (its.map Item.xs).flatten.length ≤ 100000000) (hn : its.length ≤ 1000000) :
    Calls Try.prog 60 #[.slice (some ⟨w.heap.size + its.length, 0, none⟩) its.length its.length] ((boxes w its).alloc (.cells (funcs w.heap.size its).toArray IT)) fun e w' =>
      ∃ g m cap', e = .returned (.slice (some ⟨g, 0, none⟩) m cap') ∧ (redX [] (its.map Item.xs).flatten).length = m ∧ w'.ownsRow w.heap.size 93 1 (.slice (some ⟨g, 0, none⟩) m cap') m (bytesV (redX [] (its.map Item.xs).flatten)) ∧ Below w.heap.size w w' := by
  have hbw := boxes_below its w
  have hsz := boxes_size its w
  have hbW : Below w.heap.size w ((boxes w its).alloc (.cells (funcs w.heap.size its).toArray IT)) := hbw.alloc (by omega) _
  have hr := reduced_in 20 (by omega) (some ⟨w.heap.size + its.length, 0, none⟩) (w.heap.size + its.length) 0 its.length (partsOf w.heap.size its) ((boxes w its).alloc (.cells (funcs w.heap.size its).toArray IT)) (fun _ => rfl)
    (by simp; omega)
    (fun i h => by
      rw [World.cell?_alloc_at _ _ _ _ (by show _ = _; omega)]
      rw [Nat.zero_add, List.getElem?_toArray]
      exact funcs_get its _ i h)
    (fun p hp => by
      obtain ⟨it, hm, B, rfl, hB, hc⟩ := parts_mem its w p hp
      obtain ⟨hg, hw⟩ := hG it hm
      refine ⟨hg.1 _ B _ ?_ (Nat.le_refl _) (cell_past hc _) ((hw.below hbW).mono ?_), hg.2⟩
      · simp; omega
      · simp; omega)
    (by rw [cat_parts]; exact hl) (by rw [partsOf_len]; exact hn)
  rw [cat_parts, partsOf_len] at hr
  refine ((callsIn_wide (n := 20)).1 hr).mono ?_
  rintro e w' ⟨g, m, cap', rfl, hm, hown, hb⟩
  have hsW : w.heap.size ≤ ((boxes w its).alloc (.cells (funcs w.heap.size its).toArray IT)).heap.size := hbW.size
  exact ⟨g, m, cap', rfl, hm, ownsRow_base hown hsW, hbW.trans (hb.mono hsW)⟩

/-- Two words, one behind the other. -/
theorem reduced_two (g1 g2 n1 n2 c1 c2 : Nat) (s1 s2 : ByteArray) (w : World) (h1 : wordB s1.data.toList = true) (h2 : wordB s2.data.toList = true) (i1 : IsWord w.heap.size w (.slice (some ⟨g1, 0, none⟩) n1 c1) s1.data.toList) (i2 : IsWord w.heap.size w (.slice (some ⟨g2, 0, none⟩) n2 c2) s2.data.toList) :
    Calls Try.prog 60 #[.slice (some ⟨w.heap.size + 2, 0, none⟩) 2 2]
      (((w.alloc (.cells #[.slice (some ⟨g1, 0, none⟩) n1 c1] WT)).alloc (.cells #[.slice (some ⟨g2, 0, none⟩) n2 c2] WT)).alloc (.cells #[.func (.func 118) #[] #[.pointer (some ⟨w.heap.size, 0, none⟩)], .func (.func 118) #[] #[.pointer (some ⟨w.heap.size + 1, 0, none⟩)]] IT)) fun e w' =>
      ∃ g m cap', e = .returned (.slice (some ⟨g, 0, none⟩) m cap') ∧ (redL [] (s1.data.toList ++ s2.data.toList)).length = m ∧ m ≤ 1000 ∧ w'.ownsRow w.heap.size 93 1 (.slice (some ⟨g, 0, none⟩) m cap') m (bytesV (redL [] (s1.data.toList ++ s2.data.toList))) ∧ Below w.heap.size w w' := by
  obtain ⟨p1, p2, _⟩ := (wordB_iff _).1 h1
  obtain ⟨q1, q2, _⟩ := (wordB_iff _).1 h2
  have hr : redX [] (s1.data.toList ++ (s2.data.toList ++ [])) = redL [] (s1.data.toList ++ s2.data.toList) := by
    rw [List.append_nil]; exact redX_eq _ _ (by rw [letL_append, p2, q2]; rfl)
  have hrd := reduced_boxes0 w [⟨118, .slice (some ⟨g1, 0, none⟩) n1 c1, s1.data.toList, s1.data.toList⟩, ⟨118, .slice (some ⟨g2, 0, none⟩) n2 c2, s2.data.toList, s2.data.toList⟩]
    (fun it hit => by
      rcases List.mem_cons.1 hit with rfl | hit
      · exact ⟨gives_fwd _ _, i1⟩
      · obtain rfl := List.mem_singleton.1 hit; exact ⟨gives_fwd _ _, i2⟩) (by simp only [List.map_cons, List.map_nil, List.flatten_cons, List.flatten_nil, List.length_append, List.length_nil]; omega) (by simp)
  simp only [List.map_cons, List.map_nil, List.flatten_cons, List.flatten_nil, hr] at hrd
  refine hrd.mono ?_
  rintro e w' ⟨g, m, cap', h1, h2, h3, h4⟩
  refine ⟨g, m, cap', h1, h2, ?_, h3, h4⟩
  have := redL_len (s1.data.toList ++ s2.data.toList) []
  rw [List.length_append] at this
  simp only [List.length_nil] at this
  omega

def prodB (x y : List Tm) : Bool := sumB x && (sumB y && (fitB (pairsT x y) && twB (canonT (pairsT x y))))

set_option maxRecDepth 100000 in
set_option maxHeartbeats 4000000 in
theorem iSumTimes_no (a1 a2 : Option Addr) (c1 c2 n m : Nat) (x y : List Tm) (w : World) (hx : IsTerms w a1 n x) (hy : IsTerms w a2 m y) (hb : sumB x = false ∨ sumB y = false) :
    Calls Try.prog 19 #[.slice a1 n c1, .slice a2 m c2] w (ITold w false []) := by
  have HX := Lib.hid hx
  have HY := Lib.hid hy
  have HBB := Lib.hid hb
  clear hx hy hb
  go_enter Try.func19, Try.ntmps19
  go_wp2_with fail
  refine (sumWords_any a1 c1 n x _ HX.out).mono ?_
  rintro e w1 ⟨⟨rfl, hf⟩ | ⟨g, vals, rfl, hf, _, _⟩, hb1⟩
  · have HB1 := Lib.hid hb1
    clear hb1 hf
    go_wp2
    go_ret2
    exact ⟨⟨_, rfl, ownNil _ _⟩, HB1.out⟩
  · have HB1 := Lib.hid hb1
    have hby : sumB y = false := by rcases HBB.out with h | h; · rw [h] at hf; cases hf
                                    · exact h
    have HBY := Lib.hid hby
    clear hb1 hf hby
    go_wp2_with fail
    refine (sumWords_any a2 c2 m y _ (HY.out.below HB1.out)).mono ?_
    rintro e w2 ⟨⟨rfl, hf⟩ | ⟨g, vals, rfl, hf, _, _⟩, hb2⟩
    · have HB2 := Lib.hid (HB1.out.trans (hb2.mono HB1.out.size))
      clear hb2 hf
      go_wp2
      go_ret2
      exact ⟨⟨_, rfl, ownNil _ _⟩, HB2.out⟩
    · rw [HBY.out] at hf; cases hf

set_option maxRecDepth 100000 in
set_option maxHeartbeats 8000000 in
theorem iSumTimes_yes (a1 a2 : Option Addr) (c1 c2 n m : Nat) (x y : List Tm) (b : Bool) (w : World) (hx : IsTerms w a1 n x) (hy : IsTerms w a2 m y) (hbx : sumB x = true) (hby : sumB y = true)
    (hb : (fitB (pairsT x y) && twB (canonT (pairsT x y))) = b) :
    Calls Try.prog 19 #[.slice a1 n c1, .slice a2 m c2] w (ITold w b (canonT (pairsT x y))) := by
  obtain ⟨i0, hi, hz0, hz1, hz2⟩ := info_parts infoTerm
  obtain ⟨hlx, hwx⟩ := canon_len_words (sumB_parts hbx).1
  obtain ⟨hly, hwy⟩ := canon_len_words (sumB_parts hby).1
  have hn : n ≤ 300 := by rw [← hx.len]; exact hlx
  have hm : m ≤ 300 := by rw [← hy.len]; exact hly
  have HX := Lib.hid hx
  have HY := Lib.hid hy
  have HBX := Lib.hid hbx
  have HBY := Lib.hid hby
  have HWX := Lib.hid hwx
  have HWY := Lib.hid hwy
  have HBB := Lib.hid hb
  have HLEN : Hid (∀ k j, k < n → j ≤ m → ∀ t : Tm, (pairsT (x.take k) y ++ (y.take j).map (pairT t)).length ≤ 90000) := Lib.hid fun k j hk hj t => by
    have h1 := pairs_len (x.take k) y
    have h2 : (x.take k).length * y.length ≤ 299 * 300 := Nat.mul_le_mul (by rw [List.length_take]; omega) hly
    rw [List.length_append, List.length_map, List.length_take]
    omega
  have HLENN : Hid ((pairsT x y).length ≤ 90000) := Lib.hid (by rw [pairs_len]; exact Nat.mul_le_mul hlx hly)
  obtain ⟨q, hq⟩ : ∃ q : Nat, (n : Int) * (m : Int) = (q : Int) := ⟨n * m, by rw [Int.natCast_mul]⟩
  have hq9 : q ≤ 90000 := by
    have : n * m ≤ 300 * 300 := Nat.mul_le_mul hn hm
    have h2 : ((n * m : Nat) : Int) = (q : Int) := by rw [Int.natCast_mul]; exact hq
    omega
  clear hx hy hbx hby hlx hwx hly hwy hb
  go_enter Try.func19, Try.ntmps19
  go_wp2_with fail
  refine (sumWords_any a1 c1 n x _ HX.out).mono ?_
  rintro e w1 ⟨⟨rfl, hf⟩ | ⟨g1, vals1, rfl, hf, hr1, hv1⟩, hb1⟩
  · rw [HBX.out] at hf; cases hf
  have HB1 := Lib.hid hb1
  have HW1 := Lib.hid (wordsAt_of HX.out.len hr1 hv1)
  clear hb1 hf hr1 hv1
  go_wp2_with fail
  refine (sumWords_any a2 c2 m y _ (HY.out.below HB1.out)).mono ?_
  rintro e w2 ⟨⟨rfl, hf⟩ | ⟨g2, vals2, rfl, hf, hr2, hv2⟩, hb2⟩
  · rw [HBY.out] at hf; cases hf
  have HB2 := Lib.hid (HB1.out.trans (hb2.mono HB1.out.size))
  have HWX2 := Lib.hid (HW1.out.below hb2)
  have HWY2 := Lib.hid (wordsAt_of HY.out.len hr2 hv2)
  clear hb2 hf hr2 hv2
  go_wp2_with (at_make; refine wpList_make_own _ rfl _ _ 23 rfl w2.heap.size TI i0 (.agg #[.int .i64 0, .string ByteArray.empty]) 2 Try.underlying23 hi hz0 hz1 .i64 .i64 _ q rfl rfl rfl (by rw [hz2]; omega) (by unfold maxLen; omega) (Nat.le_refl _) ?_; intro w3 hrow hgrow)
  have hb3 : Below w2.heap.size w2 w3 := (Below.refl _ _).grown hgrow (Nat.le_refl _) (fun k e => by cases e)
  have HO3 : Hid (OwnT w2.heap.size w3 (.slice (some ⟨w2.heap.size, 0, none⟩) 0 q) []) := Lib.hid hrow
  have HB3 := Lib.hid hb3
  have hs2 := HB2.out.size
  clear hrow hgrow hb3 hq
  go_loopw [9, 38] (fun v i wr => ∃ k : Nat, k ≤ n ∧ i = .int .i64 k ∧ Hid ((∀ t ∈ pairsT (x.take k) y, t.s.size ≤ 60) ∧ OwnT w2.heap.size wr v (pairsT (x.take k) y)) ∧ Below w2.heap.size w2 wr) (fun _ i _ => n - (intOf i).toNat)
  case atStart => exact ⟨0, Nat.zero_le _, rfl, Lib.hid ⟨fun t h => (by cases h), HO3.out⟩, HB3.out⟩
  case round =>
    obtain ⟨k, hk, rfl, HA, hB⟩ := hrel
    by_cases hlt : k < n
    · have hkx : k < x.length := by rw [HX.out.len]; exact hlt
      obtain ⟨z, rfl, hz⟩ := HX.out.at_ (by omega)
      obtain ⟨t, ht⟩ : ∃ t, x[k] = t := ⟨_, rfl⟩
      have htb := HWX.out _ (List.getElem_mem hkx)
      obtain ⟨gw, cw, hcw, hiw⟩ := HWX2.out.2 k hkx
      have hcw := (hB.cell (p := ⟨g1, k, none⟩) HWX2.out.1).trans hcw
      rw [ht] at htb hcw hiw
      have HTI := Lib.hid (termB_iff htb)
      have HTW := Lib.hid (termB_word htb)
      have HT := Lib.hid ht
      have HZ := Lib.hid hz
      have HIW := Lib.hid (hiw)
      have HBo := Lib.hid hB
      clear ht htb hz hiw
      go_wp2
      go_loopw [9, 45] (fun v i wr2 => ∃ j : Nat, j ≤ m ∧ i = .int .i64 j ∧ Hid ((∀ u ∈ pairsT (x.take k) y ++ (y.take j).map (pairT t), u.s.size ≤ 60) ∧ OwnT w2.heap.size wr2 v (pairsT (x.take k) y ++ (y.take j).map (pairT t))) ∧ Below w2.heap.size w2 wr2) (fun _ i _ => m - (intOf i).toNat)
      case atStart => exact ⟨0, Nat.zero_le _, rfl, Lib.hid (by simpa using ⟨HA.out.1, HA.out.2⟩), hB⟩
      case round =>
        obtain ⟨j, hj, rfl, HAj, hBj⟩ := hrel
        by_cases hltj : j < m
        · have hjy : j < y.length := by rw [HY.out.len]; exact hltj
          obtain ⟨zy, rfl, hzy⟩ := HY.out.at_ (by omega)
          obtain ⟨u, hu⟩ : ∃ u, y[j] = u := ⟨_, rfl⟩
          have hub := HWY.out _ (List.getElem_mem hjy)
          obtain ⟨gu, cu, hcu, hiu⟩ := (HWY2.out.below hBj).2 j hjy
          rw [hu] at hub hcu hiu
          have HUI := Lib.hid (termB_iff hub)
          have HUW := Lib.hid (termB_word hub)
          have HU := Lib.hid hu
          have HZY := Lib.hid hzy
          have hrd := reduced_two gw gu _ _ cw cu t.s u.s wr HTW.out HUW.out ((HIW.out.below hBj).mono hBj.size) hiu
          obtain ⟨r, hr⟩ : ∃ r, redL [] (t.s.data.toList ++ u.s.data.toList) = r := ⟨_, rfl⟩
          rw [hr] at hrd
          have HPT : Hid (pairT t u = ⟨t.c * u.c, bstr r⟩) := Lib.hid (by rw [← hr]; rfl)
          have HRD := Lib.hid hrd
          clear hu hub hzy hrd hr hiu
          go_wp2_with fail
          refine (letters_fwd _ _ _ 1 _ (by decide)).mono ?_
          rintro e w4 ⟨rfl, rfl⟩
          go_wp2_with fail
          refine (letters_fwd _ _ _ 1 _ (by decide)).mono ?_
          rintro e w4 ⟨rfl, rfl⟩
          go_wp2_with fail
          refine HRD.out.mono ?_
          rintro e w5 ⟨g5, l5, cap5, rfl, hl5, hm5, hown5, hb5⟩
          have HL5 := Lib.hid hl5
          have HO5 := Lib.hid hown5
          have HB5 := Lib.hid hb5
          clear hl5 hown5 hb5
          by_cases hrs : l5 ≤ 60
          · go_wp2_with fail
            refine (told_yes _ g5 cap5 l5 r _ HL5.out hrs HO5.out).mono ?_
            rintro e w6 ⟨rfl, hb6⟩
            have hb56 : Below wr.heap.size wr w6 := HB5.out.trans (hb6.mono HB5.out.size)
            have hB6 : Below w2.heap.size w2 w6 := hBj.trans (hb56.mono hBj.size)
            obtain ⟨rs, hrs2⟩ : ∃ rs, bstr r = rs := ⟨_, rfl⟩
            have hrss : rs.size ≤ 60 := by rw [← hrs2, bstr_size, HL5.out]; exact hrs
            have HPT2 : Hid (pairT t u = ⟨t.c * u.c, rs⟩) := Lib.hid (by rw [HPT.out, hrs2])
            rw [hrs2]
            have hzw := HZ.out.below (HB2.out.trans (hB6.mono hs2))
            have hzyw := HZY.out.below (HB2.out.trans (hB6.mono hs2))
            have hc := hzw.2 k hkx
            have hcy := hzyw.2 j hjy
            rw [HT.out] at hc
            rw [HU.out] at hcy
            obtain ⟨c0, _⟩ := hc
            obtain ⟨e0, _⟩ := hcy
            have HMB := Lib.hid (mul_bnd HTI.out.2 HUI.out.2)
            have hmul : IntKind.i64.wrap (t.c * u.c) = t.c * u.c := by have := HMB.out; exact IntWalk.i64_in _ (by omega)
            have hO6 : OwnT w2.heap.size w6 u9 (pairsT (x.take k) y ++ (y.take j).map (pairT t)) := HAj.out.2.below hb56
            obtain ⟨N, hN⟩ : ∃ N, (pairsT (x.take k) y ++ (y.take j).map (pairT t)).length = N := ⟨_, rfl⟩
            have hN9 : N ≤ 90000 := by rw [← hN]; exact HLEN.out k j hlt (by omega) t
            unfold OwnT at hO6
            rw [hN] at hO6
            have HO6 := Lib.hid hO6
            have HN := Lib.hid hN
            have hsz6 := hB6.size
            clear hb6 hb56 hrs2 hzw hzyw hO6 hN
            have hwr : w6.drew.heap.size = w6.heap.size := rfl
            go_wp2_with fail
            go_region_law
              ((refine step_append_lies _ (by rfl) _ _ _ (by rfl) w2.heap.size TI i0 _ 2 24 Try.underlying23 hi hz0 hz1 hz2 rfl (by omega) u9 N (termsV (pairsT (x.take k) y ++ (y.take j).map (pairT t))) (by rfl) ((HO6.out.alloc _).drew)
                  ⟨w6.heap.size, 0, none⟩ 1 1 [.int .i64 (t.c * u.c), .string rs] (by rfl) (by rfl) (World.news_of_block (cs := #[.int .i64 (t.c * u.c), .string rs]) (t := TI) (fr := (0, 0)) (heap_alloc_new w6 _)) (by simp [Value.oneCell'])
                  (by omega) (by unfold maxLen; omega) (by omega) (by simp; omega) (w6.heap.size + 1) (by simp) ?_; intro gg cap1 w7 hown7 hgrow7 hat hlt7))
            all_goals
              have hlow := ownsRow_low HO6.out
              have hB7 : Below w2.heap.size w2 w7 := hB6.trans ((((Below.refl w2.heap.size w6).alloc hsz6 _).drew).grown hgrow7 (by show w2.heap.size ≤ (w6.alloc _).heap.size; simp; omega) hlow)
              have HO7 := Lib.hid hown7
              clear hown7 hgrow7 hat hlt7 hlow
              go_wp2
              go_roundw
              case rel =>
                refine ⟨j + 1, by omega, by go_num, Lib.hid ⟨fun v hv => ?_, ?_⟩, hB7⟩
                · rw [map_succ (pairT t) y j hjy, ← List.append_assoc] at hv
                  rcases List.mem_append.1 hv with hv | hv
                  · exact HAj.out.1 v hv
                  · rw [List.mem_singleton.1 hv, HU.out, HPT2.out]; exact hrss
                · rw [map_succ (pairT t) y j hjy, HU.out, HPT2.out, ← List.append_assoc]
                  unfold OwnT
                  rw [List.length_append, HN.out, termsV_append]
                  exact HO7.out
              case measure => simp [intOf]; omega
          · have hB5 : Below w2.heap.size w2 w5 := hBj.trans (HB5.out.mono hBj.size)
            go_wp2_with fail
            refine (told_no _ _ _ _ (by omega) (by unfold maxLen; omega)).mono ?_
            rintro e w6 ⟨rfl, rfl⟩
            go_wp2
            go_ret2
            have hbf : b = false := by
              rw [← HBB.out]
              have : fitB (pairsT x y) = false := by
                refine List.all_eq_false.2 ⟨pairT t u, ?_, by rw [HPT.out]; simp only [bstr_size, HL5.out]; simpa using hrs⟩
                unfold pairsT
                exact List.mem_flatMap.2 ⟨t, by rw [← HT.out]; exact List.getElem_mem hkx, List.mem_map.2 ⟨u, by rw [← HU.out]; exact List.getElem_mem hjy, rfl⟩⟩
              rw [this]; rfl
            subst hbf
            exact ⟨⟨_, rfl, ownNil _ _⟩, HB2.out.trans (hB5.mono hs2)⟩
        · obtain rfl : j = m := by omega
          go_wp2
          go_roundw
          case rel =>
            refine ⟨k + 1, by omega, by go_num, Lib.hid ?_, hBj⟩
            have h := HAj.out
            have hty : y.take j = y := List.take_of_length_le (by rw [HY.out.len]; exact Nat.le_refl _)
            rw [hty, ← HT.out, ← pairs_succ x y k hkx] at h
            exact h
          case measure => simp [intOf]; omega
    · obtain rfl : k = n := by omega
      have hacc := HA.out
      rw [List.take_of_length_le (by rw [HX.out.len]; exact Nat.le_refl _)] at hacc
      obtain ⟨hfit, hown⟩ := hacc
      have hcf : ∀ t ∈ pairsT x y, -1000000000000 ≤ t.c ∧ t.c ≤ 1000000000000 := fun t ht => by
        unfold pairsT at ht
        obtain ⟨u, hu, ht⟩ := List.mem_flatMap.1 ht
        obtain ⟨v, hv, rfl⟩ := List.mem_map.1 ht
        exact mul_bnd (termB_iff (HWX.out u hu)).2 (termB_iff (HWY.out v hv)).2
      have hlen := HLENN.out
      have hsm : SmallT (pairsT x y) := ⟨by unfold maxLen; omega, fun t ht => by have := hcf t ht; have := hfit t ht; unfold maxLen; omega⟩
      obtain ⟨av, cv, rfl, hI⟩ := hown.isTerms hsm
      have hbb : twB (canonT (pairsT x y)) = b := by
        rw [← HBB.out, show fitB (pairsT x y) = true from List.all_eq_true.2 fun t ht => by simpa using hfit t ht, Bool.true_and]
      obtain ⟨N, hN⟩ : ∃ N, (pairsT x y).length = N := ⟨_, rfl⟩
      rw [hN] at hI hlen ⊢
      have htold := toldSum_any av cv N (pairsT x y) b wr hI (by omega) hcf hbb
      have HTo := Lib.hid htold
      have HBr := Lib.hid hB
      clear hfit hown hcf hsm hI hbb hN htold
      go_wp2_with fail
      refine HTo.out.mono ?_
      rintro e w5 ⟨⟨v', rfl, ho⟩, hb5⟩
      have HO := Lib.hid ho
      have HB5 := Lib.hid (HB2.out.trans ((HBr.out.trans (hb5.mono HBr.out.size)).mono hs2))
      have hs5 := HBr.out.size
      clear ho hb5
      go_wp2
      go_ret2
      exact ⟨⟨_, rfl, HO.out.mono (by omega)⟩, HB5.out⟩

/-! ### As a law wants them -/
theorem prodB_tw {x y : List Tm} {b : Bool} (h : prodB x y = b) : b = true → twB (canonT (pairsT x y)) = true := by
  intro hb
  subst hb
  unfold prodB at h
  simp only [Bool.and_eq_true] at h
  exact h.2.2.2
theorem sSumTimes_law {g1 g2 c1 c2 n m : Nat} {x y : List Tm} {b : Bool} {w : World} (hx : IsTerms w (some ⟨g1, 0, none⟩) n x) (hy : IsTerms w (some ⟨g2, 0, none⟩) m y) (hb : prodB x y = b) :
    Calls Try.prog 28 #[.slice (some ⟨g1, 0, none⟩) n c1, .slice (some ⟨g2, 0, none⟩) m c2] w (STold w b (canonT (pairsT x y))) := by
  unfold prodB at hb
  cases hbx : sumB x with
  | false => rw [hbx] at hb; subst hb; exact sSumTimes_no _ _ _ _ _ _ x y w hx hy (.inl hbx)
  | true =>
    cases hby : sumB y with
    | false => rw [hbx, hby] at hb; subst hb; exact sSumTimes_no _ _ _ _ _ _ x y w hx hy (.inr hby)
    | true => rw [hbx, hby] at hb; exact sSumTimes_yes _ _ _ _ _ _ x y b w hx hy hbx hby hb
theorem iSumTimes_law {g1 g2 c1 c2 n m : Nat} {x y : List Tm} {b : Bool} {w : World} (hx : IsTerms w (some ⟨g1, 0, none⟩) n x) (hy : IsTerms w (some ⟨g2, 0, none⟩) m y) (hb : prodB x y = b) :
    Calls Try.prog 19 #[.slice (some ⟨g1, 0, none⟩) n c1, .slice (some ⟨g2, 0, none⟩) m c2] w (ITold w b (canonT (pairsT x y))) := by
  unfold prodB at hb
  cases hbx : sumB x with
  | false => rw [hbx] at hb; subst hb; exact iSumTimes_no _ _ _ _ _ _ x y w hx hy (.inl hbx)
  | true =>
    cases hby : sumB y with
    | false => rw [hbx, hby] at hb; subst hb; exact iSumTimes_no _ _ _ _ _ _ x y w hx hy (.inr hby)
    | true => rw [hbx, hby] at hb; exact iSumTimes_yes _ _ _ _ _ _ x y b w hx hy hbx hby hb

end Go.Proofs.Ytebgcebjlbhjjaa

/- The contracts of the program's 'changed' and 'SumTurned'; both SumTurneds as a law wants them. -/

namespace Go.Proofs.Ytebgcebjlbhjjaa
open Go.RowKit Go.Shelf

/-- A function value that changes words, from w on. -/
def ChangeOk (w0 : World) (F : Nat) (lb : Array Value) (f : List UInt8 → List UInt8) : Prop :=
  ∀ (W : World) (g n cap : Nat) (L : List UInt8), Below w0.heap.size w0 W → L.length = n → wordB L = true → IsWord W.heap.size W (.slice (some ⟨g, 0, none⟩) n cap) L →
    Calls Try.prog F (#[.slice (some ⟨g, 0, none⟩) n cap] ++ lb) W fun e w' => ∃ g4 m cap4, e = .returned (.slice (some ⟨g4, 0, none⟩) m cap4) ∧ (f L).length = m ∧ m ≤ 100000 ∧ w'.ownsRow W.heap.size 93 1 (.slice (some ⟨g4, 0, none⟩) m cap4) m (bytesV (f L)) ∧ Below W.heap.size W w'

set_option maxRecDepth 100000 in
set_option maxHeartbeats 2000000 in
theorem changed_no (a : Option Addr) (cap n : Nat) (x : List Tm) (fv : Value) (w : World) (hx : IsTerms w a n x) (hb : sumB x = false) :
    Calls Try.prog 70 #[.slice a n cap, fv] w (ITold w false []) := by
  have HX := Lib.hid hx
  have HBX := Lib.hid hb
  clear hx hb
  go_enter Try.func70, Try.ntmps70
  go_wp2_with fail
  refine (sumWords_any a cap n x _ HX.out).mono ?_
  rintro e w1 ⟨⟨rfl, hf⟩ | ⟨g, vals, rfl, hf, _, _⟩, hb1⟩
  · have HB1 := Lib.hid hb1
    clear hb1 hf
    go_wp2
    go_ret2
    exact ⟨⟨_, rfl, ownNil _ _⟩, HB1.out⟩
  · rw [HBX.out] at hf; cases hf

set_option maxRecDepth 100000 in
set_option maxHeartbeats 8000000 in
theorem changed_yes (F : Nat) (lb : Array Value) (f : List UInt8 → List UInt8) (a : Option Addr) (cap n : Nat) (x : List Tm) (b : Bool) (w : World) (hx : IsTerms w a n x) (eg : ∀ args w, (callFunc F args).run Try.prog w = .ok (.enter F args) w) (hch : ChangeOk w F lb f)
    (hbx : sumB x = true) (hb : (fitB (x.map (mapT f)) && twB (canonT (x.map (mapT f)))) = b) :
    Calls Try.prog 70 #[.slice a n cap, .func (.func F) #[] lb] w (ITold w b (canonT (x.map (mapT f)))) := by
  obtain ⟨i0, hi, hz0, hz1, hz2⟩ := info_parts infoTerm
  obtain ⟨hlx, hwx⟩ := canon_len_words (sumB_parts hbx).1
  have hn : n ≤ 300 := by rw [← hx.len]; exact hlx
  have hyn : (x.map (mapT f)).length = n := by rw [List.length_map, hx.len]
  obtain ⟨ys, hys⟩ : ∃ ys, x.map (mapT f) = ys := ⟨_, rfl⟩
  rw [hys] at hb hyn ⊢
  have HX := Lib.hid hx
  have HBX := Lib.hid hbx
  have HWX := Lib.hid hwx
  have HBB := Lib.hid hb
  have HYS := Lib.hid hys
  have HYN := Lib.hid hyn
  have HCH := Lib.hid hch
  clear hx hbx hlx hwx hb hys hyn hch
  go_enter Try.func70, Try.ntmps70
  go_wp2_with fail
  refine (sumWords_any a cap n x _ HX.out).mono ?_
  rintro e w1 ⟨⟨rfl, hf⟩ | ⟨g1, vals1, rfl, hf, hr1, hv1⟩, hb1⟩
  · rw [HBX.out] at hf; cases hf
  have HB1 := Lib.hid hb1
  have HW1 := Lib.hid (wordsAt_of HX.out.len hr1 hv1)
  clear hb1 hf hr1 hv1
  go_wp2_with (at_make; refine wpList_make_full _ rfl _ _ 23 rfl w1.heap.size TI i0 (.agg #[.int .i64 0, .string ByteArray.empty]) 2 Try.underlying23 hi hz0 hz1 .i64 .i64 _ _ n rfl rfl rfl rfl (by rw [hz2]; omega) (by unfold maxLen; omega) (Nat.le_refl _) ?_; intro w2 hrow hgrow)
  rw [show (madeCells (Value.cells (.agg #[.int .i64 0, .string ByteArray.empty])) (n * 2)).toList = termsV (ys.take 0 ++ List.replicate (n - 0) zeroTm) from made_terms n] at hrow
  have hb2 : Below w1.heap.size w1 w2 := (Below.refl _ _).grown hgrow (Nat.le_refl _) (fun k e => by cases e)
  have HR2 := Lib.hid hrow
  have HB2 := Lib.hid hb2
  have hs1 := HB1.out.size
  clear hrow hgrow hb2
  go_loopw [25] (fun i wr => ∃ k : Nat, k ≤ n ∧ i = .int .i64 k ∧ Hid ((∀ j (h : j < ys.length), j < k → ys[j].s.size ≤ 60) ∧ wr.ownsRow w1.heap.size TI 2 (.slice (some ⟨w1.heap.size, 0, none⟩) n n) n (termsV (ys.take k ++ List.replicate (n - k) zeroTm))) ∧ Below w1.heap.size w1 wr) (fun i _ => n - (intOf i).toNat)
  case atStart => exact ⟨0, Nat.zero_le _, rfl, Lib.hid ⟨fun j _ h => absurd h (Nat.not_lt_zero _), HR2.out⟩, HB2.out⟩
  case round =>
    obtain ⟨k, hk, rfl, HA, hB⟩ := hrel
    by_cases hlt : k < n
    · have hkx : k < x.length := by rw [HX.out.len]; exact hlt
      have hky : k < ys.length := by rw [HYN.out]; exact hlt
      obtain ⟨z, rfl, hz⟩ := HX.out.at_ (by omega)
      obtain ⟨t, ht⟩ : ∃ t, x[k] = t := ⟨_, rfl⟩
      have hyk : ys[k] = mapT f t := by have h := HYS.out; subst h; rw [List.getElem_map, ht]
      have htb := HWX.out _ (List.getElem_mem hkx)
      obtain ⟨gw, cw, hcw, hiw⟩ := (HW1.out.below hB).2 k hkx
      rw [ht] at htb hcw hiw
      have hcall := HCH.out wr gw t.s.size cw t.s.data.toList (HB1.out.trans (hB.mono hs1)) (by simp) (termB_word htb) hiw
      obtain ⟨r, hr⟩ : ∃ r, f t.s.data.toList = r := ⟨_, rfl⟩
      rw [hr] at hcall
      have HYK : Hid (ys[k] = ⟨t.c, bstr r⟩) := Lib.hid (by rw [hyk, ← hr]; rfl)
      have HT := Lib.hid ht
      have HZ := Lib.hid hz
      have HCA := Lib.hid hcall
      clear ht htb hz hiw hyk hr hcall
      go_wp2_with fail
      refine HCA.out.mono ?_
      rintro e w5 ⟨g5, l5, cap5, rfl, hl5, hm5, hown5, hb5⟩
      have HL5 := Lib.hid hl5
      have HO5 := Lib.hid hown5
      have HB5 := Lib.hid hb5
      clear hl5 hown5 hb5
      by_cases hrs : l5 ≤ 60
      · go_wp2_with fail
        refine (told_yes _ g5 cap5 l5 r _ HL5.out hrs HO5.out).mono ?_
        rintro e w6 ⟨rfl, hb6⟩
        have hb56 : Below wr.heap.size wr w6 := HB5.out.trans (hb6.mono HB5.out.size)
        have hB6 : Below w1.heap.size w1 w6 := hB.trans (hb56.mono hB.size)
        obtain ⟨rs, hrs2⟩ : ∃ rs, bstr r = rs := ⟨_, rfl⟩
        have hrss : rs.size ≤ 60 := by rw [← hrs2, bstr_size, HL5.out]; exact hrs
        have HYK2 : Hid (ys[k] = ⟨t.c, rs⟩) := Lib.hid (by rw [HYK.out, hrs2])
        rw [hrs2]
        have hc := (HZ.out.below (HB1.out.trans (hB6.mono hs1))).2 k hkx
        rw [HT.out] at hc
        obtain ⟨c0, _⟩ := hc
        have hr6 : w6.ownsRow w1.heap.size TI 2 (.slice (some ⟨w1.heap.size, 0, none⟩) n n) n (termsV (ys.take k ++ List.replicate (n - k) zeroTm)) := HA.out.2.kept ⟨hb56.os, hb56.tape, hb56.output, hb56.size, fun j hj _ => hb56.block j hj⟩ (row := none) (.inr (by simp [Value.ownBlock]))
        have hl := hr6.1
        have hd0 : ∃ u, w6.cell? ⟨w1.heap.size, k * 2, none⟩ = some u := by rw [hr6.cellAt _ (by omega)]; exact ⟨_, List.getElem?_eq_getElem (by omega)⟩
        have hd1 : ∃ u, w6.cell? ⟨w1.heap.size, k * 2 + 1, none⟩ = some u := by rw [hr6.cellAt _ (by omega)]; exact ⟨_, List.getElem?_eq_getElem (by omega)⟩
        obtain ⟨u0, hu0⟩ := hd0
        obtain ⟨u1, hu1⟩ := hd1
        have hf0 := hr6.frozenAt (k * 2)
        have hf1 := hr6.frozenAt (k * 2 + 1)
        have hfil := fill_terms ys n k HYN.out hlt
        rw [HYK2.out] at hfil
        have HF := Lib.hid hfil
        have HR6 := Lib.hid hr6
        have HB6 := Lib.hid hB6
        clear hl hr6 hfil hb6 hb56 hrs2 hB6
        go_wp2
        go_roundw
        case rel =>
          refine ⟨k + 1, by omega, by go_num, Lib.hid ⟨fun j hj hjk => ?_, ?_⟩, (HB6.out.setCell (p := ⟨w1.heap.size, k * 2, none⟩) (Nat.le_refl _) _).setCell (p := ⟨w1.heap.size, k * 2 + 1, none⟩) (Nat.le_refl _) _⟩
          · by_cases e : j = k
            · subst e; rw [HYK2.out]; exact hrss
            · exact HA.out.1 j hj (by omega)
          · rw [← HF.out]
            exact ((HR6.out.stored (k * 2) (.int .i64 t.c)).1.stored (k * 2 + 1) (.string rs)).1
        case measure => simp [intOf]; omega
      · have hB5 : Below w1.heap.size w1 w5 := hB.trans (HB5.out.mono hB.size)
        go_wp2_with fail
        refine (told_no _ _ _ _ (by omega) (by unfold maxLen; omega)).mono ?_
        rintro e w6 ⟨rfl, rfl⟩
        go_wp2
        go_ret2
        have hbf : b = false := by
          rw [← HBB.out, fitB_at hky (by rw [HYK.out]; simp only [bstr_size, HL5.out]; exact hrs)]; rfl
        subst hbf
        exact ⟨⟨_, rfl, ownNil _ _⟩, HB1.out.trans (hB5.mono hs1)⟩
    · obtain rfl : n = k := by omega
      obtain ⟨hfit, hown⟩ := HA.out
      rw [Nat.sub_self, List.replicate_zero, List.append_nil, List.take_of_length_le (by rw [HYN.out]; exact Nat.le_refl _)] at hown
      have hft : ∀ j (hj : j < ys.length), ys[j].s.size ≤ 60 := fun j hj => hfit j hj (by rw [← HYN.out]; exact hj)
      have hcf : ∀ t ∈ ys, t.s.size ≤ 60 ∧ -1000000 ≤ t.c ∧ t.c ≤ 1000000 := fun t ht => by
        obtain ⟨j, hj, rfl⟩ := List.getElem_of_mem ht
        refine ⟨hft j hj, ?_⟩
        have h := HYS.out
        subst h
        rw [List.getElem_map]
        have hjx : j < x.length := by rw [List.length_map] at hj; exact hj
        exact (termB_iff (HWX.out _ (List.getElem_mem hjx))).2
      have hI : IsTerms wr (some ⟨w1.heap.size, 0, none⟩) n ys := ⟨HYN.out, by unfold maxLen; omega, fun _ => ⟨_, rfl, termsAt_of_owns HYN.out hown⟩, fun t ht => by have := hcf t ht; unfold maxLen; omega⟩
      have hbb : twB (canonT ys) = b := by rw [← HBB.out, fitB_of hft, Bool.true_and]
      have htold := toldSum_any (some ⟨w1.heap.size, 0, none⟩) n n ys b wr hI (by omega) (fun t ht => by have := hcf t ht; omega) hbb
      have HTo := Lib.hid htold
      have HBr := Lib.hid hB
      clear hfit hown hft hcf hI hbb htold
      go_wp2_with fail
      refine HTo.out.mono ?_
      rintro e w5 ⟨⟨v', rfl, ho⟩, hb5⟩
      have HO := Lib.hid ho
      have HB5 := Lib.hid (HB1.out.trans ((HBr.out.trans (hb5.mono HBr.out.size)).mono hs1))
      have hs5 := HBr.out.size
      clear ho hb5
      go_wp2
      go_ret2
      exact ⟨⟨_, rfl, HO.out.mono (by omega)⟩, HB5.out⟩

/-! ### SumTurned -/
theorem inverse_change (w0 : World) : ChangeOk w0 71 #[] backL := fun W g n cap L _ hl hw hi => by
  have hs := ((wordB_iff _).1 hw).1
  refine (show Calls Try.prog 71 #[.slice (some ⟨g, 0, none⟩) n cap] W _ from wordInverse_yes g n cap L W hl hw hi).mono ?_
  rintro e w' ⟨g4, cap4, rfl, ho, hb⟩
  exact ⟨g4, n, cap4, rfl, by rw [backL_length, hl], by omega, ho, hb⟩
theorem fit_turned {x : List Tm} (h : sumB x = true) : fitB (x.map (mapT backL)) = true := by
  refine List.all_eq_true.2 fun t ht => ?_
  obtain ⟨u, hu, rfl⟩ := List.mem_map.1 ht
  have h1 := (sumB_small h).2.1 u hu
  unfold mapT
  simp only [bstr_size, backL_length]
  have : u.s.data.toList.length = u.s.size := by simp
  simpa [this] using h1.1

def turnedB (x : List Tm) : Bool := sumB x && twB (canonT (x.map (mapT backL)))

set_option maxRecDepth 100000 in
theorem iSumTurned_any (a : Option Addr) (cap n : Nat) (x : List Tm) (b : Bool) (w : World) (hx : IsTerms w a n x) (hb : turnedB x = b) :
    Calls Try.prog 30 #[.slice a n cap] w (ITold w b (canonT (x.map (mapT backL)))) := by
  have HC : Hid (Calls Try.prog 70 #[.slice a n cap, .func (.func 71) #[] #[]] w (ITold w b (canonT (x.map (mapT backL))))) := by
    unfold turnedB at hb
    cases hbx : sumB x with
    | false => rw [hbx] at hb; subst hb; exact Lib.hid (changed_no a cap n x _ w hx hbx)
    | true => rw [hbx, Bool.true_and] at hb; exact Lib.hid (changed_yes _ #[] backL a cap n x b w hx (enters_of Try.func71 (by kernel_rfl) rfl) (inverse_change w) hbx (by rw [fit_turned hbx, Bool.true_and]; exact hb))
  clear hx hb
  go_enter Try.func30, Try.ntmps30
  go_wp2_with fail
  refine HC.out.mono ?_
  rintro e w1 ⟨⟨v', rfl, ho⟩, hb1⟩
  have HO := Lib.hid ho
  clear ho
  go_wp2
  go_ret2
  exact ⟨⟨_, rfl, HO.out⟩, hb1⟩

/-! ### As a law wants them -/
theorem turnedB_tw {x : List Tm} {b : Bool} (h : turnedB x = b) : b = true → twB (canonT (x.map (mapT backL))) = true := by
  intro hb
  subst hb
  unfold turnedB at h
  simp only [Bool.and_eq_true] at h
  exact h.2
theorem sSumTurned_law {g c n : Nat} {x : List Tm} {b : Bool} {w : World} (hx : IsTerms w (some ⟨g, 0, none⟩) n x) (hb : turnedB x = b) :
    Calls Try.prog 31 #[.slice (some ⟨g, 0, none⟩) n c] w (STold w b (canonT (x.map (mapT backL)))) := by
  unfold turnedB at hb
  cases hbx : sumB x with
  | false => rw [hbx] at hb; subst hb; exact sSumTurned_no _ _ _ x w hx hbx
  | true => rw [hbx, Bool.true_and] at hb; exact sSumTurned_yes _ _ _ x b w hx hbx hb
theorem iSumTurned_law {g c n : Nat} {x : List Tm} {b : Bool} {w : World} (hx : IsTerms w (some ⟨g, 0, none⟩) n x) (hb : turnedB x = b) :
    Calls Try.prog 30 #[.slice (some ⟨g, 0, none⟩) n c] w (ITold w b (canonT (x.map (mapT backL)))) := iSumTurned_any _ _ _ x b w hx hb

end Go.Proofs.Ytebgcebjlbhjjaa

/- The contracts of the program's 'imagesOf' and 'WordPut'. -/

namespace Go.Proofs.Ytebgcebjlbhjjaa
open Go.RowKit Go.Shelf

/-- A list of strings from a cell 0 on, as a law copies it. -/
structure StrsIn (w : World) (a : Option Addr) (g : Nat) (n : Nat) (zs : List ByteArray) : Prop where
  len : zs.length = n
  at0 : 0 < n → a = some ⟨g, 0, none⟩
  blk : g < w.heap.size
  cells : ∀ i (h : i < zs.length), w.cell? ⟨g, i, none⟩ = some (.string zs[i])
  small : ∀ s ∈ zs, s.size ≤ maxLen
theorem StrsIn.below {w w' : World} {a : Option Addr} {g n : Nat} {zs : List ByteArray} (h : StrsIn w a g n zs) (hb : Below w.heap.size w w') : StrsIn w' a g n zs :=
  ⟨h.len, h.at0, Nat.lt_of_lt_of_le h.blk hb.size, fun i hi => (hb.cell (p := ⟨g, i, none⟩) h.blk).trans (h.cells i hi), h.small⟩

theorem imagesOf_yes (a : Option Addr) (g cap n : Nat) (zs : List ByteArray) (w : World) (hs : StrsIn w a g n zs) (hf : fourB zs = true) :
    Calls Try.prog 74 #[.slice a n cap] w fun e w' =>
      ∃ (gi : Nat), e = .returned (.tuple #[.slice (some ⟨gi, 0, none⟩) 4 4, .bool true]) ∧ FourAt gi w.heap.size w' zs ∧ Below w.heap.size w w' := by
  obtain ⟨hz4, hz⟩ := (fourB_iff zs).1 hf
  obtain rfl : n = 4 := by have := hs.len; omega
  obtain rfl := hs.at0 (by omega)
  have hw := wordsOf_four g zs w hz4 hs.blk hs.cells hz cap
  have HW := Lib.hid hw
  clear hw hs hz4 hz hf
  go_enter Try.func74, Try.ntmps74
  go_wp2_with fail
  refine HW.out.mono ?_
  rintro e w2 ⟨gi, vals, rfl, hgi, hvals, hb2⟩
  have HV := Lib.hid hvals
  clear hvals
  go_wp2_with fail
  go_ret2
  refine ⟨gi, rfl, ⟨hgi, fun j h => ?_⟩, hb2⟩
  obtain ⟨v, h1, _, h2⟩ := HV.out j h
  exact ⟨v, h1, h2⟩

theorem imagesOf_no (a : Option Addr) (g cap n : Nat) (zs : List ByteArray) (w : World) (hs : StrsIn w a g n zs) (hn : n ≤ maxLen) (hf : fourB zs = false) :
    Calls Try.prog 74 #[.slice a n cap] w fun e w' =>
      e = .returned (.tuple #[.slice none 0 0, .bool false]) ∧ Below w.heap.size w w' := by
  have hnm := hn
  unfold maxLen at hnm
  by_cases h4 : n = 4
  · have hno : ¬ ∀ s ∈ zs, wordB s.data.toList = true := fun h => by
      have := (fourB_iff zs).2 ⟨hs.len.trans h4, h⟩
      rw [hf] at this; cases this
    have hw := wordsOf_any a g 0 cap n zs w hs.len (by omega) hs.at0 hs.blk (fun i h => by rw [Nat.zero_add]; exact hs.cells i h) hs.small
    have HW := Lib.hid hw
    have HN := Lib.hid hno
    clear hw hs hno hf hn hnm
    subst h4
    go_enter Try.func74, Try.ntmps74
    go_wp2_with fail
    refine HW.out.mono ?_
    rintro e w2 ⟨⟨rfl, _⟩ | ⟨_, _, _, h, _⟩, hb2⟩
    · go_wp2_with fail
      go_ret2
      exact ⟨rfl, hb2⟩
    · exact absurd h HN.out
  · clear hs hf hn
    have h4' : ¬ ((n : Int) = 4) := by omega
    go_enter Try.func74, Try.ntmps74
    go_wp2
    go_ret2
    exact ⟨rfl, Below.refl _ _⟩

end Go.Proofs.Ytebgcebjlbhjjaa

/- The contracts of the program's 'SumPut'; both SumPuts as a law wants them. -/

namespace Go.Proofs.Ytebgcebjlbhjjaa
open Go.RowKit Go.Shelf

theorem StrsIn.strsAt {w : World} {g n : Nat} {zs : List ByteArray} (h : StrsIn w (some ⟨g, 0, none⟩) g n zs) : StrsAt w (some ⟨g, 0, none⟩) zs :=
  ⟨fun _ => ⟨_, rfl, h.blk, fun i hi => by
    have ha : (⟨g, 0, none⟩ : Addr).add i = ⟨g, i, none⟩ := by unfold Addr.add; split <;> simp_all
    rw [ha]; exact h.cells i hi⟩, h.small⟩
theorem strsIn_owns {w : World} {base g n : Nat} {a : Option Addr} {w0 : World} {zs : List ByteArray} (h0 : IsStrs w0 a n zs) (h : w.ownsRow base 9 1 (.slice (some ⟨g, 0, none⟩) n n) n (strsV zs)) : StrsIn w (some ⟨g, 0, none⟩) g n zs := by
  obtain ⟨_, h2, h3⟩ := strsAt_of_owns h0.len h h0.at_.small
  exact ⟨h0.len, fun _ => rfl, h2, h3, h0.at_.small⟩

theorem put_change (w0 : World) (B gi lo : Nat) (zs : List ByteArray) (hB : w0.cell? ⟨B, 0, none⟩ = some (.slice (some ⟨gi, 0, none⟩) 4 4)) (hf : FourAt gi lo w0 zs) (hz4 : zs.length = 4) (hz : ∀ z ∈ zs, wordB z.data.toList = true) :
    ChangeOk w0 75 #[.pointer (some ⟨B, 0, none⟩)] (putF zs) := fun W g n cap L hb hl hw hi => by
  have hBW := (hb.cell (p := ⟨B, 0, none⟩) (World.block_lt_of_cell? _ _ hB)).trans hB
  obtain ⟨p1, p2, _⟩ := (wordB_iff _).1 hw
  have hput := (callsIn_wide (n := 40)).1 (wordPut_in 40 (by omega) g n cap gi 4 lo L zs W hl (by omega) p2 hi hz4 hz (hf.below hb))
  have hX : redX [] (L.map (imgX zs)).flatten = putF zs L := by
    have h1 := redX_eq (putX zs L) [] (letL_putX zs L hz)
    unfold putX at h1
    rw [h1]
    have h2 := (putX_eq zs L hz).1
    unfold putX at h2
    rw [h2]; rfl
  have hXl : (putF zs L).length ≤ 100000 := by
    rw [← hX]
    have h1 := redX_len (L.map (imgX zs)).flatten []
    have h2 := putX_len zs L hz
    unfold putX at h2
    simp only [List.length_nil] at h1
    omega
  rw [hX] at hput
  have HP := Lib.hid hput
  have HXL := Lib.hid hXl
  clear hput hX hXl hi hb hw hf hz hB hl p1 p2
  show Calls Try.prog 75 #[.slice (some ⟨g, 0, none⟩) n cap, .pointer (some ⟨B, 0, none⟩)] W _
  go_enter Try.func75, Try.ntmps75
  go_wp2_with fail
  refine HP.out.mono ?_
  rintro e w3 ⟨g4, m, cap4, rfl, hm, hown, hb3⟩
  have HM := Lib.hid hm
  have HO := Lib.hid hown
  clear hm hown
  go_wp2
  go_ret
  exact ⟨g4, m, cap4, rfl, HM.out, by rw [← HM.out]; exact HXL.out, HO.out, hb3⟩

def sumPutB (x : List Tm) (zs : List ByteArray) : Bool := sumB x && (fourB zs && (fitB (x.map (mapT (putF zs))) && twB (canonT (x.map (mapT (putF zs))))))

set_option maxRecDepth 100000 in
set_option maxHeartbeats 4000000 in
theorem iSumPut_noFour (a : Option Addr) (cap n g2 c2 m : Nat) (zs : List ByteArray) (w : World) (hs : StrsIn w (some ⟨g2, 0, none⟩) g2 m zs) (hm : m ≤ maxLen) (hb : fourB zs = false) :
    Calls Try.prog 35 #[.slice a n cap, .slice (some ⟨g2, 0, none⟩) m c2] w (ITold w false []) := by
  have HS := Lib.hid hs
  have HF := Lib.hid hb
  clear hs hb
  go_enter Try.func35, Try.ntmps35
  go_wp2_with fail
  refine (imagesOf_no _ g2 c2 m zs _ HS.out hm HF.out).mono ?_
  rintro e w1 ⟨rfl, hb1⟩
  have HB1 := Lib.hid hb1
  clear hb1
  go_wp2
  go_ret2
  exact ⟨⟨_, rfl, ownNil _ _⟩, by first | exact HB1.out | exact HB1.out.alloc HB1.out.size _ | exact (HB1.out.alloc HB1.out.size _).setCell (by exact HB1.out.size) _⟩

set_option maxRecDepth 100000 in
set_option maxHeartbeats 4000000 in
theorem iSumPut_four (a : Option Addr) (cap n g2 c2 m : Nat) (x : List Tm) (zs : List ByteArray) (b : Bool) (w : World) (hx : IsTerms w a n x) (hs : StrsIn w (some ⟨g2, 0, none⟩) g2 m zs) (hf : fourB zs = true) (hb : (sumB x && (fitB (x.map (mapT (putF zs))) && twB (canonT (x.map (mapT (putF zs)))))) = b) :
    Calls Try.prog 35 #[.slice a n cap, .slice (some ⟨g2, 0, none⟩) m c2] w (ITold w b (canonT (x.map (mapT (putF zs))))) := by
  obtain ⟨hz4, hz⟩ := (fourB_iff zs).1 hf
  have HX := Lib.hid hx
  have HS := Lib.hid hs
  have HF := Lib.hid hf
  have HBB := Lib.hid hb
  have HZ4 := Lib.hid hz4
  have HZ := Lib.hid hz
  clear hx hs hf hb hz4 hz
  go_enter Try.func35, Try.ntmps35
  go_wp2_with fail
  refine (imagesOf_yes _ g2 c2 m zs _ HS.out HF.out).mono ?_
  rintro e w1 ⟨gi, rfl, hfo, hb1⟩
  have HFo := Lib.hid hfo
  have HB1 := Lib.hid hb1
  clear hfo hb1
  have hba : Below w1.heap.size w1 (w1.alloc (.cells #[.slice (some ⟨gi, 0, none⟩) 4 4] 63)) := (Below.refl _ _).alloc (Nat.le_refl _) _
  have hbx : (w1.alloc (.cells #[.slice (some ⟨gi, 0, none⟩) 4 4] 63)).cell? ⟨w1.heap.size, 0, none⟩ = some (.slice (some ⟨gi, 0, none⟩) 4 4) := by
    rw [World.cell?_alloc_at _ _ _ _ rfl]; rfl
  have hch := put_change _ w1.heap.size gi w.heap.size zs hbx (HFo.out.below hba) HZ4.out HZ.out
  have hxw := HX.out.below (HB1.out.trans (hba.mono HB1.out.size))
  have HC : Hid (Calls Try.prog 70 #[.slice a n cap, .func (.func 75) #[] #[.pointer (some ⟨w1.heap.size, 0, none⟩)]] (w1.alloc (.cells #[.slice (some ⟨gi, 0, none⟩) 4 4] 63)) (ITold (w1.alloc (.cells #[.slice (some ⟨gi, 0, none⟩) 4 4] 63)) b (canonT (x.map (mapT (putF zs)))))) := by
    have h := HBB.out
    cases hbx2 : sumB x with
    | false => rw [hbx2] at h; subst h; exact Lib.hid (changed_no a cap n x _ _ hxw hbx2)
    | true => rw [hbx2, Bool.true_and] at h; exact Lib.hid (changed_yes _ #[.pointer (some ⟨w1.heap.size, 0, none⟩)] (putF zs) a cap n x b _ hxw (enters_of Try.func75 (by kernel_rfl) rfl) hch hbx2 h)
  have HBA := Lib.hid (HB1.out.trans (hba.mono HB1.out.size))
  clear hba hbx hch hxw
  go_wp2_with fail
  with_reducible refine HC.out.mono ?_
  rintro e w4 ⟨⟨v', rfl, ho⟩, hb4⟩
  have HO := Lib.hid ho
  have HB4 := Lib.hid hb4
  clear ho hb4
  go_wp2
  go_ret2
  exact ⟨⟨_, rfl, HO.out.mono HBA.out.size⟩, HBA.out.trans (HB4.out.mono HBA.out.size)⟩

/-! ### As a law wants them -/
theorem sumPutB_tw {x : List Tm} {zs : List ByteArray} {b : Bool} (h : sumPutB x zs = b) : b = true → twB (canonT (x.map (mapT (putF zs)))) = true := by
  intro hb
  subst hb
  unfold sumPutB at h
  simp only [Bool.and_eq_true] at h
  exact h.2.2.2
theorem sSumPut_law {g1 g2 c1 c2 n m : Nat} {x : List Tm} {zs : List ByteArray} {b : Bool} {w : World} (hx : IsTerms w (some ⟨g1, 0, none⟩) n x) (hm : m ≤ maxLen) (hs : StrsIn w (some ⟨g2, 0, none⟩) g2 m zs) (hb : sumPutB x zs = b) :
    Calls Try.prog 36 #[.slice (some ⟨g1, 0, none⟩) n c1, .slice (some ⟨g2, 0, none⟩) m c2] w (STold w b (canonT (x.map (mapT (putF zs))))) := by
  unfold sumPutB at hb
  cases hbx : sumB x with
  | false => rw [hbx] at hb; subst hb; exact sSumPut_no _ _ _ _ _ _ x zs w hx hs.len hm hs.strsAt (.inl hbx)
  | true =>
    cases hbf : fourB zs with
    | false => rw [hbx, hbf] at hb; subst hb; exact sSumPut_no _ _ _ _ _ _ x zs w hx hs.len hm hs.strsAt (.inr hbf)
    | true =>
      rw [hbx, hbf] at hb
      obtain rfl : m = 4 := by have := ((fourB_iff zs).1 hbf).1; have := hs.len; omega
      exact sSumPut_yes _ _ _ _ _ x zs b w hx hs.strsAt hbx hbf hb
theorem iSumPut_law {g1 g2 c1 c2 n m : Nat} {x : List Tm} {zs : List ByteArray} {b : Bool} {w : World} (hx : IsTerms w (some ⟨g1, 0, none⟩) n x) (hm : m ≤ maxLen) (hs : StrsIn w (some ⟨g2, 0, none⟩) g2 m zs) (hb : sumPutB x zs = b) :
    Calls Try.prog 35 #[.slice (some ⟨g1, 0, none⟩) n c1, .slice (some ⟨g2, 0, none⟩) m c2] w (ITold w b (canonT (x.map (mapT (putF zs))))) := by
  unfold sumPutB at hb
  cases hbf : fourB zs with
  | false =>
    have : b = false := by rw [← hb, hbf, Bool.false_and, Bool.and_false]
    subst this
    exact iSumPut_noFour _ _ _ _ _ _ zs w hs hm hbf
  | true => rw [hbf, Bool.true_and] at hb; exact iSumPut_four _ _ _ _ _ _ x zs b w hx hs hbf hb

end Go.Proofs.Ytebgcebjlbhjjaa

/- The contracts of the laws' 'markTermS' and 'heldTermS'. -/

namespace Go.Proofs.Ytebgcebjlbhjjaa
open Go.RowKit Go.Shelf

def markT (k i : Nat) : Tm := ⟨((k + 2 * i : Nat) : Int), mkS (k + 2 * i + 1)⟩
/-- The marks from k on. -/
def marksT (k n : Nat) : List Tm := (List.range n).map (markT k)
theorem marksT_len (k n : Nat) : (marksT k n).length = n := by simp [marksT]
theorem marksT_get (k n i : Nat) (h : i < (marksT k n).length) : (marksT k n)[i] = markT k i := by simp [marksT]
theorem marksT_set (k j n : Nat) (us : List Tm) (hl : us.length = n) (hj : j < n) : (marksT k j ++ us.drop j).set j (markT k j) = marksT k (j + 1) ++ us.drop (j + 1) := by
  rw [List.set_append_right _ _ (by rw [marksT_len]; exact Nat.le_refl _), marksT_len, Nat.sub_self, List.drop_eq_getElem_cons (by omega : j < us.length), List.set_cons_zero]
  unfold marksT
  rw [List.range_succ, List.map_append, List.append_assoc]
  rfl

theorem ownsRow_past {w w' : World} {base : Nat} {e : TypeId} {size : Nat} {v : Value} {n : Nat} {xs : List Value} (h : w.ownsRow base e size v n xs) (hb : Below w.heap.size w w') : w'.ownsRow base e size v n xs :=
  h.kept ⟨hb.os, hb.tape, hb.output, hb.size, fun j hj _ => hb.block j hj⟩ (row := none) (by
    rcases h.2 with ⟨rfl, _⟩ | ⟨g, cap, cur, rfl, _⟩
    · exact .inl rfl
    · exact .inr (by simp [Value.ownBlock]))
theorem marksT_row (k j n : Nat) (us : List Tm) (hl : us.length = n) (hj : j < n) :
    ((termsV (marksT k j ++ us.drop j)).set (j * 2) (.int .i64 ((k + 2 * j : Nat) : Int))).set (j * 2 + 1) (.string (mkS (k + 2 * j + 1))) = termsV (marksT k (j + 1) ++ us.drop (j + 1)) := by
  rw [← marksT_set k j n us hl hj]
  exact set_terms _ j (markT k j) (by rw [List.length_append, marksT_len, List.length_drop]; omega)

theorem grown_trans {a b c : World} {row : Option Nat} (h : a.grownBy b row) (k : b.grownBy c row) : a.grownBy c row :=
  ⟨k.os.trans h.os, k.tape.trans h.tape, k.output.trans h.output, Nat.le_trans h.size k.size, fun i hi hne => (k.block i (Nat.lt_of_lt_of_le hi h.size) hne).trans (h.block i hi hne)⟩
theorem grown_refl (a : World) (row : Option Nat) : a.grownBy a row := ⟨rfl, rfl, rfl, Nat.le_refl _, fun _ _ _ => rfl⟩
theorem grown_below {a b : World} (row : Option Nat) (h : Below a.heap.size a b) : a.grownBy b row := ⟨h.os, h.tape, h.output, h.size, fun i hi _ => h.block i hi⟩
theorem mkB_size : ∀ (m : Nat) (t : ByteArray), (mkB m t).size ≤ t.size + m := by
  intro m
  induction m using Nat.strongRecOn with
  | _ m ih =>
    intro t
    by_cases h : m = 0
    · subst h; rw [mkB_zero]; exact Nat.le_refl _
    · rw [← mkB_step h]
      have h1 := ih (m / 10) (by omega) (⟨#[UInt8.ofNat (48 + m % 10)]⟩ ++ t)
      have h2 : ((⟨#[UInt8.ofNat (48 + m % 10)]⟩ : ByteArray) ++ t).size = 1 + t.size := by simp [ByteArray.size_append]; rfl
      omega
theorem mkS_size (k : Nat) : (mkS k).size ≤ k + 1 := by
  have h := mkB_size k ⟨#[]⟩
  have h0 : (⟨#[]⟩ : ByteArray).size = 0 := rfl
  have h1 : (mkS k).size = 1 + (mkB k ⟨#[]⟩).size := by unfold mkS; simp [ByteArray.size_append]; rfl
  omega
theorem marksT_small (k n : Nat) (hk : k ≤ 1000000) (hn : n ≤ 1048576) : SmallT (marksT k n) :=
  ⟨by rw [marksT_len]; unfold maxLen; omega, fun t ht => by
    unfold marksT at ht
    obtain ⟨i, hi, rfl⟩ := List.mem_map.1 ht
    have hi := List.mem_range.1 hi
    have := mkS_size (k + 2 * i + 1)
    unfold markT maxLen
    dsimp only
    omega⟩

def marksS (k n : Nat) : List ByteArray := (List.range n).map fun i => mkS (k + i)
theorem marksS_len (k n : Nat) : (marksS k n).length = n := by simp [marksS]
theorem marksS_set (k j n : Nat) (us : List ByteArray) (hl : us.length = n) (hj : j < n) : (strsV (marksS k j ++ us.drop j)).set j (.string (mkS (k + j))) = strsV (marksS k (j + 1) ++ us.drop (j + 1)) := by
  have h1 : (marksS k j ++ us.drop j).set j (mkS (k + j)) = marksS k (j + 1) ++ us.drop (j + 1) := by
    rw [List.set_append_right _ _ (by rw [marksS_len]; exact Nat.le_refl _), marksS_len, Nat.sub_self, List.drop_eq_getElem_cons (by omega : j < us.length), List.set_cons_zero]
    unfold marksS
    rw [List.range_succ, List.map_append, List.append_assoc]
    rfl
  rw [← h1]
  unfold strsV
  rw [List.map_set]
def OwnS (base : Nat) (w : World) (v : Value) (zs : List ByteArray) : Prop := w.ownsRow base 9 1 v zs.length (strsV zs)
theorem OwnS.below {base : Nat} {w w' : World} {v : Value} {zs : List ByteArray} (h : OwnS base w v zs) (hb : Below w.heap.size w w') : OwnS base w' v zs := ownsRow_past h hb

end Go.Proofs.Ytebgcebjlbhjjaa

/- What the laws on lists of terms need about rows of the call's own. -/

namespace Go.Proofs.Ytebgcebjlbhjjaa
open Go.RowKit Go.Shelf

theorem isTerms_owns {w : World} {base g cap n : Nat} {a : Option Addr} {w0 : World} {ts : List Tm} (h0 : IsTerms w0 a n ts) (h : w.ownsRow base TI 2 (.slice (some ⟨g, 0, none⟩) n cap) n (termsV ts)) : IsTerms w (some ⟨g, 0, none⟩) n ts :=
  ⟨h0.len, h0.max, fun _ => ⟨_, rfl, termsAt_of_owns h0.len h⟩, h0.small⟩
theorem ownIsTerms {base : Nat} {w : World} {a : Option Addr} {n c : Nat} {ts : List Tm} (h : OwnT base w (.slice a n c) ts) (hs : SmallT ts) : IsTerms w a n ts := by
  obtain ⟨a', c', e, hI⟩ := h.isTerms hs
  simp only [Value.slice.injEq] at e
  obtain ⟨rfl, rfl, rfl⟩ := e
  exact hI
theorem IsTerms.smallT {w : World} {a : Option Addr} {n : Nat} {ts : List Tm} (h : IsTerms w a n ts) : SmallT ts := ⟨by rw [h.len]; exact h.max, h.small⟩
theorem OwnT.keptBy {base : Nat} {w w' : World} {v : Value} {ts : List Tm} {row : Option Nat} (h : OwnT base w v ts) (hg : w.grownBy w' row) (hne : v.ownBlock = row → False) : OwnT base w' v ts := h.kept hg (.inr hne)
theorem OwnS.keptBy {base : Nat} {w w' : World} {v : Value} {ts : List ByteArray} {row : Option Nat} (h : OwnS base w v ts) (hg : w.grownBy w' row) (hne : v.ownBlock = row → False) : OwnS base w' v ts := h.kept hg (.inr hne)
theorem IsStrs.below {w w' : World} {a : Option Addr} {n : Nat} {zs : List ByteArray} (h : IsStrs w a n zs) (hb : Below w.heap.size w w') : IsStrs w' a n zs := ⟨h.len, h.max, h.at_.below hb⟩
theorem isStrs_owns {w : World} {base g n : Nat} {a : Option Addr} {w0 : World} {zs : List ByteArray} (h0 : IsStrs w0 a n zs) (h : w.ownsRow base 9 1 (.slice (some ⟨g, 0, none⟩) n n) n (strsV zs)) : IsStrs w (some ⟨g, 0, none⟩) n zs :=
  ⟨h0.len, h0.max, (strsAt_of_owns h0.len h h0.at_.small).1⟩
theorem ownIsStrs {base : Nat} {w w0 : World} {a : Option Addr} {g n : Nat} {zs : List ByteArray} (h0 : IsStrs w0 a n zs) (h : OwnS base w (.slice (some ⟨g, 0, none⟩) n n) zs) : StrsAt w (some ⟨g, 0, none⟩) zs := by
  unfold OwnS at h
  rw [h0.len] at h
  exact (strsAt_of_owns h0.len h h0.at_.small).1

end Go.Proofs.Ytebgcebjlbhjjaa

/- Lists of lists of terms in memory; the contracts of the laws' own helpers on them. -/

namespace Go.Proofs.Ytebgcebjlbhjjaa
open Go.RowKit Go.Shelf

abbrev TT : TypeId := 23
theorem infoTerms : (Try.prog.info? TT).map (fun i => (i.zero, i.size, i.bytes)) = some (some (.slice none 0 0), 1, 24) := by kernel_rfl

def total (rows : List (List Tm)) : Nat := (rows.map List.length).sum
theorem total_succ (rows : List (List Tm)) (k : Nat) (h : k < rows.length) : total (rows.take (k + 1)) = total (rows.take k) + rows[k].length := by
  unfold total; rw [List.take_succ_eq_append_getElem h, List.map_append, List.sum_append]; simp
theorem total_take_le : ∀ (rows : List (List Tm)) (k : Nat), total (rows.take k) ≤ total rows
  | [], k => by simp [total]
  | r :: rs, 0 => by simp [total]
  | r :: rs, k + 1 => by have := total_take_le rs k; unfold total at *; simp only [List.take_succ_cons, List.map_cons, List.sum_cons]; omega
theorem total_get (rows : List (List Tm)) (k : Nat) (h : k < rows.length) : total (rows.take k) + rows[k].length ≤ total rows := by
  rw [← total_succ rows k h]; exact total_take_le rows (k + 1)

/-- A slice of slices of terms. -/
structure IsTT (w : World) (a : Option Addr) (n : Nat) (rows : List (List Tm)) : Prop where
  len : rows.length = n
  max : n ≤ maxLen
  at_ : 0 < n → ∃ x, a = some x ∧ x.block < w.heap.size ∧ ∀ i (h : i < rows.length), ∃ ai ci, w.cell? (x.add i) = some (.slice ai rows[i].length ci) ∧ IsTerms w ai rows[i].length rows[i]
theorem IsTT.below {w w' : World} {a : Option Addr} {n : Nat} {rows : List (List Tm)} (h : IsTT w a n rows) (hb : Below w.heap.size w w') : IsTT w' a n rows :=
  ⟨h.len, h.max, fun h0 => by
    obtain ⟨x, e, hx, hc⟩ := h.at_ h0
    refine ⟨x, e, Nat.lt_of_lt_of_le hx hb.size, fun i hi => ?_⟩
    obtain ⟨ai, ci, h1, h2⟩ := hc i hi
    exact ⟨ai, ci, (hb.cell (p := x.add i) (by rw [addr_add_block]; exact hx)).trans h1, h2.below hb⟩⟩
theorem IsTT.none (w : World) (a : Option Addr) : IsTT w a 0 [] := ⟨rfl, Nat.zero_le _, fun h => absurd h (Nat.lt_irrefl _)⟩

/-! ### Rows of the call's own -/
theorem ownsRow_touched {w w' : World} {base : Nat} {e : TypeId} {size : Nat} {v : Value} {n : Nat} {xs : List Value} (h : w.ownsRow base e size v n xs) (ht : ∀ b, v.ownBlock = some b → b < w.heap.size → w'.heap[b]? = w.heap[b]?) : w'.ownsRow base e size v n xs := by
  refine ⟨h.1, ?_⟩
  rcases h.2 with ⟨rfl, h0⟩ | ⟨g, cap, cur, rfl, hb, hg, h3⟩
  · exact .inl ⟨rfl, h0⟩
  · exact .inr ⟨g, cap, cur, rfl, hb, (ht g rfl (Array.getElem?_eq_some_iff.1 hg).1).trans hg, h3⟩
structure OwnTT (lo : Nat) (w : World) (v : Value) (vals : List Value) (rows : List (List Tm)) : Prop where
  row : w.ownsRow lo TT 1 v rows.length vals
  each : ∀ (i : Nat) (h : i < rows.length) (u : Value), vals[i]? = some u → OwnT lo w u rows[i]
  apart : ∀ (i j : Nat) (u x : Value) (b : Nat), vals[i]? = some u → vals[j]? = some x → i ≠ j → u.ownBlock = some b → x.ownBlock = some b → False
  head : ∀ (i : Nat) (u : Value) (b : Nat), vals[i]? = some u → v.ownBlock = some b → u.ownBlock = some b → False
theorem OwnTT.val {lo : Nat} {w : World} {v : Value} {vals : List Value} {rows : List (List Tm)} (h : OwnTT lo w v vals rows) {i : Nat} (hi : i < rows.length) : ∃ u, vals[i]? = some u := by
  have := h.row.1
  rw [Nat.mul_one] at this
  exact ⟨_, List.getElem?_eq_getElem (by omega)⟩
/-- What lies elsewhere is as it was. -/
structure Touched (S : Nat → Prop) (w w' : World) : Prop where
  os : w'.os = w.os
  tape : w'.tape = w.tape
  output : w'.output = w.output
  size : w.heap.size ≤ w'.heap.size
  block : ∀ i, i < w.heap.size → ¬ S i → w'.heap[i]? = w.heap[i]?
theorem Touched.refl (S : Nat → Prop) (w : World) : Touched S w w := ⟨rfl, rfl, rfl, Nat.le_refl _, fun _ _ _ => rfl⟩
theorem Touched.grown {S : Nat → Prop} {w w1 w2 : World} {row : Option Nat} (h : Touched S w w1) (hg : w1.grownBy w2 row) (hS : ∀ b, row = some b → S b) : Touched S w w2 :=
  ⟨hg.os.trans h.os, hg.tape.trans h.tape, hg.output.trans h.output, Nat.le_trans h.size hg.size, fun i hi hn => by
    rw [hg.block i (Nat.lt_of_lt_of_le hi h.size) (fun e => hn (hS i e.symm)), h.block i hi hn]⟩
theorem Touched.below {S : Nat → Prop} {lo : Nat} {w w' : World} (h : Touched S w w') (hl : lo ≤ w.heap.size) (hS : ∀ i, S i → lo ≤ i) : Below lo w w' :=
  ⟨h.os, h.tape, h.output, h.size, fun i hi => h.block i (by omega) fun hs => by have := hS i hs; omega⟩
/-- The blocks of the rows. -/
def InRows (vals : List Value) (b : Nat) : Prop := ∃ (i : Nat) (u : Value), vals[i]? = some u ∧ u.ownBlock = some b
theorem OwnTT.low {lo : Nat} {w : World} {v : Value} {vals : List Value} {rows : List (List Tm)} (h : OwnTT lo w v vals rows) {b : Nat} (hb : InRows vals b) : lo ≤ b ∧ b < w.heap.size := by
  obtain ⟨i, u, hu, e⟩ := hb
  have hi : i < rows.length := by
    have h1 := (List.getElem?_eq_some_iff.1 hu).1
    have := h.row.1
    rw [Nat.mul_one] at this
    omega
  exact (h.each i hi u hu).lt b e
theorem OwnTT.below {lo : Nat} {w w' : World} {v : Value} {vals : List Value} {rows : List (List Tm)} (h : OwnTT lo w v vals rows) (hb : Below w.heap.size w w') : OwnTT lo w' v vals rows :=
  ⟨ownsRow_past h.row hb, fun i hi u hu => (h.each i hi u hu).below hb, h.apart, h.head⟩
theorem OwnTT.touched {lo : Nat} {w w' : World} {S : Nat → Prop} {v : Value} {vals : List Value} {rows : List (List Tm)} (h : OwnTT lo w v vals rows) (ht : Touched S w w') (hv : ∀ b, v.ownBlock = some b → ¬ S b) (hr : ∀ b, InRows vals b → ¬ S b) : OwnTT lo w' v vals rows :=
  ⟨ownsRow_touched h.row fun b hb hl => ht.block b hl (hv b hb), fun i hi u hu => ownsRow_touched (h.each i hi u hu) fun b hb hl => ht.block b hl (hr b ⟨i, u, hu, hb⟩), h.apart, h.head⟩
theorem OwnT.touched {lo : Nat} {w w' : World} {S : Nat → Prop} {v : Value} {ts : List Tm} (h : OwnT lo w v ts) (ht : Touched S w w') (hv : ∀ b, v.ownBlock = some b → ¬ S b) : OwnT lo w' v ts :=
  ownsRow_touched h fun b hb hl => ht.block b hl (hv b hb)
theorem OwnTT.isTT {lo : Nat} {w : World} {v : Value} {vals : List Value} {rows : List (List Tm)} (h : OwnTT lo w v vals rows) (hs : ∀ r ∈ rows, SmallT r) (hn : rows.length ≤ maxLen) : ∃ a cap, v = .slice a rows.length cap ∧ IsTT w a rows.length rows := by
  rcases h.row.2 with ⟨rfl, h0⟩ | ⟨g, cap, cur, rfl, hb, hg, h3⟩
  · exact ⟨none, 0, by rw [h0], rfl, hn, fun hp => absurd hp (by omega)⟩
  · refine ⟨_, cap, rfl, rfl, hn, fun _ => ⟨_, rfl, (Array.getElem?_eq_some_iff.1 hg).1, fun i hi => ?_⟩⟩
    obtain ⟨u, hu⟩ := h.val hi
    obtain ⟨ai, ci, rfl, hI⟩ := (h.each i hi u hu).isTerms (hs _ (List.getElem_mem hi))
    refine ⟨ai, ci, ?_, hI⟩
    exact h.row.cells rfl i _ hu

/-! ### The laws' helpers -/
end Go.Proofs.Ytebgcebjlbhjjaa

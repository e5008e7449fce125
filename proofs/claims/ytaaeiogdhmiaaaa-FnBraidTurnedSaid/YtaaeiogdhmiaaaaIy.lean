/- The contract of the program's 'WordSums'. -/
import Derived.Test.YtaaeiogdhmiaaaaIw
import Derived.Test.YtaaeiogdhmiaaaaJa
import Derived.Test.YtaaeiogdhmiaaaaMathb
import Derived.IntWalk
namespace Go.Proofs.Ytaaeiogdhmiaaaa
open Go.RowKit Go.Shelf

attribute [local go_sem] Oper.semAt_some

theorem idx_tab : ((List.range 256).all fun n => !(decide ((97 ≤ n ∧ n ≤ 100) ∨ (65 ≤ n ∧ n ≤ 68))) || (decide (bits BinOp.or IntKind.u8 (n : Int) 32 = ((if 97 ≤ n then n - 97 else n - 65 : Nat) : Int) + 97) && decide (bits BinOp.and IntKind.u8 (n : Int) 32 = if 97 ≤ n then 32 else 0))) = true := by kernel_rfl
theorem idx_let (c : UInt8) (h : letB c = true) : bits BinOp.or IntKind.u8 (c.toNat : Int) 32 = (idxB c : Int) + 97 ∧ bits BinOp.and IntKind.u8 (c.toNat : Int) 32 = if 97 ≤ c.toNat then 32 else 0 := by
  have := List.all_eq_true.1 idx_tab c.toNat (List.mem_range.2 c.toNat_lt)
  simp only [Bool.or_eq_true, Bool.and_eq_true, Bool.not_eq_true', decide_eq_false_iff_not, decide_eq_true_eq] at this
  exact this.resolve_left (fun h2 => h2 ((letB_iff c).1 h))

theorem iIndex_any (c : UInt8) (w : World) (h : letB c = true) :
    Calls Try.prog 107 #[.int .u8 (c.toNat : Int)] w fun e w' => e = .returned (.int .i64 (idxB c : Int)) ∧ w' = w := by
  have hb := (idx_let c h).1
  have hj := idxB_lt c h
  obtain ⟨j, hje⟩ : ∃ j, idxB c = j := ⟨_, rfl⟩
  rw [hje] at hb hj ⊢
  clear hje h
  go_enter Try.func107, Try.ntmps107
  go_wp2
  go_ret
  exact ⟨rfl, rfl⟩

theorem iSign_any (c : UInt8) (w : World) (h : letB c = true) :
    Calls Try.prog 83 #[.int .u8 (c.toNat : Int)] w fun e w' => e = .returned (.int .i64 (sgnB c)) ∧ w' = w := by
  have hb := (idx_let c h).2
  by_cases h97 : 97 ≤ c.toNat
  · rw [if_pos h97] at hb
    have hs : Hid (sgnB c = 1) := by unfold sgnB; rw [if_pos h97]; exact Lib.hid rfl
    clear h h97
    go_enter Try.func83, Try.ntmps83
    go_wp2
    go_ret
    exact ⟨ret_int hs.out.symm, rfl⟩
  · rw [if_neg h97] at hb
    have hs : Hid (sgnB c = -1) := by unfold sgnB; rw [if_neg h97]; exact Lib.hid rfl
    clear h h97
    go_enter Try.func83, Try.ntmps83
    go_wp2
    go_ret
    exact ⟨ret_int hs.out.symm, rfl⟩

set_option maxRecDepth 100000 in
set_option maxHeartbeats 2000000 in
theorem iSums_in (n : Nat) (hn : 40 ≤ n) (g0 cap0 : Nat) (s : ByteArray) (w : World) (h : wordB s.data.toList = true) (hw : IsWord w.heap.size w (.slice (some ⟨g0, 0, none⟩) s.size cap0) s.data.toList) :
    CallsIn Fence.wide n Try.prog 125 #[.slice (some ⟨g0, 0, none⟩) s.size cap0] w fun e w' => e = .returned (.slice (some ⟨w.heap.size, 0, none⟩) 4 4) ∧ IntRow w.heap.size w' (.slice (some ⟨w.heap.size, 0, none⟩) 4 4) (sumsL s.data.toList) ∧ Below w.heap.size w w' := by
  obtain ⟨h1, h2, _⟩ := (wordB_iff _).1 h
  have hs : s.size ≤ 60 := by simpa using h1
  have H2 := Lib.hid h2
  have HW0 := Lib.hid hw
  clear h h1 h2 hw
  have hmk : ∀ w, (Instr.makeSlice 37 (.int .i64 4) (.int .i64 4)).run Try.prog w = .ok (.slice (some ⟨w.heap.size, 0, none⟩) 4 4) (w.alloc (.cells #[.int .i64 0, .int .i64 0, .int .i64 0, .int .i64 0] 3)) := fun _ => by kernel_rfl
  refine callsIn_of_wp_marks Try.func125 rfl trivial ?_ rfl
  simp only [Try.ntmps125, List.size_toArray, List.length_cons, List.length_nil, Nat.reduceAdd, Nat.reduceSub, Array.replicate_succ, Array.replicate_zero, List.push_toArray, List.append_toArray, List.nil_append, List.cons_append]
  gi_wp2_with fail
  refine ⟨trivial, fun _ => by omega, ?_⟩
  refine (callsIn_wide.2 (letters_fwd _ _ _ 1 _ (by decide))).mono ?_
  rintro e w2 ⟨rfl, rfl⟩
  have hrow : (w.alloc (.cells #[.int .i64 0, .int .i64 0, .int .i64 0, .int .i64 0] 3)).ownsRow w.heap.size 3 1 (.slice (some ⟨w.heap.size, 0, none⟩) 4 4) 4 (intsV (sumsL [])) :=
    ⟨rfl, .inr ⟨_, 4, #[.int .i64 0, .int .i64 0, .int .i64 0, .int .i64 0], rfl, Nat.le_refl _, heap_alloc_new w _, Nat.le_refl _, by decide, rfl, rfl⟩⟩
  have hrow2 := (hrow.alloc (.cells #[.slice (some ⟨w.heap.size, 0, none⟩) 4 4] 37)).alloc (.cells #[.slice (some ⟨g0, 0, none⟩) s.size cap0] WT)
  have hbx := (Boxed.new (w.alloc (.cells #[.int .i64 0, .int .i64 0, .int .i64 0, .int .i64 0] 3)) 37 (.slice (some ⟨w.heap.size, 0, none⟩) 4 4)).alloc (.cells #[.slice (some ⟨g0, 0, none⟩) s.size cap0] WT)
  have hbi := Boxed.new ((w.alloc (.cells #[.int .i64 0, .int .i64 0, .int .i64 0, .int .i64 0] 3)).alloc (.cells #[.slice (some ⟨w.heap.size, 0, none⟩) 4 4] 37)) WT (.slice (some ⟨g0, 0, none⟩) s.size cap0)
  have hBv : Below w.heap.size w (((w.alloc (.cells #[.int .i64 0, .int .i64 0, .int .i64 0, .int .i64 0] 3)).alloc (.cells #[.slice (some ⟨w.heap.size, 0, none⟩) 4 4] 37)).alloc (.cells #[.slice (some ⟨g0, 0, none⟩) s.size cap0] WT)) := (((Below.refl _ w).alloc (Nat.le_refl _) _).alloc (by simp) _).alloc (by simp; omega) _
  have hsz : (((w.alloc (.cells #[.int .i64 0, .int .i64 0, .int .i64 0, .int .i64 0] 3)).alloc (.cells #[.slice (some ⟨w.heap.size, 0, none⟩) 4 4] 37)).alloc (.cells #[.slice (some ⟨g0, 0, none⟩) s.size cap0] WT)).heap.size = w.heap.size + 3 := by simp
  simp only [World.size_alloc] at hbx hbi ⊢
  generalize (((w.alloc (.cells #[.int .i64 0, .int .i64 0, .int .i64 0, .int .i64 0] 3)).alloc (.cells #[.slice (some ⟨w.heap.size, 0, none⟩) 4 4] 37)).alloc (.cells #[.slice (some ⟨g0, 0, none⟩) s.size cap0] WT)) = V at hrow2 hbx hbi hBv hsz ⊢
  have hwV : IsWord w.heap.size V (.slice (some ⟨g0, 0, none⟩) s.size cap0) s.data.toList := HW0.out.below hBv
  have HBI := Lib.hid hbi
  have HBX := Lib.hid hbx
  have HR2 := Lib.hid hrow2
  have HWV := Lib.hid hwV
  clear hrow hrow2 hbx hbi hwV hmk
  gi_wp2_with fail
  refine range_letters (by omega) (gf := 139) (lb := #[.pointer (some ⟨w.heap.size + 1 + 1, 0, none⟩)]) rfl (enters_of Try.func139 (by kernel_rfl) rfl)
    (n₀ := w.heap.size) (B := w.heap.size) (xs := s.data.toList) (values_seq s.data.toList _ V (w.heap.size + 1 + 1) w.heap.size (by omega) (by omega) HBI.out.cell HWV.out) (by omega) (Nat.le_refl _) (by omega)
    (fun pre X => (∃ v, Boxed X (w.heap.size + 1) 37 v ∧ X.ownsRow w.heap.size 3 1 v 4 (intsV (sumsL pre)) ∧ v = .slice (some ⟨w.heap.size, 0, none⟩) 4 4) ∧ Below w.heap.size w X)
    (OwnFrom.and (Own.from (holdsRow_own w.heap.size (w.heap.size + 1) 37 3 1 (fun _ => 4) (fun pre => intsV (sumsL pre)) (fun _ v => v = .slice (some ⟨w.heap.size, 0, none⟩) 4 4)) _) (ownFrom_below (Nat.le_refl _) (by omega)))
    ⟨⟨_, HBX.out, HR2.out, rfl⟩, hBv⟩
    (fun x => { tmps := #[.slice (some ⟨g0, 0, none⟩) s.size cap0, undef, .slice none 0 0, .pointer (some ⟨w.heap.size + 1, 0, none⟩), .int .u8 (x.toNat : Int), .slice (some ⟨w.heap.size, 0, none⟩) 4 4, .slice (some ⟨g0, 0, none⟩) s.size cap0, .func (.func 139) #[] #[.pointer (some ⟨w.heap.size + 1 + 1, 0, none⟩)], .int .u8 (x.toNat : Int), undef, undef, undef, undef, undef, undef, undef, undef, undef, undef], defers := [] }) ?assign ?body ?done
  case assign =>
    intro l x W K hK
    gi_wp2
    exact hK
  case body =>
    rintro l pre x X ⟨⟨v, hbx, hrow, rfl⟩, hB⟩ hpre
    have hlet : letB x = true := List.all_eq_true.1 H2.out x (prefix_mem hpre)
    have hlp : letL pre = true := letL_of_mem _ _ H2.out (fun c hc => hpre.subset (by simp [hc]))
    have hplen := prefix_len hpre
    rw [show s.data.toList.length = s.size by simp] at hplen
    obtain ⟨hz4, hzb⟩ := sumsL_inv _ hlp
    obtain ⟨j, hj⟩ : ∃ j, idxB x = j := ⟨_, rfl⟩
    have hj4 : j < 4 := by rw [← hj]; exact idxB_lt _ hlet
    obtain ⟨z, hz⟩ : ∃ z, (sumsL pre)[j]'(by omega) = z := ⟨_, rfl⟩
    have hzm := hzb z (by rw [← hz]; exact List.getElem_mem _)
    have hz1' : -(1048576 : Int) ≤ z := by omega
    have hz2' : z ≤ 1048576 := by omega
    have hcl : X.cell? ⟨w.heap.size, j, none⟩ = some (.int .i64 z) := by
      rw [hrow.cellAt j (by omega), ← hz]
      simp [intsV, hz4, hj4]
    have hfr := hrow.frozenAt j
    have hj4' : (j : Int) < 4 := by omega
    have hbc := hbx.cell
    have hstep : (intsV (sumsL pre)).set j (.int .i64 (z + sgnB x)) = intsV (sumsL (pre ++ [x])) := by
      rw [sumsL_snoc]
      unfold sumsStep intsV
      rw [hj, List.getElem?_eq_getElem (by omega), Option.getD_some, hz, List.map_set]
    have hsg : -1 ≤ sgnB x ∧ sgnB x ≤ 1 := by unfold sgnB; split <;> omega
    obtain ⟨u, hu⟩ : ∃ u, sgnB x = u := ⟨_, rfl⟩
    rw [hu] at hstep hsg
    obtain ⟨hu1, hu2⟩ := hsg
    have HST := Lib.hid hstep
    have HLet := Lib.hid hlet
    have HJ := Lib.hid hj
    have HU := Lib.hid hu
    have HR := Lib.hid hrow
    have HBX' := Lib.hid hbx
    have hd : 1 ≤ n - 1 - 1 := by omega
    have hmx : Try.prog.follows .mixedOrders = true := by kernel_rfl
    have hix : ∀ W, Calls Try.prog 107 #[.int .u8 (x.toNat : Int)] W fun e w' => e = .returned (.int .i64 (j : Int)) ∧ w' = W := fun W => by rw [← hj]; exact iIndex_any x W hlet
    have hsx : ∀ W, Calls Try.prog 83 #[.int .u8 (x.toNat : Int)] W fun e w' => e = .returned (.int .i64 u) ∧ w' = W := fun W => by rw [← hu]; exact iSign_any x W hlet
    have HIX := Lib.hid hix
    have HSX := Lib.hid hsx
    clear hstep hlet hlp hz4 hzb hz hzm hrow hj hu hbx hpre hplen hix hsx
    gi_wp2
    gi_region_with_o (first | (refine ⟨trivial, ?_⟩; gi_at_call 107; refine (CallsIn.inRound l (callsIn_wide.2 (HIX.out _))).mono ?_; rintro e w' ⟨rfl, rfl⟩) | (refine ⟨trivial, ?_⟩; gi_at_call 83; refine (CallsIn.inRound l (callsIn_wide.2 (HSX.out _))).mono ?_; rintro e w' ⟨rfl, rfl⟩))
    all_goals gi_wp2
    all_goals
      have hwrap : IntKind.i64.wrap (z + u) = z + u := IntWalk.i64_in _ (by omega)
      rw [hwrap]
      have hst := HR.out.stored j (.int .i64 (z + u))
      rw [HST.out] at hst
      have hko : KeepsOthers X (X.setCell ⟨w.heap.size, j, none⟩ (.int .i64 (z + u))).drew := (KeepsOthers.setCell _ _ _).trans (KeepsOthers.drew _)
      exact ⟨hko.from _, ⟨((Below.refl _ X).setCell (p := ⟨w.heap.size, j, none⟩) (Nat.le_refl _) _).drew, fun k cs t r hk _ hkB => (Below.heap_setCell _ _ _ k hkB).trans hk, hko.from _⟩,
        ⟨_, (Below.heap_setCell X ⟨w.heap.size, j, none⟩ _ (w.heap.size + 1) (by show w.heap.size + 1 ≠ w.heap.size; omega)).trans HBX'.out, hst.1, rfl⟩, (hB.setCell (p := ⟨w.heap.size, j, none⟩) (Nat.le_refl _) _).drew⟩
  case done =>
    rintro D X hD ⟨⟨v, hbx, hrow, rfl⟩, hB⟩ hK
    have hbc := hbx.cell
    have HR := Lib.hid hrow
    clear hrow hbx
    gi_wp2
    refine ⟨by simp, .inl ⟨_, _, rfl, run_takeDeferred hK, ?_⟩⟩
    refine ⟨.slice (some ⟨w.heap.size, 0, none⟩) 4 4, by simp [results, Try.f125, go_sem], rfl, ?_, hB.trans (belowK_b (w := w) (Nat.le_refl _) X D _ _ (by omega) hK rfl rfl)⟩
    have := ownsRow_putObj HR.out (.deferred none) hK rfl
    unfold IntRow
    rw [(sumsL_inv _ H2.out).1]
    exact this

theorem iSums_any (g0 cap0 : Nat) (s : ByteArray) (w : World) (h : wordB s.data.toList = true) (hw : IsWord w.heap.size w (.slice (some ⟨g0, 0, none⟩) s.size cap0) s.data.toList) :
    Calls Try.prog 125 #[.slice (some ⟨g0, 0, none⟩) s.size cap0] w fun e w' => e = .returned (.slice (some ⟨w.heap.size, 0, none⟩) 4 4) ∧ IntRow w.heap.size w' (.slice (some ⟨w.heap.size, 0, none⟩) 4 4) (sumsL s.data.toList) ∧ Below w.heap.size w w' :=
  (callsIn_wide (n := 50)).1 (iSums_in 50 (by omega) g0 cap0 s w h hw)

end Go.Proofs.Ytaaeiogdhmiaaaa

/- The contract of the program's BraidSum. -/
import Derived.Test.YtaaeiogdhmiaaaaCj
import Derived.Test.YtaaeiogdhmiaaaaCl
namespace Go.Proofs.Ytaaeiogdhmiaaaa
open Go.RowKit Go.Shelf

attribute [local go_sem] Oper.semAt_some

theorem sign_br (c : UInt8) (w : World) (h : brB c = true) :
    Calls Try.prog 83 #[.int .u8 (c.toNat : Int)] w fun e w' => e = .returned (.int .i64 (sgnB c)) ∧ w' = w := by
  have hb := (pl_yes c h).2.1
  by_cases h97 : 97 ≤ c.toNat
  · rw [if_pos h97] at hb
    have hs : Hid (sgnB c = 1) := by unfold sgnB; rw [if_pos h97]; exact Lib.hid rfl
    clear h h97
    go_enter Try.func83, Try.ntmps83
    go_wp2
    go_ret
    exact ⟨ret_int hs.out.symm, rfl⟩
  · rw [if_neg h97] at hb
    have hs : Hid (sgnB c = -1) := by unfold sgnB; rw [if_neg h97]; exact Lib.hid rfl
    clear h h97
    go_enter Try.func83, Try.ntmps83
    go_wp2
    go_ret
    exact ⟨ret_int hs.out.symm, rfl⟩

set_option maxRecDepth 100000 in
set_option maxHeartbeats 1000000 in
theorem iBraidSum_in (m : Nat) (hn : 30 ≤ m) (n : Int) (s : ByteArray) (w : World) (hs : s.size ≤ maxLen) :
    CallsIn Fence.wide m Try.prog 39 #[brV n s] w fun e w' => e = .returned (numR (braidB n s) (sgSum s.data.toList)) ∧ Below w.heap.size w w' := by
  obtain ⟨W, hW⟩ : ∃ W, w.alloc (.cells #[.int .i64 n, .string s] 26) = W := ⟨_, rfl⟩
  have HX := Lib.hid (oneBox hW)
  have HW := Lib.hid hW
  clear hW
  have hsz := HX.out.2.1
  obtain ⟨b, hb⟩ : ∃ b, braidB n s = b := ⟨_, rfl⟩
  have HA := Lib.hid (fun w => iBraidIn_any n s b w hs hb)
  have HB := Lib.hid hb
  clear hb
  obtain ⟨⟨c0, c1⟩, _, _⟩ := boxOf2 HX.out.2.2 (Below.refl _ W)
  refine callsIn_of_wp_marks Try.func39 rfl trivial ?_ rfl
  simp only [Try.ntmps39, List.size_toArray, List.length_cons, List.length_nil, Nat.reduceAdd, Nat.reduceSub, Array.replicate_succ, Array.replicate_zero, List.push_toArray, List.append_toArray, List.nil_append, List.cons_append]
  gi_wp2_with fail
  rw [HW.out]
  refine ⟨trivial, fun _ => by omega, ?_⟩
  refine (callsIn_wide.2 (HA.out W)).mono ?_
  rintro e w1 ⟨rfl, hb1⟩
  clear c0 c1
  obtain ⟨⟨c0, c1⟩, _, _⟩ := boxOf2 HX.out.2.2 hb1
  have HBX := Lib.hid (HX.out.1.trans (hb1.mono HX.out.1.size))
  have hws : w.heap.size + 1 ≤ w1.heap.size := by have := hb1.size; omega
  clear hb1
  cases b with
  | false =>
    gi_wp2
    exact ⟨numR (braidB n s) (sgSum s.data.toList), by rw [HB.out]; simp [results, Try.f39, go_sem, numR], rfl, HBX.out⟩
  | true =>
    obtain ⟨_, p3, pA⟩ := braid_all HB.out
    have HPA := Lib.hid pA
    clear pA
    have c1' := (World.cell?_alloc_lt w1 (.cells #[.int .i64 0] 3) ⟨w.heap.size, 1, none⟩ (by show w.heap.size < w1.heap.size; omega)).trans c1
    gi_wp2_with fail
    refine ⟨trivial, fun _ => by omega, ?_⟩
    refine (callsIn_wide.2 (signsOf_any s _)).mono ?_
    rintro e w2 ⟨rfl, rfl⟩
    have b1 := (Boxed.new w1 3 (.int .i64 0)).alloc (.cells #[.string s] 9)
    have b2 := Boxed.new (w1.alloc (.cells #[.int .i64 0] 3)) 9 (.string s)
    rw [World.size_alloc] at b2
    have hB0 : Below w.heap.size w ((w1.alloc (.cells #[.int .i64 0] 3)).alloc (.cells #[.string s] 9)) := (HBX.out.alloc (by omega) _).alloc (by simp; omega) _
    have hsz0 : ((w1.alloc (.cells #[.int .i64 0] 3)).alloc (.cells #[.string s] 9)).heap.size = w1.heap.size + 2 := by simp
    obtain ⟨W0, hW0⟩ : ∃ W0, ((w1.alloc (.cells #[.int .i64 0] 3)).alloc (.cells #[.string s] 9)) = W0 := ⟨_, rfl⟩
    simp only [World.size_alloc]
    rw [hW0] at b1 b2 hB0 hsz0 ⊢
    clear hW0
    obtain ⟨N, hN⟩ : ∃ N, w1.heap.size = N := ⟨_, rfl⟩
    rw [hN] at b1 b2 hsz0 ⊢
    have hwN : w.heap.size ≤ N := by omega
    clear c0 c1
    gi_wp2
    refine range_signs (by omega) (s := s) (by omega) rfl b2
      (fun pre X => Boxed X N 3 (.int .i64 (sgSum pre)) ∧ Below w.heap.size w X)
      (OwnFrom.and (Own.from (fun pre A B row hs hg hr => boxed_own N _ (fun _ : Unit => .int .i64 (sgSum pre)) () A B row hs hg hr) _) (ownFrom_below (Nat.le_refl _) hB0.size))
      ⟨b1, hB0⟩ ?a1 ?assign ?body ?done
    case assign =>
      intro l x W K hK
      gi_wp2
      exact hK
    case body =>
      rintro l pre x X ⟨hbx, hB⟩ hpre
      have hlet := (HPA.out x (prefix_mem hpre)).1
      have hplen := prefix_len hpre
      rw [show s.data.toList.length = s.size by simp] at hplen
      have hz := sgSum_bnd pre
      have hbc := hbx.cell
      have hfr := hbx.frozen
      have HS := Lib.hid (fun w => sign_br x w hlet)
      have hsg : -1 ≤ sgnB x ∧ sgnB x ≤ 1 := by unfold sgnB; split <;> omega
      have hst : sgSum (pre ++ [x]) = sgSum pre + sgnB x := by rw [sgSum_append, sgSum_one]
      obtain ⟨u, hu⟩ : ∃ u, sgnB x = u := ⟨_, rfl⟩
      obtain ⟨z, hzz⟩ : ∃ z, sgSum pre = z := ⟨_, rfl⟩
      rw [hu] at HS hsg hst
      rw [hzz] at hbc hz hst hbx
      obtain ⟨hz1, hz2⟩ := hz
      obtain ⟨hu1, hu2⟩ := hsg
      have hz1' : -(1048576 : Int) ≤ z := by omega
      have hz2' : z ≤ 1048576 := by omega
      have HST := Lib.hid hst
      have HBX' := Lib.hid hbx
      have hd : 1 ≤ m - 1 - 1 := by omega
      have hmx : Try.prog.follows .mixedOrders = true := by kernel_rfl
      clear hst hlet hpre hplen hu hzz hz1 hz2 hbx
      gi_wp2
      gi_region_with_o (refine ⟨trivial, ?_⟩; gi_at_call 83; refine (CallsIn.inRound l (callsIn_wide.2 (HS.out _))).mono ?_; rintro e w' ⟨rfl, rfl⟩)
      all_goals gi_wp2
      all_goals
        have hwrap : IntKind.i64.wrap (z + u) = z + u := IntWalk.i64_in _ (by omega)
        rw [hwrap]
        have hko : KeepsOthers X (X.setCell ⟨N, 0, none⟩ (.int .i64 (z + u))).drew := (KeepsOthers.setCell _ _ _).trans (KeepsOthers.drew _)
        refine ⟨hko.from _, ⟨Below.heap_setCell _ _ _ _ (by show N + 1 ≠ N; omega), hko.from _⟩, ?_, (hB.setCell (p := ⟨N, 0, none⟩) hwN _).drew⟩
        rw [HST.out]
        exact HBX'.out.set _
    case done =>
      rintro D X hD ⟨hbx, hB⟩ hK
      have hbc := hbx.cell
      clear hbx
      gi_wp2
      refine ⟨by simp, .inl ⟨_, _, rfl, run_takeDeferred hK, ?_⟩⟩
      exact ⟨numR (braidB n s) (sgSum s.data.toList), by rw [HB.out]; simp [results, Try.f39, go_sem, numR], rfl, hB.trans (belowK_b (w := w) (Nat.le_refl _) X D _ _ (by omega) hK rfl rfl)⟩

theorem iBraidSum_any (n : Int) (s : ByteArray) (w : World) (hs : s.size ≤ maxLen) :
    Calls Try.prog 39 #[brV n s] w fun e w' => e = .returned (numR (braidB n s) (sgSum s.data.toList)) ∧ Below w.heap.size w w' :=
  (callsIn_wide (n := 30)).1 (iBraidSum_in 30 (by omega) n s w hs)

end Go.Proofs.Ytaaeiogdhmiaaaa

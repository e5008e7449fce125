/- The contract of the program's BraidTurned. -/
import Derived.Test.YtaaeiogdhmiaaaaCj
import Derived.Test.YtaaeiogdhmiaaaaCo
import Derived.Test.YtaaeiogdhmiaaaaIl
import Derived.Laws.BytesArg
namespace Go.Proofs.Ytaaeiogdhmiaaaa
open Go.RowKit Go.Shelf

attribute [local go_sem] Oper.semAt_some

theorem inverse_br (c : UInt8) (w : World) :
    Calls Try.prog 75 #[.int .u8 (c.toNat : Int)] w fun e w' => e = .returned (.int .u8 ((invB c).toNat : Int)) ∧ w' = w := inverse_any c w

set_option maxRecDepth 100000 in
set_option maxHeartbeats 1000000 in
theorem iBraidTurned_in (m : Nat) (hn : 30 ≤ m) (n : Int) (s : ByteArray) (w : World) (hs : s.size ≤ maxLen) :
    CallsIn Fence.wide m Try.prog 30 #[brV n s] w fun e w' => e = .returned (brR (braidB n s) n (bstr (backL s.data.toList))) ∧ Below w.heap.size w w' := by
  obtain ⟨W, hW⟩ : ∃ W, (w.alloc (.cells #[.int .i64 n, .string s] 26)).alloc (.cells #[.int .i64 0, .string { data := #[] }] 26) = W := ⟨_, rfl⟩
  have HX := Lib.hid (twoBox hW)
  have HW := Lib.hid hW
  clear hW
  have hsz := HX.out.2.1
  obtain ⟨b, hb⟩ : ∃ b, braidB n s = b := ⟨_, rfl⟩
  have HA := Lib.hid (fun w => iBraidIn_any n s b w hs hb)
  have HB := Lib.hid hb
  clear hb
  obtain ⟨⟨c0, c1⟩, _, _⟩ := boxOf2 HX.out.2.2.1 (Below.refl _ W)
  refine callsIn_of_wp_marks Try.func30 rfl trivial ?_ rfl
  simp only [Try.ntmps30, List.size_toArray, List.length_cons, List.length_nil, Nat.reduceAdd, Nat.reduceSub, Array.replicate_succ, Array.replicate_zero, List.push_toArray, List.append_toArray, List.nil_append, List.cons_append]
  gi_wp2_with fail
  rw [HW.out]
  refine ⟨trivial, fun _ => by omega, ?_⟩
  refine (callsIn_wide.2 (HA.out W)).mono ?_
  rintro e w1 ⟨rfl, hb1⟩
  clear c0 c1
  obtain ⟨⟨d0, d1⟩, f0, f1⟩ := boxOf2 HX.out.2.2.2 hb1
  obtain ⟨⟨c0, c1⟩, _, _⟩ := boxOf2 HX.out.2.2.1 hb1
  have HBX := Lib.hid (HX.out.1.trans (hb1.mono HX.out.1.size))
  have hws : w.heap.size + 2 ≤ w1.heap.size := by have := hb1.size; omega
  have HB1 := Lib.hid hb1
  clear hb1
  cases b with
  | false =>
    gi_wp2
    exact ⟨brR (braidB n s) n (bstr (backL s.data.toList)), by rw [HB.out]; simp [results, Try.f30, go_sem, brR, d0, d1], rfl, below_two HBX.out (by omega) _ _⟩
  | true =>
    obtain ⟨_, p3, pA⟩ := braid_all HB.out
    have HPA := Lib.hid pA
    clear pA
    have c1' := (World.cell?_alloc_lt w1 (.cells #[.slice none 0 0] 62) ⟨w.heap.size, 1, none⟩ (by show w.heap.size < w1.heap.size; omega)).trans c1
    have hcv := run_bytes_of_string (P := Try.prog) (w1.alloc (.cells #[.slice none 0 0] 62)) 9 62 5 s Try.underlying9 Try.underlying62 Try.underlying5
    obtain ⟨cp, hcp⟩ : ∃ c, grownCap (w1.alloc (.cells #[.slice none 0 0] 62)) s.size 0 5 = c := ⟨_, rfl⟩
    rw [hcp] at hcv
    gi_wp2_with fail
    refine ⟨trivial, fun _ => by omega, ?_⟩
    refine (callsIn_wide.2 (backwardB_any _ _ _ _)).mono ?_
    rintro e w2 ⟨rfl, rfl⟩
    clear hcv c1'
    obtain ⟨N, hN⟩ : ∃ N, w1.heap.size = N := ⟨_, rfl⟩
    obtain ⟨W3, hW3⟩ : ∃ W3, (((w1.alloc (.cells #[.slice none 0 0] 62)).alloc (.cells (bytesRow s cp) 5 ((bytesRow s cp).size, (bytesRow s cp).size + 1))).drew).alloc (.cells #[.slice (some ⟨w1.heap.size + 1, 0, none⟩) s.size cp] 62) = W3 := ⟨_, rfl⟩
    have hszd : (((w1.alloc (.cells #[.slice none 0 0] 62)).alloc (.cells (bytesRow s cp) 5 ((bytesRow s cp).size, (bytesRow s cp).size + 1))).drew).heap.size = N + 2 := by show ((w1.alloc _).alloc _).heap.size = _; simp [hN]
    have hs3 : W3.heap.size = N + 3 := by rw [← hW3, World.size_alloc, hszd]
    have hB3 : Below w1.heap.size w1 W3 := by
      rw [← hW3]
      exact ((((Below.refl _ w1).alloc (Nat.le_refl _) _).alloc (by simp) _).drew).alloc (by rw [hszd]; omega) _
    have hb3 : Boxed W3 (N + 2) 62 (.slice (some ⟨N + 1, 0, none⟩) s.size cp) := by
      have h := Boxed.new (((w1.alloc (.cells #[.slice none 0 0] 62)).alloc (.cells (bytesRow s cp) 5 ((bytesRow s cp).size, (bytesRow s cp).size + 1))).drew) 62 (.slice (some ⟨w1.heap.size + 1, 0, none⟩) s.size cp)
      rw [hszd, hW3, hN] at h
      exact h
    have hk1 : W3.heap[N + 1]? = some (.cells (bytesRow s cp) 5 ((bytesRow s cp).size, (bytesRow s cp).size + 1)) := by
      rw [← hW3, Below.heap_alloc _ _ _ (by rw [hszd]; omega)]
      have h := World.alloc_heap_new (w1.alloc (.cells #[.slice none 0 0] 62)) (.cells (bytesRow s cp) 5 ((bytesRow s cp).size, (bytesRow s cp).size + 1))
      rw [World.size_alloc, hN] at h
      exact h
    have hb0 : Boxed W3 N 62 (.slice none 0 0) := by
      have h : Boxed (w1.alloc (.cells #[.slice none 0 0] 62)) w1.heap.size 62 (.slice none 0 0) := Boxed.new w1 _ _
      rw [hN] at h
      rw [← hW3]
      have h2 := h.alloc (.cells (bytesRow s cp) 5 ((bytesRow s cp).size, (bytesRow s cp).size + 1))
      exact (show Boxed (((w1.alloc (.cells #[.slice none 0 0] 62)).alloc (.cells (bytesRow s cp) 5 ((bytesRow s cp).size, (bytesRow s cp).size + 1))).drew) N 62 (.slice none 0 0) from h2).alloc _
    have hcl : ∀ j (h : j < s.data.toList.length), W3.cell? ⟨N + 1, 0 + j, none⟩ = some (.int .u8 (s.data.toList[j].toNat : Int)) := fun j h => by
      have h1 := bytesRow_at s cp j (by simpa using h)
      simp [World.cell?, hk1, h1]
    have HSS : Hid (s.size = s.data.toList.length) := Lib.hid (by simp)
    rw [show (((w1.alloc (.cells #[.slice none 0 0] 62)).alloc (.cells (bytesRow s cp) 5 ((bytesRow s cp).size, (bytesRow s cp).size + 1))).drew).heap.size = N + 2 from hszd]
    rw [hW3, hN]
    have hwN : w.heap.size + 2 ≤ N := by omega
    have HN := Lib.hid hN
    have HCL := Lib.hid hcl
    clear hW3 hszd hk1 hcl c0 c1 d0 d1 f0 f1 hN
    obtain ⟨i0, hi0, hz0, hz1, hz2⟩ := info_parts infoU8
    dsimp only
    gi_wp2_with fail
    refine range_backB (n := m) (by omega) (L := s.data.toList) (Bs := N + 2) (g0 := N + 1) (off := 0) (cap := cp) rfl (by rw [← HSS.out]; exact hb3) (by omega) (by rw [← HSS.out]; omega) HCL.out
      (fun pre X => (∃ v, Boxed X N 62 v ∧ X.ownsRow (N + 3) 5 1 v pre.length (bytesV (pre.map fun p => invB p.2)) ∧ True) ∧ Below w1.heap.size w1 X ∧ W3.heap.size ≤ X.heap.size)
      (OwnFrom.and (Own.from (holdsRow_own (N + 3) N 62 5 1 (fun pre : List (Nat × UInt8) => pre.length) (fun pre => bytesV (pre.map fun p => invB p.2)) (fun _ _ => True)) _) (OwnFrom.and (ownFrom_below (Nat.le_refl _) hB3.size) (fun s X Y row hs hgr hr => Nat.le_trans hs hgr.size)))
      ⟨⟨_, hb0, World.ownsRow_nil _ _ _ _, trivial⟩, hB3, Nat.le_refl _⟩
      (fun x => { tmps := #[brV n s, .pointer (some ⟨w.heap.size, 0, none⟩), .pointer (some ⟨w.heap.size + 1, 0, none⟩), .bool false, .pointer (some ⟨N, 0, none⟩), undef, .int .u8 (x.2.toNat : Int), brV n s, .bool true, .bool false, undef, .pointer (some ⟨w.heap.size, 1, none⟩), .string s, .slice (some ⟨N + 1, 0, none⟩) s.size cp, .func (.func 109) #[] #[.pointer (some ⟨N + 2, 0, none⟩)], .int .i64 (x.1 : Int), .int .u8 (x.2.toNat : Int), undef, undef, undef, undef, undef, undef, undef, undef, undef, undef], defers := [] }) ?assign ?body ?done
    case assign =>
      intro l x W K hK
      have hzip : (#[15, 16] : Array Tmp).zip (encI x) = #[(15, .int .i64 (x.1 : Int)), (16, .int .u8 (x.2.toNat : Int))] := by unfold encI; simp
      rw [hzip]
      gi_wp2
      exact hK
    case body =>
      rintro l pre x X ⟨⟨v, hbx, hrow, _⟩, hB, hXs⟩ hpre
      have hplen := prefix_len hpre
      rw [bk_len, ← HSS.out] at hplen
      have hbc := hbx.cell
      have hfr := hbx.frozen
      obtain ⟨c, hc⟩ : ∃ c, invB x.2 = c := ⟨_, rfl⟩
      have HI := Lib.hid (fun w => (show Calls Try.prog 75 #[.int .u8 (x.2.toNat : Int)] w fun e w' => e = .returned (.int .u8 (c.toNat : Int)) ∧ w' = w by rw [← hc]; exact inverse_any x.2 w))
      have HST : Hid (bytesV ((pre ++ [x]).map fun p => invB p.2) = bytesV (pre.map fun p => invB p.2) ++ [.int .u8 (c.toNat : Int)]) := Lib.hid (by rw [List.map_append, bytesV_append]; simp [bytesV, hc])
      have hbX : N < X.heap.size := hbx.lt
      have hrow4 : (X.alloc (.cells #[.int .u8 (c.toNat : Int)] 5)).drew.ownsRow (N + 3) 5 1 v pre.length (bytesV (pre.map fun p => invB p.2)) := hrow.alloc _
      have hbx4 : Boxed (X.alloc (.cells #[.int .u8 (c.toNat : Int)] 5)).drew N 62 v := hbx.alloc _
      have hXS : N + 3 ≤ X.heap.size := by omega
      have hc1 : ∀ j u, [Value.int .u8 (c.toNat : Int)][j]? = some u → (X.alloc (.cells #[.int .u8 (c.toNat : Int)] 5)).drew.cell? ((⟨X.heap.size, 0, none⟩ : Addr).add j) = some u := cell_one_new X _ _
      have HC1 := Lib.hid hc1
      clear hc1
      have hd : 1 ≤ m - 1 - 1 := by omega
      have HROW := Lib.hid hrow
      have HROW4 := Lib.hid hrow4
      have HBX2 := Lib.hid hbx
      have HBX4 := Lib.hid hbx4
      clear hrow hrow4 hbx4 hbx hpre hc
      gi_wp2
      refine wpIn_region_any (by kernel_rfl) ?_
      change wpAnyIn _ _ _ _ _ _ _ _ _ (World.drew _)
      refine wpAnyIn_ready (rs := [0, 1]) (by kernel_rfl) (by simp) ?_
      refine AllReadyIn.cons rfl (fun K hK => ?_) (AllReadyIn.cons rfl (fun K hK => ?_) (AllReadyIn.nil))
      · skip
        go_simp
        refine hK _ _ ?_
        clear hK K
        refine wpAnyIn_ready (rs := [1]) (by kernel_rfl) (by simp) ?_
        refine AllReadyIn.cons rfl (fun K hK => ?_) (AllReadyIn.nil)
        go_simp
        refine hK _ _ ?_
        clear hK K
        refine wpAnyIn_ready (rs := [2]) (by kernel_rfl) (by simp) ?_
        refine AllReadyIn.cons rfl (fun K hK => ?_) (AllReadyIn.nil)
        go_simp
        gi_wp2_with (refine ⟨trivial, ?_⟩; gi_at_call 75; refine (CallsIn.inRound l (callsIn_wide.2 (HI.out _))).mono ?_; rintro e w' ⟨rfl, rfl⟩)
        refine wpAnyIn_ready (rs := [3]) (by kernel_rfl) (by simp) ?_
        refine AllReadyIn.cons rfl (fun K hK => ?_) (AllReadyIn.nil)
        go_simp
        refine hK _ _ ?_
        clear hK K
        refine wpAnyIn_ready (rs := [4]) (by kernel_rfl) (by simp) ?_
        refine AllReadyIn.cons rfl (fun K hK => ?_) (AllReadyIn.nil)
        refine wpIn_append_op _ _ _ 62 rfl (N + 3) 5 i0 (.int .u8 0) 1 1 Try.underlying62 hi0 hz0 hz1 hz2 rfl (by decide) v pre.length _ rfl HROW4.out ⟨X.heap.size, 0, none⟩ 1 1 [.int .u8 (c.toNat : Int)] rfl rfl HC1.out (fun u hu => by simp at hu; subst hu; rfl) (by unfold maxLen; omega) (by omega) (by show N + 3 ≤ (X.alloc _).heap.size; simp; omega) ?_
        intro v' w' r1 r2 _
        obtain ⟨g', cap', rfl⟩ := ownsRow_succ r1
        refine hK _ _ ?_
        clear hK K
        have hbx' : Boxed w' N 62 v := HBX4.out.kept r2 (HBX4.out.not_row (by decide) HROW4.out)
        have hbc' := hbx'.cell
        have hfr' := hbx'.frozen
        have Hr1 := Lib.hid r1
        have Hr2 := Lib.hid r2
        have Hhbx' := Lib.hid hbx'
        clear r1 r2 hbx'
        refine wpAnyIn_ready (rs := [5]) (by kernel_rfl) (by simp) ?_
        refine AllReadyIn.cons rfl (fun K hK => ?_) (AllReadyIn.nil)
        go_simp
        refine hK _ _ ?_
        clear hK K
        refine wpAnyIn_done (by kernel_rfl) ?_ _
        gi_wp2
        have hgy := Hr2.out
        have hrj : ∀ j, v.ownBlock = some j → N + 3 ≤ j ∧ ∃ cs r, X.heap[j]? = some (.cells cs 5 r) := by
          intro j ej
          rcases HROW.out.2 with ⟨rfl, _⟩ | ⟨g1', cap1', cur1, rfl, hg1, hg2, _⟩
          · cases ej
          · simp [Value.ownBlock] at ej
            subst ej
            exact ⟨hg1, _, _, hg2⟩
        have hko : KeepsOthers X (w'.setCell ⟨N, 0, none⟩ (.slice (some ⟨g', 0, none⟩) (pre.length + 1) cap')) := by
          refine KeepsOthers.trans ?_ (KeepsOthers.setCell _ _ _)
          refine (KeepsOthers.alloc X _).trans ((KeepsOthers.drew _).trans (KeepsOthers.of_grownBy hgy fun j o ej hj => ?_))
          obtain ⟨hj1, cs, r, hjc⟩ := hrj j ej
          have hlt : j < X.heap.size := (Array.getElem?_eq_some_iff.1 hjc).1
          have hj' : (X.alloc (.cells #[.int .u8 (c.toNat : Int)] 5)).heap[j]? = some o := hj
          rw [Below.heap_alloc _ _ _ hlt, hjc] at hj'
          cases hj'; rfl
        have hblk : ∀ k, k < N + 3 → k ≠ N → (w'.setCell ⟨N, 0, none⟩ (.slice (some ⟨g', 0, none⟩) (pre.length + 1) cap')).heap[k]? = X.heap[k]? := fun k hk hkN => by
          rw [Below.heap_setCell _ _ _ _ hkN, hgy.block k (by show k < (X.alloc _).heap.size; simp; omega) (fun e => by have := (hrj k e.symm).1; omega)]
          exact Below.heap_alloc _ _ _ (by omega)
        have hbel : Below w1.heap.size X (w'.setCell ⟨N, 0, none⟩ (.slice (some ⟨g', 0, none⟩) (pre.length + 1) cap')) := ((((Below.refl _ X).alloc (by have := HN.out; omega) _).drew).grown hgy (by show _ ≤ (X.alloc _).heap.size; have := HN.out; simp; omega) (fun j ej => by have := (hrj j ej).1; have := HN.out; omega)).setCell (p := ⟨N, 0, none⟩) (by rw [HN.out]; exact Nat.le_refl _) _
        refine ⟨hko.from _, ⟨⟨hblk _ (by omega) (by omega), hblk _ (by omega) (by omega)⟩, hko.from _⟩, ⟨_, Hhbx'.out.set _, ?_, trivial⟩, hB.trans (hbel.mono (Nat.le_refl _)), by have := hko.size; omega⟩
        have := Hr1.out.kept (grownBy_setCell' w' N (.slice (some ⟨g', 0, none⟩) (pre.length + 1) cap')) (.inr (Hhbx'.out.not_row (by decide) Hr1.out).symm)
        rw [HST.out, List.length_append]
        exact this
      · skip
        go_simp
        refine hK _ _ ?_
        clear hK K
        refine wpAnyIn_ready (rs := [0, 2]) (by kernel_rfl) (by simp) ?_
        refine AllReadyIn.cons rfl (fun K hK => ?_) (AllReadyIn.cons rfl (fun K hK => ?_) (AllReadyIn.nil))
        · skip
          go_simp
          refine hK _ _ ?_
          clear hK K
          refine wpAnyIn_ready (rs := [2]) (by kernel_rfl) (by simp) ?_
          refine AllReadyIn.cons rfl (fun K hK => ?_) (AllReadyIn.nil)
          go_simp
          gi_wp2_with (refine ⟨trivial, ?_⟩; gi_at_call 75; refine (CallsIn.inRound l (callsIn_wide.2 (HI.out _))).mono ?_; rintro e w' ⟨rfl, rfl⟩)
          refine wpAnyIn_ready (rs := [3]) (by kernel_rfl) (by simp) ?_
          refine AllReadyIn.cons rfl (fun K hK => ?_) (AllReadyIn.nil)
          go_simp
          refine hK _ _ ?_
          clear hK K
          refine wpAnyIn_ready (rs := [4]) (by kernel_rfl) (by simp) ?_
          refine AllReadyIn.cons rfl (fun K hK => ?_) (AllReadyIn.nil)
          refine wpIn_append_op _ _ _ 62 rfl (N + 3) 5 i0 (.int .u8 0) 1 1 Try.underlying62 hi0 hz0 hz1 hz2 rfl (by decide) v pre.length _ rfl HROW4.out ⟨X.heap.size, 0, none⟩ 1 1 [.int .u8 (c.toNat : Int)] rfl rfl HC1.out (fun u hu => by simp at hu; subst hu; rfl) (by unfold maxLen; omega) (by omega) (by show N + 3 ≤ (X.alloc _).heap.size; simp; omega) ?_
          intro v' w' r1 r2 _
          obtain ⟨g', cap', rfl⟩ := ownsRow_succ r1
          refine hK _ _ ?_
          clear hK K
          have hbx' : Boxed w' N 62 v := HBX4.out.kept r2 (HBX4.out.not_row (by decide) HROW4.out)
          have hbc' := hbx'.cell
          have hfr' := hbx'.frozen
          have Hr1 := Lib.hid r1
          have Hr2 := Lib.hid r2
          have Hhbx' := Lib.hid hbx'
          clear r1 r2 hbx'
          refine wpAnyIn_ready (rs := [5]) (by kernel_rfl) (by simp) ?_
          refine AllReadyIn.cons rfl (fun K hK => ?_) (AllReadyIn.nil)
          go_simp
          refine hK _ _ ?_
          clear hK K
          refine wpAnyIn_done (by kernel_rfl) ?_ _
          gi_wp2
          have hgy := Hr2.out
          have hrj : ∀ j, v.ownBlock = some j → N + 3 ≤ j ∧ ∃ cs r, X.heap[j]? = some (.cells cs 5 r) := by
            intro j ej
            rcases HROW.out.2 with ⟨rfl, _⟩ | ⟨g1', cap1', cur1, rfl, hg1, hg2, _⟩
            · cases ej
            · simp [Value.ownBlock] at ej
              subst ej
              exact ⟨hg1, _, _, hg2⟩
          have hko : KeepsOthers X (w'.setCell ⟨N, 0, none⟩ (.slice (some ⟨g', 0, none⟩) (pre.length + 1) cap')) := by
            refine KeepsOthers.trans ?_ (KeepsOthers.setCell _ _ _)
            refine (KeepsOthers.alloc X _).trans ((KeepsOthers.drew _).trans (KeepsOthers.of_grownBy hgy fun j o ej hj => ?_))
            obtain ⟨hj1, cs, r, hjc⟩ := hrj j ej
            have hlt : j < X.heap.size := (Array.getElem?_eq_some_iff.1 hjc).1
            have hj' : (X.alloc (.cells #[.int .u8 (c.toNat : Int)] 5)).heap[j]? = some o := hj
            rw [Below.heap_alloc _ _ _ hlt, hjc] at hj'
            cases hj'; rfl
          have hblk : ∀ k, k < N + 3 → k ≠ N → (w'.setCell ⟨N, 0, none⟩ (.slice (some ⟨g', 0, none⟩) (pre.length + 1) cap')).heap[k]? = X.heap[k]? := fun k hk hkN => by
            rw [Below.heap_setCell _ _ _ _ hkN, hgy.block k (by show k < (X.alloc _).heap.size; simp; omega) (fun e => by have := (hrj k e.symm).1; omega)]
            exact Below.heap_alloc _ _ _ (by omega)
          have hbel : Below w1.heap.size X (w'.setCell ⟨N, 0, none⟩ (.slice (some ⟨g', 0, none⟩) (pre.length + 1) cap')) := ((((Below.refl _ X).alloc (by have := HN.out; omega) _).drew).grown hgy (by show _ ≤ (X.alloc _).heap.size; have := HN.out; simp; omega) (fun j ej => by have := (hrj j ej).1; have := HN.out; omega)).setCell (p := ⟨N, 0, none⟩) (by rw [HN.out]; exact Nat.le_refl _) _
          refine ⟨hko.from _, ⟨⟨hblk _ (by omega) (by omega), hblk _ (by omega) (by omega)⟩, hko.from _⟩, ⟨_, Hhbx'.out.set _, ?_, trivial⟩, hB.trans (hbel.mono (Nat.le_refl _)), by have := hko.size; omega⟩
          have := Hr1.out.kept (grownBy_setCell' w' N (.slice (some ⟨g', 0, none⟩) (pre.length + 1) cap')) (.inr (Hhbx'.out.not_row (by decide) Hr1.out).symm)
          rw [HST.out, List.length_append]
          exact this
        · skip
          go_simp
          gi_wp2_with (refine ⟨trivial, ?_⟩; gi_at_call 75; refine (CallsIn.inRound l (callsIn_wide.2 (HI.out _))).mono ?_; rintro e w' ⟨rfl, rfl⟩)
          refine wpAnyIn_ready (rs := [0, 3]) (by kernel_rfl) (by simp) ?_
          refine AllReadyIn.cons rfl (fun K hK => ?_) (AllReadyIn.cons rfl (fun K hK => ?_) (AllReadyIn.nil))
          · skip
            go_simp
            refine hK _ _ ?_
            clear hK K
            refine wpAnyIn_ready (rs := [3]) (by kernel_rfl) (by simp) ?_
            refine AllReadyIn.cons rfl (fun K hK => ?_) (AllReadyIn.nil)
            go_simp
            refine hK _ _ ?_
            clear hK K
            refine wpAnyIn_ready (rs := [4]) (by kernel_rfl) (by simp) ?_
            refine AllReadyIn.cons rfl (fun K hK => ?_) (AllReadyIn.nil)
            refine wpIn_append_op _ _ _ 62 rfl (N + 3) 5 i0 (.int .u8 0) 1 1 Try.underlying62 hi0 hz0 hz1 hz2 rfl (by decide) v pre.length _ rfl HROW4.out ⟨X.heap.size, 0, none⟩ 1 1 [.int .u8 (c.toNat : Int)] rfl rfl HC1.out (fun u hu => by simp at hu; subst hu; rfl) (by unfold maxLen; omega) (by omega) (by show N + 3 ≤ (X.alloc _).heap.size; simp; omega) ?_
            intro v' w' r1 r2 _
            obtain ⟨g', cap', rfl⟩ := ownsRow_succ r1
            refine hK _ _ ?_
            clear hK K
            have hbx' : Boxed w' N 62 v := HBX4.out.kept r2 (HBX4.out.not_row (by decide) HROW4.out)
            have hbc' := hbx'.cell
            have hfr' := hbx'.frozen
            have Hr1 := Lib.hid r1
            have Hr2 := Lib.hid r2
            have Hhbx' := Lib.hid hbx'
            clear r1 r2 hbx'
            refine wpAnyIn_ready (rs := [5]) (by kernel_rfl) (by simp) ?_
            refine AllReadyIn.cons rfl (fun K hK => ?_) (AllReadyIn.nil)
            go_simp
            refine hK _ _ ?_
            clear hK K
            refine wpAnyIn_done (by kernel_rfl) ?_ _
            gi_wp2
            have hgy := Hr2.out
            have hrj : ∀ j, v.ownBlock = some j → N + 3 ≤ j ∧ ∃ cs r, X.heap[j]? = some (.cells cs 5 r) := by
              intro j ej
              rcases HROW.out.2 with ⟨rfl, _⟩ | ⟨g1', cap1', cur1, rfl, hg1, hg2, _⟩
              · cases ej
              · simp [Value.ownBlock] at ej
                subst ej
                exact ⟨hg1, _, _, hg2⟩
            have hko : KeepsOthers X (w'.setCell ⟨N, 0, none⟩ (.slice (some ⟨g', 0, none⟩) (pre.length + 1) cap')) := by
              refine KeepsOthers.trans ?_ (KeepsOthers.setCell _ _ _)
              refine (KeepsOthers.alloc X _).trans ((KeepsOthers.drew _).trans (KeepsOthers.of_grownBy hgy fun j o ej hj => ?_))
              obtain ⟨hj1, cs, r, hjc⟩ := hrj j ej
              have hlt : j < X.heap.size := (Array.getElem?_eq_some_iff.1 hjc).1
              have hj' : (X.alloc (.cells #[.int .u8 (c.toNat : Int)] 5)).heap[j]? = some o := hj
              rw [Below.heap_alloc _ _ _ hlt, hjc] at hj'
              cases hj'; rfl
            have hblk : ∀ k, k < N + 3 → k ≠ N → (w'.setCell ⟨N, 0, none⟩ (.slice (some ⟨g', 0, none⟩) (pre.length + 1) cap')).heap[k]? = X.heap[k]? := fun k hk hkN => by
              rw [Below.heap_setCell _ _ _ _ hkN, hgy.block k (by show k < (X.alloc _).heap.size; simp; omega) (fun e => by have := (hrj k e.symm).1; omega)]
              exact Below.heap_alloc _ _ _ (by omega)
            have hbel : Below w1.heap.size X (w'.setCell ⟨N, 0, none⟩ (.slice (some ⟨g', 0, none⟩) (pre.length + 1) cap')) := ((((Below.refl _ X).alloc (by have := HN.out; omega) _).drew).grown hgy (by show _ ≤ (X.alloc _).heap.size; have := HN.out; simp; omega) (fun j ej => by have := (hrj j ej).1; have := HN.out; omega)).setCell (p := ⟨N, 0, none⟩) (by rw [HN.out]; exact Nat.le_refl _) _
            refine ⟨hko.from _, ⟨⟨hblk _ (by omega) (by omega), hblk _ (by omega) (by omega)⟩, hko.from _⟩, ⟨_, Hhbx'.out.set _, ?_, trivial⟩, hB.trans (hbel.mono (Nat.le_refl _)), by have := hko.size; omega⟩
            have := Hr1.out.kept (grownBy_setCell' w' N (.slice (some ⟨g', 0, none⟩) (pre.length + 1) cap')) (.inr (Hhbx'.out.not_row (by decide) Hr1.out).symm)
            rw [HST.out, List.length_append]
            exact this
          · skip
            go_simp
            refine hK _ _ ?_
            clear hK K
            refine wpAnyIn_ready (rs := [0]) (by kernel_rfl) (by simp) ?_
            refine AllReadyIn.cons rfl (fun K hK => ?_) (AllReadyIn.nil)
            go_simp
            refine hK _ _ ?_
            clear hK K
            refine wpAnyIn_ready (rs := [4]) (by kernel_rfl) (by simp) ?_
            refine AllReadyIn.cons rfl (fun K hK => ?_) (AllReadyIn.nil)
            refine wpIn_append_op _ _ _ 62 rfl (N + 3) 5 i0 (.int .u8 0) 1 1 Try.underlying62 hi0 hz0 hz1 hz2 rfl (by decide) v pre.length _ rfl HROW4.out ⟨X.heap.size, 0, none⟩ 1 1 [.int .u8 (c.toNat : Int)] rfl rfl HC1.out (fun u hu => by simp at hu; subst hu; rfl) (by unfold maxLen; omega) (by omega) (by show N + 3 ≤ (X.alloc _).heap.size; simp; omega) ?_
            intro v' w' r1 r2 _
            obtain ⟨g', cap', rfl⟩ := ownsRow_succ r1
            refine hK _ _ ?_
            clear hK K
            have hbx' : Boxed w' N 62 v := HBX4.out.kept r2 (HBX4.out.not_row (by decide) HROW4.out)
            have hbc' := hbx'.cell
            have hfr' := hbx'.frozen
            have Hr1 := Lib.hid r1
            have Hr2 := Lib.hid r2
            have Hhbx' := Lib.hid hbx'
            clear r1 r2 hbx'
            refine wpAnyIn_ready (rs := [5]) (by kernel_rfl) (by simp) ?_
            refine AllReadyIn.cons rfl (fun K hK => ?_) (AllReadyIn.nil)
            go_simp
            refine hK _ _ ?_
            clear hK K
            refine wpAnyIn_done (by kernel_rfl) ?_ _
            gi_wp2
            have hgy := Hr2.out
            have hrj : ∀ j, v.ownBlock = some j → N + 3 ≤ j ∧ ∃ cs r, X.heap[j]? = some (.cells cs 5 r) := by
              intro j ej
              rcases HROW.out.2 with ⟨rfl, _⟩ | ⟨g1', cap1', cur1, rfl, hg1, hg2, _⟩
              · cases ej
              · simp [Value.ownBlock] at ej
                subst ej
                exact ⟨hg1, _, _, hg2⟩
            have hko : KeepsOthers X (w'.setCell ⟨N, 0, none⟩ (.slice (some ⟨g', 0, none⟩) (pre.length + 1) cap')) := by
              refine KeepsOthers.trans ?_ (KeepsOthers.setCell _ _ _)
              refine (KeepsOthers.alloc X _).trans ((KeepsOthers.drew _).trans (KeepsOthers.of_grownBy hgy fun j o ej hj => ?_))
              obtain ⟨hj1, cs, r, hjc⟩ := hrj j ej
              have hlt : j < X.heap.size := (Array.getElem?_eq_some_iff.1 hjc).1
              have hj' : (X.alloc (.cells #[.int .u8 (c.toNat : Int)] 5)).heap[j]? = some o := hj
              rw [Below.heap_alloc _ _ _ hlt, hjc] at hj'
              cases hj'; rfl
            have hblk : ∀ k, k < N + 3 → k ≠ N → (w'.setCell ⟨N, 0, none⟩ (.slice (some ⟨g', 0, none⟩) (pre.length + 1) cap')).heap[k]? = X.heap[k]? := fun k hk hkN => by
              rw [Below.heap_setCell _ _ _ _ hkN, hgy.block k (by show k < (X.alloc _).heap.size; simp; omega) (fun e => by have := (hrj k e.symm).1; omega)]
              exact Below.heap_alloc _ _ _ (by omega)
            have hbel : Below w1.heap.size X (w'.setCell ⟨N, 0, none⟩ (.slice (some ⟨g', 0, none⟩) (pre.length + 1) cap')) := ((((Below.refl _ X).alloc (by have := HN.out; omega) _).drew).grown hgy (by show _ ≤ (X.alloc _).heap.size; have := HN.out; simp; omega) (fun j ej => by have := (hrj j ej).1; have := HN.out; omega)).setCell (p := ⟨N, 0, none⟩) (by rw [HN.out]; exact Nat.le_refl _) _
            refine ⟨hko.from _, ⟨⟨hblk _ (by omega) (by omega), hblk _ (by omega) (by omega)⟩, hko.from _⟩, ⟨_, Hhbx'.out.set _, ?_, trivial⟩, hB.trans (hbel.mono (Nat.le_refl _)), by have := hko.size; omega⟩
            have := Hr1.out.kept (grownBy_setCell' w' N (.slice (some ⟨g', 0, none⟩) (pre.length + 1) cap')) (.inr (Hhbx'.out.not_row (by decide) Hr1.out).symm)
            rw [HST.out, List.length_append]
            exact this
    case done =>
      rintro D X hD ⟨⟨v, hbx, hrow, _⟩, hB, hXs⟩ hK
      have hbc := hbx.cell
      have HBW := Lib.hid (HB1.out.trans (hB.mono HB1.out.size))
      obtain ⟨⟨c0, c1⟩, _, _⟩ := boxOf2 HX.out.2.2.1 HBW.out
      obtain ⟨⟨d0, d1⟩, f0, f1⟩ := boxOf2 HX.out.2.2.2 HBW.out
      have hlist : ((bk s.data.toList 0).map fun p => invB p.2) = backL s.data.toList := by rw [bk_snd]; exact inv_backR _ (fun c hc => (HPA.out c hc).1)
      rw [hlist, bk_len, Nat.sub_zero, show s.data.toList.length = s.size from HSS.out.symm] at hrow
      have hconv : (convert 62 9 v).run Try.prog X = .ok (.string (bstr (backL s.data.toList))) X := by
        rcases hrow.2 with ⟨rfl, h0⟩ | ⟨g, cap, cur, rfl, _⟩
        · rw [run_convert_bytes_nil X 62 5 Try.underlying62 Try.underlying5 0 0 9 Try.underlying9]
          have : s.data.toList = [] := List.length_eq_zero_iff.1 (by rw [← HSS.out]; exact h0)
          rw [this]; rfl
        · have := run_convert_bytes_back (P := Try.prog) X 62 9 5 ⟨g, 0, none⟩ cap (backL s.data.toList) Try.underlying62 Try.underlying5 Try.underlying9 (fun j hj => hrow.cells rfl j _ (by simp [bytesV, hj]))
          rw [backL_length, show s.data.toList.length = s.size from HSS.out.symm] at this
          exact this
      have HK := Lib.hid hK
      have hBX : Below w.heap.size w X := HBX.out.trans (hB.mono HBX.out.size)
      have HBX2 := Lib.hid hBX
      have hDn : ¬ w.heap.size + 1 = D := by omega
      clear hbx hrow hK hlist hBX
      obtain ⟨r, hr⟩ : ∃ r, bstr (backL s.data.toList) = r := ⟨_, rfl⟩
      rw [hr] at hconv
      have HR := Lib.hid hr
      clear hr
      gi_wp2
      obtain ⟨W5, hW5⟩ : ∃ W5, (X.setCell ⟨w.heap.size + 1, 0, none⟩ (.int .i64 n)).setCell ⟨w.heap.size + 1, 1, none⟩ (.string r) = W5 := ⟨_, rfl⟩
      have e0 : W5.cell? ⟨w.heap.size + 1, 0, none⟩ = some (.int .i64 n) := by rw [← hW5]; simp [go_sem, d0]
      have e1 : W5.cell? ⟨w.heap.size + 1, 1, none⟩ = some (.string r) := by rw [← hW5]; simp [go_sem, d1]
      have hK5 : W5.heap[D]? = some (.deferred (some [])) := by rw [← hW5]; exact ((KeepsOthers.setCell _ _ _).trans (KeepsOthers.setCell _ _ _)).same D _ HK.out rfl
      have hB5 : Below w.heap.size w W5 := by rw [← hW5]; exact below_two HBX2.out (by omega) _ _
      rw [hW5]
      clear hW5
      refine ⟨by simp, .inl ⟨_, _, rfl, run_takeDeferred hK5, ?_⟩⟩
      have g0 := (cell_block (o := 0) (World.putObj_heap_other (w := W5) (o := .deferred none) hDn)).trans e0
      have g1 := (cell_block (o := 1) (World.putObj_heap_other (w := W5) (o := .deferred none) hDn)).trans e1
      refine ⟨brR true n r, by simp [results, Try.f30, go_sem, g0, g1, brR], by rw [HB.out, HR.out], hB5.trans (belowK_b (w := w) (Nat.le_refl _) W5 D _ _ (by omega) hK5 rfl rfl)⟩

theorem iBraidTurned_any (n : Int) (s : ByteArray) (w : World) (hs : s.size ≤ maxLen) :
    Calls Try.prog 30 #[brV n s] w fun e w' => e = .returned (brR (braidB n s) n (bstr (backL s.data.toList))) ∧ Below w.heap.size w w' :=
  (callsIn_wide (n := 30)).1 (iBraidTurned_in 30 (by omega) n s w hs)

end Go.Proofs.Ytaaeiogdhmiaaaa

/- What the laws' proofs stand on, part 4 of 6. -/
import Derived.Laws.CopyRow
import Derived.BigQuiet
import Derived.Deep.RegionHeld3
import Derived.Test.YtbbkpaledlbcmaaBa
import Derived.Test.YtbbkpaledlbcmaaBb
import Derived.Test.YtbbkpaledlbcmaaBc

/- The program's withoutRow and cut. -/

namespace Go.Proofs.Ytbbkpaledlbcmaa
open Go.RowKit Go.Shelf

abbrev RS : TypeId := 192
theorem run_copy_rows (w : World) (ty : TypeId) (B o dLen dCap : Nat) (a : Addr) (sLen sCap : Nat) (cur : Array Value) (t : TypeId) (cs : List Value)
    (hg : w.heap[B]? = some (.cells cur t (0, 0))) (hn : cs.length = Nat.min sLen dLen * 4)
    (hsrc : ∀ j v, cs[j]? = some v → w.cell? (a.add j) = some v) (hfit : o + cs.length ≤ cur.size) (h1 : ∀ v ∈ cs, v.oneCell' = true) :
    (Builtin.copy_ #[RS, RS] ty #[.slice (some ⟨B, o, none⟩) dLen dCap, .slice (some a) sLen sCap]).run Try.prog w =
      .ok (goInt (Nat.min sLen dLen)) (w.setRow B (cur.toList.take o ++ cs ++ cur.toList.drop (o + cs.length)).toArray) := by
  have hu : Try.prog.underlying RS = some (.slice RA) := by kernel_rfl
  have hz : (sizeOf RA).run Try.prog w = .ok 4 w := by kernel_rfl
  have hl := run_loadCells_list (P := Try.prog) w a cs hsrc
  have hst := run_storeCells_at Try.prog B o t cs 0 cur w hg (by simpa using hfit) h1
  rw [hn] at hl
  simp [Builtin.copy_, run_underlying hu, Builtin.lenOf, Builtin.firstCells, hz, hl, hst]
/-- The rows behind the row i moved to the front. -/
def shiftG (g : Nat → Option Addr) (i j : Nat) : Option Addr := if j / 4 < i then g j else if j / 4 < 3 then g (j + 4) else g j
def dropG (g : Nat → Option Addr) (i j : Nat) : Option Addr := if j / 4 < i then g j else if j / 4 < 3 then g (j + 4) else none
theorem putM_of {w : World} {B : Nat} {k : Nat → Option Addr} {cs : Array Value} {g : Nat → Option Addr} (h : w.heap[B]? = some (.cells (mC g) MA (0, 0))) (e : cs = mC k) : PutM w (w.setRow B cs) B k := by
  subst e
  refine ⟨rfl, rfl, rfl, by simp [World.setRow], ?_, fun b hb => ?_⟩
  · simp only [World.setRow, Array.getElem?_modify, if_true, h]
    rfl
  · simp only [World.setRow, Array.getElem?_modify]
    rw [if_neg (fun e => hb e.symm)]
theorem copyM0 {w : World} {B : Nat} {g : Nat → Option Addr} (ty : TypeId) (h : w.heap[B]? = some (.cells (mC g) MA (0, 0))) :
    ∃ w2, (Builtin.copy_ #[RS, RS] ty #[.slice (some ⟨B, 0, none⟩) 4 4, .slice (some ⟨B, 4, none⟩) 3 3]).run Try.prog w = .ok (goInt 3) w2 ∧ PutM w w2 B (shiftG g 0) := by
  refine ⟨_, run_copy_rows w ty B 0 4 4 ⟨B, 4, none⟩ 3 3 (mC g) MA [.pointer (g 4), .pointer (g 5), .pointer (g 6), .pointer (g 7), .pointer (g 8), .pointer (g 9), .pointer (g 10), .pointer (g 11), .pointer (g 12), .pointer (g 13), .pointer (g 14), .pointer (g 15)] h rfl (fun j v hj => ?_) (by simp [mC]) (fun v hv => ?_), putM_of h (by simp [mC, shiftG])⟩
  · have hj2 : j < 12 := by have := (List.getElem?_eq_some_iff.1 hj).1; simpa using this
    have e : (⟨B, 4, none⟩ : Addr).add j = ⟨B, 4 + j, none⟩ := by unfold Addr.add; split <;> simp_all
    rw [e]
    have hx : j = 0 ∨ j = 1 ∨ j = 2 ∨ j = 3 ∨ j = 4 ∨ j = 5 ∨ j = 6 ∨ j = 7 ∨ j = 8 ∨ j = 9 ∨ j = 10 ∨ j = 11 := by omega
    rcases hx with rfl | rfl | rfl | rfl | rfl | rfl | rfl | rfl | rfl | rfl | rfl | rfl <;> (simp at hj; subst hj; simp [World.cell?, h, mC])
  · simp at hv
    rcases hv with rfl | rfl | rfl | rfl | rfl | rfl | rfl | rfl | rfl | rfl | rfl | rfl <;> rfl
theorem copyM1 {w : World} {B : Nat} {g : Nat → Option Addr} (ty : TypeId) (h : w.heap[B]? = some (.cells (mC g) MA (0, 0))) :
    ∃ w2, (Builtin.copy_ #[RS, RS] ty #[.slice (some ⟨B, 4, none⟩) 3 3, .slice (some ⟨B, 8, none⟩) 2 2]).run Try.prog w = .ok (goInt 2) w2 ∧ PutM w w2 B (shiftG g 1) := by
  refine ⟨_, run_copy_rows w ty B 4 3 3 ⟨B, 8, none⟩ 2 2 (mC g) MA [.pointer (g 8), .pointer (g 9), .pointer (g 10), .pointer (g 11), .pointer (g 12), .pointer (g 13), .pointer (g 14), .pointer (g 15)] h rfl (fun j v hj => ?_) (by simp [mC]) (fun v hv => ?_), putM_of h (by simp [mC, shiftG])⟩
  · have hj2 : j < 8 := by have := (List.getElem?_eq_some_iff.1 hj).1; simpa using this
    have e : (⟨B, 8, none⟩ : Addr).add j = ⟨B, 8 + j, none⟩ := by unfold Addr.add; split <;> simp_all
    rw [e]
    have hx : j = 0 ∨ j = 1 ∨ j = 2 ∨ j = 3 ∨ j = 4 ∨ j = 5 ∨ j = 6 ∨ j = 7 := by omega
    rcases hx with rfl | rfl | rfl | rfl | rfl | rfl | rfl | rfl <;> (simp at hj; subst hj; simp [World.cell?, h, mC])
  · simp at hv
    rcases hv with rfl | rfl | rfl | rfl | rfl | rfl | rfl | rfl <;> rfl
theorem copyM2 {w : World} {B : Nat} {g : Nat → Option Addr} (ty : TypeId) (h : w.heap[B]? = some (.cells (mC g) MA (0, 0))) :
    ∃ w2, (Builtin.copy_ #[RS, RS] ty #[.slice (some ⟨B, 8, none⟩) 2 2, .slice (some ⟨B, 12, none⟩) 1 1]).run Try.prog w = .ok (goInt 1) w2 ∧ PutM w w2 B (shiftG g 2) := by
  refine ⟨_, run_copy_rows w ty B 8 2 2 ⟨B, 12, none⟩ 1 1 (mC g) MA [.pointer (g 12), .pointer (g 13), .pointer (g 14), .pointer (g 15)] h rfl (fun j v hj => ?_) (by simp [mC]) (fun v hv => ?_), putM_of h (by simp [mC, shiftG])⟩
  · have hj2 : j < 4 := by have := (List.getElem?_eq_some_iff.1 hj).1; simpa using this
    have e : (⟨B, 12, none⟩ : Addr).add j = ⟨B, 12 + j, none⟩ := by unfold Addr.add; split <;> simp_all
    rw [e]
    have hx : j = 0 ∨ j = 1 ∨ j = 2 ∨ j = 3 := by omega
    rcases hx with rfl | rfl | rfl | rfl <;> (simp at hj; subst hj; simp [World.cell?, h, mC])
  · simp at hv
    rcases hv with rfl | rfl | rfl | rfl <;> rfl
theorem copyM3 {w : World} {B : Nat} {g : Nat → Option Addr} (ty : TypeId) (h : w.heap[B]? = some (.cells (mC g) MA (0, 0))) :
    ∃ w2, (Builtin.copy_ #[RS, RS] ty #[.slice (some ⟨B, 12, none⟩) 1 1, .slice (some ⟨B, 0, none⟩) 0 0]).run Try.prog w = .ok (goInt 0) w2 ∧ PutM w w2 B (shiftG g 3) := by
  refine ⟨_, run_copy_rows w ty B 12 1 1 ⟨B, 0, none⟩ 0 0 (mC g) MA [] h rfl (fun j v hj => ?_) (by simp [mC]) (fun v hv => ?_), putM_of h (by simp [mC, shiftG])⟩
  · simp at hj
  · simp at hv
/-- The last row emptied. -/
theorem storeRow {w : World} {B : Nat} {g k : Nat → Option Addr} (h : w.heap[B]? = some (.cells (mC g) MA (0, 0))) (hk : ((mC g).toList.take 12 ++ [Value.pointer none, Value.pointer none, Value.pointer none, Value.pointer none]).toArray = mC k) : ∃ w', (storeVar RA ⟨B, 12, none⟩ (.agg #[.pointer none, .pointer none, .pointer none, .pointer none])).run Try.prog w = .ok () w' ∧ PutM w w' B k := by
  have hst := run_storeCells_at Try.prog B 12 MA [.pointer none, .pointer none, .pointer none, .pointer none] 0 (mC g) w h (by simp [mC]) (by simp [Value.oneCell'])
  refine ⟨w.setRow B ((mC g).toList.take (12 + 0) ++ [Value.pointer none, Value.pointer none, Value.pointer none, Value.pointer none] ++ (mC g).toList.drop (12 + 0 + [Value.pointer none, Value.pointer none, Value.pointer none, Value.pointer none].length)).toArray, ?_, putM_of h ?_⟩
  · cases hq : Try.prog.info? RA with
    | none => exact absurd (show (Try.prog.info? RA).map (·.size) = some 4 by kernel_rfl) (by simp [hq])
    | some i =>
      have hs : i.size = 4 := by
        have : (Try.prog.info? RA).map (·.size) = some 4 := by kernel_rfl
        simpa [hq] using this
      rw [← hst]
      simp [storeVar, sizeOf, typeInfo, hq, Value.cells, hs]
  · rw [← hk]
    simp [mC]
theorem wpList_store_row {ops : Array Oper} {rest : List Oper} {o : Oper} {a : Act} {w : World} {Q : Exit → Act → World → Prop} (hg : o.guard = none) (x y : Operand) (ho : o.op = .store RA x y) (B : Nat) (g k : Nat → Option Addr) (hx : a.eval x = .pointer (some ⟨B, 12, none⟩)) (hy : a.eval y = .agg #[.pointer none, .pointer none, .pointer none, .pointer none]) (hh : w.heap[B]? = some (.cells (mC g) MA (0, 0)))
    (hk : ((mC g).toList.take 12 ++ [Value.pointer none, Value.pointer none, Value.pointer none, Value.pointer none]).toArray = mC k)
    (h : ∀ w', PutM w w' B k → wpList Try.prog ops Q rest (a.put o.dst undef) w') : wpList Try.prog ops Q (o :: rest) a w := by
  refine wpList_plain hg fun K hK => ?_
  obtain ⟨w', hl, hp⟩ := storeRow hh hk
  unfold Oper.wp
  simp [execOp, ho, hx, hy, Instr.storeAt, Instr.sureAddr, hl, Result.andThen]
  exact hK _ _ (h w' hp)
theorem drop_of_shift (g : Nat → Option Addr) {i : Nat} (hi : i < 4) : ((mC (shiftG g i)).toList.take 12 ++ [Value.pointer none, Value.pointer none, Value.pointer none, Value.pointer none]).toArray = mC (dropG g i) := by
  have h4 : i = 0 ∨ i = 1 ∨ i = 2 ∨ i = 3 := by omega
  rcases h4 with rfl | rfl | rfl | rfl <;> simp [mC, shiftG, dropG]

set_option maxRecDepth 100000 in
set_option maxHeartbeats 1000000 in
theorem withoutRow_any (g : Nat → Option Addr) (i : Nat) (hi : i < 4) (w : World) :
    Calls Try.prog 166 #[.agg (mC g), .int .i64 (i : Int)] w fun e w' => e = .returned (.agg (mC (dropG g i))) ∧ Below w.heap.size w w' := by
  obtain ⟨V, hV⟩ : ∃ V, (w.alloc (.cells (mC g) MA)).alloc (.cells (mC fun _ => none) MA) = V := ⟨_, rfl⟩
  have hbV : Below w.heap.size w V := by rw [← hV]; exact ((Below.refl _ w).alloc (Nat.le_refl _) _).alloc (by simp) _
  have hbox : V.drew.heap[w.heap.size]? = some (.cells (mC g) MA (0, 0)) := by
    show V.heap[w.heap.size]? = _
    rw [← hV, Below.heap_alloc _ _ _ (by simp)]
    exact World.alloc_heap_new w _
  have hres : V.drew.heap[w.heap.size + 1]? = some (.cells (mC fun _ => none) MA (0, 0)) := by
    show V.heap[w.heap.size + 1]? = _
    rw [← hV]
    have h := World.alloc_heap_new (w.alloc (.cells (mC g) MA)) (.cells (mC fun _ => none) MA)
    rwa [World.size_alloc] at h
  have HB := Lib.hid (hbV.drew)
  have HRES := Lib.hid hres
  have h4 : i = 0 ∨ i = 1 ∨ i = 2 ∨ i = 3 := by omega
  rcases h4 with rfl | rfl | rfl | rfl
  · obtain ⟨w2, hrun, hp⟩ := copyM0 3 hbox
    rw [← hV, show (mC fun _ => none) = #[.pointer none, .pointer none, .pointer none, .pointer none, .pointer none, .pointer none, .pointer none, .pointer none, .pointer none, .pointer none, .pointer none, .pointer none, .pointer none, .pointer none, .pointer none, .pointer none] from rfl] at hrun
    have HP := Lib.hid hp
    have HB2 := Lib.hid (hp.below HB.out (Nat.le_refl _))
    have HR2 := Lib.hid ((hp.off (w.heap.size + 1) (by omega)).trans HRES.out)
    clear hp hbox hres hV hbV
    go_enter Try.func166, Try.ntmps166
    go_wp2
    go_region
    clear hrun
    go_wp2_with (first | (refine wpList_store_row rfl _ _ rfl w.heap.size (shiftG g 0) (dropG g 0) rfl rfl HP.out.heap (drop_of_shift g (by omega)) ?_; intro w3 hp3; have HP3 := Lib.hid hp3; clear hp3) | (refine wpList_load_mat rfl _ rfl w.heap.size (dropG g 0) rfl HP3.out.heap ?_) | (refine wpList_store_mat rfl _ _ rfl (w.heap.size + 1) (fun _ => none) (dropG g 0) rfl rfl ((HP3.out.off _ (by omega)).trans HR2.out) ?_; intro w4 hp4))
    have hld := loadM hp4.heap
    refine bodyPost_ret (v := .agg (mC (dropG g 0))) ?_ rfl ⟨rfl, hp4.below (HP3.out.below HB2.out (Nat.le_refl _)) (Nat.le_succ _)⟩
    simp [results, Try.results166, Act.put, asAddr, hld]
  · obtain ⟨w2, hrun, hp⟩ := copyM1 3 hbox
    rw [← hV, show (mC fun _ => none) = #[.pointer none, .pointer none, .pointer none, .pointer none, .pointer none, .pointer none, .pointer none, .pointer none, .pointer none, .pointer none, .pointer none, .pointer none, .pointer none, .pointer none, .pointer none, .pointer none] from rfl] at hrun
    have HP := Lib.hid hp
    have HB2 := Lib.hid (hp.below HB.out (Nat.le_refl _))
    have HR2 := Lib.hid ((hp.off (w.heap.size + 1) (by omega)).trans HRES.out)
    clear hp hbox hres hV hbV
    go_enter Try.func166, Try.ntmps166
    go_wp2
    go_region
    clear hrun
    go_wp2_with (first | (refine wpList_store_row rfl _ _ rfl w.heap.size (shiftG g 1) (dropG g 1) rfl rfl HP.out.heap (drop_of_shift g (by omega)) ?_; intro w3 hp3; have HP3 := Lib.hid hp3; clear hp3) | (refine wpList_load_mat rfl _ rfl w.heap.size (dropG g 1) rfl HP3.out.heap ?_) | (refine wpList_store_mat rfl _ _ rfl (w.heap.size + 1) (fun _ => none) (dropG g 1) rfl rfl ((HP3.out.off _ (by omega)).trans HR2.out) ?_; intro w4 hp4))
    have hld := loadM hp4.heap
    refine bodyPost_ret (v := .agg (mC (dropG g 1))) ?_ rfl ⟨rfl, hp4.below (HP3.out.below HB2.out (Nat.le_refl _)) (Nat.le_succ _)⟩
    simp [results, Try.results166, Act.put, asAddr, hld]
  · obtain ⟨w2, hrun, hp⟩ := copyM2 3 hbox
    rw [← hV, show (mC fun _ => none) = #[.pointer none, .pointer none, .pointer none, .pointer none, .pointer none, .pointer none, .pointer none, .pointer none, .pointer none, .pointer none, .pointer none, .pointer none, .pointer none, .pointer none, .pointer none, .pointer none] from rfl] at hrun
    have HP := Lib.hid hp
    have HB2 := Lib.hid (hp.below HB.out (Nat.le_refl _))
    have HR2 := Lib.hid ((hp.off (w.heap.size + 1) (by omega)).trans HRES.out)
    clear hp hbox hres hV hbV
    go_enter Try.func166, Try.ntmps166
    go_wp2
    go_region
    clear hrun
    go_wp2_with (first | (refine wpList_store_row rfl _ _ rfl w.heap.size (shiftG g 2) (dropG g 2) rfl rfl HP.out.heap (drop_of_shift g (by omega)) ?_; intro w3 hp3; have HP3 := Lib.hid hp3; clear hp3) | (refine wpList_load_mat rfl _ rfl w.heap.size (dropG g 2) rfl HP3.out.heap ?_) | (refine wpList_store_mat rfl _ _ rfl (w.heap.size + 1) (fun _ => none) (dropG g 2) rfl rfl ((HP3.out.off _ (by omega)).trans HR2.out) ?_; intro w4 hp4))
    have hld := loadM hp4.heap
    refine bodyPost_ret (v := .agg (mC (dropG g 2))) ?_ rfl ⟨rfl, hp4.below (HP3.out.below HB2.out (Nat.le_refl _)) (Nat.le_succ _)⟩
    simp [results, Try.results166, Act.put, asAddr, hld]
  · obtain ⟨w2, hrun, hp⟩ := copyM3 3 hbox
    rw [← hV, show (mC fun _ => none) = #[.pointer none, .pointer none, .pointer none, .pointer none, .pointer none, .pointer none, .pointer none, .pointer none, .pointer none, .pointer none, .pointer none, .pointer none, .pointer none, .pointer none, .pointer none, .pointer none] from rfl] at hrun
    have HP := Lib.hid hp
    have HB2 := Lib.hid (hp.below HB.out (Nat.le_refl _))
    have HR2 := Lib.hid ((hp.off (w.heap.size + 1) (by omega)).trans HRES.out)
    clear hp hbox hres hV hbV
    go_enter Try.func166, Try.ntmps166
    go_wp2
    go_region
    clear hrun
    go_wp2_with (first | (refine wpList_store_row rfl _ _ rfl w.heap.size (shiftG g 3) (dropG g 3) rfl rfl HP.out.heap (drop_of_shift g (by omega)) ?_; intro w3 hp3; have HP3 := Lib.hid hp3; clear hp3) | (refine wpList_load_mat rfl _ rfl w.heap.size (dropG g 3) rfl HP3.out.heap ?_) | (refine wpList_store_mat rfl _ _ rfl (w.heap.size + 1) (fun _ => none) (dropG g 3) rfl rfl ((HP3.out.off _ (by omega)).trans HR2.out) ?_; intro w4 hp4))
    have hld := loadM hp4.heap
    refine bodyPost_ret (v := .agg (mC (dropG g 3))) ?_ rfl ⟨rfl, hp4.below (HP3.out.below HB2.out (Nat.le_refl _)) (Nat.le_succ _)⟩
    simp [results, Try.results166, Act.put, asAddr, hld]

def cutG (g : Nat → Option Addr) (i k : Nat) : Nat → Option Addr := flipG (dropG (flipG (dropG g i)) k)
def colG (g : Nat → Option Addr) (k : Nat) : Nat → Option Addr := flipG (dropG (flipG g) k)
set_option maxRecDepth 100000 in
set_option maxHeartbeats 2000000 in
theorem withoutColumn_any (g : Nat → Option Addr) (k : Nat) (hk : k < 4) (w : World) :
    Calls Try.prog 167 #[.agg (mC g), .int .i64 (k : Int)] w fun e w' => e = .returned (.agg (mC (colG g k))) ∧ Below w.heap.size w w' := by
  obtain ⟨V, hV⟩ : ∃ V, (w.alloc (.cells (mC g) MA)).alloc (.cells (mC fun _ => none) MA) = V := ⟨_, rfl⟩
  have hbV : Below w.heap.size w V := by rw [← hV]; exact ((Below.refl _ w).alloc (Nat.le_refl _) _).alloc (by simp) _
  have hbox : V.heap[w.heap.size]? = some (.cells (mC g) MA (0, 0)) := by
    rw [← hV, Below.heap_alloc _ _ _ (by simp)]
    exact World.alloc_heap_new w _
  have hres : V.heap[w.heap.size + 1]? = some (.cells (mC fun _ => none) MA (0, 0)) := by
    rw [← hV]
    have h := World.alloc_heap_new (w.alloc (.cells (mC g) MA)) (.cells (mC fun _ => none) MA)
    rwa [World.size_alloc] at h
  have hsz : V.heap.size = w.heap.size + 2 := by rw [← hV]; simp
  have HB := Lib.hid hbV
  have HBOX := Lib.hid hbox
  have HRES := Lib.hid hres
  rw [show (mC fun _ => none) = #[.pointer none, .pointer none, .pointer none, .pointer none, .pointer none, .pointer none, .pointer none, .pointer none, .pointer none, .pointer none, .pointer none, .pointer none, .pointer none, .pointer none, .pointer none, .pointer none] from rfl] at hV
  have HV := Lib.hid hV
  clear hbox hres hV hbV
  go_enter Try.func167, Try.ntmps167
  go_wp2_with (refine wpList_load_mat rfl _ rfl w.heap.size g rfl (by rw [HV.out]; exact HBOX.out) ?_)
  rw [HV.out]
  refine (flipped_any _ _).mono ?_
  rintro e w2 ⟨rfl, hb2⟩
  have H2 := Lib.hid hb2
  clear hb2
  go_wp2_with fail
  refine (withoutRow_any _ k hk _).mono ?_
  rintro e w3 ⟨rfl, hb3⟩
  have H3 := Lib.hid (H2.out.trans (hb3.mono H2.out.size))
  clear hb3
  go_wp2_with fail
  refine (flipped_any _ _).mono ?_
  rintro e w4 ⟨rfl, hb4⟩
  have H4 := Lib.hid (H3.out.trans (hb4.mono H3.out.size))
  clear hb4
  go_wp2_with (refine wpList_store_mat rfl _ _ rfl (w.heap.size + 1) (fun _ => none) (colG g k) rfl rfl ((H4.out.block _ (by omega)).trans HRES.out) ?_; intro w5 hp5)
  have hld := loadM hp5.heap
  refine bodyPost_ret (v := .agg (mC (colG g k))) ?_ rfl ⟨rfl, hp5.below (HB.out.trans (H4.out.mono HB.out.size)) (Nat.le_succ _)⟩
  simp [results, Try.results167, Act.put, asAddr, hld]

set_option maxRecDepth 100000 in
set_option maxHeartbeats 2000000 in
theorem cut_any (g : Nat → Option Addr) (i k : Nat) (hi : i < 4) (hk : k < 4) (w : World) :
    Calls Try.prog 119 #[.agg (mC g), .int .i64 (i : Int), .int .i64 (k : Int)] w fun e w' => e = .returned (.agg (mC (cutG g i k))) ∧ Below w.heap.size w w' := by
  obtain ⟨V, hV⟩ : ∃ V, (w.alloc (.cells (mC g) MA)).alloc (.cells (mC fun _ => none) MA) = V := ⟨_, rfl⟩
  have hbV : Below w.heap.size w V := by rw [← hV]; exact ((Below.refl _ w).alloc (Nat.le_refl _) _).alloc (by simp) _
  have hbox : V.heap[w.heap.size]? = some (.cells (mC g) MA (0, 0)) := by
    rw [← hV, Below.heap_alloc _ _ _ (by simp)]
    exact World.alloc_heap_new w _
  have hres : V.heap[w.heap.size + 1]? = some (.cells (mC fun _ => none) MA (0, 0)) := by
    rw [← hV]
    have h := World.alloc_heap_new (w.alloc (.cells (mC g) MA)) (.cells (mC fun _ => none) MA)
    rwa [World.size_alloc] at h
  have hsz : V.heap.size = w.heap.size + 2 := by rw [← hV]; simp
  have HB := Lib.hid hbV
  have HBOX := Lib.hid hbox
  have HRES := Lib.hid hres
  rw [show (mC fun _ => none) = #[.pointer none, .pointer none, .pointer none, .pointer none, .pointer none, .pointer none, .pointer none, .pointer none, .pointer none, .pointer none, .pointer none, .pointer none, .pointer none, .pointer none, .pointer none, .pointer none] from rfl] at hV
  have HV := Lib.hid hV
  clear hbox hres hV hbV
  go_enter Try.func119, Try.ntmps119
  go_wp2_with (refine wpList_load_mat rfl _ rfl w.heap.size g rfl (by rw [HV.out]; exact HBOX.out) ?_)
  rw [HV.out]
  refine (withoutRow_any g i hi V).mono ?_
  rintro e w1 ⟨rfl, hb1⟩
  have H1 := Lib.hid hb1
  clear hb1
  go_wp2_with fail
  refine (withoutColumn_any _ k hk _).mono ?_
  rintro e w4 ⟨rfl, hb4⟩
  have H4 := Lib.hid (H1.out.trans (hb4.mono H1.out.size))
  clear hb4
  go_wp2_with (refine wpList_store_mat rfl _ _ rfl (w.heap.size + 1) (fun _ => none) (cutG g i k) rfl rfl ((H4.out.block _ (by omega)).trans HRES.out) ?_; intro w5 hp5)
  have hld := loadM hp5.heap
  refine bodyPost_ret (v := .agg (mC (cutG g i k))) ?_ rfl ⟨rfl, hp5.below (HB.out.trans (H4.out.mono HB.out.size)) (Nat.le_succ _)⟩
  simp [results, Try.results119, Act.put, asAddr, hld]

end Go.Proofs.Ytbbkpaledlbcmaa

/- The program's MatrixFlip, MatrixCut and MatrixOne. -/

namespace Go.Proofs.Ytbbkpaledlbcmaa
open Go.RowKit Go.Shelf

theorem MatW.flip {lo : Nat} {w : World} {g : Nat → Option Addr} {n m : Nat} {P : Nat → Nat → Pl} {pv : Nat → Nat → Value} (h : MatW lo w g n m P pv) : MatW lo w (flipG g) m n (fun k i => P i k) (fun k i => pv i k) := by
  have h1 := h.shp.n4
  have h2 := h.shp.m4
  refine ⟨h.shp.flip, fun k i hk hi => ?_, fun k i k2 i2 b hk hi hk2 hi2 hne => h.apart i k i2 k2 b hi hk hi2 hk2 (by omega)⟩
  rw [flipG_at g (by omega) (by omega)]
  exact h.at_ i k hi hk
theorem dropG_at (g : Nat → Option Addr) {i r c : Nat} (hc : c < 4) : dropG g i (r * 4 + c) = if r < i then g (r * 4 + c) else if r < 3 then g ((r + 1) * 4 + c) else none := by
  unfold dropG
  rw [show (r * 4 + c) / 4 = r by omega, show r * 4 + c + 4 = (r + 1) * 4 + c by omega]
theorem MatW.drop {lo : Nat} {w : World} {g : Nat → Option Addr} {n m i : Nat} {P : Nat → Nat → Pl} {pv : Nat → Nat → Value} (h : MatW lo w g n m P pv) (hi : i < n) (hn : 2 ≤ n) : MatW lo w (dropG g i) (n - 1) m (fun r c => P (skip i r) c) (fun r c => pv (skip i r) c) := by
  have h1 := h.shp.n4
  have h2 := h.shp.m4
  have h3 := h.shp.both
  have hs : ∀ r, r < n - 1 → skip i r < n := fun r hr => by unfold skip; split <;> omega
  have hg : ∀ r c, r < n - 1 → c < m → dropG g i (r * 4 + c) = g (skip i r * 4 + c) := fun r c hr hc => by
    rw [dropG_at g (by omega)]
    unfold skip
    by_cases e : r < i
    · rw [if_pos e, if_pos e]
    · rw [if_neg e, if_neg e, if_pos (by omega)]
  refine ⟨⟨by omega, h2, by omega, fun r c hr hc => ?_, fun r c hr hc hno => ?_⟩, fun r c hr hc => ?_, fun r c r2 c2 b hr hc hr2 hc2 hne => h.apart _ c _ c2 b (hs r hr) hc (hs r2 hr2) hc2 fun e => hne ⟨?_, e.2⟩⟩
  · rw [hg r c hr hc]; exact h.shp.yes _ c (hs r hr) hc
  · rw [dropG_at g hc]
    split
    · exact h.shp.no r c hr hc (by omega)
    · split
      · exact h.shp.no (r + 1) c (by omega) hc (by omega)
      · rfl
  · rw [hg r c hr hc]; exact h.at_ _ c (hs r hr) hc
  · have := e.1
    unfold skip at this
    split at this <;> split at this <;> omega
theorem ShapeM.drop1 {g : Nat → Option Addr} {n m i : Nat} (h : ShapeM g n m) (hi : n ≤ 1) (hn : i = 0 ∨ n = 0) : ShapeM (dropG g i) 0 0 := by
  refine ⟨by omega, by omega, Iff.rfl, fun _ _ hh => absurd hh (Nat.not_lt_zero _), fun r c hr hc _ => ?_⟩
  rw [dropG_at g hc]
  split
  · exact h.no r c hr hc (by omega)
  · split
    · exact h.no (r + 1) c (by omega) hc (by omega)
    · rfl
/-- What is left without a row and a column. -/
theorem MatW.cut {lo : Nat} {w : World} {g : Nat → Option Addr} {n m i k : Nat} {P : Nat → Nat → Pl} {pv : Nat → Nat → Value} (h : MatW lo w g n m P pv) (hi : i < n) (hk : k < m) (hn : 2 ≤ n) (hm : 2 ≤ m) : MatW lo w (cutG g i k) (n - 1) (m - 1) (fun r c => P (skip i r) (skip k c)) (fun r c => pv (skip i r) (skip k c)) :=
  (((h.drop hi hn).flip).drop hk hm).flip
theorem cut_none {lo : Nat} {w : World} {g : Nat → Option Addr} {n m i k : Nat} {P : Nat → Nat → Pl} {pv : Nat → Nat → Value} (h : MatW lo w g n m P pv) (hi : i < n) (hk : k < m) (hno : n < 2 ∨ m < 2) : mC (cutG g i k) = mC fun _ => none := by
  refine mC_none ?_
  unfold cutG
  by_cases hn : n < 2
  · exact ((h.shp.drop1 (i := i) (by omega) (by omega)).flip.drop1 (i := k) (by omega) (.inr rfl)).flip
  · exact ((h.drop hi (by omega)).flip.shp.drop1 (i := k) (by omega) (by omega)).flip

/-- What a function that tells a matrix comes to. -/
def IM (W : World) (o : Option Mx) (e : Ending) (w' : World) : Prop :=
  (∃ v rs, e = .returned (.tuple #[v, .bool o.isSome]) ∧ OwnM W.heap.size w' v rs ∧ rowsOf rs = o.getD []) ∧ Below W.heap.size W w'
theorem OwnM.nothing (lo : Nat) (w : World) : OwnM lo w (.slice none 0 0) [] := OwnM.zeros (n := 0) ⟨rfl, .inl ⟨rfl, rfl⟩⟩
theorem IM.no {W w' : World} {o : Option Mx} (h : o = none) (hb : Below W.heap.size W w') : IM W o (.returned (.tuple #[.slice none 0 0, .bool false])) w' := by
  subst h
  exact ⟨⟨_, [], rfl, OwnM.nothing _ _, rfl⟩, hb⟩
theorem IM.yes {W w' : World} {o : Option Mx} {R : Mx} {v : Value} {rs : List Rv} (h : o = some R) (ho : OwnM W.heap.size w' v rs) (hr : rowsOf rs = R) (hb : Below W.heap.size W w') : IM W o (.returned (.tuple #[v, .bool true])) w' := by
  subst h
  exact ⟨⟨v, rs, rfl, ho, hr⟩, hb⟩
theorem flipM_yes {M : Mx} (h : matB M = true) : flipM M = some (gridL (fun k i => at2 M i k) (colsM M) M.length) := by
  unfold flipM
  rw [if_pos h]
  exact gridO_all (fun k i => at2 M i k) fun _ _ _ _ => rfl
theorem flipM_no {M : Mx} (h : matB M = false) : flipM M = none := by
  unfold flipM
  rw [if_neg (by rw [h]; decide)]

set_option maxRecDepth 100000 in
set_option maxHeartbeats 2000000 in
theorem iMatrixFlip_any (a : Option Addr) (c n : Nat) (M : Mx) (w : World) (hs : IsPSS w a n M) :
    Calls Try.prog 37 #[.slice a n c] w (IM w (flipM M)) := by
  have HS := Lib.hid hs
  clear hs
  go_enter Try.func37, Try.ntmps37
  go_wp2_with fail
  refine (matrixOf_any a c n M w HS.out).mono ?_
  rintro e w1 ⟨⟨hy, g, pv, rfl, hM⟩ | ⟨hn, rfl⟩, hb1⟩
  · have HY := Lib.hid hy
    have HM := Lib.hid hM
    have HB1 := Lib.hid hb1
    clear hy hM hb1
    go_wp2_with fail
    refine (flipped_any g w1).mono ?_
    rintro e w2 ⟨rfl, hb2⟩
    have HM2 := Lib.hid (HM.out.flip.below hb2)
    have HB2 := Lib.hid (HB1.out.trans (hb2.mono HB1.out.size))
    clear hb2
    go_wp2_with fail
    refine (toldM_any (flipG g) (colsM M) M.length w.heap.size _ _ w2 HM2.out HB2.out.size (by have := (matB_iff.1 HY.out).2.1; omega)).mono ?_
    rintro e w3 ⟨v, rs, rfl, ho, hr, hb3⟩
    have HO := Lib.hid ho
    have HR := Lib.hid hr
    have HB3 := Lib.hid (HB2.out.trans (hb3.mono HB2.out.size))
    clear ho hr hb3
    go_wp2
    go_ret2
    exact IM.yes (flipM_yes HY.out) HO.out HR.out HB3.out
  · have HN := Lib.hid hn
    have HB1 := Lib.hid hb1
    clear hn hb1
    go_wp2_with fail
    refine (flipped_any _ w1).mono ?_
    rintro e w2 ⟨rfl, hb2⟩
    have HB2 := Lib.hid (HB1.out.trans (hb2.mono HB1.out.size))
    clear hb2
    go_wp2_with fail
    refine (show Calls Try.prog 95 #[.agg (mC fun _ => none)] w2 _ from toldM_none w2).mono ?_
    rintro e w3 ⟨rfl, hb3⟩
    have HB3 := Lib.hid (HB2.out.trans (hb3.mono HB2.out.size))
    clear hb3
    go_wp2
    go_ret2
    exact IM.no (flipM_no HN.out) HB3.out

end Go.Proofs.Ytbbkpaledlbcmaa

/- Forms for the laws of matrices. -/

namespace Go.Proofs.Ytbbkpaledlbcmaa
open Go.RowKit

structure BoundM (rows : Mx) : Prop where
  low : ∀ r ∈ rows, ∀ p ∈ r, -9223372036854775808 ≤ p.low ∧ p.low ≤ 9223372036854775807
  cs : ∀ r ∈ rows, ∀ p ∈ r, ∀ z ∈ p.cs, -9223372036854775808 ≤ z ∧ z ≤ 9223372036854775807
  len : ∀ r ∈ rows, r.length ≤ maxLen
theorem IsPSS.bound {w : World} {a : Option Addr} {n : Nat} {rows : Mx} (h : IsPSS w a n rows) : BoundM rows := by
  have key : ∀ r ∈ rows, ∃ b m, IsPS w b m r := fun r hr => by
    obtain ⟨i, hi, rfl⟩ := List.getElem_of_mem hr
    obtain ⟨x, _, _, hx⟩ := h.at_ (by have := h.len; omega)
    obtain ⟨ai, _, _, hI⟩ := hx i hi
    exact ⟨ai, _, hI⟩
  refine ⟨fun r hr p hp => ?_, fun r hr p hp z hz => ?_, fun r hr => ?_⟩
  · obtain ⟨b, m, hI⟩ := key r hr
    exact hI.wf p hp
  · obtain ⟨b, m, hI⟩ := key r hr
    obtain ⟨i, hi, rfl⟩ := List.getElem_of_mem hp
    obtain ⟨x, _, _, hx⟩ := hI.at_ (by have := hI.len; omega)
    obtain ⟨_, _, _, _, hJ, _⟩ := hx i hi
    exact hJ.wf z hz
  · obtain ⟨b, m, hI⟩ := key r hr
    rw [hI.len]; exact hI.max
theorem own_isPSS {W : World} {lo n : Nat} {v : Value} {rs : List Rv} {rows : Mx} (h : OwnM lo W v rs) (hr : rowsOf rs = rows) (hb : BoundM rows) (hl : rows.length = n) (hn : n ≤ maxLen) : ∃ a c, v = .slice a n c ∧ IsPSS W a n rows := by
  subst hl
  exact h.isPSS hr hb.low hb.cs hn hb.len
theorem rows_len {rs : List Rv} {rows : Mx} {n : Nat} (h : rowsOf rs = rows) (hl : rows.length = n) : rs.length = n := by rw [← hl, ← h, rowsOf_len]
/-- Answers: at most four rows of at most four polynomials. -/
structure GoodM (R : Mx) : Prop where
  len : R.length ≤ 4
  row : ∀ r ∈ R, r.length ≤ 4
  poly : ∀ r ∈ R, ∀ p ∈ r, polyB p = true
theorem GoodM.nil : GoodM [] := ⟨by simp, fun _ h => by simp at h, fun _ h => by simp at h⟩
theorem GoodM.bound {R : Mx} (h : GoodM R) : BoundM R :=
  ⟨fun r hr p hp => by have := polyB_trim (h.poly r hr p hp); omega, fun r hr p hp z hz => by have := coefIn_yes (polyB_coef (h.poly r hr p hp) z hz); omega, fun r hr => by have := h.row r hr; unfold maxLen; omega⟩
theorem sum_le {α : Type} (f : α → Nat) (B : Nat) : ∀ l : List α, (∀ x ∈ l, f x ≤ B) → (l.map f).sum ≤ l.length * B
  | [], _ => by simp
  | x :: r, h => by
    have h1 := sum_le f B r fun y hy => h y (List.mem_cons_of_mem _ hy)
    have h2 := h x List.mem_cons_self
    rw [List.map_cons, List.sum_cons, List.length_cons, Nat.add_mul]
    omega
theorem GoodM.total {R : Mx} (h : GoodM R) : totM R ≤ 4000 := by
  have h1 : ∀ r ∈ R, totR r ≤ 900 := fun r hr => by
    have h2 := sum_le (fun p : Pl => p.cs.length) 200 r fun p hp => by have := polyB_trim (h.poly r hr p hp); omega
    have h3 := h.row r hr
    unfold totR csum
    omega
  have h2 := sum_le totR 900 R h1
  have h3 := h.len
  unfold totM
  omega
theorem GoodM.grid {f : Nat → Nat → Option Pl} {n m : Nat} {R : Mx} (h : gridO f m n = some R) (hn : n ≤ 4) (hm : m ≤ 4) (hf : ∀ i k p, i < n → k < m → f i k = some p → polyB p = true) : GoodM R := by
  obtain ⟨h1, h2, h3⟩ := gridO_some h
  refine ⟨by omega, fun r hr => ?_, fun r hr p hp => ?_⟩
  · obtain ⟨i, hi, rfl⟩ := List.getElem_of_mem hr
    have := h2 i hi
    omega
  · obtain ⟨i, hi, rfl⟩ := List.getElem_of_mem hr
    obtain ⟨k, hk, rfl⟩ := List.getElem_of_mem hp
    have hm2 := h2 i hi
    refine hf i k _ (by omega) (by omega) ?_
    rw [h3 i k (by omega) (by omega), at2_eq hi hk]
theorem good_flip (M : Mx) : GoodM ((flipM M).getD []) := by
  cases e : flipM M with
  | none => exact GoodM.nil
  | some R =>
    unfold flipM at e
    split at e
    · rename_i h
      have h4 := matB_iff.1 h
      exact GoodM.grid e h4.2.1.2 h4.1.2 fun i k p hi hk hp => by
        simp only [Option.some.injEq] at hp
        rw [← hp]
        exact matB_at h hk hi
    · cases e
theorem good_cut (M : Mx) (i k : Int) : GoodM ((cutM M i k).getD []) := by
  cases e : cutM M i k with
  | none => exact GoodM.nil
  | some R =>
    unfold cutM at e
    split at e
    · rename_i h
      simp only [Bool.and_eq_true, decide_eq_true_eq] at h
      obtain ⟨h1, h2, h3, h4, h5⟩ := h
      have h6 := matB_iff.1 h1
      simp only [Option.some.injEq] at e
      subst e
      unfold cutL
      refine ⟨by simp; omega, fun r hr => ?_, fun r hr p hp => ?_⟩
      · obtain ⟨j, _, rfl⟩ := List.mem_map.1 hr
        simp; omega
      · obtain ⟨j, hj, rfl⟩ := List.mem_map.1 hr
        obtain ⟨l, hl, rfl⟩ := List.mem_map.1 hp
        have hj := List.mem_range.1 hj
        have hl := List.mem_range.1 hl
        exact matB_at h1 (by unfold skip; split <;> omega) (by unfold skip; split <;> omega)
    · cases e

end Go.Proofs.Ytbbkpaledlbcmaa

/- The model's MatrixIn. -/

namespace Go.Proofs.Ytbbkpaledlbcmaa
open Go.RowKit

theorem matB_not {rows : Mx} (h : ¬ ((1 ≤ rows.length ∧ rows.length ≤ 4) ∧ (1 ≤ colsM rows ∧ colsM rows ≤ 4) ∧ ∀ r ∈ rows, r.length = colsM rows ∧ ∀ p ∈ r, polyB p = true)) : matB rows = false := by
  cases e : matB rows with
  | false => rfl
  | true => exact absurd (matB_iff.1 e) h
theorem inR_yes {a b c : Int} (h : a ≤ c ∧ c ≤ b) : inR a b c = true := by unfold inR; rw [decide_eq_true h.1, decide_eq_true h.2]; rfl
theorem inR_no {a b c : Int} (h : ¬ (a ≤ c ∧ c ≤ b)) : inR a b c = false := by
  unfold inR
  by_cases h1 : a ≤ c
  · rw [decide_eq_false fun h2 => h ⟨h1, h2⟩, Bool.and_false]
  · rw [decide_eq_false h1, Bool.false_and]

set_option maxRecDepth 100000 in
set_option maxHeartbeats 4000000 in
theorem sMatrixIn_any (a : Option Addr) (c n : Nat) (rows : Mx) (b : Bool) (w : World) (hs : IsPSS w a n rows) (hb : matB rows = b) :
    Calls Try.prog 26 #[.slice a n c] w fun e w' => e = .returned (.bool b) ∧ Below w.heap.size w w' := by
  have hmax := hs.max
  unfold maxLen at hmax
  have HS := Lib.hid hs
  have HL := Lib.hid hs.len
  have HB := Lib.hid hb
  clear hb
  by_cases h0 : 1 ≤ n ∧ n ≤ 4
  case neg =>
    have hF : false = b := by rw [← HB.out]; exact (matB_not fun h => h0 (by have := HL.out; omega)).symm
    subst hF
    clear hs
    go_enter Try.func26, Try.ntmps26
    go_wp2_with fail
    refine (l6In_eq _ _ _ false _ (inR_no (by omega))).mono ?_
    rintro e w1 ⟨rfl, rfl⟩
    go_wp2
    go_ret
    exact ⟨rfl, Below.refl _ _⟩
  obtain ⟨x, rfl, hxb, hx⟩ := hs.at_ (by omega)
  obtain ⟨a0, c0, hc0, hI0⟩ := hx 0 (by rw [hs.len]; omega)
  rw [show x.add 0 = x by simp [Addr.add]] at hc0
  have hcols : (rows[0]'(by rw [hs.len]; omega)).length = colsM rows := by
    unfold colsM
    simp [List.getD_eq_getElem?_getD, show 0 < rows.length by rw [hs.len]; omega]
  rw [hcols] at hc0
  have hm0 := hI0.max
  rw [hcols] at hm0
  unfold maxLen at hm0
  obtain ⟨m, hm⟩ : ∃ m, colsM rows = m := ⟨_, rfl⟩
  have HM := Lib.hid hm
  rw [hm] at hc0 hm0
  have h0i : (0 : Int) < (n : Int) := by omega
  by_cases h4 : 1 ≤ m ∧ m ≤ 4
  case neg =>
    have hF : false = b := by rw [← HB.out]; exact (matB_not fun h => h4 (by have := HM.out; omega)).symm
    subst hF
    clear hs hx hxb hI0 hcols hm
    go_enter Try.func26, Try.ntmps26
    go_wp2_with fail
    refine (l6In_eq _ _ _ true _ (inR_yes (by omega))).mono ?_
    rintro e w1 ⟨rfl, rfl⟩
    go_wp2_with fail
    refine (l6In_eq _ _ _ false _ (inR_no (by omega))).mono ?_
    rintro e w1 ⟨rfl, rfl⟩
    go_wp2
    go_ret
    exact ⟨rfl, Below.refl _ _⟩
  have HX : Hid (∀ i (h : i < rows.length), ∃ ai ci, w.cell? (x.add i) = some (.slice ai rows[i].length ci) ∧ IsPS w ai rows[i].length rows[i]) := Lib.hid hx
  have HXB := Lib.hid hxb
  have HC0 := Lib.hid hc0
  clear hs hx hxb hI0 hcols hm
  go_enter Try.func26, Try.ntmps26
  go_wp2_with fail
  refine (l6In_eq _ _ _ true _ (inR_yes (by omega))).mono ?_
  rintro e w1 ⟨rfl, rfl⟩
  go_wp2_with fail
  refine (l6In_eq _ _ _ true _ (inR_yes (by omega))).mono ?_
  rintro e w1 ⟨rfl, rfl⟩
  clear hc0
  go_wp2
  go_loopw [3] (fun i wr => ∃ k : Nat, k ≤ n ∧ i = .int .i64 k ∧ Hid (∀ j (h : j < rows.length), j < k → rows[j].length = m ∧ ∀ p ∈ rows[j], polyB p = true) ∧ Below w.heap.size w wr) (fun i _ => n - (intOf i).toNat)
  case atStart => exact ⟨0, Nat.zero_le _, rfl, Lib.hid fun j _ h => absurd h (Nat.not_lt_zero _), Below.refl _ _⟩
  case round =>
    obtain ⟨k, hk, rfl, HE, hB⟩ := hrel
    obtain ⟨U, rfl⟩ : ∃ U, U = wr := ⟨_, rfl⟩
    by_cases hlt : k < n
    · have hkr : k < rows.length := by rw [HL.out]; exact hlt
      obtain ⟨ai, ci, hc, hI⟩ := HX.out k hkr
      have q1 := (hB.cell (p := x.add k) (by rw [addr_add_block]; exact HXB.out)).trans hc
      have q0 := (hB.cell (p := x) HXB.out).trans HC0.out
      have hmk := hI.max
      obtain ⟨r, hr⟩ : ∃ r, rows[k].length = r := ⟨_, rfl⟩
      rw [hr] at q1 hmk hI
      unfold maxLen at hmk
      have HR := Lib.hid hr
      have HI := Lib.hid (hI.below hB)
      clear hc hI hr
      by_cases hrm : r = m
      · have hdr : decide ((r : Int) = (m : Int)) = true := decide_eq_true (by omega)
        subst hrm
        go_wp2
        go_quiet (fail)
        go_wp2
        go_loopw [4] (fun i wr => ∃ j : Nat, j ≤ r ∧ i = .int .i64 j ∧ Hid (∀ l (h : l < rows[k].length), l < j → polyB rows[k][l] = true) ∧ Below U.heap.size U wr) (fun i _ => r - (intOf i).toNat)
        case atStart => exact ⟨0, Nat.zero_le _, rfl, Lib.hid fun j _ h => absurd h (Nat.not_lt_zero _), below_drewN (Below.refl _ _) _⟩
        case round =>
          obtain ⟨j, hj, rfl, HJ, hB2⟩ := hrel
          have hkb := hB.size
          have hB3 : Below w.heap.size w wr := hB.trans (hB2.mono hB.size)
          have q2 := (hB3.cell (p := x.add k) (by rw [addr_add_block]; exact HXB.out)).trans (show w.cell? (x.add k) = some (.slice ai r ci) from by
            obtain ⟨ai2, ci2, hc2, _⟩ := HX.out k hkr
            have e := q1.symm.trans ((hB.cell (p := x.add k) (by rw [addr_add_block]; exact HXB.out)).trans hc2)
            rw [HR.out] at e hc2
            rw [e]; exact hc2)
          by_cases hjt : j < r
          · have hjr : j < rows[k].length := by rw [HR.out]; exact hjt
            obtain ⟨y, rfl, hyb, hy⟩ := HI.out.at_ (by omega)
            obtain ⟨aj, cj, hd0, hd1, hJ2, hle⟩ := hy j hjr
            have e0 := (hB2.cell (p := y.add (j * 2)) (by rw [addr_add_block]; exact hyb)).trans hd0
            have e1 := (hB2.cell (p := y.add (j * 2 + 1)) (by rw [addr_add_block]; exact hyb)).trans hd1
            rw [addr_next2] at e1
            have hJ3 := hJ2.below hB2
            obtain ⟨p, hp⟩ : ∃ p, rows[k][j] = p := ⟨_, rfl⟩
            rw [hp] at e0 e1 hJ3
            obtain ⟨t, ht⟩ : ∃ t, p.cs.length = t := ⟨_, rfl⟩
            rw [ht] at e1 hJ3
            obtain ⟨bp, hbp⟩ : ∃ bp, polyB p = bp := ⟨_, rfl⟩
            have HPI := Lib.hid (sPolyIn_any p.low p.cs aj cj t bp wr hJ3 hbp)
            have HP := Lib.hid hp
            have HBP := Lib.hid hbp
            clear hy hd0 hd1 hJ2 hle hJ3 hp ht hbp
            go_wp2_with fail
            refine HPI.out.mono ?_
            rintro e w4 ⟨rfl, hb4⟩
            cases bp with
            | false =>
              have hF : false = b := by
                rw [← HB.out]
                exact (matB_not fun h => by
                  have := (h.2.2 _ (List.getElem_mem hkr)).2 _ (List.getElem_mem hjr)
                  rw [HP.out, HBP.out] at this
                  exact absurd this (by decide)).symm
              subst hF
              go_wp2
              go_ret
              exact ⟨rfl, hB3.trans (hb4.mono hB3.size)⟩
            | true =>
              have HB4 := Lib.hid (hB2.trans (hb4.mono hB2.size))
              clear hb4
              go_wp2
              go_roundw
              case rel =>
                refine ⟨j + 1, by omega, by go_num, Lib.hid fun l hl hlj => ?_, HB4.out⟩
                by_cases e : l = j
                · subst e; rw [HP.out]; exact HBP.out
                · exact HJ.out l hl (by omega)
              case measure => simp [intOf]; omega
          · obtain rfl : j = r := by omega
            have HB3 := Lib.hid hB3
            clear hB3
            go_wp2
            go_roundw
            case rel =>
              refine ⟨k + 1, by omega, by go_num, Lib.hid fun l hl hlk => ?_, HB3.out⟩
              by_cases e : l = k
              · subst e
                refine ⟨HR.out, fun p hp => ?_⟩
                obtain ⟨q, hq, rfl⟩ := List.getElem_of_mem hp
                exact HJ.out q hq (by rw [← HR.out]; exact hq)
              · exact HE.out l hl (by omega)
            case measure => simp [intOf]; omega
      · have hdr : decide ((r : Int) = (m : Int)) = false := decide_eq_false (by omega)
        have hF : false = b := by
          rw [← HB.out]
          exact (matB_not fun h => hrm (by rw [← HR.out, ← HM.out]; exact (h.2.2 _ (List.getElem_mem hkr)).1)).symm
        subst hF
        go_wp2
        go_quiet (fail)
        go_wp2
        go_ret
        exact ⟨rfl, below_drewN hB _⟩
    · obtain rfl : k = n := by omega
      have hF : true = b := by
        rw [← HB.out]
        refine (matB_iff.2 ⟨by have := HL.out; omega, by have := HM.out; omega, fun r hr => ?_⟩).symm
        obtain ⟨j, hj, rfl⟩ := List.getElem_of_mem hr
        have := HE.out j hj (by rw [← HL.out]; exact hj)
        rw [HM.out]
        exact this
      subst hF
      go_wp2
      go_ret
      exact ⟨rfl, hB⟩

end Go.Proofs.Ytbbkpaledlbcmaa

/- One polynomial more in a row of a call's own, one row more in a matrix. -/

namespace Go.Proofs.Ytbbkpaledlbcmaa
open Go.RowKit

theorem cellsP_snoc (xs : List Pv) (p : Pl) (v : Value) : cellsP (xs ++ [⟨p, v⟩]) = cellsP xs ++ [.int .i64 p.low, v] := by rw [cellsP_append]; rfl
theorem OwnR.push {lo g1 : Nat} {w wA w2 : World} {u v u2 : Value} {xs : List Pv} {p : Pl} (h : OwnR lo w u xs) (hb : Below w.heap.size w wA) (hp : IntRow w.heap.size wA v p.cs) (hlo : lo ≤ w.heap.size)
    (hown : w2.ownsRow lo PO 2 u2 (xs.length + 1) (cellsP xs ++ [.int .i64 p.low, v])) (hg : wA.grownBy w2 u.ownBlock) (hu : u2.ownBlock = some g1) (hat : u.ownBlock = some g1 ∨ wA.heap.size ≤ g1) : OwnR lo w2 u2 (xs ++ [⟨p, v⟩]) := by
  have hul : ∀ b, u.ownBlock = some b → b < w.heap.size := fun b e => (ownsRow_lt h.row b e).2
  have hold : ∀ i (hi : i < xs.length) b, xs[i].v.ownBlock = some b → b < w.heap.size := fun i hi b e => (ownsRow_lt (h.poly i hi) b e).2
  have hnew : ∀ b, v.ownBlock = some b → w.heap.size ≤ b ∧ b < wA.heap.size := fun b e => ownsRow_lt hp b e
  have hlen : (xs ++ [(⟨p, v⟩ : Pv)]).length = xs.length + 1 := by simp
  have hget : ∀ i (hi : i < xs.length), (xs ++ [(⟨p, v⟩ : Pv)])[i]'(by rw [hlen]; omega) = xs[i] := fun i hi => List.getElem_append_left hi
  have hlast : (xs ++ [(⟨p, v⟩ : Pv)])[xs.length]'(by rw [hlen]; omega) = ⟨p, v⟩ := by simp
  have hg1 : ∀ i (hi : i < xs.length), xs[i].v.ownBlock = some g1 → False := fun i hi e => by
    rcases hat with h1 | h1
    · exact h.head i hi g1 h1 e
    · have := hold i hi g1 e; have := hb.size; omega
  have hg2 : v.ownBlock = some g1 → False := fun e => by
    rcases hat with h1 | h1
    · have := hul g1 h1; have := hnew g1 e; omega
    · have := hnew g1 e; omega
  refine ⟨by rw [hlen, cellsP_snoc]; exact hown, fun i hi => ?_, fun i hi b e1 e2 => ?_, fun i j hi hj b hne e1 e2 => ?_⟩
  · rw [hlen] at hi
    by_cases e : i < xs.length
    · rw [hget i e]
      exact ownsRow_touched (ownsRow_bel (h.poly i e) hb) fun b hb2 hl => hg.block b hl fun e2 => h.head i e b e2.symm hb2
    · obtain rfl : i = xs.length := by omega
      rw [hlast]
      exact (show IntRow w.heap.size w2 v p.cs from ownsRow_touched hp fun b hb2 hl => hg.block b hl fun e2 => by have := hul b e2.symm; have := hnew b hb2; omega).mono hlo
  · rw [hu] at e1
    obtain rfl : g1 = b := Option.some.inj e1
    rw [hlen] at hi
    by_cases e : i < xs.length
    · rw [hget i e] at e2; exact hg1 i e e2
    · obtain rfl : i = xs.length := by omega
      rw [hlast] at e2; exact hg2 e2
  · rw [hlen] at hi hj
    by_cases ei : i < xs.length
    · rw [hget i ei] at e1
      by_cases ej : j < xs.length
      · rw [hget j ej] at e2; exact h.apart i j ei ej b hne e1 e2
      · obtain rfl : j = xs.length := by omega
        rw [hlast] at e2
        have := hold i ei b e1; have := hnew b e2; omega
    · obtain rfl : i = xs.length := by omega
      rw [hlast] at e1
      by_cases ej : j < xs.length
      · rw [hget j ej] at e2
        have := hold j ej b e2; have := hnew b e1; omega
      · omega
theorem OwnM.push {lo g1 : Nat} {w wA w2 : World} {v v2 : Value} {rs : List Rv} {r : Rv} (h : OwnM lo w v rs) (hb : Below w.heap.size w wA) (hr : OwnR w.heap.size wA r.u r.xs) (hlo : lo ≤ w.heap.size)
    (hown : w2.ownsRow lo PR 1 v2 (rs.length + 1) (rs.map (·.u) ++ [r.u])) (hg : wA.grownBy w2 v.ownBlock) (hu : v2.ownBlock = some g1) (hat : v.ownBlock = some g1 ∨ wA.heap.size ≤ g1) : OwnM lo w2 v2 (rs ++ [r]) := by
  have hvl : ∀ b, v.ownBlock = some b → b < w.heap.size := fun b e => (ownsRow_lt h.row b e).2
  have hold : ∀ i (hi : i < rs.length) b, FootR rs[i].u rs[i].xs b → b < w.heap.size := fun i hi b e => ((h.each i hi).low e).2
  have hnew : ∀ b, FootR r.u r.xs b → w.heap.size ≤ b ∧ b < wA.heap.size := fun b e => hr.low e
  have hlen : (rs ++ [r]).length = rs.length + 1 := by simp
  have hget : ∀ i (hi : i < rs.length), (rs ++ [r])[i]'(by rw [hlen]; omega) = rs[i] := fun i hi => List.getElem_append_left hi
  have hlast : (rs ++ [r])[rs.length]'(by rw [hlen]; omega) = r := by simp
  have hT : Touched (fun b => v.ownBlock = some b) wA w2 := (Touched.refl _ wA).grown hg fun b e => e
  refine ⟨by rw [hlen, List.map_append]; exact hown, fun i hi => ?_, fun i hi b e1 e2 => ?_, fun i j hi hj b hne e1 e2 => ?_⟩
  · rw [hlen] at hi
    by_cases e : i < rs.length
    · rw [hget i e]
      exact ((h.each i e).below hb).touched hT fun b hb2 hS => h.head i e b hS hb2
    · obtain rfl : i = rs.length := by omega
      rw [hlast]
      exact (hr.touched hT fun b hb2 hS => by have := hvl b hS; have := hnew b hb2; omega).mono hlo
  · rw [hu] at e1
    obtain rfl : g1 = b := Option.some.inj e1
    rw [hlen] at hi
    by_cases e : i < rs.length
    · rw [hget i e] at e2
      rcases hat with h1 | h1
      · exact h.head i e g1 h1 e2
      · have := hold i e g1 e2; have := hb.size; omega
    · obtain rfl : i = rs.length := by omega
      rw [hlast] at e2
      rcases hat with h1 | h1
      · have := hvl g1 h1; have := hnew g1 e2; omega
      · have := hnew g1 e2; omega
  · rw [hlen] at hi hj
    by_cases ei : i < rs.length
    · rw [hget i ei] at e1
      by_cases ej : j < rs.length
      · rw [hget j ej] at e2; exact h.apart i j ei ej b hne e1 e2
      · obtain rfl : j = rs.length := by omega
        rw [hlast] at e2
        have := hold i ei b e1; have := hnew b e2; omega
    · obtain rfl : i = rs.length := by omega
      rw [hlast] at e1
      by_cases ej : j < rs.length
      · rw [hget j ej] at e2
        have := hold j ej b e2; have := hnew b e1; omega
      · omega

end Go.Proofs.Ytbbkpaledlbcmaa

/- The model's MatrixFlip. -/

namespace Go.Proofs.Ytbbkpaledlbcmaa
open Go.RowKit

theorem OwnM.made (w : World) : OwnM w.heap.size (w.alloc (.cells #[] PR)) (.slice (some ⟨w.heap.size, 0, none⟩) 0 0) [] :=
  ⟨World.ownsRow_made (base := w.heap.size) (e := PR) (size := 1) w #[] 0 (Nat.le_refl _) (Nat.zero_le _) rfl, fun i hi => by simp at hi, fun i hi => by simp at hi, fun i j hi => by simp at hi⟩
theorem OwnR.made (w : World) : OwnR w.heap.size (w.alloc (.cells #[] PO)) (.slice (some ⟨w.heap.size, 0, none⟩) 0 0) [] :=
  ⟨World.ownsRow_made (base := w.heap.size) (e := PO) (size := 2) w #[] 0 (Nat.le_refl _) (Nat.zero_le _) rfl, fun i hi => by simp at hi, fun i hi => by simp at hi, fun i j hi => by simp at hi⟩
theorem OwnM.is_slice {lo : Nat} {w : World} {v : Value} {rs : List Rv} (h : OwnM lo w v rs) : ∃ a c, v = .slice a rs.length c := by
  rcases h.row.2 with ⟨rfl, h0⟩ | ⟨g, cap, cur, rfl, _⟩
  · exact ⟨none, 0, by rw [h0]⟩
  · exact ⟨_, _, rfl⟩
theorem OwnR.is_slice {lo : Nat} {w : World} {u : Value} {xs : List Pv} (h : OwnR lo w u xs) : ∃ a c, u = .slice a xs.length c := by
  rcases h.row.2 with ⟨rfl, h0⟩ | ⟨g, cap, cur, rfl, _⟩
  · exact ⟨none, 0, by rw [h0]⟩
  · exact ⟨_, _, rfl⟩
theorem rowO_next {f : Nat → Option Pl} {k : Nat} {xs : List Pv} {p : Pl} {v : Value} (h : rowO f k = some (xs.map (·.p))) (hf : f k = some p) : rowO f (k + 1) = some ((xs ++ [(⟨p, v⟩ : Pv)]).map (·.p)) := by
  rw [rowO, h, hf, List.map_append]
  rfl
theorem gridO_next {f : Nat → Nat → Option Pl} {m i : Nat} {rs : List Rv} {u : Value} {xs : List Pv} (h : gridO f m i = some (rowsOf rs)) (hf : rowO (f i) m = some (xs.map (·.p))) : gridO f m (i + 1) = some (rowsOf (rs ++ [⟨u, xs⟩])) := by
  rw [gridO, h, hf]
  simp [rowsOf]
/-- The cells of the matrix that came in, in a later world. -/
theorem IsPSS.cells {w U : World} {x : Addr} {n : Nat} {M : Mx} (hs : IsPSS w (some x) n M) (hb : Below w.heap.size w U) {i k : Nat} (hi : i < M.length) (hk : k < M[i].length) :
    ∃ y ci ak ck, U.cell? (x.add i) = some (.slice (some y) M[i].length ci) ∧ U.cell? (y.add (k * 2)) = some (.int .i64 (at2 M i k).low) ∧ U.cell? ⟨(y.add (k * 2)).block, (y.add (k * 2)).off + 1, Option.none⟩ = some (.slice ak (at2 M i k).cs.length ck) ∧ Ints U ak (at2 M i k).cs.length (at2 M i k).cs ∧ (at2 M i k).cs.length ≤ ck := by
  obtain ⟨z, hz, hzb, hx⟩ := hs.at_ (by have := hs.len; omega)
  obtain rfl : x = z := by simpa using hz
  obtain ⟨ai, ci, hc, hI⟩ := hx i hi
  obtain ⟨y, rfl, hyb, hy⟩ := hI.at_ (by omega)
  obtain ⟨ak, ck, hd0, hd1, hJ, hle⟩ := hy k hk
  rw [at2_eq hi hk]
  have h3 := (hb.cell (p := y.add (k * 2 + 1)) (by rw [addr_add_block]; exact hyb)).trans hd1
  rw [addr_next2] at h3
  exact ⟨y, ci, ak, ck, (hb.cell (p := x.add i) (by rw [addr_add_block]; exact hzb)).trans hc, (hb.cell (p := y.add (k * 2)) (by rw [addr_add_block]; exact hyb)).trans hd0, h3, hJ.below hb, hle⟩

set_option maxRecDepth 100000 in
set_option maxHeartbeats 8000000 in
theorem sMatrixFlip_any (a : Option Addr) (c n : Nat) (M : Mx) (w : World) (hs : IsPSS w a n M) :
    Calls Try.prog 44 #[.slice a n c] w (IM w (flipM M)) := by
  obtain ⟨i0, hi0, hi1, hi2, hi3⟩ := info_parts infoPolyS
  obtain ⟨p0, hp0, hp1, hp2, hp3⟩ := info_parts infoPoly
  have hmax := hs.max
  unfold maxLen at hmax
  have hbA : Below w.heap.size w (w.alloc (.cells #[] PR)) := (Below.refl _ w).alloc (Nat.le_refl _) _
  have HBA := Lib.hid hbA
  have HMd := Lib.hid (OwnM.made w)
  have HL := Lib.hid hs.len
  have HS := Lib.hid hs
  obtain ⟨b, hb⟩ : ∃ b, matB M = b := ⟨_, rfl⟩
  have HIN := Lib.hid (sMatrixIn_any a c n M b _ (hs.below hbA) hb)
  cases b with
  | false =>
    clear hs hbA
    go_enter Try.func44, Try.ntmps44
    go_wp2_with fail
    refine HIN.out.mono ?_
    rintro e w1 ⟨rfl, hb1⟩
    have HM1 := Lib.hid (HMd.out.below hb1)
    have HB1 := Lib.hid (HBA.out.trans (hb1.mono HBA.out.size))
    clear hb1
    go_wp2
    go_ret2
    exact ⟨⟨_, [], by rw [flipM_no hb]; rfl, HM1.out, by rw [flipM_no hb]; rfl⟩, HB1.out⟩
  | true =>
    obtain ⟨h4, hc4, hrows⟩ := matB_iff.1 hb
    obtain ⟨x, rfl, hxb, hx⟩ := hs.at_ (by have := hs.len; omega)
    obtain ⟨a0, c0, hc0, hI0⟩ := hx 0 (by omega)
    rw [show x.add 0 = x by simp [Addr.add], (hrows _ (List.getElem_mem _)).1] at hc0
    obtain ⟨m, hm⟩ : ∃ m, colsM M = m := ⟨_, rfl⟩
    rw [hm] at hc0 hc4
    have HX0 := Lib.hid hc0
    have HXB := Lib.hid hxb
    have HM := Lib.hid hm
    have HB0 := Lib.hid hb
    have HRL : Hid (∀ i (h : i < M.length), M[i].length = m) := Lib.hid fun i h => by rw [← hm]; exact (hrows _ (List.getElem_mem h)).1
    have hn4 : 1 ≤ n ∧ n ≤ 4 := by have := hs.len; omega
    have h0i : (0 : Int) < (n : Int) := by omega
    clear hs hx hc0 hI0 hxb hm hb hrows hbA h4
    go_enter Try.func44, Try.ntmps44
    go_wp2_with fail
    refine HIN.out.mono ?_
    rintro e w1 ⟨rfl, hb1⟩
    have HM1 := Lib.hid (HMd.out.below hb1)
    have hB1 := HBA.out.trans (hb1.mono HBA.out.size)
    clear hb1
    go_wp2
    go_loopw [4, 5] (fun v i wr => ∃ (k : Nat) (rs : List Rv), k ≤ m ∧ i = .int .i64 k ∧ Hid (gridO (fun k i => some (at2 M i k)) n k = some (rowsOf rs)) ∧ Hid (OwnM w.heap.size wr v rs) ∧ Below w.heap.size w wr) (fun _ i _ => m - (intOf i).toNat)
    case atStart => exact ⟨0, [], Nat.zero_le _, rfl, Lib.hid rfl, HM1, hB1⟩
    case round =>
      obtain ⟨k, rs, hk, rfl, HG, HR, hB⟩ := hrel
      obtain ⟨U, hU⟩ : ∃ U, U = wr := ⟨_, rfl⟩
      subst hU
      have q0 := (hB.cell (p := x) HXB.out).trans HX0.out
      by_cases hlt : k < m
      · have HBU := Lib.hid hB
        have HRM := Lib.hid (OwnR.made U)
        have hbU : Below U.heap.size U (U.alloc (.cells #[] PO)) := (Below.refl _ U).alloc (Nat.le_refl _) _
        obtain ⟨av, cv, hv⟩ := HR.out.is_slice
        have hkl := (gridO_some HG.out).1
        rw [rowsOf_len] at hkl
        rw [hkl] at hv
        have HKL := Lib.hid hkl
        clear hkl
        subst hv
        clear hB
        go_wp2
        go_loopw [6, 7] (fun u i wr => ∃ (l : Nat) (xs : List Pv), l ≤ n ∧ i = .int .i64 l ∧ Hid (rowO (fun i => some (at2 M i k)) l = some (xs.map (·.p))) ∧ Hid (OwnR U.heap.size wr u xs) ∧ Below U.heap.size U wr) (fun _ i _ => n - (intOf i).toNat)
        case atStart => exact ⟨0, [], Nat.zero_le _, rfl, Lib.hid rfl, HRM, hbU⟩
        case round =>
          obtain ⟨l, xs, hl, rfl, HO, HW, hBU⟩ := hrel
          have hB2 := HBU.out.trans (hBU.mono HBU.out.size)
          obtain ⟨au, cu, hu⟩ := HW.out.is_slice
          have hll := (rowO_some HO.out).1
          rw [List.length_map] at hll
          rw [hll] at hu
          subst hu
          have HLL := Lib.hid hll
          clear hll
          by_cases hlt2 : l < n
          · have hlr : l < M.length := by rw [HL.out]; exact hlt2
            obtain ⟨y, ci, ak, ck, e0, e1, e2, hJ, _⟩ := HS.out.cells hB2 (k := k) hlr (by rw [HRL.out l hlr]; exact hlt)
            rw [HRL.out l hlr] at e0
            have hpb := matB_at HB0.out hlr (by rw [HM.out]; exact hlt)
            obtain ⟨p, hp⟩ : ∃ p, at2 M l k = p := ⟨_, rfl⟩
            rw [hp] at e1 e2 hJ hpb
            obtain ⟨t, ht⟩ : ∃ t, p.cs.length = t := ⟨_, rfl⟩
            rw [ht] at e2 hJ
            have htl : t ≤ 200 := by have := polyB_trim hpb; omega
            have HCP := Lib.hid (l6pCopy_any p.low p.cs ak ck t wr hJ (by omega))
            have HP := Lib.hid hp
            have HBUr := Lib.hid hBU
            have hUr := hBU.size
            clear hJ hpb hp ht hB2 hBU
            go_wp2_with fail
            refine HCP.out.mono ?_
            rintro e w3 ⟨⟨v3, rfl, hr3⟩, hb3⟩
            obtain ⟨a3, _, c3, rfl, _, _, _⟩ := hr3.shape
            have hW3 := HW.out.below hb3
            have hrow3 := hW3.row
            rw [HLL.out] at hrow3
            have HROW3 := Lib.hid hrow3
            have hs3 := hb3.size
            have hbA3 := hb3.trans (((Below.refl w3.heap.size w3).alloc (Nat.le_refl _) (.cells #[.int .i64 p.low, .slice a3 p.cs.length c3] PO)).mono hs3)
            have HBA3 := Lib.hid hbA3
            have HR3 := Lib.hid (hr3.below ((Below.refl w3.heap.size w3).alloc (Nat.le_refl _) (.cells #[.int .i64 p.low, .slice a3 p.cs.length c3] PO)))
            clear hr3 hb3 hW3 hrow3 hbA3
            go_wp2_with (at_builtin; refine wpList_append_lies _ rfl _ _ _ rfl U.heap.size PO p0 _ 2 32 Try.underlying28 hp0 hp1 hp2 hp3 rfl (by omega) (.slice au l cu) l (cellsP xs) rfl (HROW3.out.alloc _) ⟨w3.heap.size, 0, none⟩ 1 1 [.int .i64 p.low, .slice a3 p.cs.length c3] rfl rfl (World.news_of_block (cs := #[.int .i64 p.low, .slice a3 p.cs.length c3]) (t := PO) (fr := (0, 0)) (heap_alloc_new w3 _)) (by simp [Value.oneCell']) (by omega) (by unfold maxLen; omega) (by omega) (by simp; omega) (w3.heap.size + 1) (by simp) ?_; intro g1 cap1 w4 hown hgrow hat hlt4)
            have hB4 : Below U.heap.size U w4 := (HBUr.out.trans (HBA3.out.mono HBUr.out.size)).grown hgrow (Nat.le_trans HBUr.out.size HBA3.out.size) fun b e => (ownsRow_lt HROW3.out b e).1
            have HW4 := Lib.hid (HW.out.push (p := p) HBA3.out HR3.out HBUr.out.size (by rw [HLL.out]; exact hown) hgrow rfl (hat.imp id fun e => by rw [e]; simp))
            have HO4 := Lib.hid (rowO_next (v := .slice a3 p.cs.length c3) HO.out (by rw [HP.out]))
            clear hown hgrow hat hlt4
            go_wp2
            go_roundw
            case rel => exact ⟨l + 1, _, by omega, by go_num, HO4, HW4, hB4⟩
            case measure => simp [intOf]; omega
          · obtain rfl : l = n := by omega
            have HBUr := Lib.hid hBU
            have hUr := hBU.size
            have HRr := Lib.hid (HR.out.below hBU)
            have hrowr := HRr.out.row
            rw [HKL.out] at hrowr
            have HROW := Lib.hid hrowr
            have HWU := Lib.hid (HBU.out.size)
            clear hB2 hBU hrowr
            have hwU := HWU.out
            go_wp2_with (at_builtin; refine wpList_append_lies _ rfl _ _ _ rfl w.heap.size PR i0 _ 1 24 Try.underlying23 hi0 hi1 hi2 hi3 rfl (by omega) (.slice av k cv) k (rs.map (·.u)) rfl (HROW.out.alloc _) ⟨wr.heap.size, 0, none⟩ 1 1 [.slice au l cu] rfl rfl (World.news_of_block (cs := #[.slice au l cu]) (t := PR) (fr := (0, 0)) (heap_alloc_new wr _)) (by simp [Value.oneCell']) (by omega) (by unfold maxLen; omega) (by omega) (by simp; omega) (wr.heap.size + 1) (by simp) ?_; intro g1 cap1 w4 hown hgrow hat hlt4)
            have hbA4 : Below U.heap.size U (wr.alloc (.cells #[.slice au l cu] PR)) := HBUr.out.alloc hUr _
            have hB4 : Below w.heap.size w w4 := (HBU.out.trans (hbA4.mono HBU.out.size)).grown hgrow (Nat.le_trans HBU.out.size hbA4.size) fun b e => (ownsRow_lt HROW.out b e).1
            have HW4 := Lib.hid (HR.out.push (r := ⟨.slice au l cu, xs⟩) hbA4 (HW.out.below ((Below.refl _ wr).alloc (Nat.le_refl _) _)) HBU.out.size (by rw [HKL.out]; exact hown) hgrow rfl (hat.imp id fun e => by rw [e]; simp))
            have HG4 := Lib.hid (gridO_next (f := fun k i => some (at2 M i k)) (u := .slice au l cu) HG.out HO.out)
            clear hown hgrow hat hlt4 hbA4
            go_wp2
            go_roundw
            case rel => exact ⟨k + 1, _, by omega, by go_num, HG4, HW4, hB4⟩
            case measure => simp [intOf]; omega
      · obtain rfl : k = m := by omega
        have HBr := Lib.hid hB
        clear hB
        go_wp2
        go_ret2
        have hF : flipM M = some (rowsOf rs) := by
          unfold flipM
          rw [if_pos HB0.out, HL.out, HM.out]
          exact HG.out
        exact IM.yes hF HR.out rfl HBr.out

end Go.Proofs.Ytbbkpaledlbcmaa

/- The program's MatrixCut and MatrixOne. -/

namespace Go.Proofs.Ytbbkpaledlbcmaa
open Go.RowKit Go.Shelf

theorem gridL_cut (M : Mx) (i k : Nat) : gridL (fun r c => at2 M (skip i r) (skip k c)) (M.length - 1) (colsM M - 1) = cutL M i k := rfl
theorem cutM_none {M : Mx} {i k : Int} (h : ¬ (matB M = true ∧ 2 ≤ M.length ∧ 2 ≤ colsM M ∧ (0 ≤ i ∧ i < M.length) ∧ (0 ≤ k ∧ k < colsM M))) : cutM M i k = none := by
  unfold cutM
  rw [if_neg]
  intro e
  simp only [Bool.and_eq_true, decide_eq_true_eq] at e
  exact h e
theorem cutM_some {M : Mx} {i k : Nat} (h : matB M = true) (hn : 2 ≤ M.length) (hm : 2 ≤ colsM M) (hi : i < M.length) (hk : k < colsM M) : cutM M i k = some (cutL M i k) := by
  unfold cutM
  rw [if_pos]
  · rfl
  · simp only [Bool.and_eq_true, decide_eq_true_eq]
    exact ⟨h, hn, hm, ⟨by omega, by omega⟩, by omega, by omega⟩

set_option maxRecDepth 100000 in
set_option maxHeartbeats 4000000 in
theorem iMatrixCut_any (a : Option Addr) (c n : Nat) (M : Mx) (i k : Int) (w : World) (hs : IsPSS w a n M) :
    Calls Try.prog 46 #[.slice a n c, .int .i64 i, .int .i64 k] w (IM w (cutM M i k)) := by
  have HS := Lib.hid hs
  clear hs
  go_enter Try.func46, Try.ntmps46
  go_wp2_with fail
  refine (matrixOf_any a c n M w HS.out).mono ?_
  rintro e w1 ⟨⟨hy, g, pv, rfl, hM⟩ | ⟨hn, rfl⟩, hb1⟩
  · have HY := Lib.hid hy
    have HM := Lib.hid hM
    have HB1 := Lib.hid hb1
    have hbA : Below w1.heap.size w1 (w1.alloc (.cells (mC fun _ => none) MA)) := (Below.refl _ _).alloc (Nat.le_refl _) _
    have HBA := Lib.hid hbA
    have hl4 := (matB_iff.1 hy).1
    have hc4 := (matB_iff.1 hy).2.1
    obtain ⟨N, hN⟩ : ∃ N, M.length = N := ⟨_, rfl⟩
    obtain ⟨C, hC⟩ : ∃ C, colsM M = C := ⟨_, rfl⟩
    rw [hN] at hl4 HM
    rw [hC] at hc4 HM
    have HN := Lib.hid hN
    have HC := Lib.hid hC
    clear hy hM hb1 hbA hN hC
    by_cases hi0 : i < 0
    · have hd : decide (i < 0) = true := decide_eq_true hi0
      go_wp2_with (refine wpList_store_mat rfl _ _ rfl w1.heap.size (fun _ => none) g rfl rfl (World.alloc_heap_new w1 (.cells (mC fun _ => none) MA)) ?_; intro w2 hp2)
      go_ret2
      exact IM.no (cutM_none fun h => by omega) (hp2.below (HB1.out.trans (HBA.out.mono HB1.out.size)) HB1.out.size)
    have hd : decide (i < 0) = false := decide_eq_false hi0
    go_wp2_with (first | (refine wpList_store_mat rfl _ _ rfl w1.heap.size (fun _ => none) g rfl rfl (World.alloc_heap_new w1 (.cells (mC fun _ => none) MA)) ?_; intro w2 hp2; have HP2 := Lib.hid hp2; clear hp2) | (refine wpList_load_mat_g (by rfl) _ rfl w1.heap.size g rfl HP2.out.heap ?_))
    refine (rows_any g N C HM.out.shp w2).mono ?_
    rintro e w3 ⟨rfl, hb3⟩
    have HB3 := Lib.hid ((HP2.out.below (HB1.out.trans (HBA.out.mono HB1.out.size)) HB1.out.size).trans (hb3.mono (HP2.out.below (HB1.out.trans (HBA.out.mono HB1.out.size)) HB1.out.size).size))
    have HX3 := Lib.hid ((hb3.block w1.heap.size (by rw [HP2.out.size]; simp)).trans HP2.out.heap)
    have HM3 := Lib.hid ((HM.out.below (HP2.out.below HBA.out (Nat.le_refl _))).below hb3)
    clear hb3
    by_cases hi1 : (N : Int) ≤ i
    · have hd2 : decide ((N : Int) ≤ i) = true := decide_eq_true hi1
      go_wp2
      go_ret2
      exact IM.no (cutM_none fun h => by have := HN.out; omega) HB3.out
    have hd2 : decide ((N : Int) ≤ i) = false := decide_eq_false hi1
    by_cases hk0 : k < 0
    · have hd3 : decide (k < 0) = true := decide_eq_true hk0
      go_wp2
      go_ret2
      exact IM.no (cutM_none fun h => by omega) HB3.out
    have hd3 : decide (k < 0) = false := decide_eq_false hk0
    go_wp2_with (refine wpList_load_mat_g (by rfl) _ rfl w1.heap.size g rfl HX3.out ?_)
    refine (columns_any g N C HM.out.shp w3).mono ?_
    rintro e w4 ⟨rfl, hb4⟩
    have HB4 := Lib.hid (HB3.out.trans (hb4.mono HB3.out.size))
    have HX4 := Lib.hid ((hb4.block w1.heap.size (Array.getElem?_eq_some_iff.1 HX3.out).1).trans HX3.out)
    have HM4 := Lib.hid (HM3.out.below hb4)
    clear hb4
    by_cases hk1 : (C : Int) ≤ k
    · have hd4 : decide ((C : Int) ≤ k) = true := decide_eq_true hk1
      go_wp2
      go_ret2
      exact IM.no (cutM_none fun h => by have := HC.out; omega) HB4.out
    have hd4 : decide ((C : Int) ≤ k) = false := decide_eq_false hk1
    obtain ⟨i, rfl⟩ : ∃ j : Nat, i = (j : Int) := ⟨i.toNat, by omega⟩
    obtain ⟨k, rfl⟩ : ∃ j : Nat, k = (j : Int) := ⟨k.toNat, by omega⟩
    have hin : i < N := by omega
    have hkn : k < C := by omega
    go_wp2_with (refine wpList_load_mat rfl _ rfl w1.heap.size g rfl HX4.out ?_)
    refine (cut_any g i k (by omega) (by omega) w4).mono ?_
    rintro e w5 ⟨rfl, hb5⟩
    have HB5 := Lib.hid (HB4.out.trans (hb5.mono HB4.out.size))
    have HM5 := Lib.hid (HM4.out.below hb5)
    clear hb5
    by_cases h2 : 2 ≤ N ∧ 2 ≤ C
    · go_wp2_with fail
      refine (toldM_any _ _ _ w.heap.size _ _ w5 (HM5.out.cut hin hkn h2.1 h2.2) HB5.out.size (by omega)).mono ?_
      rintro e w6 ⟨v, rs, rfl, ho, hr, hb6⟩
      have HO := Lib.hid ho
      have HR := Lib.hid hr
      have HB6 := Lib.hid (HB5.out.trans (hb6.mono HB5.out.size))
      clear ho hr hb6
      go_wp2
      go_ret2
      have h1 := HN.out
      have h3 := HC.out
      subst h1
      subst h3
      exact IM.yes (cutM_some HY.out h2.1 h2.2 hin hkn) HO.out HR.out HB6.out
    · have hno := cut_none HM5.out hin hkn (by omega)
      have HNO := Lib.hid hno
      clear hno
      go_wp2_with fail
      rw [HNO.out]
      refine (toldM_none w5).mono ?_
      rintro e w6 ⟨rfl, hb6⟩
      have HB6 := Lib.hid (HB5.out.trans (hb6.mono HB5.out.size))
      clear hb6
      go_wp2
      go_ret2
      exact IM.no (cutM_none fun h => by have := HN.out; have := HC.out; omega) HB6.out
  · have HNO := Lib.hid hn
    have HB1 := Lib.hid hb1
    have hbA : Below w1.heap.size w1 (w1.alloc (.cells (mC fun _ => none) MA)) := (Below.refl _ _).alloc (Nat.le_refl _) _
    have HBA := Lib.hid hbA
    clear hn hb1 hbA
    have HF : Hid (cutM M i k = none) := Lib.hid (cutM_none fun h => by rw [HNO.out] at h; exact absurd h.1 (by decide))
    by_cases hi0 : i < 0
    · have hd : decide (i < 0) = true := decide_eq_true hi0
      go_wp2_with (refine wpList_store_mat rfl _ _ rfl w1.heap.size (fun _ => none) (fun _ => none) rfl rfl (World.alloc_heap_new w1 (.cells (mC fun _ => none) MA)) ?_; intro w2 hp2)
      go_ret2
      exact IM.no HF.out (hp2.below (HB1.out.trans (HBA.out.mono HB1.out.size)) HB1.out.size)
    have hd : decide (i < 0) = false := decide_eq_false hi0
    have hd2 : decide ((0 : Int) ≤ i) = true := decide_eq_true (by omega)
    have hd5 : 0 ≤ i := by omega
    go_wp2_with (first | (refine wpList_store_mat rfl _ _ rfl w1.heap.size (fun _ => none) (fun _ => none) rfl rfl (World.alloc_heap_new w1 (.cells (mC fun _ => none) MA)) ?_; intro w2 hp2; have HP2 := Lib.hid hp2; clear hp2) | (refine wpList_load_mat_g (by rfl) _ rfl w1.heap.size (fun _ => none) rfl HP2.out.heap ?_))
    refine (rows_any (fun _ => none) 0 0 ShapeM.none w2).mono ?_
    rintro e w3 ⟨rfl, hb3⟩
    have HB3 := Lib.hid ((HP2.out.below (HB1.out.trans (HBA.out.mono HB1.out.size)) HB1.out.size).trans (hb3.mono (HP2.out.below (HB1.out.trans (HBA.out.mono HB1.out.size)) HB1.out.size).size))
    clear hb3
    go_wp2
    go_ret2
    exact IM.no HF.out HB3.out

end Go.Proofs.Ytbbkpaledlbcmaa

/- The model's l7Cut and MatrixCut. -/

namespace Go.Proofs.Ytbbkpaledlbcmaa
open Go.RowKit

def cutF (M : Mx) (i k r c : Nat) : Option Pl := some (at2 M (skip i r) (skip k c))
theorem cutF_all (M : Mx) (i k : Nat) : gridO (cutF M i k) (colsM M - 1) (M.length - 1) = some (cutL M i k) := gridO_all (fun r c => at2 M (skip i r) (skip k c)) fun _ _ _ _ => rfl
/-- As many of the first r that are not i. -/
def past (i r : Nat) : Nat := if r ≤ i then r else r - 1
theorem past_skip {i r : Nat} (h : r ≠ i) : skip i (past i r) = r := by
  unfold skip past
  split <;> split <;> omega
theorem past_succ {i r : Nat} (h : r ≠ i) : past i (r + 1) = past i r + 1 := by
  unfold past
  split <;> split <;> omega
theorem past_self (i : Nat) : past i (i + 1) = past i i := by
  unfold past
  split <;> split <;> omega
theorem past_all {i n : Nat} (h : i < n) : past i n = n - 1 := by
  unfold past
  split <;> omega

set_option maxRecDepth 100000 in
set_option maxHeartbeats 8000000 in
theorem l7Cut_any (a : Option Addr) (c n i k : Nat) (M : Mx) (w : World) (hs : IsPSS w a n M) (hb : matB M = true) (hi : i < n) (hk : k < colsM M) :
    Calls Try.prog 120 #[.slice a n c, .int .i64 (i : Int), .int .i64 (k : Int)] w fun e w' => ∃ v rs, e = .returned v ∧ OwnM w.heap.size w' v rs ∧ rowsOf rs = cutL M i k ∧ Below w.heap.size w w' := by
  obtain ⟨i0, hi0, hi1, hi2, hi3⟩ := info_parts infoPolyS
  obtain ⟨p0, hp0, hp1, hp2, hp3⟩ := info_parts infoPoly
  have hmax := hs.max
  unfold maxLen at hmax
  have hbA : Below w.heap.size w (w.alloc (.cells #[] PR)) := (Below.refl _ w).alloc (Nat.le_refl _) _
  have HBA := Lib.hid hbA
  have HMd := Lib.hid (OwnM.made w)
  have HL := Lib.hid hs.len
  have HS0 := Lib.hid hs
  obtain ⟨h4, hc4, hrows⟩ := matB_iff.1 hb
  obtain ⟨x, rfl, hxb, hx⟩ := hs.at_ (by have := hs.len; omega)
  have HS : Hid (IsPSS w (some x) n M) := HS0
  obtain ⟨m, hm⟩ : ∃ m, colsM M = m := ⟨_, rfl⟩
  rw [hm] at hc4 hk
  have HM := Lib.hid hm
  have HB0 := Lib.hid hb
  have HRL : Hid (∀ i (h : i < M.length), M[i].length = m) := Lib.hid fun i h => by rw [← hm]; exact (hrows _ (List.getElem_mem h)).1
  have hn4 : 1 ≤ n ∧ n ≤ 4 := by have := hs.len; omega
  clear hs hx hxb hm hb hrows hbA h4 HS0
  go_enter Try.func120, Try.ntmps120
  go_wp2
  go_loopw [7, 8] (fun v j wr => ∃ (r : Nat) (rs : List Rv), r ≤ n ∧ j = .int .i64 r ∧ Hid (gridO (cutF M i k) (m - 1) (past i r) = some (rowsOf rs)) ∧ Hid (OwnM w.heap.size wr v rs) ∧ Below w.heap.size w wr) (fun _ j _ => n - (intOf j).toNat)
  case atStart => exact ⟨0, [], Nat.zero_le _, rfl, Lib.hid (by rw [show past i 0 = 0 by unfold past; rw [if_pos (Nat.zero_le _)]]; rfl), HMd, HBA.out⟩
  case round =>
    obtain ⟨r, rs, hr, rfl, HG, HR, hB⟩ := hrel
    obtain ⟨U, hU⟩ : ∃ U, U = wr := ⟨_, rfl⟩
    subst hU
    by_cases hlt : r < n
    · have hrr : r < M.length := by rw [HL.out]; exact hlt
      by_cases hri : r = i
      · subst hri
        have hdr : decide ((r : Int) = (r : Int)) = true := by simp
        have HB := Lib.hid hB
        clear hB
        go_wp2
        go_roundw
        case rel => exact ⟨r + 1, rs, by omega, by go_num, Lib.hid (by rw [past_self]; exact HG.out), HR, HB.out⟩
        case measure => simp [intOf]; omega
      · have hdr : decide ((r : Int) = (i : Int)) = false := decide_eq_false (by omega)
        have hdr2 : ((r : Int) == (i : Int)) = false := beq_eq_false_iff_ne.2 (by omega)
        have HBU := Lib.hid hB
        have HRM := Lib.hid (OwnR.made U)
        have hbU : Below U.heap.size U (U.alloc (.cells #[] PO)) := (Below.refl _ U).alloc (Nat.le_refl _) _
        obtain ⟨av, cv, hv⟩ := HR.out.is_slice
        have hkl := (gridO_some HG.out).1
        rw [rowsOf_len] at hkl
        obtain ⟨pr, hpr⟩ : ∃ p, past i r = p := ⟨_, rfl⟩
        rw [hpr] at hkl
        rw [hkl] at hv
        have HKL := Lib.hid hkl
        have HPP := Lib.hid hpr
        have hpn : pr ≤ 4 := by rw [← hpr]; unfold past; split <;> omega
        clear hkl hpr
        subst hv
        clear hB
        go_wp2
        go_loopw [9, 10] (fun u j wr => ∃ (l : Nat) (xs : List Pv), l ≤ m ∧ j = .int .i64 l ∧ Hid (rowO (cutF M i k pr) (past k l) = some (xs.map (·.p))) ∧ Hid (OwnR U.heap.size wr u xs) ∧ Below U.heap.size U wr) (fun _ j _ => m - (intOf j).toNat)
        case atStart => exact ⟨0, [], Nat.zero_le _, rfl, Lib.hid (by rw [show past k 0 = 0 by unfold past; rw [if_pos (Nat.zero_le _)]]; rfl), HRM, hbU⟩
        case round =>
          obtain ⟨l, xs, hl, rfl, HO, HW, hBU⟩ := hrel
          have hB2 := HBU.out.trans (hBU.mono HBU.out.size)
          obtain ⟨au, cu, hu⟩ := HW.out.is_slice
          have hll := (rowO_some HO.out).1
          rw [List.length_map] at hll
          obtain ⟨q, hq⟩ : ∃ q, past k l = q := ⟨_, rfl⟩
          rw [hq] at hll
          rw [hll] at hu
          subst hu
          have HLL := Lib.hid hll
          have HQ := Lib.hid hq
          have hq4 : q ≤ 4 := by rw [← hq]; unfold past; split <;> omega
          clear hll hq
          obtain ⟨xr, hxr, hxbr, hxxr⟩ := HS.out.at_ (by omega)
          obtain rfl : x = xr := by simpa using hxr
          obtain ⟨ar, cr, hcr, _⟩ := hxxr r hrr
          have q0 := (hB2.cell (p := x.add r) (by rw [addr_add_block]; exact hxbr)).trans hcr
          rw [HRL.out r hrr] at q0
          clear hxr hxbr hxxr hcr
          by_cases hlt2 : l < m
          · by_cases hlk : l = k
            · subst hlk
              have hdk : decide ((l : Int) = (l : Int)) = true := by simp
              have HBUr := Lib.hid hBU
              clear hBU hB2
              go_wp2
              go_roundw
              case rel => first | exact ⟨l + 1, xs, by omega, by go_num, Lib.hid (by rw [past_self]; exact HO.out), HW, HBUr.out⟩ | exact ⟨_, l + 1, xs, by omega, by go_num, Lib.hid (by rw [past_self]; exact HO.out), HW, HBUr.out⟩ | exact ⟨_, ⟨l + 1, xs, by omega, by go_num, Lib.hid (by rw [past_self]; exact HO.out), HW, HBUr.out⟩, rfl⟩ | exact Nat
              case measure => simp [intOf]; omega
            · have hdk : decide ((l : Int) = (k : Int)) = false := decide_eq_false (by omega)
              have hdk2 : ((l : Int) == (k : Int)) = false := beq_eq_false_iff_ne.2 (by omega)
              obtain ⟨y, ci, ak, ck, e0, e1, e2, hJ, _⟩ := HS.out.cells hB2 (k := l) hrr (by rw [HRL.out r hrr]; exact hlt2)
              rw [HRL.out r hrr] at e0
              have HSK : Hid (cutF M i k pr q = some (at2 M r l)) := Lib.hid (by unfold cutF; rw [← HPP.out, ← HQ.out, past_skip hri, past_skip hlk])
              clear q0
              have hpb := matB_at HB0.out hrr (by rw [HM.out]; exact hlt2)
              obtain ⟨p, hp⟩ : ∃ p, at2 M r l = p := ⟨_, rfl⟩
              rw [hp] at e1 e2 hJ hpb
              obtain ⟨t, ht⟩ : ∃ t, p.cs.length = t := ⟨_, rfl⟩
              rw [ht] at e2 hJ
              have htl : t ≤ 200 := by have := polyB_trim hpb; omega
              have HCP := Lib.hid (l6pCopy_any p.low p.cs ak ck t wr hJ (by omega))
              have HP := Lib.hid hp
              have HBUr := Lib.hid hBU
              have hUr := hBU.size
              clear hJ hpb hp ht hB2 hBU
              go_wp2_with fail
              refine HCP.out.mono ?_
              rintro e w3 ⟨⟨v3, rfl, hr3⟩, hb3⟩
              obtain ⟨a3, _, c3, rfl, _, _, _⟩ := hr3.shape
              have hW3 := HW.out.below hb3
              have hrow3 := hW3.row
              rw [HLL.out] at hrow3
              have HROW3 := Lib.hid hrow3
              have hs3 := hb3.size
              have hbA3 := hb3.trans (((Below.refl w3.heap.size w3).alloc (Nat.le_refl _) (.cells #[.int .i64 p.low, .slice a3 p.cs.length c3] PO)).mono hs3)
              have HBA3 := Lib.hid hbA3
              have HR3 := Lib.hid (hr3.below ((Below.refl w3.heap.size w3).alloc (Nat.le_refl _) (.cells #[.int .i64 p.low, .slice a3 p.cs.length c3] PO)))
              clear hr3 hb3 hW3 hrow3 hbA3
              go_wp2_with (at_builtin; refine wpList_append_lies _ rfl _ _ _ rfl U.heap.size PO p0 _ 2 32 Try.underlying28 hp0 hp1 hp2 hp3 rfl (by omega) (.slice au q cu) q (cellsP xs) rfl (HROW3.out.alloc _) ⟨w3.heap.size, 0, none⟩ 1 1 [.int .i64 p.low, .slice a3 p.cs.length c3] rfl rfl (World.news_of_block (cs := #[.int .i64 p.low, .slice a3 p.cs.length c3]) (t := PO) (fr := (0, 0)) (heap_alloc_new w3 _)) (by simp [Value.oneCell']) (by omega) (by unfold maxLen; omega) (by omega) (by simp; omega) (w3.heap.size + 1) (by simp) ?_; intro g1 cap1 w4 hown hgrow hat hlt4)
              have hB4 : Below U.heap.size U w4 := (HBUr.out.trans (HBA3.out.mono HBUr.out.size)).grown hgrow (Nat.le_trans HBUr.out.size HBA3.out.size) fun b e => (ownsRow_lt HROW3.out b e).1
              have HW4 := Lib.hid (HW.out.push (p := p) HBA3.out HR3.out HBUr.out.size (by rw [HLL.out]; exact hown) hgrow rfl (hat.imp id fun e => by rw [e]; simp))
              have HO4 := Lib.hid (rowO_next (v := .slice a3 p.cs.length c3) HO.out (by rw [HQ.out, HSK.out, HP.out]))
              clear hown hgrow hat hlt4
              go_wp2
              go_roundw
              case rel => exact ⟨l + 1, _, by omega, by go_num, Lib.hid (by rw [past_succ hlk]; exact HO4.out), HW4, hB4⟩
              case measure => simp [intOf]; omega
          · obtain rfl : l = m := by omega
            have hqm : q = l - 1 := by rw [← HQ.out]; exact past_all hk
            subst hqm
            have HO2 : Hid (rowO (cutF M i k pr) (l - 1) = some (xs.map (·.p))) := Lib.hid (by rw [← HQ.out]; exact HO.out)
            have HBUr := Lib.hid hBU
            have hUr := hBU.size
            have HRr := Lib.hid (HR.out.below hBU)
            have hrowr := HRr.out.row
            rw [HKL.out] at hrowr
            have HROW := Lib.hid hrowr
            have HWU := Lib.hid (HBU.out.size)
            clear hB2 hBU hrowr
            have hwU := HWU.out
            go_wp2_with (at_builtin; refine wpList_append_lies _ rfl _ _ _ rfl w.heap.size PR i0 _ 1 24 Try.underlying23 hi0 hi1 hi2 hi3 rfl (by omega) (.slice av pr cv) pr (rs.map (·.u)) rfl (HROW.out.alloc _) ⟨wr.heap.size, 0, none⟩ 1 1 [.slice au (l - 1) cu] rfl rfl (World.news_of_block (cs := #[.slice au (l - 1) cu]) (t := PR) (fr := (0, 0)) (heap_alloc_new wr _)) (by simp [Value.oneCell']) (by omega) (by unfold maxLen; omega) (by omega) (by simp; omega) (wr.heap.size + 1) (by simp) ?_; intro g1 cap1 w4 hown hgrow hat hlt4)
            have hbA4 : Below U.heap.size U (wr.alloc (.cells #[.slice au (l - 1) cu] PR)) := HBUr.out.alloc hUr _
            have hB4 : Below w.heap.size w w4 := (HBU.out.trans (hbA4.mono HBU.out.size)).grown hgrow (Nat.le_trans HBU.out.size hbA4.size) fun b e => (ownsRow_lt HROW.out b e).1
            have HW4 := Lib.hid (HR.out.push (r := ⟨.slice au (l - 1) cu, xs⟩) hbA4 (HW.out.below ((Below.refl _ wr).alloc (Nat.le_refl _) _)) HBU.out.size (by rw [HKL.out]; exact hown) hgrow rfl (hat.imp id fun e => by rw [e]; simp))
            have HG4 := Lib.hid (gridO_next (f := cutF M i k) (u := .slice au (l - 1) cu) HG.out (by rw [HPP.out]; exact HO2.out))
            clear hown hgrow hat hlt4 hbA4
            go_wp2
            go_roundw
            case rel => exact ⟨r + 1, _, by omega, by go_num, Lib.hid (by rw [past_succ hri]; exact HG4.out), HW4, hB4⟩
            case measure => simp [intOf]; omega
    · obtain rfl : r = n := by omega
      have HBr := Lib.hid hB
      clear hB
      go_wp2
      go_ret
      refine ⟨_, rs, rfl, HR.out, ?_, HBr.out⟩
      have h := cutF_all M i k
      have h2 := HG.out
      rw [past_all hi] at h2
      rw [HL.out, HM.out] at h
      exact Option.some.inj (h2.symm.trans h)

end Go.Proofs.Ytbbkpaledlbcmaa

/- The model's MatrixCut. -/

namespace Go.Proofs.Ytbbkpaledlbcmaa
open Go.RowKit

set_option maxRecDepth 100000 in
set_option maxHeartbeats 8000000 in
theorem sMatrixCut_any (a : Option Addr) (c n : Nat) (M : Mx) (i k : Int) (w : World) (hs : IsPSS w a n M) :
    Calls Try.prog 47 #[.slice a n c, .int .i64 i, .int .i64 k] w (IM w (cutM M i k)) := by
  have hmax := hs.max
  unfold maxLen at hmax
  have HL := Lib.hid hs.len
  have HS := Lib.hid hs
  obtain ⟨b, hb⟩ : ∃ b, matB M = b := ⟨_, rfl⟩
  have HIN := Lib.hid (sMatrixIn_any a c n M b w hs hb)
  have HEnd : Hid (∀ w1, Below w.heap.size w w1 → cutM M i k = none → IM w (cutM M i k) (.returned (.tuple #[.slice (some ⟨w1.heap.size, 0, none⟩) 0 0, .bool false])) (w1.alloc (.cells #[] PR))) := Lib.hid fun w1 h e => by
    rw [e]
    exact ⟨⟨_, [], rfl, (OwnM.made w1).mono h.size, rfl⟩, h.alloc h.size _⟩
  cases b with
  | false =>
    have HN : Hid (cutM M i k = none) := Lib.hid (cutM_none fun h => by rw [hb] at h; exact absurd h.1 (by decide))
    clear hs hb
    go_enter Try.func47, Try.ntmps47
    go_wp2_with fail
    refine HIN.out.mono ?_
    rintro e w1 ⟨rfl, hb1⟩
    have HB1 := Lib.hid hb1
    clear hb1
    go_wp2
    go_ret2
    exact HEnd.out w1 HB1.out HN.out
  | true =>
    obtain ⟨h4, hc4, hrows⟩ := matB_iff.1 hb
    obtain ⟨x, rfl, hxb, hx⟩ := hs.at_ (by have := hs.len; omega)
    obtain ⟨a0, c0, hc0, hI0⟩ := hx 0 (by omega)
    rw [show x.add 0 = x by simp [Addr.add], (hrows _ (List.getElem_mem _)).1] at hc0
    obtain ⟨m, hm⟩ : ∃ m, colsM M = m := ⟨_, rfl⟩
    rw [hm] at hc0 hc4
    have HX0 := Lib.hid hc0
    have HXB := Lib.hid hxb
    have HM := Lib.hid hm
    have HB0 := Lib.hid hb
    have hn4 : 1 ≤ n ∧ n ≤ 4 := by have := hs.len; omega
    have h0i : (0 : Int) < (n : Int) := by omega
    clear hs hx hc0 hI0 hxb hm hb hrows h4
    go_enter Try.func47, Try.ntmps47
    go_wp2_with fail
    refine HIN.out.mono ?_
    rintro e w1 ⟨rfl, hb1⟩
    have q0 := (hb1.cell (p := x) HXB.out).trans HX0.out
    have HB1 := Lib.hid hb1
    clear hb1
    by_cases hn2 : n < 2
    · have hd : decide ((n : Int) < 2) = true := decide_eq_true (by omega)
      have HN : Hid (cutM M i k = none) := Lib.hid (cutM_none fun h => by have := HL.out; omega)
      go_wp2
      go_ret2
      exact HEnd.out w1 HB1.out HN.out
    have hd : decide ((n : Int) < 2) = false := decide_eq_false (by omega)
    by_cases hm2 : m < 2
    · have hd2 : decide ((m : Int) < 2) = true := decide_eq_true (by omega)
      have HN : Hid (cutM M i k = none) := Lib.hid (cutM_none fun h => by have := HM.out; omega)
      go_wp2
      go_ret2
      exact HEnd.out w1 HB1.out HN.out
    have hd2 : decide ((m : Int) < 2) = false := decide_eq_false (by omega)
    have hw1 : IntKind.i64.wrap ((n : Int) - 1) = (n : Int) - 1 := IntWalk.i64_in _ (by omega)
    have hw2 : IntKind.i64.wrap ((m : Int) - 1) = (m : Int) - 1 := IntWalk.i64_in _ (by omega)
    by_cases hi : 0 ≤ i ∧ i ≤ (n : Int) - 1
    case neg =>
      have HN : Hid (cutM M i k = none) := Lib.hid (cutM_none fun h => hi (by have := HL.out; omega))
      go_wp2_with fail
      refine (l6In_eq _ _ _ false _ (inR_no hi)).mono ?_
      rintro e w2 ⟨rfl, rfl⟩
      go_wp2
      go_ret2
      exact HEnd.out w1 HB1.out HN.out
    by_cases hk : 0 ≤ k ∧ k ≤ (m : Int) - 1
    case neg =>
      have HN : Hid (cutM M i k = none) := Lib.hid (cutM_none fun h => hk (by have := HM.out; omega))
      go_wp2_with fail
      refine (l6In_eq _ _ _ true _ (inR_yes hi)).mono ?_
      rintro e w2 ⟨rfl, rfl⟩
      go_wp2_with fail
      refine (l6In_eq _ _ _ false _ (inR_no hk)).mono ?_
      rintro e w2 ⟨rfl, rfl⟩
      go_wp2
      go_ret2
      exact HEnd.out w1 HB1.out HN.out
    obtain ⟨i, rfl⟩ : ∃ j : Nat, i = (j : Int) := ⟨i.toNat, by omega⟩
    obtain ⟨k, rfl⟩ : ∃ j : Nat, k = (j : Int) := ⟨k.toNat, by omega⟩
    have hin : i < n := by omega
    have hkm : k < m := by omega
    go_wp2_with fail
    refine (l6In_eq _ _ _ true _ (inR_yes hi)).mono ?_
    rintro e w2 ⟨rfl, rfl⟩
    go_wp2_with fail
    refine (l6In_eq _ _ _ true _ (inR_yes hk)).mono ?_
    rintro e w2 ⟨rfl, rfl⟩
    go_wp2_with fail
    refine (l7Cut_any _ c n i k M w1 (HS.out.below HB1.out) HB0.out hin (by rw [HM.out]; exact hkm)).mono ?_
    rintro e w2 ⟨v, rs, rfl, ho, hr, hb2⟩
    have HO := Lib.hid ho
    have HR := Lib.hid hr
    have HB2 := Lib.hid (HB1.out.trans (hb2.mono HB1.out.size))
    clear ho hr hb2
    go_wp2
    go_ret2
    exact IM.yes (cutM_some HB0.out (by have := HL.out; omega) (by have := HM.out; omega) (by rw [HL.out]; exact hin) (by rw [HM.out]; exact hkm)) (HO.out.mono HB1.out.size) HR.out HB2.out

end Go.Proofs.Ytbbkpaledlbcmaa

/- The program's MatrixOne. -/

namespace Go.Proofs.Ytbbkpaledlbcmaa
open Go.RowKit Go.Shelf

def oneF (i k : Nat) : Option Pl := some (if i = k then ⟨0, [1]⟩ else zeroP)
def oneZ (n : Int) : Option Mx := if 1 ≤ n ∧ n ≤ 4 then gridO oneF n.toNat n.toNat else none
theorem oneZ_none {n : Int} (h : ¬ (1 ≤ n ∧ n ≤ 4)) : oneZ n = none := if_neg h
theorem oneZ_some {n : Nat} (h : 1 ≤ n ∧ n ≤ 4) : oneZ (n : Int) = some (gridL (fun i k => if i = k then ⟨0, [1]⟩ else zeroP) n n) := by
  unfold oneZ
  rw [if_pos (by omega)]
  exact gridO_all _ fun _ _ _ _ => rfl
theorem poly_one_B : polyB ⟨0, [1]⟩ = true := by decide
theorem zero_B : polyB zeroP = true := by decide
theorem gridL_congr {P Q : Nat → Nat → Pl} {n m : Nat} (h : ∀ i k, i < n → k < m → P i k = Q i k) : gridL P n m = gridL Q n m := by
  unfold gridL
  refine List.map_congr_left fun i hi => List.map_congr_left fun k hk => ?_
  exact h i k (List.mem_range.1 hi) (List.mem_range.1 hk)

set_option maxRecDepth 100000 in
set_option maxHeartbeats 2000000 in
theorem one1_any (i k : Nat) (w : World) :
    Calls Try.prog 94 #[.int .i64 (i : Int), .int .i64 (k : Int)] w (AtE w (oneF i k)) := by
  by_cases h : i = k
  · subst h
    have hd : decide ((i : Int) = (i : Int)) = true := by simp
    have hF : Hid (oneF i i = some ⟨0, [1]⟩) := Lib.hid (by unfold oneF; rw [if_pos rfl])
    go_enter Try.func94, Try.ntmps94
    go_wp2
    have h := World.ownsRow_lit (base := w.heap.size) (e := 3) (size := 1) (w.alloc (.cells #[.int .i64 0, .slice (some ⟨w.heap.size + 1, 0, none⟩) 1 1] 35)) #[.int .i64 1] 1 (by simp) (by unfold maxLen; omega) rfl
    rw [World.size_alloc] at h
    have hB : Below w.heap.size w ((w.alloc (.cells #[.int .i64 0, .slice (some ⟨w.heap.size + 1, 0, none⟩) 1 1] 35)).alloc (.cells #[.int .i64 1] 3)) := ((Below.refl _ w).alloc (Nat.le_refl _) _).alloc (by simp) _
    have hA : AtE w (oneF i i) (.returned (.tuple #[plV 0 (.slice (some ⟨w.heap.size + 1, 0, none⟩) 1 1), .bool true])) ((w.alloc (.cells #[.int .i64 0, .slice (some ⟨w.heap.size + 1, 0, none⟩) 1 1] 35)).alloc (.cells #[.int .i64 1] 3)) :=
      ⟨.inr ⟨⟨0, [1]⟩, _, _, _, hF.out, rfl, h⟩, hB⟩
    refine bodyPost_ret (v := .tuple #[plV 0 (.slice (some ⟨w.heap.size + 1, 0, none⟩) 1 1), .bool true]) ?_ rfl hA
    simp [results, Try.results94, go_sem, plV]
  · have hd : decide ((i : Int) = (k : Int)) = false := decide_eq_false (by omega)
    have hF : Hid (oneF i k = some zeroP) := Lib.hid (by unfold oneF; rw [if_neg h])
    go_enter Try.func94, Try.ntmps94
    go_wp2
    have hA : AtE w (oneF i k) (.returned (.tuple #[plV 0 (.slice none 0 0), .bool true])) (w.alloc (.cells #[.int .i64 0, .slice none 0 0] 35)) :=
      ⟨.inr ⟨zeroP, _, _, _, hF.out, rfl, intNil _ _⟩, (Below.refl _ w).alloc (Nat.le_refl _) _⟩
    refine bodyPost_ret (v := .tuple #[plV 0 (.slice none 0 0), .bool true]) ?_ rfl hA
    simp [results, Try.results94, go_sem, plV]

set_option maxRecDepth 100000 in
set_option maxHeartbeats 2000000 in
theorem iMatrixOne_any (n : Int) (w : World) :
    Calls Try.prog 27 #[.int .i64 n] w (IM w (oneZ n)) := by
  by_cases h1 : n < 1
  · have hd : decide (n < 1) = true := decide_eq_true h1
    go_enter Try.func27, Try.ntmps27
    go_wp2
    go_ret2
    exact IM.no (oneZ_none (by omega)) (Below.refl _ _)
  have hd : decide (n < 1) = false := decide_eq_false h1
  by_cases h4 : 4 < n
  · have hd2 : decide (4 < n) = true := decide_eq_true h4
    go_enter Try.func27, Try.ntmps27
    go_wp2
    go_ret2
    exact IM.no (oneZ_none (by omega)) (Below.refl _ _)
  have hd2 : decide (4 < n) = false := decide_eq_false h4
  obtain ⟨n, rfl⟩ : ∃ j : Nat, n = (j : Int) := ⟨n.toNat, by omega⟩
  have hn : 1 ≤ n ∧ n ≤ 4 := by omega
  go_enter Try.func27, Try.ntmps27
  go_wp2_with fail
  refine (matrixBy_any _ #[] n n oneF w hn.2 hn.2 Iff.rfl (fun _ _ => by go_simp) fun i k W _ _ _ => one1_any i k W).mono ?_
  rintro e w1 ⟨⟨⟨i, k, _, _, hno⟩, rfl⟩ | ⟨g, P, pv, hP, rfl, hM⟩, hb1⟩
  · unfold oneF at hno; cases hno
  · have HM := Lib.hid (hM.congr (Q := fun i k => if i = k then ⟨0, [1]⟩ else zeroP) fun i k hi hk => by
      have := hP i k hi hk
      unfold oneF at this
      exact (Option.some.inj this).symm)
    have HB1 := Lib.hid hb1
    clear hM hP hb1
    go_wp2_with fail
    refine (toldM_any g n n w.heap.size _ _ w1 HM.out HB1.out.size (by omega)).mono ?_
    rintro e w2 ⟨v, rs, rfl, ho, hr, hb2⟩
    have HO := Lib.hid ho
    have HR := Lib.hid hr
    have HB2 := Lib.hid (HB1.out.trans (hb2.mono HB1.out.size))
    clear ho hr hb2
    go_wp2
    go_ret2
    exact IM.yes (oneZ_some hn) HO.out HR.out HB2.out

theorem good_one (n : Int) : GoodM ((oneZ n).getD []) := by
  by_cases h : 1 ≤ n ∧ n ≤ 4
  · have e : oneZ n = gridO oneF n.toNat n.toNat := if_pos h
    rw [e]
    cases e2 : gridO oneF n.toNat n.toNat with
    | none => exact GoodM.nil
    | some R =>
      refine GoodM.grid e2 (by omega) (by omega) fun i k p _ _ hp => ?_
      unfold oneF at hp
      simp only [Option.some.injEq] at hp
      subst hp
      split
      · exact poly_one_B
      · exact zero_B
  · rw [oneZ_none h]
    exact GoodM.nil

end Go.Proofs.Ytbbkpaledlbcmaa

/- The model's MatrixOne. -/

namespace Go.Proofs.Ytbbkpaledlbcmaa
open Go.RowKit

set_option maxRecDepth 100000 in
set_option maxHeartbeats 2000000 in
theorem l7Zero_any (w : World) :
    Calls Try.prog 101 #[] w fun e w' => (∃ v, e = .returned (plV 0 v) ∧ IntRow w.heap.size w' v []) ∧ Below w.heap.size w w' := by
  go_enter Try.func101, Try.ntmps101
  go_wp2
  have h := World.ownsRow_made (base := w.heap.size) (e := 3) (size := 1) (w.alloc (.cells #[.int .i64 0, .slice (some ⟨w.heap.size + 1, 0, none⟩) 0 0] 35)) #[] 0 (by simp) (Nat.zero_le _) rfl
  rw [World.size_alloc] at h
  have hB : Below w.heap.size w ((w.alloc (.cells #[.int .i64 0, .slice (some ⟨w.heap.size + 1, 0, none⟩) 0 0] 35)).alloc (.cells #[] 3)) := ((Below.refl _ w).alloc (Nat.le_refl _) _).alloc (by simp) _
  refine bodyPost_ret (v := plV 0 (.slice (some ⟨w.heap.size + 1, 0, none⟩) 0 0)) ?_ rfl ⟨⟨_, rfl, h⟩, hB⟩
  simp [results, Try.results101, go_sem, plV]

set_option maxRecDepth 100000 in
set_option maxHeartbeats 8000000 in
theorem sMatrixOne_any (n : Int) (w : World) :
    Calls Try.prog 31 #[.int .i64 n] w (IM w (oneZ n)) := by
  obtain ⟨i0, hi0, hi1, hi2, hi3⟩ := info_parts infoPolyS
  obtain ⟨p0, hp0, hp1, hp2, hp3⟩ := info_parts infoPoly
  have hbA : Below w.heap.size w (w.alloc (.cells #[] PR)) := (Below.refl _ w).alloc (Nat.le_refl _) _
  have HBA := Lib.hid hbA
  have HMd := Lib.hid (OwnM.made w)
  by_cases h14 : 1 ≤ n ∧ n ≤ 4
  case neg =>
    clear hbA
    go_enter Try.func31, Try.ntmps31
    go_wp2_with fail
    refine (l6In_eq _ _ _ false _ (inR_no h14)).mono ?_
    rintro e w1 ⟨rfl, rfl⟩
    go_wp2
    go_ret2
    exact ⟨⟨_, [], by rw [oneZ_none h14]; rfl, HMd.out, by rw [oneZ_none h14]; rfl⟩, HBA.out⟩
  obtain ⟨n, rfl⟩ : ∃ j : Nat, n = (j : Int) := ⟨n.toNat, by omega⟩
  have hn4 : 1 ≤ n ∧ n ≤ 4 := by omega
  clear hbA
  go_enter Try.func31, Try.ntmps31
  go_wp2_with fail
  refine (l6In_eq _ _ _ true _ (inR_yes h14)).mono ?_
  rintro e w1 ⟨rfl, rfl⟩
  go_wp2
  go_loopw [4, 5] (fun v i wr => ∃ (k : Nat) (rs : List Rv), k ≤ n ∧ i = .int .i64 k ∧ Hid (gridO oneF n k = some (rowsOf rs)) ∧ Hid (OwnM w.heap.size wr v rs) ∧ Below w.heap.size w wr) (fun _ i _ => n - (intOf i).toNat)
  case atStart => exact ⟨0, [], Nat.zero_le _, rfl, Lib.hid rfl, HMd, HBA.out⟩
  case round =>
      obtain ⟨k, rs, hk, rfl, HG, HR, hB⟩ := hrel
      obtain ⟨U, hU⟩ : ∃ U, U = wr := ⟨_, rfl⟩
      subst hU
      by_cases hlt : k < n
      · have HBU := Lib.hid hB
        have HRM := Lib.hid (OwnR.made U)
        have hbU : Below U.heap.size U (U.alloc (.cells #[] PO)) := (Below.refl _ U).alloc (Nat.le_refl _) _
        obtain ⟨av, cv, hv⟩ := HR.out.is_slice
        have hkl := (gridO_some HG.out).1
        rw [rowsOf_len] at hkl
        rw [hkl] at hv
        have HKL := Lib.hid hkl
        clear hkl
        subst hv
        clear hB
        go_wp2
        go_loopw [6, 7] (fun u i wr => ∃ (l : Nat) (xs : List Pv), l ≤ n ∧ i = .int .i64 l ∧ Hid (rowO (oneF k) l = some (xs.map (·.p))) ∧ Hid (OwnR U.heap.size wr u xs) ∧ Below U.heap.size U wr) (fun _ i _ => n - (intOf i).toNat)
        case atStart => exact ⟨0, [], Nat.zero_le _, rfl, Lib.hid rfl, HRM, hbU⟩
        case round =>
          obtain ⟨l, xs, hl, rfl, HO, HW, hBU⟩ := hrel
          obtain ⟨au, cu, hu⟩ := HW.out.is_slice
          have hll := (rowO_some HO.out).1
          rw [List.length_map] at hll
          rw [hll] at hu
          subst hu
          have HLL := Lib.hid hll
          clear hll
          by_cases hlt2 : l < n
          · have HBUr := Lib.hid hBU
            have hUr := hBU.size
            by_cases hkl : k = l
            · have hdk : decide ((k : Int) = (l : Int)) = true := decide_eq_true (by omega)
              have hdk2 : ((k : Int) == (l : Int)) = true := beq_iff_eq.2 (by omega)
              have HP : Hid (oneF k l = some ⟨0, [1]⟩) := Lib.hid (by unfold oneF; rw [if_pos hkl])
              obtain ⟨w3, hw3⟩ : ∃ w3, wr.alloc (.cells #[.int .i64 1] 3) = w3 := ⟨_, rfl⟩
              have hb3 : Below wr.heap.size wr w3 := by rw [← hw3]; exact (Below.refl _ _).alloc (Nat.le_refl _) _
              have hr3 : IntRow wr.heap.size w3 (.slice (some ⟨wr.heap.size, 0, none⟩) 1 1) [1] := by
                rw [← hw3]
                exact World.ownsRow_lit (base := wr.heap.size) (e := 3) (size := 1) wr #[.int .i64 1] 1 (Nat.le_refl _) (by unfold maxLen; omega) rfl
              have hW3 := HW.out.below hb3
              have hrow3 := hW3.row
              rw [HLL.out] at hrow3
              have hs3 := hb3.size
              have hs4 : w3.heap.size = wr.heap.size + 1 := by rw [← hw3]; simp
              have hbA3 := hb3.trans (((Below.refl w3.heap.size w3).alloc (Nat.le_refl _) (.cells #[.int .i64 0, .slice (some ⟨wr.heap.size, 0, none⟩) 1 1] PO)).mono hs3)
              have HR3 := Lib.hid (hr3.below ((Below.refl w3.heap.size w3).alloc (Nat.le_refl _) (.cells #[.int .i64 0, .slice (some ⟨wr.heap.size, 0, none⟩) 1 1] PO)))
              have hnews : (w3.alloc (.cells #[.int .i64 0, .slice (some ⟨wr.heap.size, 0, none⟩) 1 1] PO)).heap[wr.heap.size + 1]? = some (.cells #[.int .i64 0, .slice (some ⟨wr.heap.size, 0, none⟩) 1 1] PO (0, 0)) := by
                rw [← hs4]; exact heap_alloc_new w3 _
              have hszA : (w3.alloc (.cells #[.int .i64 0, .slice (some ⟨wr.heap.size, 0, none⟩) 1 1] PO)).heap.size = wr.heap.size + 2 := by simp; omega
              have HSA := Lib.hid hszA
              have hrowA := hrow3.alloc (.cells #[.int .i64 0, .slice (some ⟨wr.heap.size, 0, none⟩) 1 1] PO)
              rw [← hw3] at hbA3 hnews hrowA HR3 HSA
              have HROWA := Lib.hid hrowA
              have HBA3 := Lib.hid hbA3
              have HNEWS := Lib.hid hnews
              clear hr3 hb3 hW3 hrow3 hbA3 hBU hw3 hnews hszA hrowA hs3 hs4 hkl
              go_wp2_with (at_builtin; refine wpList_append_lies _ rfl _ _ _ rfl U.heap.size PO p0 _ 2 32 Try.underlying28 hp0 hp1 hp2 hp3 rfl (by omega) (.slice au l cu) l (cellsP xs) rfl HROWA.out ⟨wr.heap.size + 1, 0, none⟩ 1 1 [.int .i64 0, .slice (some ⟨wr.heap.size, 0, none⟩) 1 1] rfl rfl (World.news_of_block (cs := #[.int .i64 0, .slice (some ⟨wr.heap.size, 0, none⟩) 1 1]) (t := PO) (fr := (0, 0)) HNEWS.out) (by simp [Value.oneCell']) (by omega) (by unfold maxLen; omega) (by omega) (by rw [HSA.out]; omega) (wr.heap.size + 2) HSA.out ?_; intro g1 cap1 w4 hown hgrow hat hlt4)
              have hB4 : Below U.heap.size U w4 := (HBUr.out.trans (HBA3.out.mono HBUr.out.size)).grown hgrow (Nat.le_trans HBUr.out.size HBA3.out.size) fun b e => (ownsRow_lt HROWA.out b e).1
              have HW4 := Lib.hid (HW.out.push (p := ⟨0, [1]⟩) HBA3.out HR3.out HBUr.out.size (by rw [HLL.out]; exact hown) hgrow rfl (hat.imp id fun e => by rw [e, HSA.out]; omega))
              have HO4 := Lib.hid (rowO_next (v := .slice (some ⟨wr.heap.size, 0, none⟩) 1 1) HO.out HP.out)
              clear hown hgrow hat hlt4
              go_wp2
              go_roundw
              case rel => exact ⟨l + 1, _, by omega, by go_num, HO4, HW4, hB4⟩
              case measure => simp [intOf]; omega
            · have hdk : decide ((k : Int) = (l : Int)) = false := decide_eq_false (by omega)
              have hdk2 : ((k : Int) == (l : Int)) = false := beq_eq_false_iff_ne.2 (by omega)
              have HP : Hid (oneF k l = some ⟨0, []⟩) := Lib.hid (by unfold oneF; rw [if_neg hkl]; rfl)
              clear hBU
              go_wp2_with fail
              refine (l7Zero_any wr).mono ?_
              rintro e w3 ⟨⟨v3, rfl, hr3⟩, hb3⟩
              obtain ⟨a3, _, c3, rfl, _, _, _⟩ := hr3.shape
              have hW3 := HW.out.below hb3
              have hrow3 := hW3.row
              rw [HLL.out] at hrow3
              have HROW3 := Lib.hid hrow3
              have hs3 := hb3.size
              have hbA3 := hb3.trans (((Below.refl w3.heap.size w3).alloc (Nat.le_refl _) (.cells #[.int .i64 0, .slice a3 0 c3] PO)).mono hs3)
              have HBA3 := Lib.hid hbA3
              have HR3 := Lib.hid (hr3.below ((Below.refl w3.heap.size w3).alloc (Nat.le_refl _) (.cells #[.int .i64 0, .slice a3 0 c3] PO)))
              clear hr3 hb3 hW3 hrow3 hbA3
              go_wp2_with (at_builtin; refine wpList_append_lies _ rfl _ _ _ rfl U.heap.size PO p0 _ 2 32 Try.underlying28 hp0 hp1 hp2 hp3 rfl (by omega) (.slice au l cu) l (cellsP xs) rfl (HROW3.out.alloc _) ⟨w3.heap.size, 0, none⟩ 1 1 [.int .i64 0, .slice a3 0 c3] rfl rfl (World.news_of_block (cs := #[.int .i64 0, .slice a3 0 c3]) (t := PO) (fr := (0, 0)) (heap_alloc_new w3 _)) (by simp [Value.oneCell']) (by omega) (by unfold maxLen; omega) (by omega) (by simp; omega) (w3.heap.size + 1) (by simp) ?_; intro g1 cap1 w4 hown hgrow hat hlt4)
              have hB4 : Below U.heap.size U w4 := (HBUr.out.trans (HBA3.out.mono HBUr.out.size)).grown hgrow (Nat.le_trans HBUr.out.size HBA3.out.size) fun b e => (ownsRow_lt HROW3.out b e).1
              have HW4 := Lib.hid (HW.out.push (p := ⟨0, []⟩) HBA3.out HR3.out HBUr.out.size (by rw [HLL.out]; exact hown) hgrow rfl (hat.imp id fun e => by rw [e]; simp))
              have HO4 := Lib.hid (rowO_next (v := .slice a3 0 c3) HO.out HP.out)
              clear hown hgrow hat hlt4
              go_wp2
              go_roundw
              case rel => exact ⟨l + 1, _, by omega, by go_num, HO4, HW4, hB4⟩
              case measure => simp [intOf]; omega
          · obtain rfl : l = n := by omega
            have HBUr := Lib.hid hBU
            have hUr := hBU.size
            have HRr := Lib.hid (HR.out.below hBU)
            have hrowr := HRr.out.row
            rw [HKL.out] at hrowr
            have HROW := Lib.hid hrowr
            have HWU := Lib.hid (HBU.out.size)
            clear hBU hrowr
            have hwU := HWU.out
            go_wp2_with (at_builtin; refine wpList_append_lies _ rfl _ _ _ rfl w.heap.size PR i0 _ 1 24 Try.underlying23 hi0 hi1 hi2 hi3 rfl (by omega) (.slice av k cv) k (rs.map (·.u)) rfl (HROW.out.alloc _) ⟨wr.heap.size, 0, none⟩ 1 1 [.slice au l cu] rfl rfl (World.news_of_block (cs := #[.slice au l cu]) (t := PR) (fr := (0, 0)) (heap_alloc_new wr _)) (by simp [Value.oneCell']) (by omega) (by unfold maxLen; omega) (by omega) (by simp; omega) (wr.heap.size + 1) (by simp) ?_; intro g1 cap1 w4 hown hgrow hat hlt4)
            have hbA4 : Below U.heap.size U (wr.alloc (.cells #[.slice au l cu] PR)) := HBUr.out.alloc hUr _
            have hB4 : Below w.heap.size w w4 := (HBU.out.trans (hbA4.mono HBU.out.size)).grown hgrow (Nat.le_trans HBU.out.size hbA4.size) fun b e => (ownsRow_lt HROW.out b e).1
            have HW4 := Lib.hid (HR.out.push (r := ⟨.slice au l cu, xs⟩) hbA4 (HW.out.below ((Below.refl _ wr).alloc (Nat.le_refl _) _)) HBU.out.size (by rw [HKL.out]; exact hown) hgrow rfl (hat.imp id fun e => by rw [e]; simp))
            have HG4 := Lib.hid (gridO_next (f := oneF) (u := .slice au l cu) HG.out HO.out)
            clear hown hgrow hat hlt4 hbA4
            go_wp2
            go_roundw
            case rel => exact ⟨k + 1, _, by omega, by go_num, HG4, HW4, hB4⟩
            case measure => simp [intOf]; omega
      · obtain rfl : k = n := by omega
        have HBr := Lib.hid hB
        clear hB
        go_wp2
        go_ret2
        have hF : oneZ (k : Int) = some (rowsOf rs) := by
          unfold oneZ
          rw [if_pos h14]
          exact HG.out
        exact IM.yes hF HR.out rfl HBr.out

end Go.Proofs.Ytbbkpaledlbcmaa

/- Division, one step after the other (mathematics). -/

namespace Go.Proofs.Ytbbkpaledlbcmaa
open Go.RowKit

/-- What comes out when so many have been found and so much is left. -/
def divFrom (bs qs : List Int) (n : Nat) (left : List Int) : Option (List Int × List Int) := (divGo bs n left).map fun p => (qs ++ p.1, p.2)
theorem divFrom_start (bs : List Int) (n : Nat) (left : List Int) : divFrom bs [] n left = divGo bs n left := by
  unfold divFrom
  cases divGo bs n left with
  | none => rfl
  | some p => rfl
theorem divFrom_step {bs qs left : List Int} {n : Nat} (h : stepB bs left = true) : divFrom bs qs (n + 1) left = divFrom bs (qs ++ [stepQ bs left]) n (subQ (stepQ bs left) bs left).tail := by
  unfold divFrom
  rw [divGo, if_pos h]
  cases divGo bs n (subQ (stepQ bs left) bs left).tail with
  | none => rfl
  | some p => simp
theorem divFrom_fail {bs qs left : List Int} {n : Nat} (h : stepB bs left = false) : divFrom bs qs (n + 1) left = none := by
  unfold divFrom
  rw [divGo, if_neg (by rw [h]; exact Bool.false_ne_true)]
  rfl
theorem divFrom_end (bs qs left : List Int) : divFrom bs qs 0 left = some (qs, left) := by
  unfold divFrom
  simp [divGo]

def LeftOK (left : List Int) : Prop := ∀ i, -4000000000000000000 ≤ left.getD i 0 ∧ left.getD i 0 ≤ 4000000000000000000
theorem step_parts {bs left : List Int} (h : stepB bs left = true) : (left.getD 0 0).tmod (bs.getD 0 0) = 0 ∧ coefIn (stepQ bs left) = true ∧ ∀ i, i < bs.length → leftIn (left.getD i 0 - stepQ bs left * bs.getD i 0) = true := by
  unfold stepB at h
  simp only [Bool.and_eq_true, decide_eq_true_eq, List.all_eq_true, List.mem_range] at h
  exact ⟨h.1, h.2.1, h.2.2⟩
theorem step_yes {bs left : List Int} (h1 : (left.getD 0 0).tmod (bs.getD 0 0) = 0) (h2 : coefIn (stepQ bs left) = true) (h3 : ∀ i, i < bs.length → leftIn (left.getD i 0 - stepQ bs left * bs.getD i 0) = true) : stepB bs left = true := by
  unfold stepB
  simp only [Bool.and_eq_true, decide_eq_true_eq, List.all_eq_true, List.mem_range]
  exact ⟨h1, h2, h3⟩
theorem step_no1 {bs left : List Int} (h1 : ¬ (left.getD 0 0).tmod (bs.getD 0 0) = 0) : stepB bs left = false := by
  cases h : stepB bs left with
  | false => rfl
  | true => exact absurd (step_parts h).1 h1
theorem step_no2 {bs left : List Int} (h2 : coefIn (stepQ bs left) = false) : stepB bs left = false := by
  cases h : stepB bs left with
  | false => rfl
  | true => rw [(step_parts h).2.1] at h2; exact absurd h2 (by decide)
theorem step_no3 {bs left : List Int} {i : Nat} (hi : i < bs.length) (h3 : leftIn (left.getD i 0 - stepQ bs left * bs.getD i 0) = false) : stepB bs left = false := by
  cases h : stepB bs left with
  | false => rfl
  | true => rw [(step_parts h).2.2 i hi] at h3; exact absurd h3 (by decide)
theorem leftIn_yes {z : Int} (h : leftIn z = true) : -4000000000000000000 ≤ z ∧ z ≤ 4000000000000000000 := by
  unfold leftIn inR at h
  simpa using h
theorem step_left {bs left : List Int} (hb : bs.length ≤ left.length) (h : stepB bs left = true) (hl : LeftOK left) : LeftOK (subQ (stepQ bs left) bs left).tail := fun i => by
  rw [tail_get, subQ_get _ _ _ _ hb]
  by_cases hi : i + 1 < bs.length
  · exact leftIn_yes ((step_parts h).2.2 (i + 1) hi)
  · rw [getD_far (l := bs) (by omega), Int.mul_zero, Int.sub_zero]
    exact hl _
theorem step_tail_len {bs left : List Int} (q : Int) {n : Nat} (h : left.length = n + 1) : (subQ q bs left).tail.length = n := by
  rw [List.length_tail, subQ_len, h]
  rfl
theorem step_head {bs left : List Int} (hb : bs.length ≤ left.length) (h : (left.getD 0 0).tmod (bs.getD 0 0) = 0) : (subQ (stepQ bs left) bs left).getD 0 0 = 0 := by
  rw [subQ_get _ _ _ _ hb]
  have e := Int.mul_tdiv_add_tmod (left.getD 0 0) (bs.getD 0 0)
  rw [h, Int.add_zero, Int.mul_comm] at e
  unfold stepQ
  omega
theorem tdiv_size {z b : Int} : -(z.natAbs : Int) ≤ z.tdiv b ∧ z.tdiv b ≤ (z.natAbs : Int) := by
  have h : (z.tdiv b).natAbs ≤ z.natAbs := by
    rw [Int.natAbs_tdiv]
    exact Nat.div_le_self _ _
  omega
theorem tmod_size {z b : Int} : -(z.natAbs : Int) ≤ z.tmod b ∧ z.tmod b ≤ (z.natAbs : Int) := by
  have h : (z.tmod b).natAbs ≤ z.natAbs := by
    rw [Int.natAbs_tmod]
    exact Nat.mod_le _ _
  omega

/-! ### The row in which what is left stands -/
def rowG (i : Nat) (left : List Int) (j : Nat) : Int := if j < i then 0 else left.getD (j - i) 0
def rowF (i k : Nat) (q : Int) (bs left : List Int) (j : Nat) : Int := if j < i then 0 else if j < i + k then left.getD (j - i) 0 - q * bs.getD (j - i) 0 else left.getD (j - i) 0
theorem rowG_zero (left : List Int) (n : Nat) (h : left.length = n) : listN (rowG 0 left) n = left := by
  subst h
  rw [listN_congr (g := fun i => left.getD i 0) (fun i _ => by unfold rowG; rw [if_neg (by omega), Nat.sub_zero]), listN_self]
theorem rowF_zero (i : Nat) (q : Int) (bs left : List Int) (n : Nat) : listN (rowF i 0 q bs left) n = listN (rowG i left) n :=
  listN_congr fun j _ => by
    unfold rowF rowG
    by_cases h : j < i
    · rw [if_pos h, if_pos h]
    · rw [if_neg h, if_neg h, if_neg (by omega)]
theorem rowF_next (i k : Nat) (q : Int) (bs left : List Int) (n : Nat) {x : Int} (hx : left.getD k 0 - q * bs.getD k 0 = x) : (intsV (listN (rowF i k q bs left) n)).set (i + k) (.int .i64 x) = intsV (listN (rowF i (k + 1) q bs left) n) :=
  listN_set (fun j hj => by
    unfold rowF
    by_cases h : j < i
    · rw [if_pos h, if_pos h]
    · rw [if_neg h, if_neg h]
      by_cases h2 : j < i + k
      · rw [if_pos h2, if_pos (by omega)]
      · rw [if_neg h2, if_neg (by omega)]) (by
    unfold rowF
    rw [if_neg (by omega), if_pos (by omega), show i + k - i = k by omega, hx])
theorem rowF_at (i k : Nat) (q : Int) (bs left : List Int) : rowF i k q bs left (i + k) = left.getD k 0 := by
  unfold rowF
  rw [if_neg (by omega), if_neg (by omega), show i + k - i = k by omega]
theorem rowG_at (i k : Nat) (left : List Int) : rowG i left (i + k) = left.getD k 0 := by
  unfold rowG
  rw [if_neg (by omega), show i + k - i = k by omega]
theorem rowF_done (i : Nat) (bs left : List Int) (n : Nat) (hb : bs.length ≤ left.length) (h : (left.getD 0 0).tmod (bs.getD 0 0) = 0) : listN (rowF i bs.length (stepQ bs left) bs left) n = listN (rowG (i + 1) (subQ (stepQ bs left) bs left).tail) n :=
  listN_congr fun j _ => by
    unfold rowF rowG
    by_cases h1 : j < i
    · rw [if_pos h1, if_pos (by omega)]
    · rw [if_neg h1]
      have e : (if j < i + bs.length then left.getD (j - i) 0 - stepQ bs left * bs.getD (j - i) 0 else left.getD (j - i) 0) = (subQ (stepQ bs left) bs left).getD (j - i) 0 := by
        rw [subQ_get _ _ _ _ hb]
        by_cases h2 : j < i + bs.length
        · rw [if_pos h2]
        · rw [if_neg h2, getD_far (l := bs) (by omega), Int.mul_zero, Int.sub_zero]
      rw [e]
      by_cases h3 : j = i
      · subst h3
        rw [if_pos (by omega), Nat.sub_self, step_head hb h]
      · rw [if_neg (by omega), tail_get, show j - (i + 1) + 1 = j - i by omega]
theorem zeroL_yes {l : List Int} (h : ∀ i, i < l.length → l.getD i 0 = 0) : zeroL l = true := by
  unfold zeroL
  rw [List.all_eq_true]
  intro z hz
  obtain ⟨i, hi, rfl⟩ := List.mem_iff_getElem.1 hz
  have := h i hi
  rw [List.getD_eq_getElem?_getD, List.getElem?_eq_getElem hi] at this
  exact decide_eq_true this
theorem zeroL_no {l : List Int} {i : Nat} (h : l.getD i 0 ≠ 0) : zeroL l = false := by
  have hi := getD_lt h
  cases e : zeroL l with
  | false => rfl
  | true =>
    unfold zeroL at e
    rw [List.all_eq_true] at e
    have := e _ (List.getElem_mem hi)
    rw [List.getD_eq_getElem?_getD, List.getElem?_eq_getElem hi] at h
    exact absurd (of_decide_eq_true this) h

theorem trim_nonzero {a : Pl} (h : Trim a) (h0 : 0 < a.cs.length) : a.cs.getD 0 0 ≠ 0 ∧ a.cs.getD (a.cs.length - 1) 0 ≠ 0 := by
  rcases h with ⟨h, _⟩ | ⟨_, h1, h2⟩
  · rw [h] at h0; exact absurd h0 (Nat.lt_irrefl _)
  · exact ⟨h1, h2⟩

/-! ### The answer -/
def dividedB (a b : Pl) : Bool := polyB a && (polyB b && (decide (0 < b.cs.length) && overB a b))
def dividedP (a b : Pl) : Pl := doneP (dividedB a b) (overP a b)
/-- What the answer is when the division has gone through. -/
def outQ (low : Int) : Option (List Int × List Int) → Option Pl
  | some p => if zeroL p.2 then some (tidyP low p.1) else none
  | none => none
theorem overQ_some {a b : Pl} (h : 0 < a.cs.length) : overQ a b = outQ (a.low - b.low) (divGo b.cs (a.cs.length + 1 - b.cs.length) a.cs) := by
  unfold overQ outQ
  rw [if_neg (by omega)] <;> cases divGo b.cs (a.cs.length + 1 - b.cs.length) a.cs <;> rfl
theorem over_none {a b : Pl} (h : overQ a b = none) : overB a b = false ∧ overP a b = ⟨0, []⟩ := by
  unfold overB overP
  rw [h]
  exact ⟨rfl, rfl⟩
theorem over_some {a b p : Pl} (h : overQ a b = some p) : overB a b = polyB p ∧ overP a b = doneP (polyB p) p := by
  unfold overB overP
  rw [h]
  exact ⟨rfl, rfl⟩
theorem divided_fit {w : World} {l1 l2 : Int} {x y : List Int} {a1 a2 : Option Addr} {n1 n2 : Nat} {b : Bool} {p : Pl} (_ : Ints w a1 n1 x) (_ : Ints w a2 n2 y) (_ : dividedB ⟨l1, x⟩ ⟨l2, y⟩ = b) (hp : dividedP ⟨l1, x⟩ ⟨l2, y⟩ = p) : p.cs.length ≤ 200 := by
  unfold dividedP at hp
  refine doneP_len (fun h => ?_) hp
  unfold dividedB at h
  simp only [Bool.and_eq_true] at h
  have h := h.2.2.2
  unfold overB at h
  unfold overP
  cases e : overQ ⟨l1, x⟩ ⟨l2, y⟩ with
  | none => rw [e] at h; exact absurd h (by decide)
  | some q =>
    rw [e] at h
    have h : polyB q = true := h
    show polyB (doneP (polyB q) q) = true
    rw [h]
    exact h

end Go.Proofs.Ytbbkpaledlbcmaa

/- Finite sums; the coefficients of products: they go both ways, share sums, and go in any brackets. -/

namespace Go.Proofs.Ytbbkpaledlbcmaa
open Go.RowKit

def sumN (f : Nat → Int) : Nat → Int
  | 0 => 0
  | n + 1 => sumN f n + f n
theorem sumN_congr {f g : Nat → Int} : ∀ {n : Nat}, (∀ i, i < n → f i = g i) → sumN f n = sumN g n
  | 0, _ => rfl
  | n + 1, h => by rw [sumN, sumN, sumN_congr (fun i hi => h i (by omega)), h n (by omega)]
theorem sumN_zero (n : Nat) : sumN (fun _ => 0) n = 0 := by
  induction n with
  | zero => rfl
  | succ n ih => rw [sumN, ih]; rfl
theorem sumN_none {f : Nat → Int} {n : Nat} (h : ∀ i, i < n → f i = 0) : sumN f n = 0 := by rw [sumN_congr h, sumN_zero]
theorem sumN_add (f g : Nat → Int) (n : Nat) : sumN (fun i => f i + g i) n = sumN f n + sumN g n := by
  induction n with
  | zero => rfl
  | succ n ih => rw [sumN, sumN, sumN, ih]; omega
theorem sumN_mul (c : Int) (f : Nat → Int) (n : Nat) : sumN (fun i => c * f i) n = c * sumN f n := by
  induction n with
  | zero => rw [sumN, sumN, Int.mul_zero]
  | succ n ih => rw [sumN, sumN, ih, Int.mul_add]
theorem sumN_swap (f : Nat → Nat → Int) (m : Nat) : ∀ n, sumN (fun i => sumN (fun j => f i j) m) n = sumN (fun j => sumN (fun i => f i j) n) m
  | 0 => by rw [sumN]; exact (sumN_zero m).symm
  | n + 1 => by
    rw [sumN, sumN_swap f m n, ← sumN_add]
    exact sumN_congr fun j _ => by rw [sumN]
theorem sumN_one {f : Nat → Int} {n k : Nat} (hk : k < n) (h : ∀ i, i < n → i ≠ k → f i = 0) : sumN f n = f k := by
  induction n with
  | zero => omega
  | succ n ih =>
    rw [sumN]
    by_cases e : k = n
    · subst e
      rw [sumN_none (fun i hi => h i (by omega) (by omega))]; omega
    · rw [ih (by omega) (fun i hi hne => h i (by omega) hne), h n (by omega) (Ne.symm e)]; omega
theorem sumN_cut {f : Nat → Int} {m : Nat} : ∀ {n : Nat}, m ≤ n → (∀ i, m ≤ i → i < n → f i = 0) → sumN f n = sumN f m
  | 0, h, _ => by rw [Nat.le_zero.1 h]
  | n + 1, h, hz => by
    by_cases e : m = n + 1
    · rw [e]
    · rw [sumN, hz n (by omega) (by omega), sumN_cut (n := n) (by omega) (fun i h1 h2 => hz i h1 (by omega))]; omega

/-- A polynomial's coefficient as a sum. -/
theorem pat_sum (p : Pl) (k : Int) : pat p k = sumN (fun l => if p.low + (l : Int) = k then p.cs.getD l 0 else 0) p.cs.length := by
  by_cases h : p.low ≤ k ∧ k < p.low + p.cs.length
  · obtain ⟨l, hl⟩ : ∃ l : Nat, k = p.low + (l : Int) := ⟨(k - p.low).toNat, by omega⟩
    subst hl
    rw [pat_at, sumN_one (k := l) (by omega) (fun i _ hne => if_neg (by omega)), if_pos rfl]
  · rw [sumN_none fun i hi => if_neg (by omega)]
    by_cases h1 : k < p.low
    · exact pat_low p h1
    · exact pat_high p (by omega)
/-- The sum of the products of coefficients whose powers add up to k. -/
def mulF (a b : Pl) (k : Int) : Int := sumN (fun m => a.cs.getD m 0 * pat b (k - (a.low + (m : Int)))) a.cs.length
theorem mulF_two (a b : Pl) (k : Int) : mulF a b k = sumN (fun m => sumN (fun l => if a.low + (m : Int) + (b.low + (l : Int)) = k then a.cs.getD m 0 * b.cs.getD l 0 else 0) b.cs.length) a.cs.length := by
  unfold mulF
  refine sumN_congr fun m _ => ?_
  rw [pat_sum, ← sumN_mul]
  refine sumN_congr fun l _ => ?_
  by_cases h : b.low + (l : Int) = k - (a.low + (m : Int))
  · rw [if_pos h, if_pos (by omega)]
  · rw [if_neg h, if_neg (by omega), Int.mul_zero]
theorem mulF_comm (a b : Pl) (k : Int) : mulF a b k = mulF b a k := by
  rw [mulF_two, mulF_two, sumN_swap]
  refine sumN_congr fun l _ => sumN_congr fun m _ => ?_
  by_cases h : a.low + (m : Int) + (b.low + (l : Int)) = k
  · rw [if_pos h, if_pos (by omega), Int.mul_comm]
  · rw [if_neg h, if_neg (by omega)]
theorem mulF_congr {a b c : Pl} (h : ∀ k, pat b k = pat c k) (k : Int) : mulF a b k = mulF a c k := by
  unfold mulF
  exact sumN_congr fun m _ => by rw [h]
theorem mulF_congr1 {a b c : Pl} (h : ∀ k, pat a k = pat b k) (k : Int) : mulF a c k = mulF b c k := by
  rw [mulF_comm, mulF_congr h, mulF_comm]
/-- Products share sums. -/
theorem mulF_sum {a b c d : Pl} {n : Int} (h : ∀ k, pat d k = pat b k + n * pat c k) (k : Int) : mulF a d k = mulF a b k + n * mulF a c k := by
  unfold mulF
  rw [← sumN_mul, ← sumN_add]
  refine sumN_congr fun m _ => ?_
  rw [h, Int.mul_add, Int.mul_left_comm]

theorem convN_sum (x y : List Int) (i : Nat) : ∀ m, convN x y i m = sumN (fun j => if j ≤ i then x.getD j 0 * y.getD (i - j) 0 else 0) m
  | 0 => rfl
  | m + 1 => by rw [convN, sumN, convN_sum x y i m]
theorem prod_pat (a b : Pl) (k : Int) : pat (prodP a b) k = mulF a b k := by
  unfold prodP
  by_cases h0 : a.cs.length = 0 ∨ b.cs.length = 0
  · rw [if_pos h0, pat_nil]
    rcases h0 with h | h
    · unfold mulF; rw [h]; rfl
    · rw [mulF_comm]; unfold mulF; rw [h]; rfl
  · rw [if_neg h0, tidy_pat]
    by_cases h1 : k < a.low + b.low
    · rw [pat_low ⟨_, _⟩ h1]
      refine (sumN_none fun m _ => ?_).symm
      rw [pat_low b (by omega), Int.mul_zero]
    · by_cases h2 : a.low + b.low + ((a.cs.length + b.cs.length - 1 : Nat) : Int) ≤ k
      · rw [pat_high ⟨_, _⟩ (by show a.low + b.low + ((convL a.cs b.cs).length : Int) ≤ k; rw [convL_len]; exact h2)]
        refine (sumN_none fun m hm => ?_).symm
        rw [pat_high b (by omega), Int.mul_zero]
      · obtain ⟨i, hi⟩ : ∃ i : Nat, k = a.low + b.low + (i : Int) := ⟨(k - (a.low + b.low)).toNat, by omega⟩
        subst hi
        have e := pat_at ⟨a.low + b.low, convL a.cs b.cs⟩ i
        rw [show pat ⟨a.low + b.low, convL a.cs b.cs⟩ (a.low + b.low + (i : Int)) = (convL a.cs b.cs).getD i 0 from e, convL_get _ _ _ (by omega), convN_sum]
        unfold mulF
        refine sumN_congr fun m _ => ?_
        by_cases hm : m ≤ i
        · have e2 := pat_at b (i - m)
          rw [if_pos hm, show a.low + b.low + (i : Int) - (a.low + (m : Int)) = b.low + ((i - m : Nat) : Int) by omega, e2]
        · rw [if_neg hm, pat_low b (by omega), Int.mul_zero]
theorem prod_comm (a b : Pl) : prodP a b = prodP b a := trim_unique (prod_trim _ _) (prod_trim _ _) fun k => by rw [prod_pat, prod_pat, mulF_comm]
/-- A polynomial times 1 is itself. -/
theorem prod_one {a : Pl} (ha : Trim a) : prodP a ⟨0, [1]⟩ = a := trim_unique (prod_trim _ _) ha fun k => by
  rw [prod_pat, mulF_comm]
  unfold mulF
  show sumN (fun m => ([1] : List Int).getD m 0 * pat a (k - (0 + (m : Int)))) 1 = _
  rw [sumN, sumN]
  simp

end Go.Proofs.Ytbbkpaledlbcmaa

/- Division undoes products, and products undo division (mathematics). -/

namespace Go.Proofs.Ytbbkpaledlbcmaa
open Go.RowKit

theorem convN_cons (x : Int) (r y : List Int) (i : Nat) : ∀ m, convN (x :: r) y i (m + 1) = x * y.getD i 0 + (if 0 < i then convN r y (i - 1) m else 0)
  | 0 => by
    rw [convN, convN, convN, if_pos (Nat.zero_le _), Nat.sub_zero, ite_self, Int.add_zero, Int.zero_add]
    rfl
  | m + 1 => by
    rw [convN, convN_cons x r y i m]
    by_cases hi : 0 < i
    · rw [if_pos hi, if_pos hi, convN]
      by_cases h : m + 1 ≤ i
      · rw [if_pos h, if_pos (by omega), show i - (m + 1) = i - 1 - m by omega, Int.add_assoc]
        rfl
      · rw [if_neg h, if_neg (by omega)]
        omega
    · rw [if_neg hi, if_neg hi, if_neg (by omega)]
      omega
theorem convL_nil (y : List Int) (i : Nat) : (convL [] y).getD i 0 = 0 := by
  by_cases h : i < ([] : List Int).length + y.length - 1
  · rw [convL_get _ _ _ h]; rfl
  · exact getD_far (by rw [convL_len]; omega)
theorem convL_head (x : Int) (r y : List Int) (hy : 0 < y.length) : (convL (x :: r) y).getD 0 0 = x * y.getD 0 0 := by
  rw [convL_get _ _ _ (by rw [List.length_cons]; omega), List.length_cons, convN_cons, if_neg (Nat.lt_irrefl _), Int.add_zero]
theorem convL_next (x : Int) (r y : List Int) (hy : 0 < y.length) (i : Nat) : (convL (x :: r) y).getD (i + 1) 0 = x * y.getD (i + 1) 0 + (convL r y).getD i 0 := by
  by_cases h : i + 1 < (x :: r).length + y.length - 1
  · have hc : r.length + y.length - 1 ≤ i ∨ i < r.length + y.length - 1 := by omega
    rw [List.length_cons] at h
    rw [convL_get _ _ _ (by rw [List.length_cons]; omega), List.length_cons, convN_cons, if_pos (by omega), Nat.add_sub_cancel, convL_get _ _ _ (by omega)]
  · rw [List.length_cons] at h
    rw [getD_far (l := convL (x :: r) y) (by rw [convL_len, List.length_cons]; omega), getD_far (l := y) (by omega), getD_far (l := convL r y) (by rw [convL_len]; omega), Int.mul_zero]
    rfl
theorem mul4 {a b : Int} (h1 : -4 ≤ a ∧ a ≤ 4) (h2 : -4 ≤ b ∧ b ≤ 4) : -16 ≤ a * b ∧ a * b ≤ 16 := by
  have : a = -4 ∨ a = -3 ∨ a = -2 ∨ a = -1 ∨ a = 0 ∨ a = 1 ∨ a = 2 ∨ a = 3 ∨ a = 4 := by omega
  rcases this with rfl | rfl | rfl | rfl | rfl | rfl | rfl | rfl | rfl <;> omega
theorem convN_small {x y : List Int} (hx : ∀ i, -4 ≤ x.getD i 0 ∧ x.getD i 0 ≤ 4) (hy : ∀ i, -4 ≤ y.getD i 0 ∧ y.getD i 0 ≤ 4) (i : Nat) : ∀ m : Nat, -16 * (m : Int) ≤ convN x y i m ∧ convN x y i m ≤ 16 * (m : Int)
  | 0 => by rw [convN]; omega
  | m + 1 => by
    have h1 := convN_small hx hy i m
    have h2 := mul4 (hx m) (hy (i - m))
    rw [convN]
    split <;> omega
theorem convL_small {x y : List Int} (hx : ∀ i, -4 ≤ x.getD i 0 ∧ x.getD i 0 ≤ 4) (hy : ∀ i, -4 ≤ y.getD i 0 ∧ y.getD i 0 ≤ 4) (hl : x.length ≤ 1000) (i : Nat) : -16000 ≤ (convL x y).getD i 0 ∧ (convL x y).getD i 0 ≤ 16000 := by
  by_cases h : i < x.length + y.length - 1
  · rw [convL_get _ _ _ h]
    have := convN_small hx hy i x.length
    omega
  · rw [getD_far (by rw [convL_len]; omega)]; omega
theorem leftIn_of {z : Int} (h1 : -4000000000000000000 ≤ z) (h2 : z ≤ 4000000000000000000) : leftIn z = true := by
  unfold leftIn inR
  simp [h1, h2]
theorem coefIn_of {z : Int} (h1 : -1000000000 ≤ z) (h2 : z ≤ 1000000000) : coefIn z = true := by
  unfold coefIn inR
  simp [h1, h2]

/-- A product is divided. -/
theorem div_prod {y : List Int} (hy : 0 < y.length) (hy0 : y.getD 0 0 ≠ 0) (hyb : ∀ i, -4 ≤ y.getD i 0 ∧ y.getD i 0 ≤ 4) : ∀ x : List Int, (∀ i, -4 ≤ x.getD i 0 ∧ x.getD i 0 ≤ 4) → x.length ≤ 1000 → divGo y x.length (convL x y) = some (x, convL [] y)
  | [], _, _ => rfl
  | x :: r, hx, hl => by
    have hr : ∀ i, -4 ≤ r.getD i 0 ∧ r.getD i 0 ≤ 4 := fun i => by
      have := hx (i + 1)
      simpa using this
    have hx0 : -4 ≤ x ∧ x ≤ 4 := by
      have := hx 0
      simpa using this
    rw [List.length_cons] at hl
    have e0 := convL_head x r y hy
    have hQ : stepQ y (convL (x :: r) y) = x := by
      unfold stepQ
      rw [e0]
      exact Int.mul_tdiv_cancel x hy0
    have hB : stepB y (convL (x :: r) y) = true := by
      refine step_yes ?_ ?_ fun i hi => ?_
      · rw [e0]; exact Int.mul_tmod_left x _
      · rw [hQ]; exact coefIn_of (by omega) (by omega)
      · rw [hQ]
        cases i with
        | zero => rw [e0, Int.sub_self]; rfl
        | succ i =>
          rw [convL_next x r y hy i]
          have := convL_small hr hyb (by omega) i
          exact leftIn_of (by omega) (by omega)
    have hT : (subQ x y (convL (x :: r) y)).tail = convL r y := by
      refine eq_getD ?_ fun i _ => ?_
      · rw [List.length_tail, subQ_len, convL_len, convL_len, List.length_cons]
        omega
      · rw [tail_get, subQ_get _ _ _ _ (by rw [convL_len, List.length_cons]; omega), convL_next x r y hy i]
        omega
    rw [List.length_cons, divGo, if_pos hB, hQ, hT, div_prod hy hy0 hyb r hr (by omega)]
    rfl
/-- What is divided is a product. -/
theorem div_back {y : List Int} (hy : 0 < y.length) : ∀ (n : Nat) (left qs rest : List Int), left.length = n + y.length - 1 → divGo y n left = some (qs, rest) → qs.length = n ∧ (zeroL rest = true → left = convL qs y)
  | 0, left, qs, rest, hl, h => by
    rw [divGo] at h
    simp only [Option.some.injEq, Prod.mk.injEq] at h
    obtain ⟨rfl, rfl⟩ := h
    refine ⟨rfl, fun hz => eq_getD (by rw [hl, convL_len]; rfl) fun i hi => ?_⟩
    rw [convL_nil]
    by_cases hne : left.getD i 0 = 0
    · exact hne
    · rw [zeroL_no hne] at hz; exact absurd hz (by decide)
  | n + 1, left, qs, rest, hl, h => by
    rw [divGo] at h
    cases hB : stepB y left with
    | false => rw [if_neg (by rw [hB]; exact Bool.false_ne_true)] at h; cases h
    | true =>
      rw [if_pos hB] at h
      cases hD : divGo y n (subQ (stepQ y left) y left).tail with
      | none => rw [hD] at h; cases h
      | some p =>
        rw [hD] at h
        obtain ⟨q1, r1⟩ := p
        have h : some (stepQ y left :: q1, r1) = some (qs, rest) := h
        simp only [Option.some.injEq, Prod.mk.injEq] at h
        obtain ⟨rfl, rfl⟩ := h
        obtain ⟨i1, i2⟩ := div_back hy n _ q1 r1 (by rw [List.length_tail, subQ_len, hl]; omega) hD
        refine ⟨by rw [List.length_cons, i1], fun hz => eq_getD (by rw [hl, convL_len, List.length_cons, i1]) fun i _ => ?_⟩
        have e := i2 hz
        have hle : y.length ≤ left.length := by omega
        cases i with
        | zero =>
          rw [convL_head _ _ _ hy]
          have h0 := step_head hle (step_parts hB).1
          rw [subQ_get _ _ _ _ hle] at h0
          omega
        | succ i =>
          rw [convL_next _ _ _ hy, ← e, tail_get, subQ_get _ _ _ _ hle]
          omega
/-- The product of two polynomials that are not 0. -/
theorem prod_trimmed {a b : Pl} (ha : Trim a) (hb : Trim b) (h1 : 0 < a.cs.length) (h2 : 0 < b.cs.length) : prodP a b = ⟨a.low + b.low, convL a.cs b.cs⟩ := by
  unfold prodP
  rw [if_neg (by omega)]
  obtain ⟨a0, a1⟩ := trim_nonzero ha h1
  obtain ⟨b0, b1⟩ := trim_nonzero hb h2
  have e : tidyP (⟨a.low + b.low, convL a.cs b.cs⟩ : Pl).low (⟨a.low + b.low, convL a.cs b.cs⟩ : Pl).cs = _ := tidy_self (p := ⟨a.low + b.low, convL a.cs b.cs⟩) (by
    refine .inr ⟨fun e => ?_, ?_, ?_⟩
    · have e : convL a.cs b.cs = [] := e
      have := convL_len a.cs b.cs
      rw [e] at this
      simp at this
      omega
    · show (convL a.cs b.cs).getD 0 0 ≠ 0
      cases hx : a.cs with
      | nil => rw [hx] at h1; exact absurd h1 (Nat.lt_irrefl _)
      | cons x r =>
        rw [convL_head x r _ h2]
        rw [hx] at a0
        exact Int.mul_ne_zero (by simpa using a0) b0
    · show (convL a.cs b.cs).getD ((convL a.cs b.cs).length - 1) 0 ≠ 0
      obtain ⟨m, hm⟩ : ∃ m, a.cs.length = m + 1 := ⟨a.cs.length - 1, by omega⟩
      rw [convL_len, convL_get _ _ _ (by omega), hm, convN, convN_from _ _ _ m (by omega), if_pos (by omega), Int.zero_add]
      rw [hm] at a1
      refine Int.mul_ne_zero (by simpa using a1) ?_
      rw [show m + 1 + b.cs.length - 1 - 1 - m = b.cs.length - 1 by omega]
      exact b1)
  exact e
theorem convL_zero (y : List Int) : zeroL (convL [] y) = true := zeroL_yes fun i _ => convL_nil y i
/-- Products are divided. -/
theorem over_prod {a b : Pl} (ha : Trim a) (hb : Trim b) (h2 : 0 < b.cs.length) (hxa : ∀ i, -4 ≤ a.cs.getD i 0 ∧ a.cs.getD i 0 ≤ 4) (hxb : ∀ i, -4 ≤ b.cs.getD i 0 ∧ b.cs.getD i 0 ≤ 4) (hl : a.cs.length ≤ 1000) : overQ (prodP a b) b = some a := by
  by_cases h1 : a.cs.length = 0
  · have ea : a = ⟨0, []⟩ := trim_unique ha (.inl ⟨rfl, rfl⟩) fun k => by rw [pat_none h1, pat_nil]
    have ep : prodP a b = ⟨0, []⟩ := by unfold prodP; rw [if_pos (.inl h1)]
    rw [ep, ea]
    rfl
  · rw [prod_trimmed ha hb (by omega) h2]
    rw [overQ_some (by show 0 < (convL a.cs b.cs).length; rw [convL_len]; omega)]
    show outQ (a.low + b.low - b.low) (divGo b.cs ((convL a.cs b.cs).length + 1 - b.cs.length) (convL a.cs b.cs)) = some a
    rw [convL_len, show a.cs.length + b.cs.length - 1 + 1 - b.cs.length = a.cs.length by omega, div_prod h2 (trim_nonzero hb h2).1 hxb a.cs hxa hl]
    show (if zeroL (convL [] b.cs) then some (tidyP (a.low + b.low - b.low) a.cs) else none) = some a
    rw [convL_zero, if_pos rfl, show a.low + b.low - b.low = a.low by omega, tidy_self ha]
/-- What is divided is multiplied again. -/
theorem over_back {a b p : Pl} (ha : Trim a) (h2 : 0 < b.cs.length) (h : overQ a b = some p) : prodP p b = a := by
  by_cases h1 : a.cs.length = 0
  · have ea : a = ⟨0, []⟩ := trim_unique ha (.inl ⟨rfl, rfl⟩) fun k => by rw [pat_none h1, pat_nil]
    have e : overQ a b = some a := by unfold overQ; rw [if_pos h1]
    rw [e] at h
    simp only [Option.some.injEq] at h
    subst h
    unfold prodP
    rw [if_pos (.inl h1), ea]
  · rw [overQ_some (by omega)] at h
    obtain ⟨a0, _⟩ := trim_nonzero ha (by omega)
    cases hD : divGo b.cs (a.cs.length + 1 - b.cs.length) a.cs with
    | none => rw [hD] at h; cases h
    | some q =>
      obtain ⟨qs, rest⟩ := q
      rw [hD] at h
      have h : (if zeroL rest then some (tidyP (a.low - b.low) qs) else none) = some p := h
      cases hz : zeroL rest with
      | false => rw [hz] at h; cases h
      | true =>
        rw [hz, if_pos rfl] at h
        simp only [Option.some.injEq] at h
        subst h
        have hn : 0 < a.cs.length + 1 - b.cs.length := by
          by_cases hn : 0 < a.cs.length + 1 - b.cs.length
          · exact hn
          · rw [show a.cs.length + 1 - b.cs.length = 0 by omega, divGo] at hD
            simp only [Option.some.injEq, Prod.mk.injEq] at hD
            obtain ⟨_, rfl⟩ := hD
            rw [zeroL_no a0] at hz
            exact absurd hz (by decide)
        obtain ⟨hq, hc⟩ := div_back h2 _ _ qs rest (by omega) hD
        have hc := hc hz
        refine trim_unique (prod_trim _ _) ha fun k => ?_
        rw [prod_pat, mulF_congr1 (b := ⟨a.low - b.low, qs⟩) (fun k => tidy_pat _ _ k), ← prod_pat]
        unfold prodP
        rw [if_neg (by show ¬ (qs.length = 0 ∨ b.cs.length = 0); omega)]
        show pat (tidyP (a.low - b.low + b.low) (convL qs b.cs)) k = pat a k
        rw [← hc, show a.low - b.low + b.low = a.low by omega, tidy_self ha]

end Go.Proofs.Ytbbkpaledlbcmaa

/- Being alike: slices.Equal at ints, the model's PolyAlike. -/

namespace Go.Proofs.Ytbbkpaledlbcmaa
open Go.RowKit

theorem doneP_mem {b : Bool} {q p : Pl} (hb : b = true → polyB q = true) (hp : doneP b q = p) : ∀ z ∈ p.cs, -9223372036854775808 ≤ z ∧ z ≤ 9223372036854775807 := fun z hz => by
  subst hp
  cases b with
  | false => cases hz
  | true =>
    have := coefIn_yes (polyB_coef (hb rfl) z hz)
    omega
/-- Whether two polynomials differ by a unit only. -/
def alikeB (a b : Pl) : Bool := polyB a && (polyB b && decide ((plainP a).cs = (plainP b).cs))
theorem plain_zero {p : Pl} (h : polyB p = true) : (plainP p).low = 0 := by
  by_cases h0 : 0 < p.cs.length
  · exact plain_low h0
  · unfold plainP
    rw [if_pos (by omega)]
    rcases (polyB_trim h).1 with ⟨_, h⟩ | ⟨h, _⟩
    · exact h
    · exact absurd (List.length_eq_zero_iff.1 (by omega)) h

end Go.Proofs.Ytbbkpaledlbcmaa

/- The program's PolyAlike; both sides as the law wants them. -/

namespace Go.Proofs.Ytbbkpaledlbcmaa
open Go.RowKit

end Go.Proofs.Ytbbkpaledlbcmaa

/- The program's takeOut. -/

namespace Go.Proofs.Ytbbkpaledlbcmaa
open Go.RowKit

theorem boxKept {w w1 W : World} {t : TypeId} {x y : Value} {g : Nat} (hW : w.alloc (.cells #[x, y] t) = W) (hg : W.grownBy w1 (some g)) (hgl : g < w.heap.size) : w1.cell? ⟨w.heap.size, 0, none⟩ = some x ∧ w1.cell? ⟨w.heap.size, 1, none⟩ = some y := by
  have hsz : W.heap.size = w.heap.size + 1 := by rw [← hW]; simp
  have e0 := hg.block w.heap.size (by omega) (by simp; omega)
  rw [← hW, World.alloc_heap_new] at e0
  exact ⟨by simp [World.cell?, e0], by simp [World.cell?, e0]⟩
/-- Ints that lie in another block than the one that is written. -/
theorem Ints.keptBut {w W w1 : World} {a : Option Addr} {n g : Nat} {zs : List Int} (h : Ints w a n zs) (hbW : Below w.heap.size w W) (hg : W.grownBy w1 (some g)) (hne : n = 0 ∨ ∀ x, a = some x → x.block ≠ g) : ∀ k, k < n → ∀ x, a = some x → ∀ z, zs.getD k 0 = z → w1.cell? (x.add k) = some (.int .i64 z) := fun k hk x hx z hz => by
  obtain ⟨x', e, hb, hc⟩ := h.at_ (by omega)
  obtain rfl : x = x' := by rw [hx] at e; simpa using e
  have hl := h.len
  have hne' : (x.add k).block ≠ g := by rw [addr_add_block]; exact (hne.resolve_left (by omega)) x hx
  have hbk := hbW.cell (p := x.add k) (by rw [addr_add_block]; exact hb)
  have hbl : (x.add k).block < W.heap.size := by rw [addr_add_block]; have := hbW.size; omega
  have e1 := hg.block (x.add k).block hbl (by simp; exact hne')
  have e2 : w1.cell? (x.add k) = W.cell? (x.add k) := by unfold World.cell?; rw [e1]
  rw [e2, hbk, hc k (by omega), ← hz, List.getD_eq_getElem?_getD, List.getElem?_eq_getElem (by omega)]
  rfl
theorem mul_in {q b : Int} (h1 : -1000000000 ≤ q ∧ q ≤ 1000000000) (h2 : -1000000000 ≤ b ∧ b ≤ 1000000000) : -1000000000000000000 ≤ q * b ∧ q * b ≤ 1000000000000000000 := by
  have h := conv_bound (x := [q]) (y := [b]) (fun i => by cases i with | zero => exact h1 | succ i => simp) (fun i => by cases i with | zero => exact h2 | succ i => simp) 0 0
  exact h

/-- What takeOut comes to: the number that it tells, and the row. -/
def Taken (base g n1 capN i : Nat) (bs left : List Int) (s : Bool) (e : Ending) (w' : World) : Prop :=
  (s = true ∧ e = .returned (.tuple #[.int .i64 (stepQ bs left), .bool true]) ∧ w'.ownsRow base 3 1 (.slice (some ⟨g, 0, none⟩) n1 capN) n1 (intsV (listN (rowG (i + 1) (subQ (stepQ bs left) bs left).tail) n1))) ∨ (s = false ∧ e = .returned (.tuple #[.int .i64 0, .bool false]))

end Go.Proofs.Ytbbkpaledlbcmaa

/- The program's over. -/

namespace Go.Proofs.Ytbbkpaledlbcmaa
open Go.RowKit

def sliceLen : Value → Nat
  | .slice _ n _ => n
  | _ => 0
theorem drop_row {i m n : Nat} {left : List Int} (h : i + m = n) (hl : left.length = m) : ((listN (rowG i left) n).drop i).take m = left := by
  refine eq_getD (by rw [List.length_take, List.length_drop, listN_len]; omega) fun k hk => ?_
  rw [List.length_take, List.length_drop, listN_len] at hk
  rw [List.getD_eq_getElem?_getD, List.getElem?_take_of_lt (by omega), List.getElem?_drop, ← List.getD_eq_getElem?_getD, listN_get (by omega), rowG_at]
theorem any_zero (l : List Int) : (l.any fun z => !decide (z = 0)) = !zeroL l := by
  unfold zeroL
  rw [List.not_all_eq_any_not]
theorem rowG_in {i n : Nat} {left : List Int} (hl : LeftOK left) : ∀ z ∈ listN (rowG i left) n, -9223372036854775808 ≤ z ∧ z ≤ 9223372036854775807 := fun z hz => by
  unfold listN at hz
  obtain ⟨j, _, rfl⟩ := List.mem_map.1 hz
  unfold rowG
  split
  · omega
  · have := hl (j - i)
    omega
theorem coefs_in {qs : List Int} (h : ∀ z ∈ qs, coefIn z = true) : ∀ z ∈ qs, -9223372036854775808 ≤ z ∧ z ≤ 9223372036854775807 := fun z hz => by
  have := coefIn_yes (h z hz)
  omega

end Go.Proofs.Ytbbkpaledlbcmaa

/- The program's PolyOver. -/

namespace Go.Proofs.Ytbbkpaledlbcmaa
open Go.RowKit

theorem over_done {a b : Pl} {t : Bool} (h : overB a b = t) : doneP t (overP a b) = overP a b := by
  cases t with
  | true => rfl
  | false =>
    cases e : overQ a b with
    | none => rw [(over_none e).2]; rfl
    | some p =>
      obtain ⟨h1, h2⟩ := over_some e
      rw [h2, ← h1, h]
      rfl
theorem divided_over {a b : Pl} {t : Bool} (h : dividedB a b = t) (ha : polyB a = true) (hb : polyB b = true) (h0 : 0 < b.cs.length) : overB a b = t ∧ dividedP a b = overP a b := by
  have e : overB a b = t := by
    rw [← h]
    unfold dividedB
    rw [ha, hb, decide_eq_true h0]
    rfl
  refine ⟨e, ?_⟩
  unfold dividedP
  rw [h]
  exact over_done e
theorem divided_no {a b : Pl} {t : Bool} (h : dividedB a b = t) (h0 : polyB a = false ∨ polyB b = false ∨ b.cs.length = 0) : t = false ∧ dividedP a b = ⟨0, []⟩ := by
  have e : dividedB a b = false := by
    unfold dividedB
    rcases h0 with h0 | h0 | h0
    · rw [h0]; rfl
    · rw [h0, Bool.false_and, Bool.and_false]
    · rw [decide_eq_false (by omega), Bool.false_and, Bool.and_false, Bool.and_false]
  refine ⟨h.symm.trans e, ?_⟩
  unfold dividedP
  rw [e]
  rfl
theorem divided_zero {a b : Pl} {t : Bool} (h : dividedB a b = t) (ha : polyB a = true) (hb : polyB b = true) (h0 : 0 < b.cs.length) (h1 : a.cs.length = 0) : t = true ∧ dividedP a b = ⟨0, []⟩ := by
  have ea : a = ⟨0, []⟩ := trim_unique (polyB_trim ha).1 (.inl ⟨rfl, rfl⟩) fun k => by rw [pat_none h1, pat_nil]
  obtain ⟨e1, e2⟩ := divided_over h ha hb h0
  have e : overQ a b = some a := by unfold overQ; rw [if_pos h1]
  obtain ⟨e3, e4⟩ := over_some e
  refine ⟨by rw [← e1, e3, ha], ?_⟩
  rw [e2, e4, ha, ea]
  rfl

end Go.Proofs.Ytbbkpaledlbcmaa

/- The model's PolyOver. -/

namespace Go.Proofs.Ytbbkpaledlbcmaa
open Go.RowKit

end Go.Proofs.Ytbbkpaledlbcmaa

/- The model's PolyOver whatever comes in; both sides as the law wants them. -/

namespace Go.Proofs.Ytbbkpaledlbcmaa
open Go.RowKit

end Go.Proofs.Ytbbkpaledlbcmaa

/- The contracts of both sides' functions on polynomials, the answer under a name of its own. -/

namespace Go.Proofs.Ytbbkpaledlbcmaa
open Go.RowKit

/-- Coefficients that came in or were answered. -/
structure PIn (w : World) (a : Option Addr) (n c : Nat) (zs : List Int) : Prop where
  is : Ints w a n zs
  le : n ≤ c
theorem PIn.below {w w' : World} {a : Option Addr} {n c : Nat} {zs : List Int} (h : PIn w a n c zs) (hb : Below w.heap.size w w') : PIn w' a n c zs := ⟨h.is.below hb, h.le⟩
theorem PIn.len {w : World} {a : Option Addr} {n c : Nat} {zs : List Int} (h : PIn w a n c zs) : zs.length = n := h.is.len
/-- What a function that tells a polynomial comes to. -/
def PolyT (W : World) (b : Bool) (l : Int) (n : Nat) (zs : List Int) (e : Ending) (w' : World) : Prop := (∃ a c, e = .returned (.tuple #[plV l (.slice a n c), .bool b]) ∧ PIn w' a n c zs) ∧ Below W.heap.size W w'
theorem PolyT.of {W w' : World} {b t : Bool} {q : Pl} {l : Int} {zs : List Int} {n : Nat} {e : Ending} (h : (∃ v, e = .returned (.tuple #[plV l v, .bool b]) ∧ IntRow W.heap.size w' v zs) ∧ Below W.heap.size W w') (hb : t = true → polyB q = true) (hp : doneP t q = ⟨l, zs⟩) (hn : zs.length = n) : PolyT W b l n zs e w' := by
  subst hn
  obtain ⟨⟨v, rfl, hr⟩, hB⟩ := h
  obtain ⟨a, c, rfl, hc, hi⟩ := hr.readc (doneP_mem hb hp)
  exact ⟨⟨a, c, rfl, hi, hc⟩, hB⟩

theorem divided_in {a b : Pl} (h : dividedB a b = true) : polyB (overP a b) = true := by
  unfold dividedB at h
  simp only [Bool.and_eq_true] at h
  have h := h.2.2.2
  cases e : overQ a b with
  | none => rw [(over_none e).1] at h; exact absurd h (by decide)
  | some q =>
    obtain ⟨h1, h2⟩ := over_some e
    rw [h1] at h
    rw [h2, h]
    exact h

section
variable {W : World} {a a2 : Option Addr} {n c m c2 k : Nat} {x y pc : List Int} {b : Bool} {l l2 pl : Int}
theorem sPolyIn_t (h : PIn W a n c x) (hb : polyB ⟨l, x⟩ = b) : Calls Try.prog 92 #[plV l (.slice a n c)] W fun e w' => e = .returned (.bool b) ∧ Below W.heap.size W w' := sPolyIn_any l x a c n b W h.is hb
theorem sPolyAdd_t (h : PIn W a n c x) (h2 : PIn W a2 m c2 y) (hb : addPB ⟨l, x⟩ ⟨l2, y⟩ = b) (hp : addP ⟨l, x⟩ ⟨l2, y⟩ = ⟨pl, pc⟩) (hk : pc.length = k) : Calls Try.prog 123 #[plV l (.slice a n c), plV l2 (.slice a2 m c2)] W (PolyT W b pl k pc) := by
  refine (sPolyAdd_any l l2 x y a a2 c c2 n m _ _ b W h.is h2.is h.le rfl rfl hb).mono fun e w' hh => ?_
  rw [show doneP b (sumP ⟨l, x⟩ 1 ⟨l2, y⟩) = ⟨pl, pc⟩ by rw [← hb]; exact hp] at hh
  exact PolyT.of hh (fun e => by unfold addPB at e; simp only [Bool.and_eq_true] at e; exact e.2.2) hp hk
theorem sPolyTimes_t (h : PIn W a n c x) (h2 : PIn W a2 m c2 y) (hb : timesPB ⟨l, x⟩ ⟨l2, y⟩ = b) (hp : timesP ⟨l, x⟩ ⟨l2, y⟩ = ⟨pl, pc⟩) (hk : pc.length = k) : Calls Try.prog 160 #[plV l (.slice a n c), plV l2 (.slice a2 m c2)] W (PolyT W b pl k pc) := by
  refine (sPolyTimes_any l l2 x y a a2 c c2 n m _ _ b W h.is h2.is rfl rfl hb).mono fun e w' hh => ?_
  rw [show doneP b (prodP ⟨l, x⟩ ⟨l2, y⟩) = ⟨pl, pc⟩ by rw [← hb]; exact hp] at hh
  exact PolyT.of hh (fun e => by unfold timesPB at e; simp only [Bool.and_eq_true] at e; exact e.2.2) hp hk
theorem iPolyIn_t (h : PIn W a n c x) (hb : polyB ⟨l, x⟩ = b) : Calls Try.prog 108 #[plV l (.slice a n c)] W fun e w' => e = .returned (.bool b) ∧ Below W.heap.size W w' := iPolyIn_any l x a c n b W h.is h.le hb
theorem iPolyAdd_t (h : PIn W a n c x) (h2 : PIn W a2 m c2 y) (hb : addPB ⟨l, x⟩ ⟨l2, y⟩ = b) (hp : addP ⟨l, x⟩ ⟨l2, y⟩ = ⟨pl, pc⟩) (hk : pc.length = k) : Calls Try.prog 42 #[plV l (.slice a n c), plV l2 (.slice a2 m c2)] W (PolyT W b pl k pc) := by
  refine (iPolyAdd_any l l2 x y a a2 c c2 n m _ _ b W h.is h2.is h.le h2.le rfl rfl hb).mono fun e w' hh => ?_
  rw [show doneP b (sumP ⟨l, x⟩ 1 ⟨l2, y⟩) = ⟨pl, pc⟩ by rw [← hb]; exact hp] at hh
  exact PolyT.of hh (fun e => by unfold addPB at e; simp only [Bool.and_eq_true] at e; exact e.2.2) hp hk
theorem iPolyTimes_t (h : PIn W a n c x) (h2 : PIn W a2 m c2 y) (hb : timesPB ⟨l, x⟩ ⟨l2, y⟩ = b) (hp : timesP ⟨l, x⟩ ⟨l2, y⟩ = ⟨pl, pc⟩) (hk : pc.length = k) : Calls Try.prog 38 #[plV l (.slice a n c), plV l2 (.slice a2 m c2)] W (PolyT W b pl k pc) := by
  refine (iPolyTimes_any l l2 x y a a2 c c2 n m _ _ b W h.is h2.is h.le h2.le rfl rfl hb).mono fun e w' hh => ?_
  rw [show doneP b (prodP ⟨l, x⟩ ⟨l2, y⟩) = ⟨pl, pc⟩ by rw [← hb]; exact hp] at hh
  exact PolyT.of hh (fun e => by unfold timesPB at e; simp only [Bool.and_eq_true] at e; exact e.2.2) hp hk
end

end Go.Proofs.Ytbbkpaledlbcmaa

/- Products and quotients as functions answer them (mathematics). -/

namespace Go.Proofs.Ytbbkpaledlbcmaa
open Go.RowKit

theorem times_true {a b : Pl} (h : timesPB a b = true) : polyB a = true ∧ polyB b = true ∧ polyB (prodP a b) = true ∧ timesP a b = prodP a b := by
  have h' := h
  unfold timesPB at h
  simp only [Bool.and_eq_true] at h
  refine ⟨h.1, h.2.1, h.2.2, ?_⟩
  unfold timesP
  rw [h']
  rfl
theorem times_comm (a b : Pl) : timesPB b a = timesPB a b ∧ timesP b a = timesP a b := by
  have e : timesPB b a = timesPB a b := by
    unfold timesPB
    rw [prod_comm b a]
    cases polyB a <;> cases polyB b <;> rfl
  refine ⟨e, ?_⟩
  unfold timesP
  rw [e, prod_comm b a]
theorem over_times {a b : Pl} (h : timesPB a b = true) (h0 : 0 < b.cs.length) (hxa : ∀ i, -4 ≤ a.cs.getD i 0 ∧ a.cs.getD i 0 ≤ 4) (hxb : ∀ i, -4 ≤ b.cs.getD i 0 ∧ b.cs.getD i 0 ≤ 4) (hl : a.cs.length ≤ 1000) : dividedB (timesP a b) b = true ∧ dividedP (timesP a b) b = a := by
  obtain ⟨h1, h2, h3, h4⟩ := times_true h
  rw [h4]
  have e := over_prod (polyB_trim h1).1 (polyB_trim h2).1 h0 hxa hxb hl
  obtain ⟨e1, e2⟩ := over_some e
  have hb : dividedB (prodP a b) b = true := by
    unfold dividedB
    rw [h3, h2, decide_eq_true h0, e1, h1]
    rfl
  refine ⟨hb, ?_⟩
  rw [(divided_over hb h3 h2 h0).2, e2, h1]
  rfl
theorem times_over {a b : Pl} (h : dividedB a b = true) : timesPB (dividedP a b) b = true ∧ timesP (dividedP a b) b = a := by
  have h' := h
  unfold dividedB at h
  simp only [Bool.and_eq_true, decide_eq_true_eq] at h
  obtain ⟨h1, h2, h0, h3⟩ := h
  have hp : dividedP a b = overP a b := (divided_over h' h1 h2 h0).2
  cases e : overQ a b with
  | none => rw [(over_none e).1] at h3; exact absurd h3 (by decide)
  | some p =>
    obtain ⟨e1, e2⟩ := over_some e
    rw [e1] at h3
    have ep : dividedP a b = p := by rw [hp, e2, h3]; rfl
    have hm := over_back (polyB_trim h1).1 h0 e
    rw [ep]
    have hb : timesPB p b = true := by
      unfold timesPB
      rw [h3, h2, hm, h1]
      rfl
    exact ⟨hb, by rw [(times_true hb).2.2.2, hm]⟩

end Go.Proofs.Ytbbkpaledlbcmaa

/- Values at 1; turned, plain ones and sums again (mathematics). -/

namespace Go.Proofs.Ytbbkpaledlbcmaa
open Go.RowKit

/-- The value with 1 in the place of t. -/
def valP (p : Pl) : Int := oneP p.cs p.cs.length
theorem oneP_sumN (l : List Int) : ∀ k, oneP l k = sumN (fun i => l.getD i 0) k
  | 0 => rfl
  | k + 1 => by rw [oneP, sumN, oneP_sumN l k]
theorem sumN_split (f : Nat → Int) (a : Nat) : ∀ b, sumN f (a + b) = sumN f a + sumN (fun i => f (a + i)) b
  | 0 => by rw [Nat.add_zero, sumN, Int.add_zero]
  | b + 1 => by rw [← Nat.add_assoc, sumN, sumN, sumN_split f a b]; omega
/-- A window that holds all coefficients. -/
theorem val_window (p : Pl) {lo : Int} {n : Nat} (h1 : lo ≤ p.low) (h2 : p.low + p.cs.length ≤ lo + n) : sumN (fun i => pat p (lo + (i : Int))) n = valP p := by
  obtain ⟨a, ha⟩ : ∃ a : Nat, p.low = lo + (a : Int) := ⟨(p.low - lo).toNat, by omega⟩
  obtain ⟨b, hb⟩ : ∃ b : Nat, n = a + b := ⟨n - a, by omega⟩
  subst hb
  rw [sumN_split, sumN_none fun i hi => pat_low p (by omega), Int.zero_add, sumN_cut (m := p.cs.length) (by omega) fun i h3 _ => pat_high p (by omega)]
  unfold valP
  rw [oneP_sumN]
  refine sumN_congr fun i _ => ?_
  rw [show lo + ((a + i : Nat) : Int) = p.low + (i : Int) by omega, pat_at]
theorem val_pat {p q : Pl} (h : ∀ k, pat p k = pat q k) : valP p = valP q := by
  obtain ⟨lo, h1, h2⟩ : ∃ lo : Int, lo ≤ p.low ∧ lo ≤ q.low := ⟨if p.low ≤ q.low then p.low else q.low, by split <;> omega, by split <;> omega⟩
  obtain ⟨n, h3, h4⟩ : ∃ n : Nat, p.low + p.cs.length ≤ lo + n ∧ q.low + q.cs.length ≤ lo + n := ⟨(p.low - lo).toNat + (q.low - lo).toNat + p.cs.length + q.cs.length, by omega, by omega⟩
  rw [← val_window p h1 h3, ← val_window q h2 h4]
  exact sumN_congr fun i _ => h _
theorem val_tidy (low : Int) (l : List Int) : valP (tidyP low l) = oneP l l.length := val_pat (q := ⟨low, l⟩) fun k => tidy_pat low l k
theorem val_sum (a b : Pl) : valP (sumP a 1 b) = valP a + valP b := by
  obtain ⟨lo, h1, h2, h5⟩ : ∃ lo : Int, lo ≤ a.low ∧ lo ≤ b.low ∧ lo ≤ (sumP a 1 b).low := ⟨-(a.low.natAbs : Int) - b.low.natAbs - (sumP a 1 b).low.natAbs, by omega, by omega, by omega⟩
  obtain ⟨n, h3, h4, h6⟩ : ∃ n : Nat, a.low + a.cs.length ≤ lo + n ∧ b.low + b.cs.length ≤ lo + n ∧ (sumP a 1 b).low + (sumP a 1 b).cs.length ≤ lo + n := ⟨(a.low - lo).toNat + (b.low - lo).toNat + ((sumP a 1 b).low - lo).toNat + a.cs.length + b.cs.length + (sumP a 1 b).cs.length, by omega, by omega, by omega⟩
  rw [← val_window a h1 h3, ← val_window b h2 h4, ← val_window _ h5 h6, ← sumN_add]
  refine sumN_congr fun i _ => ?_
  rw [sum_pat, Int.one_mul]
theorem val_prod (a b : Pl) : valP (prodP a b) = valP a * valP b := by
  obtain ⟨lo, h1, h2⟩ : ∃ lo : Int, lo ≤ (prodP a b).low ∧ lo ≤ a.low + b.low := ⟨-((prodP a b).low.natAbs : Int) - (a.low + b.low).natAbs, by omega, by omega⟩
  obtain ⟨n, h3, h4⟩ : ∃ n : Nat, (prodP a b).low + (prodP a b).cs.length ≤ lo + n ∧ a.low + b.low + a.cs.length + b.cs.length ≤ lo + n := ⟨((prodP a b).low - lo).toNat + (a.low + b.low - lo).toNat + (prodP a b).cs.length + a.cs.length + b.cs.length, by omega, by omega⟩
  rw [← val_window _ h1 h3]
  have e1 : sumN (fun i => pat (prodP a b) (lo + (i : Int))) n = sumN (fun i => sumN (fun m => a.cs.getD m 0 * pat b (lo + (i : Int) - (a.low + (m : Int)))) a.cs.length) n := sumN_congr fun i _ => prod_pat a b _
  rw [e1, sumN_swap]
  have e2 : sumN (fun m => sumN (fun i => a.cs.getD m 0 * pat b (lo + (i : Int) - (a.low + (m : Int)))) n) a.cs.length = sumN (fun m => valP b * a.cs.getD m 0) a.cs.length := sumN_congr fun m hm => by
    rw [sumN_mul, Int.mul_comm (valP b)]
    congr 1
    rw [← val_window b (lo := lo - (a.low + (m : Int))) (n := n) (by omega) (by omega)]
    exact sumN_congr fun i _ => by rw [show lo + (i : Int) - (a.low + (m : Int)) = lo - (a.low + (m : Int)) + (i : Int) by omega]
  rw [e2, sumN_mul, Int.mul_comm]
  congr 1
  unfold valP
  rw [oneP_sumN]
theorem oneP_far (l : List Int) : ∀ m, oneP l (l.length + m) = oneP l l.length
  | 0 => rfl
  | m + 1 => by rw [← Nat.add_assoc, oneP, oneP_far l m, getD_far (by omega), Int.add_zero]
theorem sumN_back (f : Nat → Int) : ∀ n, sumN (fun i => f (n - 1 - i)) n = sumN f n
  | 0 => rfl
  | n + 1 => by
    have h := sumN_split (fun i => f (n + 1 - 1 - i)) 1 n
    rw [Nat.add_comm 1 n] at h
    rw [h, sumN, sumN, sumN, ← sumN_back f n, Int.zero_add, show n + 1 - 1 - 0 = n by omega, Int.add_comm]
    congr 1
    exact sumN_congr fun i _ => by rw [show n + 1 - 1 - (1 + i) = n - 1 - i by omega]
theorem val_turn (a : Pl) : valP (turnP a) = valP a := by
  unfold turnP
  rw [val_tidy, List.length_reverse, oneP_sumN]
  unfold valP
  rw [oneP_sumN, ← sumN_back (fun i => a.cs.getD i 0)]
  refine sumN_congr fun i hi => ?_
  rw [List.getD_eq_getElem?_getD, List.getElem?_reverse hi, ← List.getD_eq_getElem?_getD]
theorem turnP_turnP {a : Pl} (h : Trim a) : turnP (turnP a) = a := trim_unique (tidy_trim _ _) h fun k => by rw [turn_pat, turn_pat, Int.neg_neg]
theorem val_bound {p : Pl} (h : polyB p = true) : -200000000000 ≤ valP p ∧ valP p ≤ 200000000000 := by
  obtain ⟨_, h1, _, _, h2⟩ := polyB_trim h
  have := oneP_bound (l := p.cs) h2 p.cs.length
  unfold valP
  omega
theorem turned_true {a : Pl} (h : turnedPB a = true) : polyB a = true ∧ turnedP a = turnP a ∧ polyB (turnP a) = true ∧ turnedPB (turnP a) = true ∧ turnedP (turnP a) = a := by
  have h' := h
  unfold turnedPB at h
  simp only [Bool.and_eq_true] at h
  have e : turnedPB (turnP a) = true := by
    unfold turnedPB
    rw [h.2, turnP_turnP (polyB_trim h.1).1, h.1]
    rfl
  refine ⟨h.1, ?_, h.2, e, ?_⟩
  · unfold turnedP; rw [h']; rfl
  · unfold turnedP; rw [e, turnP_turnP (polyB_trim h.1).1]; rfl
theorem sum_comm {a b : Pl} (ha : Trim a) (hb : Trim b) : sumP b 1 a = sumP a 1 b := trim_unique (sum_trim _ _ hb) (sum_trim _ _ ha) fun k => by rw [sum_pat, sum_pat]; omega
theorem add_true {a b : Pl} (h : addPB a b = true) : polyB a = true ∧ polyB b = true ∧ polyB (sumP a 1 b) = true ∧ addP a b = sumP a 1 b ∧ addPB b a = true ∧ addP b a = sumP a 1 b := by
  have h' := h
  unfold addPB at h
  simp only [Bool.and_eq_true] at h
  have e : addPB b a = true := by
    unfold addPB
    rw [h.1, h.2.1, sum_comm (polyB_trim h.1).1 (polyB_trim h.2.1).1, h.2.2]
    rfl
  refine ⟨h.1, h.2.1, h.2.2, ?_, e, ?_⟩
  · unfold addP; rw [h']; rfl
  · unfold addP; rw [e, sum_comm (polyB_trim h.1).1 (polyB_trim h.2.1).1]; rfl
theorem plain_some {b : Pl} (h : ¬ b.cs.length = 0) : plainP b = ⟨0, b.cs.map fun z => (if b.cs.getD 0 0 < 0 then -1 else 1) * z⟩ := by unfold plainP; rw [if_neg h]
theorem plain_plain (a : Pl) : plainP (plainP a) = plainP a := by
  by_cases h0 : a.cs.length = 0
  · have e : plainP a = a := by unfold plainP; rw [if_pos h0]
    rw [e, e]
  · have hlen : (plainP a).cs.length = a.cs.length := plain_len a
    have hlow : (plainP a).low = 0 := plain_low (by omega)
    have e : (plainP a).cs = a.cs.map fun z => (if a.cs.getD 0 0 < 0 then -1 else 1) * z := by unfold plainP; rw [if_neg h0]
    have hz : (plainP a).cs.getD 0 0 = (if a.cs.getD 0 0 < 0 then -1 else 1) * a.cs.getD 0 0 := by
      rw [e, List.getD_eq_getElem?_getD, List.getElem?_map, List.getElem?_eq_getElem (by omega), List.getD_eq_getElem?_getD, List.getElem?_eq_getElem (by omega)]
      rfl
    have hn : ¬ (plainP a).cs.getD 0 0 < 0 := by
      rw [hz]
      split <;> omega
    have e2 : plainP (plainP a) = ⟨0, (plainP a).cs.map fun z => (if (plainP a).cs.getD 0 0 < 0 then -1 else 1) * z⟩ := plain_some (by rw [hlen]; exact h0)
    rw [e2, if_neg hn]
    have e3 : ((plainP a).cs.map fun z => 1 * z) = (plainP a).cs := by
      rw [show (fun z : Int => 1 * z) = id from funext fun z => Int.one_mul z, List.map_id]
    rw [e3]
    show (⟨0, (plainP a).cs⟩ : Pl) = plainP a
    rw [← hlow]

end Go.Proofs.Ytbbkpaledlbcmaa

/- The program's sums of parts. -/

namespace Go.Proofs.Ytbbkpaledlbcmaa
open Go.RowKit Go.Shelf

def sumO (f : Nat → Option Pl) : Nat → Option Pl
  | 0 => some zeroP
  | k + 1 => match sumO f k with
    | none => none
    | some s => match f k with
      | none => none
      | some p => addO s p
/-- As AtE, and the polynomial may lie anywhere. -/
def AtF (W : World) (o : Option Pl) (e : Ending) (w' : World) : Prop :=
  ((∃ l a n c, o = none ∧ e = .returned (.tuple #[plV l (.slice a n c), .bool false])) ∨ (∃ p a n c, o = some p ∧ e = .returned (.tuple #[plV p.low (.slice a n c), .bool true]) ∧ IntRow 0 w' (.slice a n c) p.cs)) ∧ Below W.heap.size W w'
theorem AtE.f {W : World} {o : Option Pl} {e : Ending} {w' : World} (h : AtE W o e w') : AtF W o e w' :=
  ⟨h.1.imp id fun ⟨p, a, n, c, h1, h2, h3⟩ => ⟨p, a, n, c, h1, h2, h3.mono (Nat.zero_le _)⟩, h.2⟩
/-- What a function that tells a polynomial comes to: 0 if there is none. -/
def AtZ (W : World) (o : Option Pl) (e : Ending) (w' : World) : Prop :=
  (∃ a n c, e = .returned (.tuple #[plV (o.getD zeroP).low (.slice a n c), .bool o.isSome]) ∧ IntRow W.heap.size w' (.slice a n c) (o.getD zeroP).cs) ∧ Below W.heap.size W w'
theorem AtZ.atE {W : World} {o : Option Pl} {e : Ending} {w' : World} (h : AtZ W o e w') : AtE W o e w' := by
  obtain ⟨⟨a, n, c, rfl, hr⟩, hb⟩ := h
  cases o with
  | none => exact ⟨.inl ⟨_, _, _, _, rfl, rfl⟩, hb⟩
  | some p => exact ⟨.inr ⟨p, _, _, _, rfl, rfl, hr⟩, hb⟩
theorem AtZ.no {W w' : World} {o : Option Pl} (h : o = none) (hb : Below W.heap.size W w') : AtZ W o (.returned (.tuple #[plV 0 (.slice none 0 0), .bool false])) w' := by
  subst h
  exact ⟨⟨_, _, _, rfl, intNil _ _⟩, hb⟩
theorem AtZ.yes {W w' : World} {o : Option Pl} {p : Pl} {a : Option Addr} {n c : Nat} (h : o = some p) (hr : IntRow W.heap.size w' (.slice a n c) p.cs) (hb : Below W.heap.size W w') : AtZ W o (.returned (.tuple #[plV p.low (.slice a n c), .bool true])) w' := by
  subst h
  exact ⟨⟨_, _, _, rfl, hr⟩, hb⟩
theorem IntRow.pin {base : Nat} {w : World} {a : Option Addr} {n c : Nat} {p : Pl} (h : IntRow base w (.slice a n c) p.cs) (hp : polyB p = true) : PIn w a n c p.cs ∧ p.cs.length = n := by
  obtain ⟨a2, c2, e, h1, h2⟩ := h.readc fun z hz => by have := coefIn_yes (polyB_coef hp z hz); omega
  simp only [Value.slice.injEq] at e
  obtain ⟨rfl, rfl, rfl⟩ := e
  exact ⟨⟨h2, h1⟩, rfl⟩
theorem addO_B {s p q : Pl} (h : addO s p = some q) : polyB q = true ∧ addPB s p = true ∧ addP s p = q := by
  unfold addO at h
  split at h
  · rename_i hb
    simp only [Option.some.injEq] at h
    obtain ⟨_, _, h3, h4, _⟩ := add_true hb
    refine ⟨?_, hb, h⟩
    rw [← h, h4]; exact h3
  · cases h
theorem sumO_B {f : Nat → Option Pl} : ∀ {k : Nat} {s : Pl}, sumO f k = some s → polyB s = true
  | 0, s, h => by simp only [sumO, Option.some.injEq] at h; rw [← h]; exact zero_B
  | k + 1, s, h => by
    unfold sumO at h
    cases h1 : sumO f k with
    | none => rw [h1] at h; cases h
    | some q =>
      rw [h1] at h
      cases h2 : f k with
      | none => rw [h2] at h; cases h
      | some p => rw [h2] at h; exact (addO_B h).1
/-- A sum that has failed stays so. -/
theorem sumO_stop {f : Nat → Option Pl} {k : Nat} (h : sumO f k = none) : ∀ n, k ≤ n → sumO f n = none := by
  intro n hn
  induction n with
  | zero => obtain rfl : k = 0 := by omega
            exact h
  | succ n ih =>
    by_cases e : k = n + 1
    · subst e; exact h
    · unfold sumO
      rw [ih (by omega)]

theorem sumO_next {f : Nat → Option Pl} {k : Nat} {s p : Pl} {b : Bool} (h1 : sumO f k = some s) (h2 : f k = some p) (hb : addPB s p = b) : sumO f (k + 1) = if b = true then some (addP s p) else none := by
  subst hb
  simp only [sumO, h1, h2, addO]
abbrev RST : TypeId := 100
theorem iPolyAdd_o {W : World} {a1 a2 : Option Addr} {n1 n2 c1 c2 : Nat} {p q : Pl} {b : Bool} (h1 : PIn W a1 n1 c1 p.cs) (h2 : PIn W a2 n2 c2 q.cs) (hb : addPB p q = b) :
    Calls Try.prog 42 #[plV p.low (.slice a1 n1 c1), plV q.low (.slice a2 n2 c2)] W fun e w' => (∃ a n c, e = .returned (.tuple #[plV (addP p q).low (.slice a n c), .bool b]) ∧ IntRow W.heap.size w' (.slice a n c) (addP p q).cs) ∧ Below W.heap.size W w' := by
  refine (iPolyAdd_any p.low q.low p.cs q.cs a1 a2 c1 c2 n1 n2 _ _ b W h1.is h2.is h1.le h2.le rfl rfl hb).mono ?_
  rintro e w' ⟨⟨v, rfl, hr⟩, hB⟩
  rw [show doneP b (sumP ⟨p.low, p.cs⟩ 1 ⟨q.low, q.cs⟩) = addP p q by rw [← hb]; rfl] at hr ⊢
  obtain ⟨a, _, c, rfl, _⟩ := hr.shape
  exact ⟨⟨_, _, _, rfl, hr⟩, hB⟩
structure SumAt (w : World) (n : Nat) (fv : Value) (s : Pl) (a : Option Addr) (m c : Nat) (wr : World) : Prop where
  below : Below w.heap.size w wr
  size : w.heap.size + 3 ≤ wr.heap.size
  b0 : wr.heap[w.heap.size]? = some (.cells #[.int .i64 n, fv] RST (0, 0))
  b1 : wr.heap[w.heap.size + 1]? = some (.cells #[.int .i64 0, .slice none 0 0] PO (0, 0))
  b2 : wr.heap[w.heap.size + 1 + 1]? = some (.cells #[.int .i64 s.low, .slice a m c] PO (0, 0))
  row : IntRow (w.heap.size + 3) wr (.slice a m c) s.cs
theorem SumAt.bel {w wr w2 : World} {n : Nat} {fv : Value} {s : Pl} {a : Option Addr} {m c : Nat} (h : SumAt w n fv s a m c wr) (hb : Below wr.heap.size wr w2) : SumAt w n fv s a m c w2 := by
  have hs := h.size
  exact ⟨h.below.trans (hb.mono h.below.size), Nat.le_trans h.size hb.size, (hb.block _ (by omega)).trans h.b0, (hb.block _ (by omega)).trans h.b1, (hb.block _ (by omega)).trans h.b2, h.row.below hb⟩
theorem SumAt.cells {w wr : World} {n : Nat} {fv : Value} {s : Pl} {a : Option Addr} {m c : Nat} (h : SumAt w n fv s a m c wr) :
    wr.cell? ⟨w.heap.size, 1, none⟩ = some fv ∧ wr.cell? ⟨w.heap.size + 1, 0, none⟩ = some (.int .i64 0) ∧ wr.cell? ⟨w.heap.size + 1, 1, none⟩ = some (.slice none 0 0) ∧ wr.cell? ⟨w.heap.size + 1 + 1, 0, none⟩ = some (.int .i64 s.low) ∧ wr.cell? ⟨w.heap.size + 1 + 1, 1, none⟩ = some (.slice a m c) ∧
    wr.frozen? ⟨w.heap.size + 1, 0, none⟩ = false ∧ wr.frozen? ⟨w.heap.size + 1, 1, none⟩ = false ∧ wr.frozen? ⟨w.heap.size + 1 + 1, 0, none⟩ = false ∧ wr.frozen? ⟨w.heap.size + 1 + 1, 1, none⟩ = false := by
  have h0 := h.b0
  have h1 := h.b1
  have h2 := h.b2
  refine ⟨?_, ?_, ?_, ?_, ?_, ?_, ?_, ?_, ?_⟩ <;> simp [World.cell?, World.frozen?, h0, h1, h2]
theorem SumAt.start (w : World) (n : Nat) (fv : Value) : SumAt w n fv zeroP none 0 0 (((w.alloc (.cells #[.int .i64 n, fv] RST)).alloc (.cells #[.int .i64 0, .slice none 0 0] PO)).alloc (.cells #[.int .i64 0, .slice none 0 0] PO)) := by
  refine ⟨(((Below.refl _ w).alloc (Nat.le_refl _) _).alloc (by simp) _).alloc (by simp; omega) _, by simp, ?_, ?_, ?_, intNil _ _⟩
  · rw [Below.heap_alloc _ _ _ (by simp; omega), Below.heap_alloc _ _ _ (by simp)]
    exact World.alloc_heap_new w _
  · rw [Below.heap_alloc _ _ _ (by simp)]
    have h := World.alloc_heap_new (w.alloc (.cells #[.int .i64 n, fv] RST)) (.cells #[.int .i64 0, .slice none 0 0] PO)
    rwa [World.size_alloc] at h
  · have h := World.alloc_heap_new ((w.alloc (.cells #[.int .i64 n, fv] RST)).alloc (.cells #[.int .i64 0, .slice none 0 0] PO)) (.cells #[.int .i64 0, .slice none 0 0] PO)
    rwa [World.size_alloc, World.size_alloc] at h
/-- The sum is stored anew. -/
theorem SumAt.next {w wr : World} {n : Nat} {fv : Value} {s q : Pl} {a a2 : Option Addr} {m c m2 c2 : Nat} (h : SumAt w n fv s a m c wr) (hr : IntRow (w.heap.size + 3) wr (.slice a2 m2 c2) q.cs) :
    SumAt w n fv q a2 m2 c2 ((wr.setCell ⟨w.heap.size + 1 + 1, 0, none⟩ (.int .i64 q.low)).setCell ⟨w.heap.size + 1 + 1, 1, none⟩ (.slice a2 m2 c2)) := by
  have hs := h.size
  have hoff : ∀ b, b ≠ w.heap.size + 1 + 1 → ((wr.setCell ⟨w.heap.size + 1 + 1, 0, none⟩ (.int .i64 q.low)).setCell ⟨w.heap.size + 1 + 1, 1, none⟩ (.slice a2 m2 c2)).heap[b]? = wr.heap[b]? := fun b hb => by
    rw [heap_off _ _ _ (by show b ≠ w.heap.size + 1 + 1; exact hb), heap_off _ _ _ (by show b ≠ w.heap.size + 1 + 1; exact hb)]
  refine ⟨(h.below.setCell (p := ⟨w.heap.size + 1 + 1, 0, none⟩) (by show w.heap.size ≤ w.heap.size + 1 + 1; omega) _).setCell (p := ⟨w.heap.size + 1 + 1, 1, none⟩) (by show w.heap.size ≤ w.heap.size + 1 + 1; omega) _, by simp; omega, (hoff _ (by omega)).trans h.b0, (hoff _ (by omega)).trans h.b1, ?_, ?_⟩
  · rw [heap_setCell_same _ (w.heap.size + 1 + 1) 1 _ _ _ (heap_setCell_same wr (w.heap.size + 1 + 1) 0 _ _ _ h.b2)]
    simp
  · exact ownsRow_setCell_below (ownsRow_setCell_below hr (a := ⟨w.heap.size + 1 + 1, 0, none⟩) (by show w.heap.size + 1 + 1 < w.heap.size + 3; omega) _) (a := ⟨w.heap.size + 1 + 1, 1, none⟩) (by show w.heap.size + 1 + 1 < w.heap.size + 3; omega) _

set_option maxRecDepth 100000 in
set_option maxHeartbeats 4000000 in
theorem sumTold_any (F : Nat) (first lb : Array Value) (n : Nat) (f : Nat → Option Pl) (w : World) (hn : n ≤ 4) (eg : ∀ args w, (callFunc F args).run Try.prog w = .ok (.enter F args) w) (hfp : ∀ k p, k < n → f k = some p → polyB p = true)
    (hat : ∀ (k : Nat) (W : World), k < n → Below w.heap.size w W → Calls Try.prog F (first.push (.int .i64 (k : Int)) ++ lb) W (AtF W (f k))) :
    Calls Try.prog 100 #[.agg #[.int .i64 n, .func (.func F) first lb]] w (AtZ w (sumO f n)) := by
  have HST := Lib.hid (SumAt.start w n (.func (.func F) first lb))
  have HAT := Lib.hid hat
  have HFP := Lib.hid hfp
  clear hat hfp
  go_enter Try.func100, Try.ntmps100
  go_wp2
  go_loopw [11] (fun x wr => ∃ (k : Nat) (s : Pl) (a : Option Addr) (m c : Nat), k ≤ n ∧ x = .int .i64 k ∧ Hid (sumO f k = some s) ∧ Hid (SumAt w n (.func (.func F) first lb) s a m c wr)) (fun x _ => n - (intOf x).toNat)
  case atStart => exact ⟨0, zeroP, _, _, _, Nat.zero_le _, rfl, Lib.hid rfl, HST⟩
  case round =>
    obtain ⟨k, s, a, m, c, hk, rfl, HS, HA⟩ := hrel
    obtain ⟨q0, d0, d1, e0, e1, f0, f1, g0, g1⟩ := HA.out.cells
    by_cases hlt : k < n
    · clear d0 d1 e0 e1 f0 f1 g0 g1
      go_wp2_with fail
      refine (HAT.out k wr hlt HA.out.below).mono ?_
      rintro e w2 ⟨⟨l, a2, n2, c2, hf, rfl⟩ | ⟨p, a2, n2, c2, hf, rfl, hr⟩, hb2⟩
      · have HA2 := Lib.hid ((HA.out.bel hb2).bel ((Below.refl w2.heap.size w2).alloc (Nat.le_refl _) (.cells #[.int .i64 l, .slice a2 n2 c2] PO)))
        obtain ⟨q0, d0, d1, e0, e1, f0, f1, g0, g1⟩ := HA2.out.cells
        have HN : Hid (sumO f n = none) := Lib.hid (sumO_stop (k := k + 1) (by unfold sumO; rw [HS.out, hf]) n (by omega))
        clear hf hb2
        go_wp2
        refine bodyPost_ret (v := .tuple #[plV 0 (.slice none 0 0), .bool false]) ?_ rfl (AtZ.no HN.out (resBelow1 (.int .i64 0) (.slice none 0 0) HA2.out.below))
        simp [results, Try.results100, go_sem, d0, d1, plV]
      · have hpB := HFP.out k p hlt hf
        have HA2 := Lib.hid ((HA.out.bel hb2).bel ((Below.refl w2.heap.size w2).alloc (Nat.le_refl _) (.cells #[.int .i64 p.low, .slice a2 n2 c2] PO)))
        obtain ⟨q0, d0, d1, e0, e1, f0, f1, g0, g1⟩ := HA2.out.cells
        have hrA := hr.below ((Below.refl w2.heap.size w2).alloc (Nat.le_refl _) (.cells #[.int .i64 p.low, .slice a2 n2 c2] PO))
        have hP2 := (hrA.pin hpB).1
        have hP1 := (HA2.out.row.pin (sumO_B HS.out)).1
        obtain ⟨b, hb⟩ : ∃ b, addPB s p = b := ⟨_, rfl⟩
        have HADD := Lib.hid (iPolyAdd_o hP1 hP2 hb)
        have HF := Lib.hid hf
        have HBB := Lib.hid hb
        clear hf hb2 hr hrA hP1 hP2 hpB hb
        go_wp2_with fail
        refine HADD.out.mono ?_
        rintro e w3 ⟨⟨a3, n3, c3, rfl, hr3⟩, hb3⟩
        have hA3 := HA2.out.bel hb3
        have HA3 := Lib.hid hA3
        have HR3 := Lib.hid (hr3.mono HA2.out.size)
        obtain ⟨q0, d0, d1, e0, e1, f0, f1, g0, g1⟩ := HA3.out.cells
        have HN3 := Lib.hid (HA3.out.next HR3.out)
        obtain ⟨r0, h0, h1, i0, i1, j0, j1, k0, k1⟩ := HN3.out.cells
        clear hb3 hr3 hA3
        cases b with
        | false =>
          have HN : Hid (sumO f n = none) := Lib.hid (sumO_stop (k := k + 1) (by rw [sumO_next HS.out HF.out HBB.out]; rfl) n (by omega))
          go_wp2
          refine bodyPost_ret (v := .tuple #[plV 0 (.slice none 0 0), .bool false]) ?_ rfl (AtZ.no HN.out (resBelow1 (.int .i64 0) (.slice none 0 0) HN3.out.below))
          simp [results, Try.results100, go_sem, h0, h1, plV]
        | true =>
          have HS3 : Hid (sumO f (k + 1) = some (addP s p)) := Lib.hid (by rw [sumO_next HS.out HF.out HBB.out]; rfl)
          clear h0 h1 i0 i1 j0 j1 k0 k1 r0
          go_wp2
          go_roundw
          case rel => exact ⟨k + 1, addP s p, a3, n3, c3, by omega, by go_num, HS3, HN3⟩
          case measure => simp [intOf]; omega
    · obtain rfl : k = n := by omega
      go_wp2
      have hA : AtZ w (sumO f k) (.returned (.tuple #[plV s.low (.slice a m c), .bool true])) ((wr.setCell ⟨w.heap.size + 1, 0, none⟩ (.int .i64 s.low)).setCell ⟨w.heap.size + 1, 1, none⟩ (.slice a m c)) :=
        AtZ.yes HS.out (resRow1 (.int .i64 s.low) (.slice a m c) HA.out.row (by omega)) (resBelow1 (.int .i64 s.low) (.slice a m c) HA.out.below)
      refine bodyPost_ret (v := .tuple #[plV s.low (.slice a m c), .bool true]) ?_ rfl hA
      simp [results, Try.results100, go_sem, d0, d1, plV]

end Go.Proofs.Ytbbkpaledlbcmaa

/- The program's squareOf and MatrixTrace. -/

namespace Go.Proofs.Ytbbkpaledlbcmaa
open Go.RowKit Go.Shelf

theorem traceS_sum (M : Mx) : ∀ k, traceS M k = sumO (fun i => some (at2 M i i)) k
  | 0 => rfl
  | k + 1 => by
    unfold traceS sumO
    rw [traceS_sum M k]
    cases sumO (fun i => some (at2 M i i)) k <;> rfl
theorem traceM_no {M : Mx} (h : ¬ (matB M = true ∧ M.length = colsM M)) : traceM M = none := by
  unfold traceM
  rw [if_neg]
  simpa using h
theorem traceM_yes {M : Mx} (h : matB M = true) (h2 : M.length = colsM M) : traceM M = sumO (fun i => some (at2 M i i)) M.length := by
  unfold traceM
  rw [if_pos (by simp [h, h2])]
  exact traceS_sum M _
/-- What squareOf comes to. -/
def SqR (w : World) (M : Mx) (e : Ending) (w' : World) : Prop :=
  (((matB M = true ∧ M.length = colsM M) ∧ ∃ g pv, e = .returned (.agg (mC g)) ∧ MatW w.heap.size w' g M.length M.length (at2 M) pv) ∨ (¬ (matB M = true ∧ M.length = colsM M) ∧ e = .returned (.agg (mC fun _ => none)))) ∧ Below w.heap.size w w'
/-- Both ends of matrixOf in one. -/
theorem MatR.any {w w' : World} {M : Mx} {e : Ending} (h : MatR w M e w') : ∃ g N C, e = .returned (.agg (mC g)) ∧ ShapeM g N C ∧ Below w.heap.size w w' ∧ ((matB M = true ∧ N = M.length ∧ C = colsM M ∧ ∃ pv, MatW w.heap.size w' g N C (at2 M) pv) ∨ (matB M = false ∧ N = C ∧ g = fun _ => none)) := by
  obtain ⟨⟨h1, g, pv, rfl, hM⟩ | ⟨h1, rfl⟩, hb⟩ := h
  · exact ⟨g, _, _, rfl, hM.shp, hb, .inl ⟨h1, rfl, rfl, pv, hM⟩⟩
  · exact ⟨_, 0, 0, rfl, ShapeM.none, hb, .inr ⟨h1, rfl, rfl⟩⟩

set_option maxRecDepth 100000 in
set_option maxHeartbeats 4000000 in
theorem squareOf_any (a : Option Addr) (c n : Nat) (M : Mx) (w : World) (hs : IsPSS w a n M) :
    Calls Try.prog 102 #[.slice a n c] w (SqR w M) := by
  have hmx : Try.prog.follows .mixedOrders = true := by kernel_rfl
  obtain ⟨W, hW⟩ : ∃ W, w.alloc (.cells (mC fun _ => none) MA) = W := ⟨_, rfl⟩
  have hsz : W.heap.size = w.heap.size + 1 := by rw [← hW]; simp
  have hbW : Below w.heap.size w W := by rw [← hW]; exact (Below.refl _ w).alloc (Nat.le_refl _) _
  have hres : W.heap[w.heap.size]? = some (.cells (mC fun _ => none) MA (0, 0)) := by rw [← hW]; exact World.alloc_heap_new w _
  have HS := Lib.hid (hs.below hbW)
  have HRES := Lib.hid hres
  have HBW := Lib.hid hbW
  simp only [mC] at hW
  have HW := Lib.hid hW
  clear hres hbW hs hW
  go_enter Try.func102, Try.ntmps102
  go_wp2_with fail
  rw [HW.out]
  refine (matrixOf_any a c n M W HS.out).mono ?_
  intro e w1 hR
  obtain ⟨g, N, C, rfl, hsh, hb1, hcase⟩ := hR.any
  clear hR
  have hs1 := hb1.size
  have HSH := Lib.hid hsh
  have HCASE := Lib.hid hcase
  have HB1 := Lib.hid hb1
  have HA1 := Lib.hid ((Below.refl w1.heap.size w1).alloc (Nat.le_refl _) (.cells (mC fun _ => none) MA))
  clear hsh hcase hb1
  go_wp2_with (refine wpList_store_mat rfl _ _ rfl w1.heap.size (fun _ => none) g rfl rfl (World.alloc_heap_new w1 (.cells (mC fun _ => none) MA)) ?_; intro w2 hp2)
  have HX2 := Lib.hid hp2.heap
  have HB2 := Lib.hid (hp2.below (HB1.out.trans (HA1.out.mono hs1)) hs1)
  have HC2 := Lib.hid (hp2.below HA1.out (Nat.le_refl _))
  clear hp2
  have hs2 := HB2.out.size
  have hlt2 : w1.heap.size < w2.heap.size := (Array.getElem?_eq_some_iff.1 HX2.out).1
  have HROW : Hid (∀ p : BelowBy w2, Calls Try.prog 97 #[.agg (mC g)] p.world fun e w' => e = .returned (.int .i64 N) ∧ Below p.world.heap.size p.world w') := Lib.hid fun p => rows_any g N C HSH.out p.world
  have HCOL : Hid (∀ p : BelowBy w2, Calls Try.prog 96 #[.agg (mC g)] p.world fun e w' => e = .returned (.int .i64 C) ∧ Below p.world.heap.size p.world w') := Lib.hid fun p => columns_any g N C HSH.out p.world
  have hpick : (N = C ∧ ((N : Int) == (C : Int)) = true ∧ ((N : Int) != (C : Int)) = false ∧ decide ((N : Int) = (C : Int)) = true) ∨ (N ≠ C ∧ ((N : Int) == (C : Int)) = false ∧ ((N : Int) != (C : Int)) = true ∧ decide ((N : Int) = (C : Int)) = false) := by
    by_cases e : N = C
    · subst e; exact .inl ⟨rfl, by simp, by simp, by simp⟩
    · have e2 : ¬ (N : Int) = (C : Int) := by omega
      exact .inr ⟨e, by simp [e2], by simp [e2], by simp [e2]⟩
  refine wp_region_below hmx (by kernel_rfl) ?_
  repeat (first
    | (refine wpQuiet_load_mat rfl _ rfl w1.heap.size g rfl HX2.out ?_)
    | ((with_reducible refine wpQuiet_step (fun K hK => ?_)); go_simp; first | ((with_reducible refine hK _ ?_); clear hK K) | (refine (if_neg (by decide)).mpr ?_; (with_reducible refine hK _ ?_); clear hK K) | (apply Exists.intro; (with_reducible refine ⟨fun _ => ?_, hK _ ?_⟩); (first | (go_at_call 96; exact Calls.bel (HCOL.out _)) | (go_at_call 97; exact Calls.bel (HROW.out _))); clear hK K)))
  with_reducible refine wpQuiet_nil ?_
  rintro _ ⟨⟨V, hV⟩, rfl⟩
  have HBV := Lib.hid (HB2.out.trans (hV.mono HB2.out.size))
  have HXV := Lib.hid ((hV.block w1.heap.size hlt2).trans HX2.out)
  have HRV := Lib.hid ((HBV.out.block w.heap.size (by omega)).trans HRES.out)
  have HMV := Lib.hid (HC2.out.trans (hV.mono HC2.out.size))
  clear hV
  rcases hpick with ⟨hNC, hd1, hd2, hd3⟩ | ⟨hNC, hd1, hd2, hd3⟩
  · go_wp2_with (first | (refine wpList_load_mat rfl _ rfl w1.heap.size g rfl HXV.out ?_) | (refine wpList_store_mat rfl _ _ rfl w.heap.size (fun _ => none) g rfl rfl HRV.out ?_; intro w3 hp3))
    have hld := loadM hp3.heap
    have hB3 : Below w.heap.size w w3 := hp3.below (HBW.out.trans (HBV.out.mono HBW.out.size)) (Nat.le_refl _)
    have hpost : SqR w M (.returned (.agg (mC g))) w3 := by
      refine ⟨?_, hB3⟩
      rcases HCASE.out with ⟨h1, h2, h3, pv, hM⟩ | ⟨h1, h2, h3⟩
      · subst h2
        subst hNC
        refine .inl ⟨⟨h1, h3⟩, g, pv, rfl, ?_⟩
        exact (((hM.below HMV.out).put hp3 (by omega)).mono (by omega))
      · subst h3
        exact .inr ⟨fun h => by rw [h1] at h; exact absurd h.1 (by decide), rfl⟩
    refine bodyPost_ret (v := .agg (mC g)) ?_ rfl hpost
    simp [results, Try.results102, Act.put, asAddr, hld]
  · go_wp2_with (refine wpList_store_mat rfl _ _ rfl w.heap.size (fun _ => none) (fun _ => none) rfl rfl HRV.out ?_; intro w3 hp3)
    have hld := loadM hp3.heap
    have hB3 : Below w.heap.size w w3 := hp3.below (HBW.out.trans (HBV.out.mono HBW.out.size)) (Nat.le_refl _)
    have hpost : SqR w M (.returned (.agg (mC fun _ => none))) w3 := by
      refine ⟨.inr ⟨?_, rfl⟩, hB3⟩
      rintro ⟨h1, h2⟩
      rcases HCASE.out with ⟨_, h3, h4, _⟩ | ⟨h3, _⟩
      · exact hNC (by rw [h3, h4]; exact h2)
      · rw [h1] at h3; cases h3
    refine bodyPost_ret (v := .agg (mC fun _ => none)) ?_ rfl hpost
    simp [results, Try.results102, Act.put, asAddr, hld]

set_option maxRecDepth 100000 in
set_option maxHeartbeats 2000000 in
theorem trace1_any (g : Nat → Option Addr) (n m lo B k : Nat) (P : Nat → Nat → Pl) (pv : Nat → Nat → Value) (w : World) (hM : MatW lo w g n m P pv) (hB : w.heap[B]? = some (.cells (mC g) MA (0, 0))) (hk : k < n) (hkm : k < m) :
    Calls Try.prog 104 #[.int .i64 (k : Int), .pointer (some ⟨B, 0, none⟩)] w (AtF w (some (P k k))) := by
  have hn4 := hM.shp.n4
  have hk4 : (k : Int) < 4 := by omega
  obtain ⟨jb, hgj, _, hj2, hj3, hj4, hj5⟩ := hM.at_ k k hk hkm
  obtain ⟨hq0, _⟩ := cell_of16 hB (i := k) (k := k) (by omega) (by omega)
  rw [hgj] at hq0
  obtain ⟨av, gv, cv, hpv, _, _, _⟩ := hj5.shape
  obtain ⟨N, hN⟩ : ∃ N, (P k k).cs.length = N := ⟨_, rfl⟩
  rw [hN] at hpv
  rw [hpv] at hj4 hj5
  have HJ := Lib.hid hj5
  have hBl : B < w.heap.size := (Array.getElem?_eq_some_iff.1 hB).1
  have HBR := Lib.hid ((Below.refl w.heap.size w).alloc (Nat.le_refl _) (.cells #[.int .i64 (P k k).low, .slice av N cv] PO))
  clear hM hB hj5 hpv hN hgj
  go_enter Try.func104, Try.ntmps104
  go_wp2
  have hA : AtF w (some (P k k)) (.returned (.tuple #[plV (P k k).low (.slice av N cv), .bool true])) (w.alloc (.cells #[.int .i64 (P k k).low, .slice av N cv] PO)) :=
    ⟨.inr ⟨P k k, _, _, _, rfl, rfl, (HJ.out.below HBR.out).mono (Nat.zero_le _)⟩, HBR.out⟩
  refine bodyPost_ret (v := .tuple #[plV (P k k).low (.slice av N cv), .bool true]) ?_ rfl hA
  simp [results, Try.results104, go_sem, plV]

set_option maxRecDepth 100000 in
set_option maxHeartbeats 4000000 in
theorem iMatrixTrace_any (a : Option Addr) (c n : Nat) (M : Mx) (w : World) (hs : IsPSS w a n M) :
    Calls Try.prog 33 #[.slice a n c] w (AtZ w (traceM M)) := by
  have hmf : ∀ (fn : Fn) (first cap : Array Value) (w : World), (Instr.makeFunc fn first cap).run Try.prog w = .ok (.func fn first cap) w := fun _ _ _ _ => rfl
  obtain ⟨W, hW⟩ : ∃ W, w.alloc (.cells #[.int .i64 0, .slice none 0 0] PO) = W := ⟨_, rfl⟩
  have hsz : W.heap.size = w.heap.size + 1 := by rw [← hW]; simp
  have hbW : Below w.heap.size w W := by rw [← hW]; exact (Below.refl _ w).alloc (Nat.le_refl _) _
  have HC : Hid (∀ w1, Below W.heap.size W w1 → _) := Lib.hid fun w1 (hg : Below W.heap.size W w1) => resCells (w := w) rfl (by rw [hW, ← hsz]; exact hg)
  have HS := Lib.hid (hs.below hbW)
  have HBW := Lib.hid hbW
  have HW := Lib.hid hW
  clear hbW hs hW
  go_enter Try.func33, Try.ntmps33
  go_wp2_with fail
  rw [HW.out]
  refine (squareOf_any a c n M W HS.out).mono ?_
  rintro e w1 ⟨⟨⟨hy, hsq⟩, g, pv, rfl, hM⟩ | ⟨hn, rfl⟩, hb1⟩
  · have hs1 := hb1.size
    have hq := mat_no hM.shp (by have := (matB_iff.1 hy).1; omega)
    have hl4 := (matB_iff.1 hy).1
    have HA1 := Lib.hid ((Below.refl w1.heap.size w1).alloc (Nat.le_refl _) (.cells (mC fun _ => none) MA))
    have HB1 := Lib.hid hb1
    have HM1 := Lib.hid hM
    obtain ⟨N, hN⟩ : ∃ N, M.length = N := ⟨_, rfl⟩
    have HT := Lib.hid (traceM_yes hy hsq)
    have HP := Lib.hid fun k p (hk : k < N) (e : some (at2 M k k) = some p) => (show polyB p = true by rw [← Option.some.inj e]; exact matB_at hy (by omega) (by omega))
    rw [hN] at HM1 HT hl4
    clear hb1 hM hy hsq hN
    go_wp2_with (first | (refine wpList_store_mat rfl _ _ rfl w1.heap.size (fun _ => none) g rfl rfl (World.alloc_heap_new w1 (.cells (mC fun _ => none) MA)) ?_; intro w2 hp2; have HP2 := Lib.hid hp2; clear hp2) | (refine wpList_load_mat rfl _ rfl w1.heap.size g rfl HP2.out.heap ?_))
    have HB2 := Lib.hid (HP2.out.below (HB1.out.trans (HA1.out.mono hs1)) hs1)
    have HM2 := Lib.hid (HM1.out.below (HP2.out.below HA1.out (Nat.le_refl _)))
    refine (rows_any g N N HM2.out.shp w2).mono ?_
    rintro e w3 ⟨rfl, hb3⟩
    have HX3 := Lib.hid ((hb3.block w1.heap.size (Array.getElem?_eq_some_iff.1 HP2.out.heap).1).trans HP2.out.heap)
    have HB3 := Lib.hid (HB2.out.trans (hb3.mono HB2.out.size))
    have HM3 := Lib.hid (HM2.out.below hb3)
    have hl3 := (Array.getElem?_eq_some_iff.1 HX3.out).1
    clear hb3
    have HSUM := Lib.hid (sumTold_any 104 #[] #[.pointer (some ⟨w1.heap.size, 0, none⟩)] N (fun i => some (at2 M i i)) w3 hl4.2 (fun _ _ => by go_simp) (fun k p hk e => HP.out k p hk e)
      (fun k V hk hV => trace1_any g N N _ w1.heap.size k (at2 M) pv V (HM3.out.below hV) ((hV.block w1.heap.size hl3).trans HX3.out) hk hk))
    go_wp2_with fail
    refine HSUM.out.mono ?_
    rintro e w4 ⟨⟨a4, n4, c4, rfl, hr4⟩, hb4⟩
    have HB4 := Lib.hid (HB3.out.trans (hb4.mono HB3.out.size))
    obtain ⟨e0, e1, f0, f1⟩ := HC.out w4 HB4.out
    have HR4 := Lib.hid hr4
    have hs3 := HB3.out.size
    clear hr4 hb4
    go_wp2
    have hA : AtZ w (traceM M) (.returned (.tuple #[plV ((sumO (fun i => some (at2 M i i)) N).getD zeroP).low (.slice a4 n4 c4), .bool (sumO (fun i => some (at2 M i i)) N).isSome])) ((w4.setCell ⟨w.heap.size, 0, none⟩ (.int .i64 ((sumO (fun i => some (at2 M i i)) N).getD zeroP).low)).setCell ⟨w.heap.size, 1, none⟩ (.slice a4 n4 c4)) := by
      rw [HT.out]
      exact ⟨⟨_, _, _, rfl, resRow _ _ HR4.out (by omega)⟩, resBelow _ _ (HBW.out.trans (HB4.out.mono HBW.out.size))⟩
    refine bodyPost_ret (v := .tuple #[plV ((sumO (fun i => some (at2 M i i)) N).getD zeroP).low (.slice a4 n4 c4), .bool (sumO (fun i => some (at2 M i i)) N).isSome]) ?_ rfl hA
    simp [results, Try.results33, go_sem, e0, e1, plV]
  · have hs1 := hb1.size
    have hq := mat_yes
    have HA1 := Lib.hid ((Below.refl w1.heap.size w1).alloc (Nat.le_refl _) (.cells (mC fun _ => none) MA))
    have HB1 := Lib.hid hb1
    have HT := Lib.hid (traceM_no hn)
    clear hb1 hn
    go_wp2_with (first | (refine wpList_store_mat rfl _ _ rfl w1.heap.size (fun _ => none) (fun _ => none) rfl rfl (World.alloc_heap_new w1 (.cells (mC fun _ => none) MA)) ?_; intro w2 hp2; have HP2 := Lib.hid hp2; have HB2 := Lib.hid (hp2.below (HB1.out.trans (HA1.out.mono hs1)) hs1); obtain ⟨e0, e1, f0, f1⟩ := HC.out w2 HB2.out; clear hp2) | (refine wpList_load_mat rfl _ rfl w1.heap.size (fun _ => none) rfl HP2.out.heap ?_))
    refine bodyPost_ret (v := .tuple #[plV 0 (.slice none 0 0), .bool false]) ?_ rfl (AtZ.no HT.out (resBelow (.int .i64 0) (.slice none 0 0) (HBW.out.trans (HB2.out.mono HBW.out.size))))
    simp [results, Try.results33, go_sem, e0, e1, plV]

end Go.Proofs.Ytbbkpaledlbcmaa

/- The model's MatrixTrace. -/

namespace Go.Proofs.Ytbbkpaledlbcmaa
open Go.RowKit Go.Shelf

theorem sPolyAdd_o {W : World} {a1 a2 : Option Addr} {n1 n2 c1 c2 : Nat} {p q : Pl} {b : Bool} (h1 : PIn W a1 n1 c1 p.cs) (h2 : Ints W a2 n2 q.cs) (hb : addPB p q = b) :
    Calls Try.prog 123 #[plV p.low (.slice a1 n1 c1), plV q.low (.slice a2 n2 c2)] W fun e w' => (∃ a c, e = .returned (.tuple #[plV (addP p q).low (.slice a (addP p q).cs.length c), .bool b]) ∧ IntRow W.heap.size w' (.slice a (addP p q).cs.length c) (addP p q).cs) ∧ Below W.heap.size W w' := by
  refine (sPolyAdd_any p.low q.low p.cs q.cs a1 a2 c1 c2 n1 n2 _ _ b W h1.is h2 h1.le rfl rfl hb).mono ?_
  rintro e w' ⟨⟨v, rfl, hr⟩, hB⟩
  rw [show doneP b (sumP ⟨p.low, p.cs⟩ 1 ⟨q.low, q.cs⟩) = addP p q by rw [← hb]; rfl] at hr ⊢
  obtain ⟨a, _, c, rfl, _⟩ := hr.shape
  exact ⟨⟨a, c, rfl, hr⟩, hB⟩
/-- The model's sum so far lies in the block j. -/
structure TrS (w : World) (j : Nat) (s : Pl) (a : Option Addr) (m c : Nat) (wr : World) : Prop where
  below : Below w.heap.size w wr
  res : wr.heap[w.heap.size]? = some (.cells #[.int .i64 0, .slice none 0 0] PO (0, 0))
  box : wr.heap[j]? = some (.cells #[.int .i64 s.low, .slice a m c] PO (0, 0))
  hj : w.heap.size < j
  row : IntRow (w.heap.size + 1) wr (.slice a m c) s.cs
theorem TrS.lt {w wr : World} {j : Nat} {s : Pl} {a : Option Addr} {m c : Nat} (h : TrS w j s a m c wr) : j < wr.heap.size := (Array.getElem?_eq_some_iff.1 h.box).1
theorem TrS.bel {w wr w2 : World} {j : Nat} {s : Pl} {a : Option Addr} {m c : Nat} (h : TrS w j s a m c wr) (hb : Below wr.heap.size wr w2) : TrS w j s a m c w2 :=
  ⟨h.below.trans (hb.mono h.below.size), (hb.block _ (Nat.lt_trans h.hj h.lt)).trans h.res, (hb.block _ h.lt).trans h.box, h.hj, h.row.below hb⟩
theorem TrS.cells {w wr : World} {j : Nat} {s : Pl} {a : Option Addr} {m c : Nat} (h : TrS w j s a m c wr) :
    (wr.cell? ⟨j, 0, none⟩ = some (.int .i64 s.low) ∧ wr.cell? ⟨j, 1, none⟩ = some (.slice a m c) ∧ wr.frozen? ⟨j, 0, none⟩ = false ∧ wr.frozen? ⟨j, 1, none⟩ = false) ∧
    wr.cell? ⟨w.heap.size, 0, none⟩ = some (.int .i64 0) ∧ wr.cell? ⟨w.heap.size, 1, none⟩ = some (.slice none 0 0) ∧ wr.frozen? ⟨w.heap.size, 0, none⟩ = false ∧ wr.frozen? ⟨w.heap.size, 1, none⟩ = false := by
  have h0 := h.res
  have h1 := h.box
  refine ⟨⟨?_, ?_, ?_, ?_⟩, ?_, ?_, ?_, ?_⟩ <;> simp [World.cell?, World.frozen?, h0, h1]
theorem TrS.next {w wr : World} {j : Nat} {s q : Pl} {a a2 : Option Addr} {m c m2 c2 lo : Nat} (h : TrS w j s a m c wr) (hr : IntRow lo wr (.slice a2 m2 c2) q.cs) (hlo : j < lo) :
    TrS w j q a2 m2 c2 ((wr.setCell ⟨j, 0, none⟩ (.int .i64 q.low)).setCell ⟨j, 1, none⟩ (.slice a2 m2 c2)) := by
  have hjw := h.hj
  have hoff : ∀ b, b ≠ j → ((wr.setCell ⟨j, 0, none⟩ (.int .i64 q.low)).setCell ⟨j, 1, none⟩ (.slice a2 m2 c2)).heap[b]? = wr.heap[b]? := fun b hb => by
    rw [heap_off _ _ _ (by show b ≠ j; exact hb), heap_off _ _ _ (by show b ≠ j; exact hb)]
  refine ⟨(h.below.setCell (p := ⟨j, 0, none⟩) (by show w.heap.size ≤ j; omega) _).setCell (p := ⟨j, 1, none⟩) (by show w.heap.size ≤ j; omega) _, (hoff _ (by omega)).trans h.res, ?_, hjw, ?_⟩
  · rw [heap_setCell_same _ j 1 _ _ _ (heap_setCell_same wr j 0 _ _ _ h.box)]
    simp
  · have h1 := own_ge hr
    exact rowSet (rowSet (hr.mono (by omega)) fun k e => by have := h1 k e; omega) fun k e => by have := h1 k e; omega

set_option maxRecDepth 100000 in
set_option maxHeartbeats 8000000 in
theorem sMatrixTrace_any (a : Option Addr) (c n : Nat) (M : Mx) (w : World) (hs : IsPSS w a n M) :
    Calls Try.prog 51 #[.slice a n c] w (AtZ w (traceM M)) := by
  have hmax := hs.max
  unfold maxLen at hmax
  have HL := Lib.hid hs.len
  obtain ⟨b, hb⟩ : ∃ b, matB M = b := ⟨_, rfl⟩
  obtain ⟨W, hW⟩ : ∃ W, w.alloc (.cells #[.int .i64 0, .slice none 0 0] PO) = W := ⟨_, rfl⟩
  have hsz : W.heap.size = w.heap.size + 1 := by rw [← hW]; simp
  have hbW : Below w.heap.size w W := by rw [← hW]; exact (Below.refl _ w).alloc (Nat.le_refl _) _
  have hrb : W.heap[w.heap.size]? = some (.cells #[.int .i64 0, .slice none 0 0] PO (0, 0)) := by rw [← hW]; exact World.alloc_heap_new w _
  have HC : Hid (∀ w1, Below W.heap.size W w1 → _) := Lib.hid fun w1 (hg : Below W.heap.size W w1) => resCells (w := w) rfl (by rw [hW, ← hsz]; exact hg)
  have HIN := Lib.hid (sMatrixIn_any a c n M b W (hs.below hbW) hb)
  have HBW := Lib.hid hbW
  have HRB := Lib.hid hrb
  have HW := Lib.hid hW
  have HEnd : Hid (∀ (w1 w2 : World) (az : Option Addr) (nz cz : Nat), Below W.heap.size W w1 → IntRow w1.heap.size w2 (.slice az nz cz) [] → Below w1.heap.size w1 w2 → traceM M = none → AtZ w (traceM M) (.returned (.tuple #[plV 0 (.slice az nz cz), .bool false])) ((w2.setCell ⟨w.heap.size, 0, none⟩ (.int .i64 0)).setCell ⟨w.heap.size, 1, none⟩ (.slice az nz cz))) :=
    Lib.hid fun w1 w2 az nz cz h1 hr h2 e => by
      have := h1.size
      rw [e]
      exact ⟨⟨_, _, _, rfl, resRow _ _ hr (by omega)⟩, resBelow _ _ ((hbW.trans (h1.mono hbW.size)).trans (h2.mono (by omega)))⟩
  cases b with
  | false =>
    have HN : Hid (traceM M = none) := Lib.hid (traceM_no fun h => by rw [hb] at h; exact absurd h.1 (by decide))
    clear hs hb hW hbW hrb
    go_enter Try.func51, Try.ntmps51
    go_wp2_with fail
    rw [HW.out]
    refine HIN.out.mono ?_
    rintro e w1 ⟨rfl, hb1⟩
    have HB1 := Lib.hid hb1
    clear hb1
    go_wp2_with fail
    refine (l6pNone_any w1).mono ?_
    rintro e w2 ⟨⟨v, rfl, hr⟩, hb2⟩
    obtain ⟨az, nz, cz, rfl, _⟩ := hr.shape
    have HA := Lib.hid (HEnd.out w1 w2 _ _ _ HB1.out hr hb2 HN.out)
    obtain ⟨e0, e1, f0, f1⟩ := HC.out w2 (HB1.out.trans (hb2.mono HB1.out.size))
    clear hr hb2
    go_wp2
    refine bodyPost_ret (v := .tuple #[plV 0 (.slice az _ cz), .bool false]) ?_ rfl HA.out
    simp [results, Try.results51, go_sem, e0, e1, plV]
  | true =>
    obtain ⟨h4, hc4, hrows⟩ := matB_iff.1 hb
    obtain ⟨x, rfl, hxb, hx⟩ := hs.at_ (by have := hs.len; omega)
    obtain ⟨a0, c0, hc0, hI0⟩ := hx 0 (by omega)
    rw [show x.add 0 = x by simp [Addr.add], (hrows _ (List.getElem_mem _)).1] at hc0
    obtain ⟨m, hm⟩ : ∃ m, colsM M = m := ⟨_, rfl⟩
    rw [hm] at hc0 hc4
    have HX0 := Lib.hid ((hbW.cell (p := x) hxb).trans hc0)
    have HXB := Lib.hid (Nat.lt_of_lt_of_le hxb hbW.size)
    have HM := Lib.hid hm
    have HB0 := Lib.hid hb
    have HS := Lib.hid hs
    have hn4 : 1 ≤ n ∧ n ≤ 4 := by have := hs.len; omega
    have h0i : (0 : Int) < (n : Int) := by omega
    have hlen : M.length = n := hs.len
    clear hs hx hc0 hI0 hxb hm hb hrows h4 hbW hrb hW
    go_enter Try.func51, Try.ntmps51
    go_wp2_with fail
    rw [HW.out]
    refine HIN.out.mono ?_
    rintro e w1 ⟨rfl, hb1⟩
    have q0 := (hb1.cell (p := x) HXB.out).trans HX0.out
    have HB1 := Lib.hid hb1
    clear hb1
    by_cases hnm : n = m
    case neg =>
      have e2 : ¬ (n : Int) = (m : Int) := by omega
      have hd1 : ((n : Int) == (m : Int)) = false := by simp [e2]
      have hd2 : ((n : Int) != (m : Int)) = true := by simp [e2]
      have hd3 : decide ((n : Int) = (m : Int)) = false := by simp [e2]
      have HN : Hid (traceM M = none) := Lib.hid (traceM_no fun h => by have := HM.out; omega)
      go_wp2_with fail
      refine (l6pNone_any w1).mono ?_
      rintro e w2 ⟨⟨v, rfl, hr⟩, hb2⟩
      obtain ⟨az, nz, cz, rfl, _⟩ := hr.shape
      have HA := Lib.hid (HEnd.out w1 w2 _ _ _ HB1.out hr hb2 HN.out)
      obtain ⟨e0, e1, f0, f1⟩ := HC.out w2 (HB1.out.trans (hb2.mono HB1.out.size))
      clear hr hb2
      go_wp2
      refine bodyPost_ret (v := .tuple #[plV 0 (.slice az _ cz), .bool false]) ?_ rfl HA.out
      simp [results, Try.results51, go_sem, e0, e1, plV]
    subst hnm
    have HT := Lib.hid (traceM_yes HB0.out (by rw [HM.out]; exact hlen))
    rw [hlen] at HT
    go_wp2_with fail
    refine (l7Zero_any w1).mono ?_
    rintro e w2 ⟨⟨v, rfl, hr⟩, hb2⟩
    obtain ⟨az, nz, cz, rfl, _⟩ := hr.shape
    have HB2 := Lib.hid (HB1.out.trans (hb2.mono HB1.out.size))
    have hs1 := HB1.out.size
    have hs2 := hb2.size
    have hbA : Below w2.heap.size w2 (w2.alloc (.cells #[.int .i64 0, .slice az ([] : List Int).length cz] PO)) := (Below.refl _ _).alloc (Nat.le_refl _) _
    have HT0 : Hid (TrS w w2.heap.size zeroP az ([] : List Int).length cz (w2.alloc (.cells #[.int .i64 0, .slice az ([] : List Int).length cz] PO))) := Lib.hid
      ⟨(HBW.out.trans (HB2.out.mono HBW.out.size)).trans (hbA.mono (by omega)), by rw [hbA.block _ (by omega), HB2.out.block _ (by omega)]; exact HRB.out, World.alloc_heap_new w2 _, by omega, (hr.mono (by omega)).below hbA⟩
    clear hr hb2 hbA
    go_wp2
    go_loopw [5] (fun q wr => ∃ (k : Nat) (s : Pl) (sa : Option Addr) (sm sc : Nat), k ≤ n ∧ q = .int .i64 k ∧ Hid (sumO (fun i => some (at2 M i i)) k = some s) ∧ Hid (TrS w w2.heap.size s sa sm sc wr)) (fun q _ => n - (intOf q).toNat)
    case atStart => exact ⟨0, zeroP, _, _, _, Nat.zero_le _, rfl, Lib.hid rfl, HT0⟩
    case round =>
      obtain ⟨k, s, sa, sm, sc, hk, rfl, HSM, HA⟩ := hrel
      obtain ⟨U, hU⟩ : ∃ U, U = wr := ⟨_, rfl⟩
      subst hU
      by_cases hlt : k < n
      · have hkr : k < M.length := by omega
        obtain ⟨x2, hx2, hxb, hx⟩ := HS.out.at_ (by omega)
        cases hx2
        obtain ⟨ai, ci, hc, hI⟩ := hx k hkr
        have hrl : M[k].length = n := by rw [matB_row HB0.out hkr]; exact HM.out
        obtain ⟨y, rfl, hyb, hy⟩ := hI.at_ (by omega)
        obtain ⟨ak, ck, hd0, hd1, hJ, hle⟩ := hy k (by omega)
        have hat : at2 M k k = M[k][k] := at2_eq hkr (by omega)
        obtain ⟨p, hp⟩ : ∃ p, at2 M k k = p := ⟨_, rfl⟩
        rw [← hat, hp] at hd0 hd1 hJ hle
        rw [hrl] at hc
        obtain ⟨mp, hmp⟩ : ∃ mp, p.cs.length = mp := ⟨_, rfl⟩
        rw [hmp] at hd1 hJ hle
        rw [addr_next2] at hd1
        have HK : Hid (∀ V, Below U.heap.size U V → (V.cell? ⟨w2.heap.size, 0, none⟩ = some (.int .i64 s.low) ∧ V.cell? ⟨w2.heap.size, 1, none⟩ = some (.slice sa sm sc) ∧ V.cell? (x.add k) = some (.slice (some y) n ci) ∧ V.cell? (y.add (k * 2)) = some (.int .i64 p.low) ∧ V.cell? ⟨(y.add (k * 2)).block, (y.add (k * 2)).off + 1, none⟩ = some (.slice ak mp ck)) ∧
            (V.heap.size ≠ w2.heap.size ∧ w2.heap.size ≠ V.heap.size) ∧ (V.heap.size ≠ (x.add k).block ∧ (x.add k).block ≠ V.heap.size) ∧ (V.heap.size ≠ (y.add (k * 2)).block ∧ (y.add (k * 2)).block ≠ V.heap.size) ∧ (V.heap.size ≠ x.block ∧ x.block ≠ V.heap.size) ∧ V.heap.size ≠ y.block ∧ y.block ≠ V.heap.size) := Lib.hid fun V hV => by
          have hT := HA.out.bel hV
          have hwV := hT.below
          have hlt2 := hT.lt
          have hwV2 := hwV.size
          obtain ⟨⟨t0, t1, _, _⟩, _⟩ := hT.cells
          refine ⟨⟨t0, t1, (hwV.cell (p := x.add k) (by rw [addr_add_block]; exact hxb)).trans hc, (hwV.cell (p := y.add (k * 2)) (by rw [addr_add_block]; exact hyb)).trans hd0, (hwV.cell (p := ⟨(y.add (k * 2)).block, (y.add (k * 2)).off + 1, none⟩) (by show (y.add (k * 2)).block < _; rw [addr_add_block]; exact hyb)).trans hd1⟩, ?_⟩
          rw [addr_add_block, addr_add_block]
          omega
        obtain ⟨bb, hbb⟩ : ∃ bb, addPB s p = bb := ⟨_, rfl⟩
        have HADD : Hid (∀ V, Below U.heap.size U V → _) := Lib.hid fun V (hV : Below U.heap.size U V) => sPolyAdd_o (c2 := ck) ((HA.out.bel hV).row.pin (sumO_B HSM.out)).1 (hJ.below (HA.out.below.trans (hV.mono HA.out.below.size))) hbb
        obtain ⟨R, hR⟩ : ∃ R, addP s p = R := ⟨_, rfl⟩
        obtain ⟨L, hLR⟩ : ∃ L, R.cs.length = L := ⟨_, rfl⟩
        rw [hR, hLR] at HADD
        have HBB := Lib.hid hbb
        have HP := Lib.hid hp
        have HR := Lib.hid hR
        have hkI : (k : Int) < (n : Int) := by omega
        have HBk : Hid (Below U.heap.size U U) := Lib.hid (Below.refl _ _)
        obtain ⟨⟨k0, k1, k2, k3, k4⟩, ⟨m1, m2⟩, ⟨m3, m4⟩, ⟨m5, m6⟩, ⟨m7, m8⟩, m9, m10⟩ := HK.out U (Below.refl _ _)
        clear hx hc hI hy hd0 hd1 hJ hle hat hp hmp hbb hR hLR hxb hyb hrl
        go_upto_region 7 with fail
        go_cut [6, 7] (fun s1 s2 wx => AnsMk U wx s1 s2 R.low R.cs L bb)
        case first =>
          go_region_held3 (fun w' : World => w'.cell? ⟨w2.heap.size, 0, none⟩ = some (.int .i64 s.low) ∧ w'.cell? ⟨w2.heap.size, 1, none⟩ = some (.slice sa sm sc) ∧ w'.cell? (x.add k) = some (.slice (some y) n ci) ∧ w'.cell? (y.add (k * 2)) = some (.int .i64 p.low) ∧ w'.cell? ⟨(y.add (k * 2)).block, (y.add (k * 2)).off + 1, none⟩ = some (.slice ak mp ck)) (first | go_keep | exact ⟨k0, k1, k2, k3, k4⟩)
            (first
              | (go_at_call 123
                 with_reducible refine (HADD.out _ (by first | exact HBk.out.drew | exact (HBk.out.alloc HBk.out.size _).drew | exact HBk.out | exact HBk.out.alloc HBk.out.size _)).mono ?_
                 rintro e V ⟨⟨aq, cq, rfl, hoq⟩, hbv⟩
                 have HOG := Lib.hid (own_ge hoq)
                 have HRQ := Lib.hid hoq
                 have HBS := Lib.hid HBk.out.size
                 clear hoq
                 have hbn : Below U.heap.size U V := by
                   first
                   | exact HBk.out.trans (hbv.mono HBk.out.size)
                   | exact HBk.out.drew.trans (hbv.mono HBk.out.size)
                   | exact below_alloc HBk.out HBk.out.size hbv
                   | exact below_drewAlloc HBk.out HBk.out.size hbv
                 first
                 | (have HZ : Hid (BoxZ V U.heap.size) := Lib.hid (BoxZ.of (w := U.drew) hbv); have HZL := Lib.hid (Nat.le_refl U.heap.size); obtain ⟨_, y0, y1, y2, y3⟩ := HZ.out)
                 | (have HZ : Hid (BoxZ V U.heap.size) := Lib.hid (BoxZ.ofd (w := U) hbv); have HZL := Lib.hid (Nat.le_refl U.heap.size); obtain ⟨_, y0, y1, y2, y3⟩ := HZ.out)
                 | skip
                 obtain ⟨⟨k0, k1, k2, k3, k4⟩, ⟨o1, o2⟩, ⟨o3, o4⟩, ⟨o5, o6⟩, ⟨o7, o8⟩, o9, o10⟩ := HK.out V hbn
                 clear HBk
                 have HBk := Lib.hid hbn
                 clear hbv hbn))
          all_goals (go_wp2_with fail; go_meet)
          all_goals first
            | exact ansA HBk.out HRQ.out (by have := HBS.out; first | exact this | (simp; omega))
            | exact ansC HBk.out HRQ.out (by have := HBS.out; first | exact this | (simp; done) | (simp; omega)) HZ.out HZL.out (fun k e => by have h1 := HOG.out k e; first | omega | (simp at h1; omega) | (simp [World.drew] at h1; omega))
        case rest =>
        obtain ⟨j6, a6, c6, hs1, hs2, hbox, hj6, how, hnew, hb3⟩ := hcut
        subst hs1
        subst hs2
        clear HBk k0 k1 k2 k3 k4 m1 m2 m3 m4 m5 m6 m7 m8 m9 m10
        obtain ⟨W3, hwq⟩ : ∃ X, wc = X := ⟨_, rfl⟩
        rw [hwq] at hbox how hb3 ⊢
        clear hwq
        have HA3 := Lib.hid (HA.out.bel hb3)
        have HW3 := Lib.hid how
        have hlt3 := HA.out.lt
        obtain ⟨hj6w, g0, g1⟩ := hbox
        obtain ⟨⟨d0, d1, e0, e1⟩, r0, r1, s0, s1⟩ := HA3.out.cells
        clear how hnew
        cases bb with
        | false =>
          have HN : Hid (traceM M = none) := Lib.hid (by
            rw [HT.out]
            exact sumO_stop (k := k + 1) (by rw [sumO_next HSM.out (by rw [HP.out]) HBB.out]; rfl) n (by omega))
          clear d0 d1 e0 e1 r0 r1 s0 s1 g0 g1
          go_wp2_with fail
          refine (l6pNone_any W3).mono ?_
          rintro e w5 ⟨⟨v, rfl, hr⟩, hb5⟩
          obtain ⟨az, nz, cz, rfl, _⟩ := hr.shape
          have HA5 := Lib.hid (HA3.out.bel hb5)
          have HR5 := Lib.hid hr
          have hs3 := HA3.out.below.size
          obtain ⟨_, r0, r1, s0, s1⟩ := HA5.out.cells
          clear hr hb5
          go_wp2
          have hA : AtZ w (traceM M) (.returned (.tuple #[plV 0 (.slice az ([] : List Int).length cz), .bool false])) ((w5.setCell ⟨w.heap.size, 0, none⟩ (.int .i64 0)).setCell ⟨w.heap.size, 1, none⟩ (.slice az ([] : List Int).length cz)) := by
            rw [HN.out]
            exact ⟨⟨_, _, _, rfl, resRow _ _ HR5.out (by have := HA3.out.lt; omega)⟩, resBelow _ _ HA5.out.below⟩
          refine bodyPost_ret (v := .tuple #[plV 0 (.slice az ([] : List Int).length cz), .bool false]) ?_ rfl hA
          simp [results, Try.results51, go_sem, r0, r1, plV]
        | true =>
          have HS3 : Hid (sumO (fun i => some (at2 M i i)) (k + 1) = some R) := Lib.hid (by rw [sumO_next HSM.out (by rw [HP.out]) HBB.out, if_pos rfl, HR.out])
          have HN3 := Lib.hid (HA3.out.next HW3.out hlt3)
          clear r0 r1 s0 s1
          go_wp2
          go_roundw
          case rel => exact ⟨k + 1, R, a6, L, c6, by omega, by go_num, HS3, HN3⟩
          case measure => simp [intOf]; omega
      · obtain rfl : k = n := by omega
        obtain ⟨⟨d0, d1, e0, e1⟩, r0, r1, s0, s1⟩ := HA.out.cells
        go_wp2
        have hA : AtZ w (traceM M) (.returned (.tuple #[plV s.low (.slice sa sm sc), .bool true])) ((U.setCell ⟨w.heap.size, 0, none⟩ (.int .i64 s.low)).setCell ⟨w.heap.size, 1, none⟩ (.slice sa sm sc)) :=
          AtZ.yes (by rw [HT.out]; exact HSM.out) (resRow _ _ HA.out.row (by omega)) (resBelow _ _ HA.out.below)
        refine bodyPost_ret (v := .tuple #[plV s.low (.slice sa sm sc), .bool true]) ?_ rfl hA
        simp [results, Try.results51, go_sem, r0, r1, plV]

end Go.Proofs.Ytbbkpaledlbcmaa

/- The program's MatrixTimes. -/

namespace Go.Proofs.Ytbbkpaledlbcmaa
open Go.RowKit Go.Shelf

theorem timesP_B (p q : Pl) : polyB (timesP p q) = true := by
  cases h : timesPB p q with
  | false =>
    unfold timesP
    rw [h]
    exact zero_B
  | true =>
    obtain ⟨_, _, h3, h4⟩ := times_true h
    rw [h4]; exact h3
theorem dotO_sum (A B : Mx) (i k : Nat) : ∀ n, dotO A B i k n = sumO (fun j => timesO (at2 A i j) (at2 B j k)) n
  | 0 => rfl
  | n + 1 => by
    unfold dotO sumO
    rw [dotO_sum A B i k n]
    cases sumO (fun j => timesO (at2 A i j) (at2 B j k)) n with
    | none => rfl
    | some s => cases timesO (at2 A i n) (at2 B n k) <;> rfl
theorem iPolyTimes_o {W : World} {a1 a2 : Option Addr} {n1 n2 c1 c2 : Nat} {p q : Pl} {b : Bool} (h1 : PIn W a1 n1 c1 p.cs) (h2 : PIn W a2 n2 c2 q.cs) (hb : timesPB p q = b) :
    Calls Try.prog 38 #[plV p.low (.slice a1 n1 c1), plV q.low (.slice a2 n2 c2)] W fun e w' => (∃ a c, e = .returned (.tuple #[plV (timesP p q).low (.slice a (timesP p q).cs.length c), .bool b]) ∧ IntRow W.heap.size w' (.slice a (timesP p q).cs.length c) (timesP p q).cs) ∧ Below W.heap.size W w' := by
  refine (iPolyTimes_any p.low q.low p.cs q.cs a1 a2 c1 c2 n1 n2 _ _ b W h1.is h2.is h1.le h2.le rfl rfl hb).mono ?_
  rintro e w' ⟨⟨v, rfl, hr⟩, hB⟩
  rw [show doneP b (prodP ⟨p.low, p.cs⟩ ⟨q.low, q.cs⟩) = timesP p q by rw [← hb]; rfl] at hr ⊢
  obtain ⟨a, _, c, rfl, _⟩ := hr.shape
  exact ⟨⟨a, c, rfl, hr⟩, hB⟩
/-- A place of a matrix behind pointers, with all that is read on the way to it. -/
theorem MatW.place {lo B n m i k : Nat} {w : World} {g : Nat → Option Addr} {P : Nat → Nat → Pl} {pv : Nat → Nat → Value} (hM : MatW lo w g n m P pv) (hB : w.heap[B]? = some (.cells (mC g) MA (0, 0))) (hi : i < n) (hk : k < m) :
    ∃ j a c, B < w.heap.size ∧ j < w.heap.size ∧ w.cell? ⟨B, i * 4 + k, Option.none⟩ = some (.pointer (some ⟨j, 0, Option.none⟩)) ∧ w.cell? ⟨j, 0, Option.none⟩ = some (.int .i64 (P i k).low) ∧ w.cell? ⟨j, 1, Option.none⟩ = some (.slice a (P i k).cs.length c) ∧ IntRow lo w (.slice a (P i k).cs.length c) (P i k).cs := by
  have h1 := hM.shp.n4
  have h2 := hM.shp.m4
  obtain ⟨jb, hgj, _, hj2, hj3, hj4, hj5⟩ := hM.at_ i k hi hk
  obtain ⟨hq0, _⟩ := cell_of16 hB (i := i) (k := k) (by omega) (by omega)
  rw [hgj] at hq0
  obtain ⟨a, _, c, hpv, _⟩ := hj5.shape
  rw [hpv] at hj4 hj5
  exact ⟨jb, a, c, (Array.getElem?_eq_some_iff.1 hB).1, hj2, hq0, hj3, hj4, hj5⟩

set_option maxRecDepth 100000 in
set_option maxHeartbeats 4000000 in
theorem times11_any (gA gB : Nat → Option Addr) (nA mA nB mB loA loB B1 B2 bi bk i k j : Nat) (P Q : Nat → Nat → Pl) (pv qv : Nat → Nat → Value) (w : World) (hA : MatW loA w gA nA mA P pv) (hB : MatW loB w gB nB mB Q qv)
    (h1 : w.heap[B1]? = some (.cells (mC gA) MA (0, 0))) (h2 : w.heap[B2]? = some (.cells (mC gB) MA (0, 0))) (h3 : w.cell? ⟨bi, 0, none⟩ = some (.int .i64 (i : Int))) (h4 : w.cell? ⟨bk, 0, none⟩ = some (.int .i64 (k : Int))) (hbi : bi < w.heap.size) (hbk : bk < w.heap.size)
    (hi : i < nA) (hj : j < mA) (hj2 : j < nB) (hk : k < mB) (hP : polyB (P i j) = true) (hQ : polyB (Q j k) = true) :
    Calls Try.prog 99 #[.int .i64 (j : Int), .pointer (some ⟨B1, 0, none⟩), .pointer (some ⟨bi, 0, none⟩), .pointer (some ⟨B2, 0, none⟩), .pointer (some ⟨bk, 0, none⟩)] w (AtF w (timesO (P i j) (Q j k))) := by
  have hi4 : (i : Int) < 4 := by have := hA.shp.n4; omega
  have hj4 : (j : Int) < 4 := by have := hA.shp.m4; omega
  have hk4 : (k : Int) < 4 := by have := hB.shp.m4; omega
  obtain ⟨j1, a1, c1, hb1, hl1, p0, p1, p2, hr1⟩ := hA.place h1 hi hj
  obtain ⟨j2, a2, c2, hb2, hl2, q0, q1, q2, hr2⟩ := hB.place h2 hj2 hk
  obtain ⟨p, hp⟩ : ∃ p, P i j = p := ⟨_, rfl⟩
  obtain ⟨q, hq⟩ : ∃ q, Q j k = q := ⟨_, rfl⟩
  rw [hp] at p1 p2 hr1 hP ⊢
  rw [hq] at q1 q2 hr2 hQ ⊢
  obtain ⟨mp, hmp⟩ : ∃ mp, p.cs.length = mp := ⟨_, rfl⟩
  obtain ⟨mq, hmq⟩ : ∃ mq, q.cs.length = mq := ⟨_, rfl⟩
  rw [hmp] at p2 hr1
  rw [hmq] at q2 hr2
  obtain ⟨b, hb⟩ : ∃ b, timesPB p q = b := ⟨_, rfl⟩
  obtain ⟨R, hR⟩ : ∃ R, timesP p q = R := ⟨_, rfl⟩
  obtain ⟨L, hL⟩ : ∃ L, R.cs.length = L := ⟨_, rfl⟩
  have HTO : Hid (timesO p q = if b = true then some R else none) := Lib.hid (by unfold timesO; rw [hb, hR])
  obtain ⟨W, hW⟩ : ∃ W, w.alloc (.cells #[.int .i64 0, .slice none 0 0] PO) = W := ⟨_, rfl⟩
  have hsz : W.heap.size = w.heap.size + 1 := by rw [← hW]; simp
  have hbW : Below w.heap.size w W := by rw [← hW]; exact (Below.refl _ w).alloc (Nat.le_refl _) _
  have HC : Hid (∀ w1, Below W.heap.size W w1 → _) := Lib.hid fun w1 (hg : Below W.heap.size W w1) => resCells (w := w) rfl (by rw [hW, ← hsz]; exact hg)
  have HBW := Lib.hid hbW
  have HK : Hid (∀ V, Below W.heap.size W V → (V.cell? ⟨bi, 0, none⟩ = some (.int .i64 (i : Int)) ∧ V.cell? ⟨bk, 0, none⟩ = some (.int .i64 (k : Int)) ∧ V.cell? ⟨B1, i * 4 + j, none⟩ = some (.pointer (some ⟨j1, 0, none⟩)) ∧ V.cell? ⟨j1, 0, none⟩ = some (.int .i64 p.low) ∧ V.cell? ⟨j1, 1, none⟩ = some (.slice a1 mp c1) ∧ V.cell? ⟨B2, j * 4 + k, none⟩ = some (.pointer (some ⟨j2, 0, none⟩)) ∧ V.cell? ⟨j2, 0, none⟩ = some (.int .i64 q.low) ∧ V.cell? ⟨j2, 1, none⟩ = some (.slice a2 mq c2))) := Lib.hid fun V hV => by
    have hwV := hbW.trans (hV.mono hbW.size)
    exact ⟨(hwV.cell (p := ⟨bi, 0, none⟩) hbi).trans h3, (hwV.cell (p := ⟨bk, 0, none⟩) hbk).trans h4, (hwV.cell (p := ⟨B1, i * 4 + j, none⟩) hb1).trans p0, (hwV.cell (p := ⟨j1, 0, none⟩) hl1).trans p1, (hwV.cell (p := ⟨j1, 1, none⟩) hl1).trans p2, (hwV.cell (p := ⟨B2, j * 4 + k, none⟩) hb2).trans q0, (hwV.cell (p := ⟨j2, 0, none⟩) hl2).trans q1, (hwV.cell (p := ⟨j2, 1, none⟩) hl2).trans q2⟩
  have HCL : Hid (∀ V, Below W.heap.size W V → _) := Lib.hid fun V (hV : Below W.heap.size W V) => iPolyTimes_o ((hr1.below (hbW.trans (hV.mono hbW.size))).pin hP).1 ((hr2.below (hbW.trans (hV.mono hbW.size))).pin hQ).1 hb
  rw [hR, hL] at HCL
  obtain ⟨k0, k1, k2, k3, k4, k5, k6, k7⟩ := HK.out W (Below.refl _ _)
  obtain ⟨e0, e1, f0, f1⟩ := HC.out W (Below.refl _ _)
  have HBk : Hid (Below W.heap.size W W) := Lib.hid (Below.refl _ _)
  have HW := Lib.hid hW
  have n1 : ¬ bi = w.heap.size := by omega
  have n2 : ¬ bk = w.heap.size := by omega
  have n3 : ¬ B1 = w.heap.size := by omega
  have n4 : ¬ B2 = w.heap.size := by omega
  have n5 : ¬ j1 = w.heap.size := by omega
  have n6 : ¬ j2 = w.heap.size := by omega
  have o1 : ¬ w.heap.size = bi := by omega
  have o2 : ¬ w.heap.size = bk := by omega
  have o3 : ¬ w.heap.size = B1 := by omega
  have o4 : ¬ w.heap.size = B2 := by omega
  have o5 : ¬ w.heap.size = j1 := by omega
  have o6 : ¬ w.heap.size = j2 := by omega
  clear hA hB h1 h2 h3 h4 p0 p1 p2 q0 q1 q2 hr1 hr2 hP hQ hp hq hmp hmq hb hR hL hbW hW hi hj hj2 hk
  go_enter Try.func99, Try.ntmps99
  go_upto_region 1 with fail
  rw [HW.out]
  go_region_held3 (fun w' : World => w'.cell? ⟨bi, 0, none⟩ = some (.int .i64 (i : Int)) ∧ w'.cell? ⟨bk, 0, none⟩ = some (.int .i64 (k : Int)) ∧ w'.cell? ⟨B1, i * 4 + j, none⟩ = some (.pointer (some ⟨j1, 0, none⟩)) ∧ w'.cell? ⟨j1, 0, none⟩ = some (.int .i64 p.low) ∧ w'.cell? ⟨j1, 1, none⟩ = some (.slice a1 mp c1) ∧ w'.cell? ⟨B2, j * 4 + k, none⟩ = some (.pointer (some ⟨j2, 0, none⟩)) ∧ w'.cell? ⟨j2, 0, none⟩ = some (.int .i64 q.low) ∧ w'.cell? ⟨j2, 1, none⟩ = some (.slice a2 mq c2)) (first | go_keep | exact ⟨k0, k1, k2, k3, k4, k5, k6, k7⟩)
    (first
      | (go_at_call 38
         refine (HCL.out _ HBk.out.drew).mono ?_
         rintro e w2 ⟨⟨aq, cq, rfl, hr⟩, hb2⟩
         have HR := Lib.hid hr
         have HB2 := Lib.hid (HBk.out.drew.trans (hb2.mono (Nat.le_refl _)))
         obtain ⟨e0, e1, f0, f1⟩ := HC.out w2 HB2.out
         obtain ⟨k0, k1, k2, k3, k4, k5, k6, k7⟩ := HK.out w2 HB2.out
         clear hr hb2))
  all_goals
    go_wp2
    have hA : AtF w (timesO p q) (.returned (.tuple #[plV R.low (.slice aq L cq), .bool b])) ((w2.setCell ⟨w.heap.size, 0, none⟩ (.int .i64 R.low)).setCell ⟨w.heap.size, 1, none⟩ (.slice aq L cq)) := by
      refine ⟨?_, resBelow _ _ (HBW.out.trans (HB2.out.mono HBW.out.size))⟩
      have h := HTO.out
      cases b with
      | false => exact .inl ⟨_, _, _, _, h, rfl⟩
      | true => exact .inr ⟨R, _, _, _, h, rfl, (resRow (.int .i64 R.low) (.slice aq L cq) HR.out (by show w.heap.size < W.heap.size; omega)).mono (Nat.zero_le _)⟩
    refine bodyPost_ret (v := .tuple #[plV R.low (.slice aq L cq), .bool b]) ?_ rfl hA
    simp [results, Try.results99, go_sem, e0, e1, plV]

end Go.Proofs.Ytbbkpaledlbcmaa

/- The program's MatrixTimes: what it makes for a place. -/

namespace Go.Proofs.Ytbbkpaledlbcmaa
open Go.RowKit Go.Shelf

theorem timesM_no {A B : Mx} (h : ¬ (matB A = true ∧ matB B = true ∧ colsM A = B.length)) : timesM A B = none := by
  unfold timesM
  rw [if_neg]
  simpa using h
theorem timesM_yes {A B : Mx} (h1 : matB A = true) (h2 : matB B = true) (h3 : colsM A = B.length) : timesM A B = gridO (fun i k => sumO (fun j => timesO (at2 A i j) (at2 B j k)) B.length) (colsM B) A.length := by
  unfold timesM
  rw [if_pos (by simp [h1, h2, h3])]
  congr 1
  funext i k
  exact dotO_sum A B i k _
theorem ShapeM.bare {n m : Nat} (h : ShapeM (fun _ => Option.none) n m) : n = 0 ∧ m = 0 := by
  have h3 := h.both
  by_cases e : n = 0
  · exact ⟨e, h3.1 e⟩
  · obtain ⟨p, hp⟩ := h.yes 0 0 (by omega) (by omega)
    cases hp

theorem boxI3 {w w1 W : World} {t1 t2 t3 : TypeId} {x y : Value} (hW : ((w.alloc (.cells #[x] t1)).alloc (.cells #[y] t2)).alloc (.cells #[.int .i64 0, .slice none 0 0] t3) = W) (hg : Below W.heap.size W w1) :
    w1.cell? ⟨w.heap.size, 0, none⟩ = some x ∧ w1.cell? ⟨w.heap.size + 1, 0, none⟩ = some y ∧ w1.cell? ⟨w.heap.size + 2, 0, none⟩ = some (.int .i64 0) ∧ w1.cell? ⟨w.heap.size + 2, 1, none⟩ = some (.slice none 0 0) ∧ w1.frozen? ⟨w.heap.size + 2, 0, none⟩ = false ∧ w1.frozen? ⟨w.heap.size + 2, 1, none⟩ = false := by
  have hsz : W.heap.size = w.heap.size + 3 := by rw [← hW]; simp
  have e0 := hg.block w.heap.size (by omega)
  have e1 := hg.block (w.heap.size + 1) (by omega)
  have e2 := hg.block (w.heap.size + 2) (by omega)
  have c0 : W.heap[w.heap.size]? = some (.cells #[x] t1 (0, 0)) := by
    rw [← hW, Below.heap_alloc _ _ _ (by simp; omega), Below.heap_alloc _ _ _ (by simp)]
    exact World.alloc_heap_new w _
  have c1 : W.heap[w.heap.size + 1]? = some (.cells #[y] t2 (0, 0)) := by
    rw [← hW, Below.heap_alloc _ _ _ (by simp)]
    have h := World.alloc_heap_new (w.alloc (.cells #[x] t1)) (.cells #[y] t2)
    rwa [World.size_alloc] at h
  have c2 : W.heap[w.heap.size + 2]? = some (.cells #[.int .i64 0, .slice none 0 0] t3 (0, 0)) := by
    rw [← hW]
    have h := World.alloc_heap_new ((w.alloc (.cells #[x] t1)).alloc (.cells #[y] t2)) (.cells #[.int .i64 0, .slice none 0 0] t3)
    rwa [World.size_alloc, World.size_alloc] at h
  rw [c0] at e0
  rw [c1] at e1
  rw [c2] at e2
  refine ⟨?_, ?_, ?_, ?_, ?_, ?_⟩ <;> simp [World.cell?, World.frozen?, e0, e1, e2]

set_option maxRecDepth 100000 in
set_option maxHeartbeats 4000000 in
theorem times1_any (gA gB : Nat → Option Addr) (nA mA nB mB loA loB B1 B2 i k : Nat) (P Q : Nat → Nat → Pl) (pv qv : Nat → Nat → Value) (w : World) (hA : MatW loA w gA nA mA P pv) (hB : MatW loB w gB nB mB Q qv)
    (h1 : w.heap[B1]? = some (.cells (mC gA) MA (0, 0))) (h2 : w.heap[B2]? = some (.cells (mC gB) MA (0, 0))) (hab : mA = nB) (hi : i < nA) (hk : k < mB) (hP : ∀ i j, i < nA → j < mA → polyB (P i j) = true) (hQ : ∀ j k, j < nB → k < mB → polyB (Q j k) = true) :
    Calls Try.prog 98 #[.int .i64 (i : Int), .int .i64 (k : Int), .pointer (some ⟨B2, 0, none⟩), .pointer (some ⟨B1, 0, none⟩)] w (AtE w (sumO (fun j => timesO (P i j) (Q j k)) nB)) := by
  have hmf : ∀ (fn : Fn) (first cap : Array Value) (w : World), (Instr.makeFunc fn first cap).run Try.prog w = .ok (.func fn first cap) w := fun _ _ _ _ => rfl
  subst hab
  have hn4 := hB.shp.n4
  obtain ⟨W, hW⟩ : ∃ W, ((w.alloc (.cells #[.int .i64 (i : Int)] 3)).alloc (.cells #[.int .i64 (k : Int)] 3)).alloc (.cells #[.int .i64 0, .slice none 0 0] PO) = W := ⟨_, rfl⟩
  have hsz : W.heap.size = w.heap.size + 3 := by rw [← hW]; simp
  have hbW : Below w.heap.size w W := by rw [← hW]; exact (((Below.refl _ w).alloc (Nat.le_refl _) _).alloc (by simp) _).alloc (by simp; omega) _
  have HC : Hid (∀ w1, Below W.heap.size W w1 → _) := Lib.hid fun w1 (hg : Below W.heap.size W w1) => boxI3 hW hg
  have hl1 := (Array.getElem?_eq_some_iff.1 h1).1
  have hl2 := (Array.getElem?_eq_some_iff.1 h2).1
  have HX2 := Lib.hid ((hbW.block B2 hl2).trans h2)
  have HBW := Lib.hid hbW
  have HSH := Lib.hid hB.shp
  have HIN : Hid (∀ V j, Below W.heap.size W V → j < mA → _) := Lib.hid fun V j (hV : Below W.heap.size W V) (hj : j < mA) =>
    have hwV := hbW.trans (hV.mono hbW.size)
    times11_any gA gB nA mA mA mB loA loB B1 B2 w.heap.size (w.heap.size + 1) i k j P Q pv qv V (hA.below hwV) (hB.below hwV) ((hwV.block B1 hl1).trans h1) ((hwV.block B2 hl2).trans h2) (boxI3 hW hV).1 (boxI3 hW hV).2.1 (by have := hV.size; omega) (by have := hV.size; omega) hi hj hj hk (hP i j hi hj) (hQ j k hj hk)
  have HW := Lib.hid hW
  clear hA hB h1 h2 hP hQ hbW hW
  go_enter Try.func98, Try.ntmps98
  go_wp2_with (rw [HW.out]; refine wpList_load_mat rfl _ rfl B2 gB rfl HX2.out ?_)
  refine (rows_any gB mA mB HSH.out W).mono ?_
  rintro e w3 ⟨rfl, hb3⟩
  have HB3 := Lib.hid hb3
  have hs3 := hb3.size
  clear hb3
  have HSUM := Lib.hid (sumTold_any 99 #[] #[.pointer (some ⟨B1, 0, none⟩), .pointer (some ⟨w.heap.size, 0, none⟩), .pointer (some ⟨B2, 0, none⟩), .pointer (some ⟨w.heap.size + 1, 0, none⟩)] mA (fun j => timesO (P i j) (Q j k)) w3 hn4 (fun _ _ => by go_simp) (fun j p _ e => by
      unfold timesO at e
      split at e
      · simp only [Option.some.injEq] at e
        rw [← e]; exact timesP_B _ _
      · cases e)
    (fun j V hj hV => HIN.out V j (HB3.out.trans (hV.mono HB3.out.size)) hj))
  go_wp2_with fail
  refine HSUM.out.mono ?_
  rintro e w4 ⟨⟨a4, n4, c4, rfl, hr4⟩, hb4⟩
  have HB4 := Lib.hid (HB3.out.trans (hb4.mono HB3.out.size))
  obtain ⟨_, _, e0, e1, f0, f1⟩ := HC.out w4 HB4.out
  have HR4 := Lib.hid hr4
  clear hr4 hb4
  go_wp2
  have hA : AtE w (sumO (fun j => timesO (P i j) (Q j k)) mA) (.returned (.tuple #[plV ((sumO (fun j => timesO (P i j) (Q j k)) mA).getD zeroP).low (.slice a4 n4 c4), .bool (sumO (fun j => timesO (P i j) (Q j k)) mA).isSome])) ((w4.setCell ⟨w.heap.size + 2, 0, none⟩ (.int .i64 ((sumO (fun j => timesO (P i j) (Q j k)) mA).getD zeroP).low)).setCell ⟨w.heap.size + 2, 1, none⟩ (.slice a4 n4 c4)) :=
    AtZ.atE ⟨⟨_, _, _, rfl, resRow2 _ _ HR4.out (by omega)⟩, resBelow2 _ _ (HBW.out.trans (HB4.out.mono HBW.out.size))⟩
  refine bodyPost_ret (v := .tuple #[plV ((sumO (fun j => timesO (P i j) (Q j k)) mA).getD zeroP).low (.slice a4 n4 c4), .bool (sumO (fun j => timesO (P i j) (Q j k)) mA).isSome]) ?_ rfl hA
  simp [results, Try.results98, go_sem, e0, e1, plV]

end Go.Proofs.Ytbbkpaledlbcmaa

/- The model's l7Dot. -/

namespace Go.Proofs.Ytbbkpaledlbcmaa
open Go.RowKit Go.Shelf

theorem sPolyTimes_o {W : World} {a1 a2 : Option Addr} {n1 n2 c1 c2 : Nat} {p q : Pl} {b : Bool} (h1 : Ints W a1 n1 p.cs) (h2 : Ints W a2 n2 q.cs) (hb : timesPB p q = b) :
    Calls Try.prog 160 #[plV p.low (.slice a1 n1 c1), plV q.low (.slice a2 n2 c2)] W fun e w' => (∃ a c, e = .returned (.tuple #[plV (timesP p q).low (.slice a (timesP p q).cs.length c), .bool b]) ∧ IntRow W.heap.size w' (.slice a (timesP p q).cs.length c) (timesP p q).cs) ∧ Below W.heap.size W w' := by
  refine (sPolyTimes_any p.low q.low p.cs q.cs a1 a2 c1 c2 n1 n2 _ _ b W h1 h2 rfl rfl hb).mono ?_
  rintro e w' ⟨⟨v, rfl, hr⟩, hB⟩
  rw [show doneP b (prodP ⟨p.low, p.cs⟩ ⟨q.low, q.cs⟩) = timesP p q by rw [← hb]; rfl] at hr ⊢
  obtain ⟨a, _, c, rfl, _⟩ := hr.shape
  exact ⟨⟨a, c, rfl, hr⟩, hB⟩
/-- A place of a matrix that came in, with all that is read on the way to it. -/
theorem IsPSS.place {w : World} {x : Addr} {n m i k : Nat} {M : Mx} (hs : IsPSS w (some x) n M) (hb : matB M = true) (hm : colsM M = m) (hi : i < n) (hk : k < m) :
    ∃ y ci ak ck, x.block < w.heap.size ∧ y.block < w.heap.size ∧ w.cell? (x.add i) = some (.slice (some y) m ci) ∧ w.cell? (y.add (k * 2)) = some (.int .i64 (at2 M i k).low) ∧ w.cell? ⟨(y.add (k * 2)).block, (y.add (k * 2)).off + 1, Option.none⟩ = some (.slice ak (at2 M i k).cs.length ck) ∧ Ints w ak (at2 M i k).cs.length (at2 M i k).cs ∧ (at2 M i k).cs.length ≤ ck := by
  have hir : i < M.length := by rw [hs.len]; exact hi
  obtain ⟨x2, hx2, hxb, hx⟩ := hs.at_ (by omega)
  cases hx2
  obtain ⟨ai, ci, hc, hI⟩ := hx i hir
  have hrl : M[i].length = m := by rw [matB_row hb hir]; exact hm
  obtain ⟨y, rfl, hyb, hy⟩ := hI.at_ (by omega)
  obtain ⟨ak, ck, hd0, hd1, hJ, hle⟩ := hy k (by omega)
  have hat : at2 M i k = M[i][k] := at2_eq hir (by omega)
  rw [← hat] at hd0 hd1 hJ hle
  rw [hrl] at hc
  rw [addr_next2] at hd1
  exact ⟨y, ci, ak, ck, hxb, hyb, hc, hd0, hd1, hJ, hle⟩

set_option maxRecDepth 100000 in
set_option maxHeartbeats 8000000 in
theorem l7Dot_any (xa xb : Addr) (ca cb na nb ma mb i k : Nat) (A B : Mx) (w : World) (ha : IsPSS w (some xa) na A) (hb : IsPSS w (some xb) nb B) (hA : matB A = true) (hB : matB B = true) (hma : colsM A = ma) (hmb : colsM B = mb) (hab : ma = nb) (hi : i < na) (hk : k < mb) :
    Calls Try.prog 106 #[.slice (some xa) na ca, .int .i64 (i : Int), .slice (some xb) nb cb, .int .i64 (k : Int)] w (AtZ w (dotO A B i k nb)) := by
  subst hab
  have hma4 : 1 ≤ ma ∧ ma ≤ 4 := by rw [← hma]; exact (matB_iff.1 hA).2.1
  have hna4 : na ≤ 4 := by have := (matB_iff.1 hA).1; have := ha.len; omega
  have hmb4 : mb ≤ 4 := by rw [← hmb]; exact (matB_iff.1 hB).2.1.2
  have HSA := Lib.hid ha
  have HSB := Lib.hid hb
  have HMA := Lib.hid hA
  have HMB := Lib.hid hB
  have HCA := Lib.hid hma
  have HCB := Lib.hid hmb
  have HD := Lib.hid (dotO_sum A B i k ma)
  have hiI : (i : Int) < (na : Int) := by omega
  have hkI : (k : Int) < (mb : Int) := by omega
  obtain ⟨W, hW⟩ : ∃ W, w.alloc (.cells #[.int .i64 0, .slice none 0 0] PO) = W := ⟨_, rfl⟩
  have hsz : W.heap.size = w.heap.size + 1 := by rw [← hW]; simp
  have hbW : Below w.heap.size w W := by rw [← hW]; exact (Below.refl _ w).alloc (Nat.le_refl _) _
  have hrb : W.heap[w.heap.size]? = some (.cells #[.int .i64 0, .slice none 0 0] PO (0, 0)) := by rw [← hW]; exact World.alloc_heap_new w _
  have HBW := Lib.hid hbW
  have HRB := Lib.hid hrb
  have HW := Lib.hid hW
  clear ha hb hA hB hma hmb hbW hrb hW
  go_enter Try.func106, Try.ntmps106
  go_wp2_with fail
  rw [HW.out]
  refine (l7Zero_any W).mono ?_
  rintro e w2 ⟨⟨v, rfl, hr⟩, hb2⟩
  obtain ⟨az, nz, cz, rfl, _⟩ := hr.shape
  have HB2 := Lib.hid hb2
  have hs2 := hb2.size
  have hbA : Below w2.heap.size w2 (w2.alloc (.cells #[.int .i64 0, .slice az ([] : List Int).length cz] PO)) := (Below.refl _ _).alloc (Nat.le_refl _) _
  have HT0 : Hid (TrS w w2.heap.size zeroP az ([] : List Int).length cz (w2.alloc (.cells #[.int .i64 0, .slice az ([] : List Int).length cz] PO))) := Lib.hid
    ⟨(HBW.out.trans (HB2.out.mono HBW.out.size)).trans (hbA.mono (by omega)), by rw [hbA.block _ (by omega), HB2.out.block _ (by omega)]; exact HRB.out, World.alloc_heap_new w2 _, by omega, (hr.mono (by omega)).below hbA⟩
  clear hr hb2 hbA
  go_wp2
  go_loopw [11] (fun q wr => ∃ (j : Nat) (s : Pl) (sa : Option Addr) (sm sc : Nat), j ≤ ma ∧ q = .int .i64 j ∧ Hid (sumO (fun j => timesO (at2 A i j) (at2 B j k)) j = some s) ∧ Hid (TrS w w2.heap.size s sa sm sc wr)) (fun q _ => ma - (intOf q).toNat)
  case atStart => exact ⟨0, zeroP, _, _, _, Nat.zero_le _, rfl, Lib.hid rfl, HT0⟩
  case round =>
    obtain ⟨j, s, sa, sm, sc, hj, rfl, HSM, HA⟩ := hrel
    obtain ⟨U, hU⟩ : ∃ U, U = wr := ⟨_, rfl⟩
    subst hU
    by_cases hlt : j < ma
    · obtain ⟨y, ci, ak, ck, hxb, hyb, c0, c1, c2, hJ, hle⟩ := HSA.out.place HMA.out HCA.out hi hlt
      obtain ⟨y2, ci2, ak2, ck2, hxb2, hyb2, c3, c4, c5, hJ2, hle2⟩ := HSB.out.place HMB.out HCB.out hlt hk
      obtain ⟨p, hp⟩ : ∃ p, at2 A i j = p := ⟨_, rfl⟩
      obtain ⟨q, hq⟩ : ∃ q, at2 B j k = q := ⟨_, rfl⟩
      rw [hp] at c1 c2 hJ hle
      rw [hq] at c4 c5 hJ2 hle2
      obtain ⟨mp, hmp⟩ : ∃ mp, p.cs.length = mp := ⟨_, rfl⟩
      obtain ⟨mq, hmq⟩ : ∃ mq, q.cs.length = mq := ⟨_, rfl⟩
      rw [hmp] at c2 hJ hle
      rw [hmq] at c5 hJ2 hle2
      have HK : Hid (∀ V, Below U.heap.size U V → (V.cell? (xa.add i) = some (.slice (some y) ma ci) ∧ V.cell? (y.add (j * 2)) = some (.int .i64 p.low) ∧ V.cell? ⟨(y.add (j * 2)).block, (y.add (j * 2)).off + 1, none⟩ = some (.slice ak mp ck) ∧ V.cell? (xb.add j) = some (.slice (some y2) mb ci2) ∧ V.cell? (y2.add (k * 2)) = some (.int .i64 q.low) ∧ V.cell? ⟨(y2.add (k * 2)).block, (y2.add (k * 2)).off + 1, none⟩ = some (.slice ak2 mq ck2)) ∧
          (V.heap.size ≠ (xa.add i).block ∧ (xa.add i).block ≠ V.heap.size) ∧ (V.heap.size ≠ (y.add (j * 2)).block ∧ (y.add (j * 2)).block ≠ V.heap.size) ∧ (V.heap.size ≠ (xb.add j).block ∧ (xb.add j).block ≠ V.heap.size) ∧ (V.heap.size ≠ (y2.add (k * 2)).block ∧ (y2.add (k * 2)).block ≠ V.heap.size) ∧ (V.heap.size ≠ xa.block ∧ xa.block ≠ V.heap.size) ∧ (V.heap.size ≠ y.block ∧ y.block ≠ V.heap.size) ∧ (V.heap.size ≠ xb.block ∧ xb.block ≠ V.heap.size) ∧ V.heap.size ≠ y2.block ∧ y2.block ≠ V.heap.size) := Lib.hid fun V hV => by
        have hwV := (HA.out.bel hV).below
        have hwV2 := hwV.size
        refine ⟨⟨(hwV.cell (p := xa.add i) (by rw [addr_add_block]; exact hxb)).trans c0, (hwV.cell (p := y.add (j * 2)) (by rw [addr_add_block]; exact hyb)).trans c1, (hwV.cell (p := ⟨(y.add (j * 2)).block, (y.add (j * 2)).off + 1, none⟩) (by show (y.add (j * 2)).block < _; rw [addr_add_block]; exact hyb)).trans c2,
          (hwV.cell (p := xb.add j) (by rw [addr_add_block]; exact hxb2)).trans c3, (hwV.cell (p := y2.add (k * 2)) (by rw [addr_add_block]; exact hyb2)).trans c4, (hwV.cell (p := ⟨(y2.add (k * 2)).block, (y2.add (k * 2)).off + 1, none⟩) (by show (y2.add (k * 2)).block < _; rw [addr_add_block]; exact hyb2)).trans c5⟩, ?_⟩
        rw [addr_add_block, addr_add_block, addr_add_block, addr_add_block]
        omega
      obtain ⟨bb, hbb⟩ : ∃ bb, timesPB p q = bb := ⟨_, rfl⟩
      have HTM : Hid (∀ V, Below U.heap.size U V → _) := Lib.hid fun V (hV : Below U.heap.size U V) => sPolyTimes_o (c1 := ck) (c2 := ck2) (hJ.below (HA.out.below.trans (hV.mono HA.out.below.size))) (hJ2.below (HA.out.below.trans (hV.mono HA.out.below.size))) hbb
      obtain ⟨R, hR⟩ : ∃ R, timesP p q = R := ⟨_, rfl⟩
      have hRB : polyB R = true := by rw [← hR]; exact timesP_B p q
      obtain ⟨L, hLR⟩ : ∃ L, R.cs.length = L := ⟨_, rfl⟩
      rw [hR, hLR] at HTM
      have HF : Hid (timesO (at2 A i j) (at2 B j k) = if bb = true then some R else none) := Lib.hid (by unfold timesO; rw [hp, hq, hbb, hR])
      obtain ⟨b2, hb2⟩ : ∃ b2, addPB s R = b2 := ⟨_, rfl⟩
      obtain ⟨R2, hR2⟩ : ∃ R2, addP s R = R2 := ⟨_, rfl⟩
      obtain ⟨L2, hL2⟩ : ∃ L2, R2.cs.length = L2 := ⟨_, rfl⟩
      have HADD : Hid (∀ V, Below U.heap.size U V → ∀ (lo : Nat) (ax : Option Addr) (cx : Nat), IntRow lo V (.slice ax L cx) R.cs → Calls Try.prog 123 #[plV s.low (.slice sa sm sc), plV R.low (.slice ax L cx)] V fun e w' => (∃ a c, e = .returned (.tuple #[plV R2.low (.slice a L2 c), .bool b2]) ∧ IntRow V.heap.size w' (.slice a L2 c) R2.cs) ∧ Below V.heap.size V w') := Lib.hid fun V hV lo ax cx hx => by
        have h := sPolyAdd_o (c2 := cx) ((HA.out.bel hV).row.pin (sumO_B HSM.out)).1 (hx.pin hRB).1.is hb2
        rw [hR2, hL2] at h
        exact h
      have HB2' := Lib.hid hb2
      have HR2 := Lib.hid hR2
      have hjI : (j : Int) < (ma : Int) := by omega
      have HBk : Hid (Below U.heap.size U U) := Lib.hid (Below.refl _ _)
      obtain ⟨⟨k0, k1, k2, k3, k4, k5⟩, ⟨m1, m2⟩, ⟨m3, m4⟩, ⟨m5, m6⟩, ⟨m7, m8⟩, ⟨m9, m10⟩, ⟨m11, m12⟩, ⟨m13, m14⟩, m15, m16⟩ := HK.out U (Below.refl _ _)
      clear c0 c1 c2 c3 c4 c5 hJ hJ2 hle hle2 hp hq hmp hmq hbb hR hLR hxb hyb hxb2 hyb2 hRB hb2 hR2 hL2
      go_upto_region 5 with fail
      go_cut [12, 13] (fun s1 s2 wx => AnsMk U wx s1 s2 R.low R.cs L bb)
      case first =>
        go_region_held3 (fun w' : World => w'.cell? (xa.add i) = some (.slice (some y) ma ci) ∧ w'.cell? (y.add (j * 2)) = some (.int .i64 p.low) ∧ w'.cell? ⟨(y.add (j * 2)).block, (y.add (j * 2)).off + 1, none⟩ = some (.slice ak mp ck) ∧ w'.cell? (xb.add j) = some (.slice (some y2) mb ci2) ∧ w'.cell? (y2.add (k * 2)) = some (.int .i64 q.low) ∧ w'.cell? ⟨(y2.add (k * 2)).block, (y2.add (k * 2)).off + 1, none⟩ = some (.slice ak2 mq ck2)) (first | go_keep | exact ⟨k0, k1, k2, k3, k4, k5⟩)
          (first
            | (go_at_call 160
               with_reducible refine (HTM.out _ (by first | exact HBk.out.drew | exact (HBk.out.alloc HBk.out.size _).drew | exact HBk.out | exact HBk.out.alloc HBk.out.size _)).mono ?_
               rintro e V ⟨⟨aq, cq, rfl, hoq⟩, hbv⟩
               have HOG := Lib.hid (own_ge hoq)
               have HRQ := Lib.hid hoq
               have HBS := Lib.hid HBk.out.size
               clear hoq
               have hbn : Below U.heap.size U V := by
                 first
                 | exact HBk.out.trans (hbv.mono HBk.out.size)
                 | exact HBk.out.drew.trans (hbv.mono HBk.out.size)
                 | exact below_alloc HBk.out HBk.out.size hbv
                 | exact below_drewAlloc HBk.out HBk.out.size hbv
               first
               | (have HZ : Hid (BoxZ V U.heap.size) := Lib.hid (BoxZ.of (w := U.drew) hbv); have HZL := Lib.hid (Nat.le_refl U.heap.size); obtain ⟨_, y0, y1, y2, y3⟩ := HZ.out)
               | (have HZ : Hid (BoxZ V U.heap.size) := Lib.hid (BoxZ.ofd (w := U) hbv); have HZL := Lib.hid (Nat.le_refl U.heap.size); obtain ⟨_, y0, y1, y2, y3⟩ := HZ.out)
               | skip
               obtain ⟨⟨k0, k1, k2, k3, k4, k5⟩, ⟨o1, o2⟩, ⟨o3, o4⟩, ⟨o5, o6⟩, ⟨o7, o8⟩, ⟨o9, o10⟩, ⟨o11, o12⟩, ⟨o13, o14⟩, o15, o16⟩ := HK.out V hbn
               clear HBk
               have HBk := Lib.hid hbn
               clear hbv hbn))
        all_goals (go_wp2_with fail; go_meet)
        all_goals first
          | exact ansA HBk.out HRQ.out (by have := HBS.out; first | exact this | (simp; omega))
          | exact ansC HBk.out HRQ.out (by have := HBS.out; first | exact this | (simp; done) | (simp; omega)) HZ.out HZL.out (fun k e => by have h1 := HOG.out k e; first | omega | (simp at h1; omega) | (simp [World.drew] at h1; omega))
      case rest =>
      obtain ⟨j6, a6, c6, hs1, hs2', hbox, hj6, how, hnew, hb3⟩ := hcut
      subst hs1
      subst hs2'
      clear HBk k0 k1 k2 k3 k4 k5 m1 m2 m3 m4 m5 m6 m7 m8 m9 m10 m11 m12 m13 m14 m15 m16
      obtain ⟨W3, hwq⟩ : ∃ X, wc = X := ⟨_, rfl⟩
      rw [hwq] at hbox how hb3 ⊢
      clear hwq
      have HA3 := Lib.hid (HA.out.bel hb3)
      have HAD := Lib.hid (HADD.out W3 hb3 _ _ _ how)
      have hlt3 := HA.out.lt
      have hs3 := hb3.size
      obtain ⟨hj6w, g0, g1⟩ := hbox
      obtain ⟨⟨d0, d1, e0, e1⟩, r0, r1, s0, s1⟩ := HA3.out.cells
      clear how hnew hb3 e0 e1 r0 r1 s0 s1
      go_wp2_with fail
      refine HAD.out.mono ?_
      rintro e w4 ⟨⟨a7, c7, rfl, hr7⟩, hb4⟩
      have hbA4 := hb4.trans (((Below.refl w4.heap.size w4).alloc (Nat.le_refl _) (.cells #[.int .i64 R2.low, .slice a7 L2 c7] PO)).mono hb4.size)
      have HR7 := Lib.hid (hr7.below ((Below.refl w4.heap.size w4).alloc (Nat.le_refl _) (.cells #[.int .i64 R2.low, .slice a7 L2 c7] PO)))
      have HA4 := Lib.hid (HA3.out.bel hbA4)
      obtain ⟨⟨d0, d1, e0, e1⟩, r0, r1, s0, s1⟩ := HA4.out.cells
      have hs4 := hb4.size
      clear hr7 hb4 hbA4
      by_cases hbo : bb = true ∧ b2 = true
      · obtain ⟨rfl, rfl⟩ := hbo
        have HS3 : Hid (sumO (fun j => timesO (at2 A i j) (at2 B j k)) (j + 1) = some R2) := Lib.hid (by rw [sumO_next HSM.out (by rw [HF.out]; rfl) HB2'.out, if_pos rfl, HR2.out])
        have HN3 := Lib.hid (HA4.out.next HR7.out (by omega))
        clear r0 r1 s0 s1
        go_wp2
        go_roundw
        case rel => exact ⟨j + 1, R2, a7, L2, c7, by omega, by go_num, HS3, HN3⟩
        case measure => simp [intOf]; omega
      · have HN : Hid (dotO A B i k ma = none) := Lib.hid (by
          rw [HD.out]
          refine sumO_stop (k := j + 1) ?_ ma (by omega)
          cases bb with
          | false => unfold sumO; rw [HSM.out, HF.out]; rfl
          | true =>
            cases b2 with
            | false => rw [sumO_next HSM.out (by rw [HF.out]; rfl) HB2'.out]; rfl
            | true => exact absurd ⟨rfl, rfl⟩ hbo)
        obtain ⟨V4, hV4⟩ : ∃ V, w4.alloc (.cells #[.int .i64 R2.low, .slice a7 L2 c7] PO) = V := ⟨_, rfl⟩
        have HV4 := Lib.hid hV4
        have HA4' : Hid (TrS w w2.heap.size s sa sm sc V4) := Lib.hid (by rw [← hV4]; exact HA4.out)
        clear d0 d1 e0 e1 r0 r1 s0 s1 g0 g1 hV4
        have hend : ∀ (w5 : World) (az : Option Addr) (cz : Nat), IntRow V4.heap.size w5 (.slice az ([] : List Int).length cz) [] → Below V4.heap.size V4 w5 → AtZ w (dotO A B i k ma) (.returned (.tuple #[plV 0 (.slice az ([] : List Int).length cz), .bool false])) ((w5.setCell ⟨w.heap.size, 0, none⟩ (.int .i64 0)).setCell ⟨w.heap.size, 1, none⟩ (.slice az ([] : List Int).length cz)) := fun w5 az cz hr hb5 => by
          have h5 := HA4'.out.bel hb5
          rw [HN.out]
          exact ⟨⟨_, _, _, rfl, resRow _ _ hr (by have := HA4'.out.lt; have := HA4'.out.hj; omega)⟩, resBelow _ _ h5.below⟩
        have HEND := Lib.hid hend
        clear hend
        cases bb with
        | false =>
          go_wp2_with fail
          rw [HV4.out]
          refine (l6pNone_any V4).mono ?_
          rintro e w5 ⟨⟨v, rfl, hr⟩, hb5⟩
          obtain ⟨az, nz, cz, rfl, _⟩ := hr.shape
          have HX := Lib.hid (HEND.out w5 az cz hr hb5)
          obtain ⟨_, r0, r1, s0, s1⟩ := (HA4'.out.bel hb5).cells
          clear hr hb5
          go_wp2
          refine bodyPost_ret (v := .tuple #[plV 0 (.slice az ([] : List Int).length cz), .bool false]) ?_ rfl HX.out
          simp [results, Try.results106, go_sem, r0, r1, plV]
        | true =>
          obtain rfl : b2 = false := by cases b2 with | false => rfl | true => exact absurd ⟨rfl, rfl⟩ hbo
          go_wp2_with fail
          rw [HV4.out]
          refine (l6pNone_any V4).mono ?_
          rintro e w5 ⟨⟨v, rfl, hr⟩, hb5⟩
          obtain ⟨az, nz, cz, rfl, _⟩ := hr.shape
          have HX := Lib.hid (HEND.out w5 az cz hr hb5)
          obtain ⟨_, r0, r1, s0, s1⟩ := (HA4'.out.bel hb5).cells
          clear hr hb5
          go_wp2
          refine bodyPost_ret (v := .tuple #[plV 0 (.slice az ([] : List Int).length cz), .bool false]) ?_ rfl HX.out
          simp [results, Try.results106, go_sem, r0, r1, plV]
    · obtain rfl : j = ma := by omega
      obtain ⟨⟨d0, d1, e0, e1⟩, r0, r1, s0, s1⟩ := HA.out.cells
      go_wp2
      have hA : AtZ w (dotO A B i k j) (.returned (.tuple #[plV s.low (.slice sa sm sc), .bool true])) ((U.setCell ⟨w.heap.size, 0, none⟩ (.int .i64 s.low)).setCell ⟨w.heap.size, 1, none⟩ (.slice sa sm sc)) :=
        AtZ.yes (by rw [HD.out]; exact HSM.out) (resRow _ _ HA.out.row (by omega)) (resBelow _ _ HA.out.below)
      refine bodyPost_ret (v := .tuple #[plV s.low (.slice sa sm sc), .bool true]) ?_ rfl hA
      simp [results, Try.results106, go_sem, r0, r1, plV]

end Go.Proofs.Ytbbkpaledlbcmaa

/- A drawn region whose head has fixed values though it makes memory; what follows waits for the head and is opened by hand. -/

namespace Go.Proofs.Ytbbkpaledlbcmaa
open Go.RowKit

section
variable {P : Program} {ops : Array Oper} {md : Region.Mode} {C : World → Prop}

/-- Each operation of the rest but its first waits for one of the rest. -/
def restB (md : Region.Mode) (ops : Array Oper) (n : Nat) : Bool := (List.range ops.size).all fun t => decide (t ≤ n) || (List.range t).any fun s => decide (n ≤ s) && Region.waitsFor md ops t s
theorem rest_waits {n : Nat} {listed : Array Bool} (hs : Region.sinkB md ops n = true) (hc : restB md ops n = true) (inv : HeadInv md ops n listed) :
    ∀ (d i : Nat), n - i = d → i < n → listed.getD i true = false → ∀ t, n ≤ t → t ∉ Region.ready md ops listed := by
  intro d
  induction d using Nat.strongRecOn with
  | _ d ih =>
    intro i hd hi hun t ht hr
    obtain ⟨_, ot, hot, hall⟩ := mem_ready.1 hr
    have htlt : t < ops.size := (Array.getElem?_eq_some_iff.1 hot).1
    by_cases htn : t = n
    · subst htn
      have h1 := List.all_eq_true.1 hs i (List.mem_range.2 hi)
      obtain ⟨j, hj, hj2⟩ := List.any_eq_true.1 h1
      simp only [Bool.and_eq_true, decide_eq_true_eq] at hj2
      obtain ⟨oj, hoj, e, he, hb, hon⟩ := Region.waitsFor_spec hj2.2
      have hjle : j ≤ t := by have := List.mem_range.1 hj; omega
      by_cases hjt : j = t
      · subst hjt
        have : oj = ot := Option.some.inj (hoj.symm.trans hot)
        subst this
        have h2 := hall e he hb
        rw [hon, getD_both hun] at h2
        cases h2
      · cases hl : listed.getD j false with
        | true =>
          have h2 := inv.closed j oj hoj hl e he hb
          rw [hon, getD_both hun] at h2
          cases h2
        | false => exact ih (t - j) (by omega) j rfl (by omega) (getD_in (by rw [inv.size]; omega) hl) t (Nat.le_refl _) hr
    · have h1 := List.all_eq_true.1 hc t (List.mem_range.2 htlt)
      simp only [Bool.or_eq_true, decide_eq_true_eq] at h1
      rcases h1 with h1 | h1
      · omega
      · obtain ⟨s, hs1, hs2⟩ := List.any_eq_true.1 h1
        simp only [Bool.and_eq_true, decide_eq_true_eq] at hs2
        obtain ⟨oj, hoj, e, he, hb, hon⟩ := Region.waitsFor_spec hs2.2
        have : oj = ot := Option.some.inj (hoj.symm.trans hot)
        subst this
        have h2 := hall e he hb
        have h3 := inv.tail s hs2.1 (by have := List.mem_range.1 hs1; omega)
        rw [hon, getD_both h3] at h2
        cases h2

theorem headQ_first2 {n i : Nat} {oi : Oper} {v : Value} {L : Array Bool → Act → Prop} (hi : ops[i]? = some oi) (hsel : ∀ (j : Nat) (o : Oper) cs b, ops[j]? = some o → o.op ≠ .select cs b)
    (hs : Region.sinkB md ops n = true) (hc : restB md ops n = true) (hin : i < n) (hdone : ∀ listed a, L listed a → ∀ j ∈ Region.ready md ops listed, n ≤ j) :
    ∀ (f : Nat) (listed : Array Bool) (a : Act), HeadInv md ops n listed →
      (∀ j oj, ops[j]? = some oj → j ≠ i → listed.getD j true = false → (∀ e ∈ oj.after, Region.binds md e = true → e.on ≠ i) → oi.apart ops oj = true) →
      i ∈ Region.ready md ops listed → YieldsIn P ops C oi v a →
      headQ P md ops C n L f (listed.setIfInBounds i true) (a.put oi.dst v) → headQ P md ops C n L (f + 1) listed a := by
  intro f
  induction f with
  | zero =>
    intro listed a inv _ hr hy H
    refine ⟨fun h => (by rw [h] at hr; cases hr), fun j hj => ?_⟩
    have hjn : j < n := Nat.lt_of_not_le fun h => rest_waits hs hc inv _ i rfl hin (mem_ready.1 hr).1 j h hj
    refine ⟨hjn, ?_⟩
    by_cases hji : j = i
    · subst hji; exact hy.qOp hi H
    · exact absurd (hdone _ _ H j (ready_mono hj hji)) (by omega)
  | succ f ih =>
    intro listed a inv hfree hr hy H
    have hun := (mem_ready.1 hr).1
    refine ⟨fun h => (by rw [h] at hr; cases hr), fun j hj => ?_⟩
    have hjn : j < n := Nat.lt_of_not_le fun h => rest_waits hs hc inv _ i rfl hin hun j h hj
    refine ⟨hjn, ?_⟩
    by_cases hji : j = i
    · subst hji; exact hy.qOp hi H
    · obtain ⟨hjun, oj, hoj, hall⟩ := mem_ready.1 hj
      have hnot : ∀ e ∈ oj.after, Region.binds md e = true → e.on ≠ i := fun e he hb heq => by
        have h1 := hall e he hb
        rw [heq, getD_both hun] at h1
        cases h1
      have h2 := qOp_put hoj (hfree j oj hoj hji hjun hnot) (fun cs b => hsel i oi cs b hi) (fun cs b => hsel j oj cs b hoj) hy (H.2 j (ready_mono hj hji)).2
      refine qOp_mono (fun a' h3 => ih _ a' (inv.set hj hjn) (fun k ok hk hki hu hno => hfree k ok hk hki ?_ hno) (ready_mono hr (Ne.symm hji)) h3.1 ?_) h2
      · by_cases hjk : j = k
        · subst hjk; exact hjun
        · rw [getD_set_ne true hjk] at hu; exact hu
      · rw [Array.setIfInBounds_comm _ _ hji]
        exact h3.2

/-- The head in its row, up to the marks LN. -/
def lexMark (md : Region.Mode) (ops : Array Oper) (n : Nat) (LN : Array Bool) : Nat → Nat → Array Bool → Bool
  | 0, _, listed => decide (listed = LN) && (Region.ready md ops listed).all fun j => decide (n ≤ j)
  | f + 1, k, listed => (Region.ready md ops listed).contains k && Region.free md ops listed k && lexMark md ops n LN f (k + 1) (listed.setIfInBounds k true)
theorem headQ_mark {n : Nat} {LN : Array Bool} {Lq : Act → Prop} (hsel : Region.noSelect ops = true) (hs : Region.sinkB md ops n = true) (hc : restB md ops n = true) :
    ∀ (l : List Oper) (k : Nat) (listed : Array Bool) (a : Act), (∀ j, j < l.length → l[j]? = ops[k + j]?) → k + l.length = n → HeadInv md ops n listed →
    lexMark md ops n LN l.length k listed = true → wpQuiet P ops C Lq l a → headQ P md ops C n (fun listed' a' => (listed' = LN ∧ ∀ j ∈ Region.ready md ops listed', n ≤ j) ∧ Lq a') l.length listed a
  | [], k, listed, a, _, hk, _, hB, h => by
    simp only [List.length_nil, lexMark, Bool.and_eq_true, decide_eq_true_eq, List.all_eq_true] at hB
    exact ⟨hB, h⟩
  | o :: l, k, listed, a, hl, hk, inv, hB, h => by
    have h0 : ops[k]? = some o := by simpa using (hl 0 (by simp)).symm
    simp only [List.length_cons, lexMark, Bool.and_eq_true] at hB
    have hkn : k < n := by simp only [List.length_cons] at hk; omega
    have hr' : k ∈ Region.ready md ops listed := by simpa using hB.1.1
    have hst : qOp P ops C k (wpQuiet P ops C Lq l) a := by unfold qOp; simp only [h0]; exact h
    obtain ⟨v, hy, hK⟩ := yieldsIn_of_qOp h0 hst
    exact headQ_first2 h0 (Region.noSelect_spec hsel) hs hc hkn (fun listed' a' hL => hL.1.2) l.length listed a inv (Region.free_spec h0 hB.1.2) hr' hy
      (headQ_mark hsel hs hc l (k + 1) _ _ (fun j hj => by have := hl (j + 1) (by simp; omega); simpa [Nat.add_assoc, Nat.add_comm 1 j] using this) (by simp only [List.length_cons] at hk; omega) (inv.set hr' hkn) hB.2 hK)
def thenB (md : Region.Mode) (ops : Array Oper) (n : Nat) (LN : Array Bool) : Bool :=
  Region.noSelect ops && decide (n < ops.size) && Region.sinkB md ops n && restB md ops n && lexMark md ops n LN n 0 (Array.replicate ops.size false)
theorem wp_region_quiet_then {id : Nat} {Q : Exit → Act → World → Prop} {a : Act} {w : World} {l : List Oper} (n : Nat) (LN : Array Bool) (hm : P.follows .mixedOrders = true) (hB : thenB .any l.toArray n LN = true) (hC : C { w with drawn := w.drawn + 1 })
    (h : wpQuiet P l.toArray C (fun a' => ∀ w', C w' → wpAny P .any l.toArray Q (l.toArray.size - n) LN a' w') (l.take n) a) : (Code.region id l.toArray true).wp P Q a w := by
  simp only [thenB, Bool.and_eq_true, decide_eq_true_eq] at hB
  obtain ⟨⟨⟨⟨hsel, hn⟩, hs⟩, hc⟩, hlex⟩ := hB
  have hn' : n < l.length := by simpa using hn
  have htl : (l.take n).length = n := by simp; omega
  have inv0 : HeadInv .any l.toArray n (Array.replicate l.toArray.size false) :=
    ⟨by simp, fun j oj _ hl => (by rw [getD_replicate_false] at hl; cases hl), fun t _ ht => getD_in (by simpa using ht) (getD_replicate_false _ _)⟩
  have H := headQ_mark (md := .any) (LN := LN) hsel hs hc (l.take n) 0 _ a (fun j hj => by
    have hj' : j < n := by rw [htl] at hj; exact hj
    simp [hj']) (by simpa using htl) inv0 (by rw [htl]; exact hlex) h
  refine wp_region_any hm ?_
  have := wpAny_headQ (Q' := Q) (g := l.toArray.size - n) (fun listed a' w' hw' hL => by
    rw [hL.1.1]
    exact hL.2 w' hw') _ _ _ _ hC H
  rw [htl, show n + (l.toArray.size - n) = l.toArray.size by omega] at this
  exact this
/-- At the worlds behind w. -/
theorem wp_region_below_then {id : Nat} {Q : Exit → Act → World → Prop} {a : Act} {w : World} {l : List Oper} (n : Nat) (LN : Array Bool) (hm : P.follows .mixedOrders = true) (hB : thenB .any l.toArray n LN = true)
    (h : wpQuiet P l.toArray (fun w' => ∃ p : BelowBy w, w' = p.world) (fun a' => ∀ w', (∃ p : BelowBy w, w' = p.world) → wpAny P .any l.toArray Q (l.toArray.size - n) LN a' w') (l.take n) a) : (Code.region id l.toArray true).wp P Q a w :=
  wp_region_quiet_then n LN hm hB ⟨⟨w.drew, (Below.refl _ _).drew⟩, rfl⟩ h
/-- One alone may come up. -/
theorem wpAny_one {Q : Exit → Act → World → Prop} {i fuel : Nat} {o : Oper} {listed : Array Bool} {a : Act} {w : World} (hi : ops[i]? = some o) (hr : Region.ready md ops listed = [i])
    (h : ∀ K' : Act → World → Prop, Hid (∀ a w, wpAny P md ops Q fuel (listed.setIfInBounds i true) a w → K' a w) → if Region.wanted o (yielded ops a.tmps) = true then Oper.wp P o a w K' Q else K' (a.put o.dst undef) w) : wpAny P md ops Q (fuel + 1) listed a w := by
  refine ⟨fun h0 => (by rw [hr] at h0; cases h0), fun j hj => ?_⟩
  rw [hr] at hj
  obtain rfl : j = i := by simpa using hj
  exact wpOp_step hi fun K' hK => h K' (Lib.hid hK)
/-- One of two may come up. -/
theorem wpAny_two {Q : Exit → Act → World → Prop} {i i2 fuel : Nat} {o o2 : Oper} {listed : Array Bool} {a : Act} {w : World} (hi : ops[i]? = some o) (hi2 : ops[i2]? = some o2) (hr : Region.ready md ops listed = [i, i2])
    (h : ∀ K' : Act → World → Prop, Hid (∀ a w, wpAny P md ops Q fuel (listed.setIfInBounds i true) a w → K' a w) → if Region.wanted o (yielded ops a.tmps) = true then Oper.wp P o a w K' Q else K' (a.put o.dst undef) w)
    (h2 : ∀ K' : Act → World → Prop, Hid (∀ a w, wpAny P md ops Q fuel (listed.setIfInBounds i2 true) a w → K' a w) → if Region.wanted o2 (yielded ops a.tmps) = true then Oper.wp P o2 a w K' Q else K' (a.put o2.dst undef) w) : wpAny P md ops Q (fuel + 1) listed a w := by
  refine ⟨fun h0 => (by rw [hr] at h0; cases h0), fun j hj => ?_⟩
  rw [hr] at hj
  rcases (by simpa using hj : j = i ∨ j = i2) with rfl | rfl
  · exact wpOp_step hi fun K' hK => h K' (Lib.hid hK)
  · exact wpOp_step hi2 fun K' hK => h2 K' (Lib.hid hK)
end

end Go.Proofs.Ytbbkpaledlbcmaa

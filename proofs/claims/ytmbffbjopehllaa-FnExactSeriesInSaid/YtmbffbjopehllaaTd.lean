/- The order of terms: the contracts of cmp.Compare, strings.Compare, cmp.Or and the program's 'compareTerms'. -/
import Derived.Test.YtmbffbjopehllaaTc
import Derived.Lib.Bytealg
import Derived.Lib.Small
import Derived.Sort.Grow
import Derived.Deep.RegionHeld3
import Derived.Sort.Walk0
namespace Go.Proofs.Ytmbffbjopehllaa
open Go.RowKit Go.Sort

theorem isNaN_any (x : Int) (w : World) : Calls Try.prog 93 #[.int .i64 x] w fun e w' => e = .returned (.bool false) ∧ w = w' := by
  go_enter Try.func93, Try.ntmps93
  go_wp2
  go_ret
  exact ⟨rfl, rfl⟩

set_option maxHeartbeats 1000000 in
theorem compareInt_any (x y : Int) (w : World) : Calls Try.prog 67 #[.int .i64 x, .int .i64 y] w fun e w' => e = .returned (.int .i64 (Lib.compareInt x y)) ∧ w = w' := by
  go_enter Try.func67, Try.ntmps67
  go_wp2_with (go_at_call 93; refine (isNaN_any _ _).mono ?_; rintro e w' ⟨rfl, rfl⟩)
  all_goals (go_ret; refine ⟨?_, rfl⟩; unfold Lib.compareInt; (repeat' split) <;> first | rfl | (exfalso; omega))

set_option maxRecDepth 100000 in
set_option maxHeartbeats 1000000 in
theorem compareString_any (a b : ByteArray) (w : World) :
    Calls Try.prog 94 #[.string a, .string b] w fun e w' => e = .returned (.int .i64 (Lib.compareBytes a.data.toList b.data.toList)) ∧ w = w' := by
  go_enter Try.func94, Try.ntmps94
  go_wp2
  rw [run_callFunc_extern Try.func102 (by kernel_rfl) (by kernel_rfl) (by kernel_rfl) (e := Extern.BytealgCompare.compare) (by kernel_rfl), Lib.run_compareString]
  simp only [Result.andThen]
  rw [Oper.upon_value]
  go_wp2
  go_ret
  exact ⟨rfl, rfl⟩

theorem stringsCompare_any (a b : ByteArray) (w : World) :
    Calls Try.prog 68 #[.string a, .string b] w fun e w' => e = .returned (.int .i64 (Lib.compareBytes a.data.toList b.data.toList)) ∧ w = w' := by
  go_enter Try.func68, Try.ntmps68
  go_wp2_with (go_at_call 94; refine (compareString_any _ _ _).mono ?_; rintro e w' ⟨rfl, rfl⟩)
  go_ret
  exact ⟨rfl, rfl⟩

theorem ret_i64 {a b : Int} (h : a = b) : Ending.returned (.int .i64 a) = .returned (.int .i64 b) := by rw [h]
def orInt (x y : Int) : Int := if x = 0 then y else x
set_option maxHeartbeats 1000000 in
theorem or_any (g cap : Nat) (x y : Int) (w : World) (h0 : w.cell? ⟨g, 0, none⟩ = some (.int .i64 x)) (h1 : w.cell? ⟨g, 1, none⟩ = some (.int .i64 y)) :
    Calls Try.prog 66 #[.slice (some ⟨g, 0, none⟩) 2 cap] w fun e w' => e = .returned (.int .i64 (orInt x y)) ∧ w = w' := by
  by_cases hx : x = 0
  · subst hx
    by_cases hy : y = 0
    · subst hy
      go_enter Try.func66, Try.ntmps66
      go_wp2
      go_loop [8] (fun i => ∃ k : Nat, k ≤ 2 ∧ i = .int .i64 k) (fun i => 2 - (intOf i).toNat)
      case atStart => exact ⟨0, by omega, rfl⟩
      case round =>
        obtain ⟨k, hk, rfl⟩ := hrel
        by_cases hk2 : k < 2
        · have hc : w.cell? ⟨g, k, none⟩ = some (.int .i64 0) := by
            have : k = 0 ∨ k = 1 := by omega
            rcases this with rfl | rfl
            · exact h0
            · exact h1
          clear h0 h1
          go_wp2
          go_round
          case rel => exact ⟨k + 1, by omega, by go_num⟩
          case measure => simp [intOf]; omega
        · go_wp2
          go_ret
          exact ⟨rfl, rfl⟩
    · go_enter Try.func66, Try.ntmps66
      go_wp2
      go_loop [8] (fun i => ∃ k : Nat, k ≤ 1 ∧ i = .int .i64 k) (fun i => 2 - (intOf i).toNat)
      case atStart => exact ⟨0, by omega, rfl⟩
      case round =>
        obtain ⟨k, hk, rfl⟩ := hrel
        have hk2 : k < 2 := by omega
        by_cases hk1 : k < 1
        · obtain rfl : k = 0 := by omega
          clear h1
          have hyb : (y != 0) = true := by simpa using hy
          go_wp2
          go_round
          case rel => exact ⟨1, by omega, by go_num⟩
          case measure => simp [intOf]
        · obtain rfl : k = 1 := by omega
          clear h0
          have hyb : (y != 0) = true := by simpa using hy
          go_wp2
          go_ret
          exact ⟨ret_i64 (by unfold orInt; simp), rfl⟩
  · have hxb : (x != 0) = true := by simpa using hx
    go_enter Try.func66, Try.ntmps66
    go_wp2
    go_loop [8] (fun i => i = .int .i64 0) (fun i => 2 - (intOf i).toNat)
    case atStart => exact rfl
    case round =>
      obtain rfl := hrel
      clear h1
      go_wp2
      go_ret
      exact ⟨ret_i64 (by unfold orInt; rw [if_neg hx]), rfl⟩

theorem or_new (x y : Int) (V : World) : Calls Try.prog 66 #[.slice (some ⟨V.heap.size, 0, none⟩) 2 2] (V.alloc (.cells #[.int .i64 x, .int .i64 y] 3)).drew fun e w' => e = .returned (.int .i64 (orInt x y)) ∧ (V.alloc (.cells #[.int .i64 x, .int .i64 y] 3)).drew = w' :=
  or_any _ _ _ _ _ ((World.cell?_alloc_at _ _ _ _ rfl).trans rfl) ((World.cell?_alloc_at _ _ _ _ rfl).trans rfl)
/-- The order of texts. -/
def cmpW (a b : ByteArray) : Int := orInt (Lib.compareInt a.size b.size) (Lib.compareBytes a.data.toList b.data.toList)

theorem grow_alloc (w : World) (os : Array Obj) (o : Obj) : (grow w os).alloc o = grow w (os.push o) := by
  unfold grow World.alloc
  simp
theorem alloc_grow (w : World) (o : Obj) : w.alloc o = grow w #[o] := by
  unfold grow World.alloc
  simp

/-- Behind w: some draws, some blocks. -/
def Grew (w w' : World) : Prop := ∃ q os, w' = grow (w.drewN q) os
theorem Grew.refl (w : World) : Grew w w := ⟨0, #[], by unfold grow World.drewN; simp⟩
theorem Grew.alloc {w w' : World} (h : Grew w w') (o : Obj) : Grew w (w'.alloc o) := by
  obtain ⟨q, os, rfl⟩ := h
  exact ⟨q, os.push o, grow_alloc _ _ _⟩
theorem Grew.drew {w w' : World} (h : Grew w w') : Grew w w'.drew := by
  obtain ⟨q, os, rfl⟩ := h
  exact ⟨q + 1, os, rfl⟩
theorem Grew.below {w w' : World} (h : Grew w w') : Below w.heap.size w w' := by
  obtain ⟨q, os, rfl⟩ := h
  refine ⟨rfl, rfl, rfl, by simp [grow], fun k hk => ?_⟩
  simp only [grow, World.heap_drewN]
  rw [Array.getElem?_append_left hk]

set_option maxRecDepth 100000 in
set_option maxHeartbeats 4000000 in
theorem compareTerms_any (a b : Tm) (w : World) :
    Calls Try.prog 38 #[.agg #[.int .i64 a.c, .string a.s], .agg #[.int .i64 b.c, .string b.s]] w fun e w' => e = .returned (.int .i64 (cmpW a.s b.s)) ∧ Grew w w' := by
  obtain ⟨c, s⟩ := a
  obtain ⟨d, t⟩ := b
  have hmx : Try.prog.follows .mixedOrders = true := by kernel_rfl
  go_enter Try.func38, Try.ntmps38
  go_wp2
  obtain ⟨V, hV⟩ : ∃ V, (w.alloc (.cells #[.int .i64 c, .string s] TI)).alloc (.cells #[.int .i64 d, .string t] TI) = V := ⟨_, rfl⟩
  have hgV : Grew w V := by rw [← hV]; exact ((Grew.refl w).alloc _).alloc _
  have k0 : V.cell? ⟨w.heap.size, 1, none⟩ = some (.string s) := by rw [← hV, World.cell?_alloc_lt _ _ _ (by show w.heap.size < _; simp)]; exact (World.cell?_alloc_at _ _ _ _ (by simp)).trans rfl
  have k1 : V.cell? ⟨w.heap.size + 1, 1, none⟩ = some (.string t) := by rw [← hV]; exact (World.cell?_alloc_at _ _ _ _ (by simp)).trans rfl
  rw [hV]
  have HV := Lib.hid hgV
  have hz : V.heap.size = w.heap.size + 2 := by rw [← hV]; simp
  have HZ := Lib.hid hz
  have q0 : ∀ o, (V.drew.alloc o).cell? ⟨w.heap.size, 1, none⟩ = some (.string s) := fun o => (World.cell?_alloc_lt _ _ _ (by show w.heap.size < V.heap.size; omega)).trans k0
  have q1 : ∀ o, (V.drew.alloc o).cell? ⟨w.heap.size + 1, 1, none⟩ = some (.string t) := fun o => (World.cell?_alloc_lt _ _ _ (by show w.heap.size + 1 < V.heap.size; omega)).trans k1
  clear hgV hV hz
  go_region_held3 (fun W : World => W.cell? ⟨w.heap.size, 1, none⟩ = some (.string s) ∧ W.cell? ⟨w.heap.size + 1, 1, none⟩ = some (.string t)) (first | exact ⟨k0, k1⟩ | exact ⟨q0 _, q1 _⟩ | go_keep) (first | (go_at_call 67; refine (compareInt_any _ _ _).mono ?_; rintro e w' ⟨rfl, rfl⟩) | (go_at_call 68; refine (stringsCompare_any _ _ _).mono ?_; rintro e w' ⟨rfl, rfl⟩) | (go_at_call 66; refine (or_new _ _ _).mono ?_; rintro e w' ⟨rfl, rfl⟩))
  go_wp2
  go_ret
  exact ⟨rfl, (HV.out.alloc _).drew⟩

end Go.Proofs.Ytmbffbjopehllaa

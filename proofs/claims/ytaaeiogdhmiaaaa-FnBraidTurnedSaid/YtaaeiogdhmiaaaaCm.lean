/- slices.Backward at bytes (made by mkcm.py out of XIh). -/
import Derived.Test.YtaaeiogdhmiaaaaIh
namespace Go.Proofs.Ytaaeiogdhmiaaaa
open Go.RowKit Go.Shelf

attribute [local go_sem] Oper.semAt_some

set_option maxRecDepth 100000 in
set_option maxHeartbeats 1000000 in
/-- slices.Backward at bytes. -/
theorem backwardB1_in (n : Nat) (hn : 1 ≤ n) (l Bs : Nat) (n₀ : Nat) (Kp : World → World → Prop) (hKt : ∀ {A B C : World}, Kp A B → Kp B C → Kp A C) (hKr : ∀ A, Kp A A) (L : List UInt8) (sv : Value) (J : List (Nat × UInt8) → World → Prop)
    (hY : ∀ pre x W, J pre W → pre ++ [x] <+: bk L 0 → YieldAt Fence.wide (n - 1) Try.prog l (encI x) W fun e W' => e = .returned (.bool true) ∧ J (pre ++ [x]) W' ∧ Kp W W')
    (W : World) (hBs : ∀ W', Kp W W' → W'.cell? ⟨Bs, 0, none⟩ = some sv) (hw : ∀ W', Kp W W' → IsWord n₀ W' sv L) (h0 : J [] W) :
    CallsIn Fence.wide n Try.prog 109 #[.func (.yield l) #[] #[], .pointer (some ⟨Bs, 0, none⟩)] W fun e W' => (∃ v, e = .returned v) ∧ J (bk L 0) W' := by
  obtain ⟨g, off, cap, rfl, hg, hL, hc⟩ := hw W (hKr W)
  obtain ⟨len, hlen⟩ : ∃ len, L.length = len := ⟨_, rfl⟩
  have hBs0 := hBs W (hKr W)
  have hBs1 : Hid (∀ W', Kp W W' → W'.cell? ⟨Bs, 0, none⟩ = some (.slice (some ⟨g, off, none⟩) len cap)) := by rw [← hlen]; exact hBs
  rw [hlen] at hBs0 hL
  have HW : Hid (∀ W', Kp W W' → ∀ j (h : j < L.length), W'.cell? ⟨g, off + j, none⟩ = some (.int .u8 (L[j].toNat : Int))) := fun W' hk j h => by
    obtain ⟨g2, off2, cap2, e, _, _, hc2⟩ := hw W' hk
    cases e
    exact hc2 j h
  have HL := Lib.hid hlen
  clear hc hlen hw hBs hg
  refine callsIn_of_wp Try.func109 rfl trivial ?_ rfl
  simp only [Try.ntmps109, List.size_toArray, List.length_cons, List.length_nil, Nat.reduceAdd, Nat.reduceSub, Array.replicate_succ, Array.replicate_zero, List.push_toArray, List.append_toArray, List.nil_append, List.cons_append]
  gi_wp2
  gi_loopw [3] (fun i wr => ∃ k : Nat, k ≤ len ∧ i = .int .i64 ((k : Int) - 1) ∧ J (bk L k) wr ∧ Kp W wr)
    (fun i _ => (intOf i + 1).toNat)
  case atStart => exact ⟨len, Nat.le_refl _, rfl, by unfold bk; rw [List.drop_of_length_le (by simp; rw [HL.out]; exact Nat.le_refl _)]; exact h0, hKr W⟩
  case round =>
    obtain ⟨k, hk, rfl, hJs, hnx⟩ := hrel
    have hcB := hBs1.out wr hnx
    by_cases hlt : 0 < k
    · obtain ⟨j, rfl⟩ : ∃ j, k = j + 1 := ⟨k - 1, by omega⟩
      have hkl : j < L.length := by rw [HL.out]; omega
      obtain ⟨x, hx⟩ : ∃ x, L[j] = x := ⟨_, rfl⟩
      have hcx : wr.cell? ⟨g, off + j, none⟩ = some (.int .u8 (x.toNat : Int)) := by rw [← hx]; exact HW.out wr hnx j hkl
      have HS : Hid (bk L j = bk L (j + 1) ++ [(j, x)]) := by rw [← hx]; exact bk_step _ j hkl
      obtain ⟨fn, tmps, assign, body, hy, hR⟩ := hY _ (j, x) wr hJs (by rw [← HS.out]; exact bk_prefix L j)
      clear hx hkl
      gi_wp2
      refine hR.mono ?_
      rintro e W3 ⟨rfl, hJ3, hk3⟩
      gi_wp2
      go_roundw
      case rel => exact ⟨j, by omega, by go_num, by rw [HS.out]; exact hJ3, hKt hnx hk3⟩
      case measure => simp [intOf]
    · have hk0 : k ≤ 0 := by omega
      have HA : Hid (bk L k = bk L 0) := by rw [show k = 0 by omega]; exact Lib.hid rfl
      gi_wp2
      go_end0
      exact ⟨⟨_, rfl⟩, by rw [← HA.out]; exact hJs⟩

theorem backwardB_any (a : Option Addr) (len cap : Nat) (w : World) :
    Calls Try.prog 74 #[.slice a len cap] w fun e w' => e = .returned (.func (.func 109) #[] #[.pointer (some ⟨w.heap.size, 0, none⟩)]) ∧ w' = w.alloc (.cells #[.slice a len cap] 62) := by
  go_enter Try.func74, Try.ntmps74
  go_wp2
  go_ret
  exact ⟨rfl, rfl⟩

end Go.Proofs.Ytaaeiogdhmiaaaa

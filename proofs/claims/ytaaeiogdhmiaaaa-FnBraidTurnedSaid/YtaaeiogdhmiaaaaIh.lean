/- The iterators over the letters of a word, forwards and backwards, and over those of its inverse. -/
import Derived.Test.YtaaeiogdhmiaaaaId
namespace Go.Proofs.Ytaaeiogdhmiaaaa
open Go.RowKit Go.Shelf

attribute [local go_sem] Oper.semAt_some

/-- The slice value sv is a word with the letters l. -/
def IsWord (n₀ : Nat) (w : World) (sv : Value) (l : List UInt8) : Prop :=
  ∃ g off cap, sv = .slice (some ⟨g, off, none⟩) l.length cap ∧ g < n₀ ∧ l.length ≤ 100000 ∧ ∀ j (h : j < l.length), w.cell? ⟨g, off + j, none⟩ = some (.int .u8 (l[j].toNat : Int))
theorem IsWord.below {n₀ : Nat} {w w' : World} {sv : Value} {l : List UInt8} (h : IsWord n₀ w sv l) (hb : Below n₀ w w') : IsWord n₀ w' sv l := by
  obtain ⟨g, off, cap, rfl, hg, hl, hc⟩ := h
  exact ⟨g, off, cap, rfl, hg, hl, fun j hj => (hb.cell (p := ⟨g, off + j, none⟩) hg).trans (hc j hj)⟩
theorem IsWord.mono {n₀ n₁ : Nat} {w : World} {sv : Value} {l : List UInt8} (h : IsWord n₀ w sv l) (hb : n₀ ≤ n₁) : IsWord n₁ w sv l := by
  obtain ⟨g, off, cap, rfl, hg, hl, hc⟩ := h
  exact ⟨g, off, cap, rfl, by omega, hl, hc⟩

set_option maxRecDepth 100000 in
set_option maxHeartbeats 1000000 in
/-- slices.Values at a word. -/
theorem values1_in (n : Nat) (hn : 1 ≤ n) (l Bs n₀ : Nat) (L : List UInt8) (sv : Value) (J Jx : List UInt8 → World → Prop)
    (hY : ∀ pre x W, J pre W → pre ++ [x] <+: L → YieldAt Fence.wide (n - 1) Try.prog l (encB x) W fun e W' =>
      (e = .returned (.bool true) ∧ J (pre ++ [x]) W' ∧ Below n₀ W W') ∨ (e = .returned (.bool false) ∧ Jx (pre ++ [x]) W'))
    (W : World) (hBs : W.cell? ⟨Bs, 0, none⟩ = some sv) (hw : IsWord n₀ W sv L) (h0 : J [] W) :
    CallsIn Fence.wide n Try.prog 139 #[.func (.yield l) #[] #[], .pointer (some ⟨Bs, 0, none⟩)] W fun e W' => (∃ v, e = .returned v) ∧
      ((∃ ys, ys = L ∧ J ys W') ∨ (∃ pre, pre <+: L ∧ Jx pre W')) := by
  obtain ⟨g, off, cap, rfl, hg, hL, hc⟩ := hw
  obtain ⟨len, hlen⟩ : ∃ len, L.length = len := ⟨_, rfl⟩
  rw [hlen] at hBs hL
  have HC := Lib.hid hc
  have HL := Lib.hid hlen
  clear hc hlen
  refine callsIn_of_wp Try.func139 rfl trivial ?_ rfl
  simp only [Try.ntmps139, List.size_toArray, List.length_cons, List.length_nil, Nat.reduceAdd, Nat.reduceSub, Array.replicate_succ, Array.replicate_zero, List.push_toArray, List.append_toArray, List.nil_append, List.cons_append]
  gi_wp2
  gi_loopw [7] (fun i wr => ∃ k : Nat, k ≤ len ∧ i = .int .i64 k ∧ J (L.take k) wr ∧ Below n₀ W wr)
    (fun i _ => len - (intOf i).toNat)
  case atStart => exact ⟨0, Nat.zero_le _, rfl, h0, Below.refl _ _⟩
  case round =>
    obtain ⟨k, hk, rfl, hJs, hnx⟩ := hrel
    by_cases hlt : k < len
    · have hkl : k < L.length := by rw [HL.out]; exact hlt
      obtain ⟨x, hx⟩ : ∃ x, L[k] = x := ⟨_, rfl⟩
      have hcx : wr.cell? ⟨g, off + k, none⟩ = some (.int .u8 (x.toNat : Int)) := by rw [← hx]; exact (hnx.cell (p := ⟨g, off + k, none⟩) hg).trans (HC.out k hkl)
      have HS : Hid (L.take (k + 1) = L.take k ++ [x]) := by rw [← hx]; exact take_snoc _ k hkl
      obtain ⟨fn, tmps, assign, body, hy, hR⟩ := hY _ x wr hJs (by rw [← HS.out]; exact List.take_prefix _ _)
      clear hx hkl
      gi_wp2
      refine hR.mono ?_
      rintro e W3 (⟨rfl, hJ3, hk3⟩ | ⟨rfl, hJx3⟩)
      · gi_wp2
        go_roundw
        case rel => exact ⟨k + 1, by omega, by simp, by rw [HS.out]; exact hJ3, hnx.trans hk3⟩
        case measure => simp [intOf]; omega
      · gi_wp2
        refine bodyPost_ret (results_none rfl _ _ _) rfl ?_
        exact ⟨⟨_, rfl⟩, .inr ⟨_, by rw [← HS.out]; exact List.take_prefix _ _, hJx3⟩⟩
    · have HA : Hid (L.take k = L) := List.take_of_length_le (by rw [HL.out]; omega)
      gi_wp2
      go_end0
      exact ⟨⟨_, rfl⟩, .inl ⟨_, HA.out, hJs⟩⟩

theorem values_any (a : Option Addr) (len cap : Nat) (w : World) :
    Calls Try.prog 127 #[.slice a len cap] w fun e w' => e = .returned (.func (.func 139) #[] #[.pointer (some ⟨w.heap.size, 0, none⟩)]) ∧ w' = w.alloc (.cells #[.slice a len cap] 87) := by
  go_enter Try.func127, Try.ntmps127
  go_wp2
  go_ret
  exact ⟨rfl, rfl⟩

theorem values_seq (L : List UInt8) (sv : Value) (w : World) (Bs n₀ : Nat) (hB : Bs < w.heap.size) (hn₀ : n₀ ≤ w.heap.size) (hc : w.cell? ⟨Bs, 0, none⟩ = some sv) (hw : IsWord n₀ w sv L) :
    SeqO n₀ w 139 #[.pointer (some ⟨Bs, 0, none⟩)] L := seqO_of fun n h3 l J Jx W hW hY h0 =>
  values1_in n (by omega) l Bs n₀ L sv J Jx hY W ((hW.cell (p := ⟨Bs, 0, none⟩) hB).trans hc) (hw.below (hW.mono hn₀)) h0

abbrev encI (x : Nat × UInt8) : Array Value := #[.int .i64 (x.1 : Int), .int .u8 (x.2.toNat : Int)]
/-- What slices.Backward gives when the letters from the place k on have come. -/
def bk (L : List UInt8) (k : Nat) : List (Nat × UInt8) := ((L.zipIdx.drop k).map fun p => (p.2, p.1)).reverse
theorem bk_step (L : List UInt8) (k : Nat) (h : k < L.length) : bk L k = bk L (k + 1) ++ [(k, L[k])] := by
  unfold bk
  rw [List.drop_eq_getElem_cons (by simpa using h)]
  simp
theorem bk_prefix (L : List UInt8) (k : Nat) : bk L k <+: bk L 0 := by
  unfold bk
  rw [List.reverse_prefix, List.drop_zero]
  exact (List.drop_suffix k _).map _
theorem bk_len (L : List UInt8) (k : Nat) : (bk L k).length = L.length - k := by simp [bk]
theorem bk_snd (L : List UInt8) (f : UInt8 → UInt8) : (bk L 0).map (fun p => f p.2) = L.reverse.map f := by
  unfold bk
  rw [List.drop_zero, List.map_reverse, List.map_map, List.map_reverse]
  congr 1
  have : L.map f = L.zipIdx.map (f ∘ Prod.fst) := by rw [← List.map_map]; simp
  rw [this]; rfl

set_option maxRecDepth 100000 in
set_option maxHeartbeats 1000000 in
/-- slices.Backward at a word. -/
theorem backward1_in (n : Nat) (hn : 1 ≤ n) (l Bs : Nat) (n₀ : Nat) (Kp : World → World → Prop) (hKt : ∀ {A B C : World}, Kp A B → Kp B C → Kp A C) (hKr : ∀ A, Kp A A) (L : List UInt8) (sv : Value) (J : List (Nat × UInt8) → World → Prop)
    (hY : ∀ pre x W, J pre W → pre ++ [x] <+: bk L 0 → YieldAt Fence.wide (n - 1) Try.prog l (encI x) W fun e W' => e = .returned (.bool true) ∧ J (pre ++ [x]) W' ∧ Kp W W')
    (W : World) (hBs : ∀ W', Kp W W' → W'.cell? ⟨Bs, 0, none⟩ = some sv) (hw : ∀ W', Kp W W' → IsWord n₀ W' sv L) (h0 : J [] W) :
    CallsIn Fence.wide n Try.prog 145 #[.func (.yield l) #[] #[], .pointer (some ⟨Bs, 0, none⟩)] W fun e W' => (∃ v, e = .returned v) ∧ J (bk L 0) W' := by
  obtain ⟨g, off, cap, rfl, hg, hL, hc⟩ := hw W (hKr W)
  obtain ⟨len, hlen⟩ : ∃ len, L.length = len := ⟨_, rfl⟩
  have hBs0 := hBs W (hKr W)
  have hBs1 : Hid (∀ W', Kp W W' → W'.cell? ⟨Bs, 0, none⟩ = some (.slice (some ⟨g, off, none⟩) len cap)) := by rw [← hlen]; exact hBs
  rw [hlen] at hBs0 hL
  have HW : Hid (∀ W', Kp W W' → ∀ j (h : j < L.length), W'.cell? ⟨g, off + j, none⟩ = some (.int .u8 (L[j].toNat : Int))) := fun W' hk j h => by
    obtain ⟨g2, off2, cap2, e, _, _, hc2⟩ := hw W' hk
    cases e
    exact hc2 j h
  have HL := Lib.hid hlen
  clear hc hlen hw hBs hg
  refine callsIn_of_wp Try.func145 rfl trivial ?_ rfl
  simp only [Try.ntmps145, List.size_toArray, List.length_cons, List.length_nil, Nat.reduceAdd, Nat.reduceSub, Array.replicate_succ, Array.replicate_zero, List.push_toArray, List.append_toArray, List.nil_append, List.cons_append]
  gi_wp2
  gi_loopw [3] (fun i wr => ∃ k : Nat, k ≤ len ∧ i = .int .i64 ((k : Int) - 1) ∧ J (bk L k) wr ∧ Kp W wr)
    (fun i _ => (intOf i + 1).toNat)
  case atStart => exact ⟨len, Nat.le_refl _, rfl, by unfold bk; rw [List.drop_of_length_le (by simp; rw [HL.out]; exact Nat.le_refl _)]; exact h0, hKr W⟩
  case round =>
    obtain ⟨k, hk, rfl, hJs, hnx⟩ := hrel
    have hcB := hBs1.out wr hnx
    by_cases hlt : 0 < k
    · obtain ⟨j, rfl⟩ : ∃ j, k = j + 1 := ⟨k - 1, by omega⟩
      have hkl : j < L.length := by rw [HL.out]; omega
      obtain ⟨x, hx⟩ : ∃ x, L[j] = x := ⟨_, rfl⟩
      have hcx : wr.cell? ⟨g, off + j, none⟩ = some (.int .u8 (x.toNat : Int)) := by rw [← hx]; exact HW.out wr hnx j hkl
      have HS : Hid (bk L j = bk L (j + 1) ++ [(j, x)]) := by rw [← hx]; exact bk_step _ j hkl
      obtain ⟨fn, tmps, assign, body, hy, hR⟩ := hY _ (j, x) wr hJs (by rw [← HS.out]; exact bk_prefix L j)
      clear hx hkl
      gi_wp2
      refine hR.mono ?_
      rintro e W3 ⟨rfl, hJ3, hk3⟩
      gi_wp2
      go_roundw
      case rel => exact ⟨j, by omega, by go_num, by rw [HS.out]; exact hJ3, hKt hnx hk3⟩
      case measure => simp [intOf]
    · have hk0 : k ≤ 0 := by omega
      have HA : Hid (bk L k = bk L 0) := by rw [show k = 0 by omega]; exact Lib.hid rfl
      gi_wp2
      go_end0
      exact ⟨⟨_, rfl⟩, by rw [← HA.out]; exact hJs⟩

theorem backward_any (a : Option Addr) (len cap : Nat) (w : World) :
    Calls Try.prog 138 #[.slice a len cap] w fun e w' => e = .returned (.func (.func 145) #[] #[.pointer (some ⟨w.heap.size, 0, none⟩)]) ∧ w' = w.alloc (.cells #[.slice a len cap] 87) := by
  go_enter Try.func138, Try.ntmps138
  go_wp2
  go_ret
  exact ⟨rfl, rfl⟩

theorem iTurned_any (a : Option Addr) (len cap : Nat) (w : World) :
    Calls Try.prog 126 #[.slice a len cap] w fun e w' => e = .returned (.func (.func 137) #[] #[.pointer (some ⟨w.heap.size, 0, none⟩)]) ∧ w' = w.alloc (.cells #[.slice a len cap] 87) := by
  go_enter Try.func126, Try.ntmps126
  go_wp2
  go_ret
  exact ⟨rfl, rfl⟩

end Go.Proofs.Ytaaeiogdhmiaaaa

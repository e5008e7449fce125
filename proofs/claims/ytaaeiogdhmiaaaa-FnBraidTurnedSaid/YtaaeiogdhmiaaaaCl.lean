/- A loop over the bytes of a text whose body may write where it will, but for the text's own box. -/
import Derived.Test.YtaaeiogdhmiaaaaIb
namespace Go.Proofs.Ytaaeiogdhmiaaaa
open Go.RowKit Go.Shelf

attribute [local go_sem] Oper.semAt_some

set_option maxRecDepth 100000 in
set_option maxHeartbeats 1000000 in
theorem signs1_k (n : Nat) (hn : 1 ≤ n) (l Bs : Nat) (s : ByteArray) (hs : s.size ≤ 1048576) (Kp : World → World → Prop) (hKt : ∀ {A B C : World}, Kp A B → Kp B C → Kp A C) (hKr : ∀ A, Kp A A) (J : List UInt8 → World → Prop)
    (hY : ∀ pre x W, J pre W → pre ++ [x] <+: s.data.toList → YieldAt Fence.wide (n - 1) Try.prog l (encB x) W fun e W' => e = .returned (.bool true) ∧ J (pre ++ [x]) W' ∧ Kp W W')
    (W : World) (hBs : ∀ W', Kp W W' → W'.cell? ⟨Bs, 0, none⟩ = some (.string s)) (h0 : J [] W) :
    CallsIn Fence.wide n Try.prog 106 #[.func (.yield l) #[] #[], .pointer (some ⟨Bs, 0, none⟩)] W fun e W' => (∃ v, e = .returned v) ∧ J s.data.toList W' := by
  have hB0 := hBs W (hKr W)
  have HBs := Lib.hid hBs
  clear hBs
  refine callsIn_of_wp Try.func106 rfl trivial ?_ rfl
  simp only [Try.ntmps106, List.size_toArray, List.length_cons, List.length_nil, Nat.reduceAdd, Nat.reduceSub, Array.replicate_succ, Array.replicate_zero, List.push_toArray, List.append_toArray, List.nil_append, List.cons_append]
  gi_wp2
  gi_loopw [6] (fun i wr => ∃ k : Nat, k ≤ s.size ∧ i = .int .i64 k ∧ J (s.data.toList.take k) wr ∧ Kp W wr)
    (fun i _ => s.size - (intOf i).toNat)
  case atStart => exact ⟨0, Nat.zero_le _, rfl, h0, hKr W⟩
  case round =>
    obtain ⟨k, hk, rfl, hJs, hnx⟩ := hrel
    have hcx : wr.cell? ⟨Bs, 0, none⟩ = some (.string s) := HBs.out wr hnx
    by_cases hlt : k < s.size
    · have hl : k < s.data.toList.length := by simpa using hlt
      have HS : Hid (s.data.toList.take (k + 1) = s.data.toList.take k ++ [s[k]]) := take_snoc _ k hl
      obtain ⟨fn, tmps, assign, body, hy, hR⟩ := hY _ s[k] wr hJs (by rw [← HS.out]; exact List.take_prefix _ _)
      gi_wp2
      refine hR.mono ?_
      rintro e W3 ⟨rfl, hJ3, hk3⟩
      gi_wp2
      go_roundw
      case rel => exact ⟨k + 1, by omega, by simp, by rw [HS.out]; exact hJ3, hKt hnx hk3⟩
      case measure => simp [intOf]; omega
    · have HA : Hid (s.data.toList.take k = s.data.toList) := List.take_of_length_le (by simp; omega)
      gi_wp2
      go_end0
      exact ⟨⟨_, rfl⟩, by rw [← HA.out]; exact hJs⟩

/-- What a round keeps: the text's box, and the marks. -/
def KeepS (Bs : Nat) (N : Nat) (X Y : World) : Prop := Y.heap[Bs]? = X.heap[Bs]? ∧ KeepsFrom N X Y

/-- The law at the bytes of a text. -/
theorem range_signs {n : Nat} {g : Operand} {p : Tmp} {assign body : Code} {Q : Exit → Act → World → Prop} {a : Act} {w : World} {Bs : Nat} {s : ByteArray} (hn : 14 ≤ n) (hs : s.size ≤ 1048576)
    (hg : a.eval g = .func (.func 106) #[] #[.pointer (some ⟨Bs, 0, none⟩)])
    (hb : Boxed w Bs 9 (.string s))
    (I : List UInt8 → World → Prop) (hI : OwnFrom w.heap.size I) (h0 : I [] w) (a₁ : UInt8 → Act)
    (hassign : ∀ (l : Nat) (x : UInt8) (W : World) (K : Act → World → Prop), K (a₁ x) W →
      assign.wpIn (Fence.wide.inRound l) (n - 1 - 1) Try.prog (Exit.then K (fun _ _ _ => False)) { tmps := (#[p].zip (encB x)).foldl (fun t (q, v) => t.setIfInBounds q v) a.tmps, defers := [] } W)
    (hbody : ∀ (l : Nat) (pre : List UInt8) (x : UInt8) (W : World), I pre W → pre ++ [x] <+: s.data.toList →
      body.wpIn (Fence.wide.inRound l) (n - 1 - 1) Try.prog (goesOn w.heap.size (KeepS Bs) I (pre ++ [x]) W) (a₁ x) W)
    (hdone : ∀ (D : Nat) (W : World), w.heap.size ≤ D → I s.data.toList W → W.heap[D]? = some (.deferred (some [])) → Q .normal { a with defers := { target := .collected D, args := #[] } :: a.defers } W) :
    (Code.rangeFunc g #[p] assign body).wpIn Fence.wide n Try.prog Q a w :=
  range_law (by omega) hg (enters_of Try.func106 (by kernel_rfl) rfl) (fun _ => rfl) (KeepS Bs) (fun h k => ⟨k.1.trans h.1, h.2.trans k.2⟩)
    (fun N W l o o' hl hwl hW ho hwk => ⟨World.putObj_heap_other (fun e => by have := hb.lt; omega), KeepsFrom.of_grownBy (grownBy_putObj' W l o') (fun j e => by cases e; exact hl)⟩)
    (fun h => ⟨h.1, keepsFrom_mono h.2 (by omega)⟩)
    (fun l J V hV hlt hJ hY h0 => signs1_k (n - 1) (by omega) l Bs s hs (KeepS Bs V.heap.size) (fun h k => ⟨k.1.trans h.1, h.2.trans k.2⟩) (fun A => ⟨rfl, KeepsFrom.refl _ _⟩) J hY V
      (fun W' hk => by
        have h1 : Boxed V Bs 9 (.string s) := (hV.block _ hb.lt).trans hb
        have h2 : Boxed W' Bs 9 (.string s) := hk.1.trans h1
        exact h2.cell) h0) I hI h0 a₁ hassign hbody hdone

end Go.Proofs.Ytaaeiogdhmiaaaa

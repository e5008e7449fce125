/- The iterators' contracts: over the bytes of a text, over the letters of a word, over those of its inverse. -/
import Derived.Test.YtaaeiogdhmiaaaaIr
namespace Go.Proofs.Ytaaeiogdhmiaaaa
open Go.RowKit Go.Shelf

attribute [local go_sem] Oper.semAt_some

/-- A value that gives the letters xs, whatever the loop's body does above n₀. -/
def SeqOf (n₀ : Nat) (w : World) (gf : Nat) (lb : Array Value) (xs : List UInt8) : Prop :=
  ∀ n, 3 ≤ n → SeqStopsK Fence.wide n Try.prog gf lb encB (Below n₀) (fun ys => ys = xs) (fun pre => pre <+: xs) xs.length w

theorem SeqOf.later {n₀ n₁ : Nat} {w w' : World} {gf : Nat} {lb : Array Value} {xs : List UInt8} (h : SeqOf n₀ w gf lb xs) (hb : Below w.heap.size w w') (hn : n₀ ≤ n₁) : SeqOf n₁ w' gf lb xs :=
  fun n h3 l J Jx W hW hJ hJx hY h0 => h n h3 l J Jx W (hb.trans (hW.mono hb.size)) hJ hJx
    (fun pre x W1 hj hl => (hY pre x W1 hj hl).mono (fun _ _ hr => hr.elim (fun ⟨a, b, c⟩ => .inl ⟨a, b, c.mono hn⟩) .inr)) h0

set_option maxRecDepth 100000 in
set_option maxHeartbeats 1000000 in
/-- 'signsOf': the bytes of a text, one by one. -/
theorem signs1_in (n : Nat) (hn : 1 ≤ n) (l Bs n₀ : Nat) (s : ByteArray) (hs : s.size ≤ 1048576) (hb : Bs < n₀) (J Jx : List UInt8 → World → Prop)
    (hY : ∀ pre x W, J pre W → pre ++ [x] <+: s.data.toList → YieldAt Fence.wide (n - 1) Try.prog l (encB x) W fun e W' =>
      (e = .returned (.bool true) ∧ J (pre ++ [x]) W' ∧ Below n₀ W W') ∨ (e = .returned (.bool false) ∧ Jx (pre ++ [x]) W'))
    (W : World) (hBs : W.cell? ⟨Bs, 0, none⟩ = some (.string s)) (h0 : J [] W) :
    CallsIn Fence.wide n Try.prog 106 #[.func (.yield l) #[] #[], .pointer (some ⟨Bs, 0, none⟩)] W fun e W' => (∃ v, e = .returned v) ∧
      ((∃ ys, ys = s.data.toList ∧ J ys W') ∨ (∃ pre, pre <+: s.data.toList ∧ Jx pre W')) := by
  refine callsIn_of_wp Try.func106 rfl trivial ?_ rfl
  simp only [Try.ntmps106, List.size_toArray, List.length_cons, List.length_nil, Nat.reduceAdd, Nat.reduceSub, Array.replicate_succ, Array.replicate_zero, List.push_toArray, List.append_toArray, List.nil_append, List.cons_append]
  gi_wp2
  gi_loopw [6] (fun i wr => ∃ k : Nat, k ≤ s.size ∧ i = .int .i64 k ∧ J (s.data.toList.take k) wr ∧ Below n₀ W wr)
    (fun i _ => s.size - (intOf i).toNat)
  case atStart => exact ⟨0, Nat.zero_le _, rfl, h0, Below.refl _ _⟩
  case round =>
    obtain ⟨k, hk, rfl, hJs, hnx⟩ := hrel
    have hcx : wr.cell? ⟨Bs, 0, none⟩ = some (.string s) := (hnx.cell (p := ⟨Bs, 0, none⟩) hb).trans hBs
    by_cases hlt : k < s.size
    · have hl : k < s.data.toList.length := by simpa using hlt
      have HS : Hid (s.data.toList.take (k + 1) = s.data.toList.take k ++ [s[k]]) := take_snoc _ k hl
      obtain ⟨fn, tmps, assign, body, hy, hR⟩ := hY _ s[k] wr hJs (by rw [← HS.out]; exact List.take_prefix _ _)
      gi_wp2
      refine hR.mono ?_
      rintro e W3 (⟨rfl, hJ3, hk3⟩ | ⟨rfl, hJx3⟩)
      · gi_wp2
        go_roundw
        case rel => exact ⟨k + 1, by omega, by simp, by rw [HS.out]; exact hJ3, hnx.trans hk3⟩
        case measure => simp [intOf]; omega
      · gi_wp2
        refine bodyPost_ret (results_none rfl _ _ _) rfl ?_
        exact ⟨⟨_, rfl⟩, .inr ⟨_, by rw [← HS.out]; exact List.take_prefix _ _, hJx3⟩⟩
    · have HA : Hid (s.data.toList.take k = s.data.toList) := List.take_of_length_le (by simp; omega)
      gi_wp2
      go_end0
      exact ⟨⟨_, rfl⟩, .inl ⟨_, HA.out, hJs⟩⟩

theorem signs_seq (s : ByteArray) (hs : s.size ≤ 1048576) (w : World) (Bs n₀ : Nat) (hB : Bs < n₀) (hn₀ : n₀ ≤ w.heap.size) (hc : w.cell? ⟨Bs, 0, none⟩ = some (.string s)) :
    SeqOf n₀ w 106 #[.pointer (some ⟨Bs, 0, none⟩)] s.data.toList := fun n h3 l J Jx W hW _ _ hY h0 =>
  signs1_in n (by omega) l Bs n₀ s hs hB J Jx (fun pre x W1 hj hp => hY pre x W1 hj (prefix_len hp)) W ((hW.cell (p := ⟨Bs, 0, none⟩) (by show Bs < w.heap.size; omega)).trans hc) h0

/-- A contract with two outcomes of a round gives the one for loops that never leave. -/
theorem seqO_of {n₀ : Nat} {w : World} {gf : Nat} {lb : Array Value} {xs : List UInt8}
    (h : ∀ n, 3 ≤ n → ∀ (l : Nat) (J Jx : List UInt8 → World → Prop) (W : World), Below w.heap.size w W →
      (∀ pre x W1, J pre W1 → pre ++ [x] <+: xs → YieldAt Fence.wide (n - 1) Try.prog l (encB x) W1 fun e W' =>
        (e = .returned (.bool true) ∧ J (pre ++ [x]) W' ∧ Below n₀ W1 W') ∨ (e = .returned (.bool false) ∧ Jx (pre ++ [x]) W')) →
      J [] W → CallsIn Fence.wide n Try.prog gf (#[.func (.yield l) #[] #[]] ++ lb) W fun e W' => (∃ v, e = .returned v) ∧ ((∃ ys, ys = xs ∧ J ys W') ∨ (∃ pre, pre <+: xs ∧ Jx pre W'))) : SeqO n₀ w gf lb xs :=
  fun n h8 l B J W hW _ _ _ hY h0 => by
    refine (h n (by omega) l J (fun _ _ => False) W hW (fun pre x W1 hj hl => (hY pre x W1 hj hl).mono (fun _ _ ⟨a, b, c⟩ => .inl ⟨a, b, c.1⟩)) h0).mono ?_
    rintro e W' ⟨hv, ⟨ys, rfl, hJ'⟩ | ⟨_, _, hf⟩⟩
    · exact ⟨hv, hJ'⟩
    · exact hf.elim

theorem signs_seqO (s : ByteArray) (hs : s.size ≤ 1048576) (w : World) (Bs n₀ : Nat) (hB : Bs < n₀) (hn₀ : n₀ ≤ w.heap.size) (hc : w.cell? ⟨Bs, 0, none⟩ = some (.string s)) :
    SeqO n₀ w 106 #[.pointer (some ⟨Bs, 0, none⟩)] s.data.toList :=
  seqO_of fun n h3 l J Jx W hW hY h0 => signs1_in n (by omega) l Bs n₀ s hs hB J Jx hY W ((hW.cell (p := ⟨Bs, 0, none⟩) (by show Bs < w.heap.size; omega)).trans hc) h0

end Go.Proofs.Ytaaeiogdhmiaaaa

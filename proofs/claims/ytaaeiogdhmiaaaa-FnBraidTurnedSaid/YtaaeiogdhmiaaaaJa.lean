/- The contracts of the laws' own helpers on slices of ints: are two equal, put marks in, are the marks still there. -/
import Derived.Test.YtaaeiogdhmiaaaaSa
namespace Go.Proofs.Ytaaeiogdhmiaaaa
open Go.RowKit

def intsV (zs : List Int) : List Value := zs.map (Value.int .i64)
theorem intsV_len (zs : List Int) : (intsV zs).length = zs.length := by simp [intsV]
theorem infoInt : (Try.prog.info? 3).map (fun i => (i.zero, i.size, i.bytes)) = some (some (.int .i64 0), 1, 8) := by kernel_rfl

/-- The value v is a slice of the call's own that holds the ints zs, in a block from base on. -/
def IntRow (base : Nat) (w : World) (v : Value) (zs : List Int) : Prop := w.ownsRow base 3 1 v zs.length (intsV zs)

theorem IntRow.shape {base : Nat} {w : World} {v : Value} {zs : List Int} (h : IntRow base w v zs) :
    ∃ a g cap, v = .slice a zs.length cap ∧ (0 < zs.length → a = some ⟨g, 0, none⟩ ∧ base ≤ g ∧ g < w.heap.size) ∧ zs.length ≤ maxLen ∧ ∀ j (hj : j < zs.length), w.cell? ⟨g, j, none⟩ = some (.int .i64 zs[j]) ∧ w.frozen? ⟨g, j, none⟩ = false := by
  rcases h.2 with ⟨rfl, h0⟩ | ⟨g, cap, cur, rfl, hb, hg, hn, hc, _⟩
  · exact ⟨none, 0, 0, by rw [h0], fun h => by omega, by rw [h0]; exact Nat.zero_le _, fun j hj => by omega⟩
  · refine ⟨some ⟨g, 0, none⟩, g, cap, rfl, fun _ => ⟨rfl, hb, (Array.getElem?_eq_some_iff.1 hg).1⟩, Nat.le_trans hn hc, fun j hj => ⟨?_, h.frozenAt j⟩⟩
    rw [h.cellAt j (by omega)]
    simp [intsV, hj]
theorem IntRow.below {base : Nat} {w w' : World} {v : Value} {zs : List Int} (h : IntRow base w v zs) (hb : Below w.heap.size w w') : IntRow base w' v zs :=
  h.kept ⟨hb.os, hb.tape, hb.output, hb.size, fun j hj _ => hb.block j hj⟩ (row := none) (by
    rcases h.2 with ⟨rfl, _⟩ | ⟨g, cap, cur, rfl, _⟩
    · exact .inl rfl
    · exact .inr (by simp [Value.ownBlock]))
theorem IntRow.mono {b1 b2 : Nat} {w : World} {v : Value} {zs : List Int} (h : IntRow b1 w v zs) (hb : b2 ≤ b1) : IntRow b2 w v zs := ownsRow_base h hb

set_option maxRecDepth 100000 in
set_option maxHeartbeats 1000000 in
theorem eqIntS_yes (b1 b2 : Nat) (v1 v2 : Value) (zs : List Int) (w : World) (h1 : IntRow b1 w v1 zs) (h2 : IntRow b2 w v2 zs) :
    Calls Try.prog 35 #[v1, v2] w fun e w' => e = .returned (.bool true) ∧ Below w.heap.size w w' := by
  obtain ⟨a1, g1, c1, rfl, hs1, hm, hc1⟩ := h1.shape
  obtain ⟨a2, g2, c2, rfl, hs2, _, hc2⟩ := h2.shape
  obtain ⟨n, hn⟩ : ∃ n, zs.length = n := ⟨_, rfl⟩
  rw [hn] at hs1 hs2 hm ⊢
  have HC1 := Lib.hid hc1
  have HC2 := Lib.hid hc2
  have HS1 := Lib.hid hs1
  have HS2 := Lib.hid hs2
  have HN := Lib.hid hn
  clear hc1 hc2 hs1 hs2 hn h1 h2
  unfold maxLen at hm
  go_enter Try.func35, Try.ntmps35
  go_wp2
  go_loopw [5] (fun i wr => ∃ k : Nat, k ≤ n ∧ i = .int .i64 k ∧ Below w.heap.size w wr) (fun i _ => n - (intOf i).toNat)
  case atStart => exact ⟨0, Nat.zero_le _, rfl, Below.refl _ _⟩
  case round =>
    obtain ⟨k, hk, rfl, hB⟩ := hrel
    by_cases hlt : k < n
    · obtain ⟨rfl, _, hg1⟩ := HS1.out (by omega)
      obtain ⟨rfl, _, hg2⟩ := HS2.out (by omega)
      have hkz : k < zs.length := by rw [HN.out]; exact hlt
      obtain ⟨z, hz⟩ : ∃ z, zs[k] = z := ⟨_, rfl⟩
      have d1 : wr.cell? ⟨g1, k, none⟩ = some (.int .i64 z) := by rw [← hz]; exact (hB.cell (p := ⟨g1, k, none⟩) hg1).trans (HC1.out k hkz).1
      have d2 : wr.cell? ⟨g2, k, none⟩ = some (.int .i64 z) := by rw [← hz]; exact (hB.cell (p := ⟨g2, k, none⟩) hg2).trans (HC2.out k hkz).1
      clear hz hkz
      go_wp2
      go_quiet (fail)
      go_wp2
      go_roundw
      case rel => exact ⟨k + 1, by omega, by go_num, below_drewN hB _⟩
      case measure => simp [intOf]; omega
    · go_wp2
      go_ret
      exact ⟨rfl, hB⟩

/-- The marks k, k + 1, .. -/
def marks (k n : Nat) : List Int := (List.range n).map fun i => ((k + i : Nat) : Int)
theorem marks_succ (k j : Nat) : marks k (j + 1) = marks k j ++ [((k + j : Nat) : Int)] := by simp [marks, List.range_succ]
theorem marks_len (k n : Nat) : (marks k n).length = n := by simp [marks]

set_option maxRecDepth 100000 in
set_option maxHeartbeats 1000000 in
theorem markIntS_any (base : Nat) (v : Value) (zs : List Int) (k : Nat) (w : World) (h : IntRow base w v zs) (hk : k ≤ 1000000000000) (hn2 : zs.length ≤ 1000000000000) :
    Calls Try.prog 36 #[v, .int .i64 k] w fun e w' => e = .returned (.int .i64 ((k + zs.length : Nat) : Int)) ∧ IntRow base w' v (marks k zs.length) ∧ w.grownBy w' v.ownBlock := by
  by_cases h0 : zs.length = 0
  · obtain ⟨a1, g1, c1, rfl, hs1, hm, hc1⟩ := h.shape
    rw [h0] at h ⊢
    have H := Lib.hid h
    clear h hc1 hs1 hm
    go_enter Try.func36, Try.ntmps36
    go_wp2
    go_loopw [1, 5] (fun q i wr => q = .int .i64 k ∧ i = .int .i64 0 ∧ w = wr) (fun _ _ _ => 0)
    case atStart => exact ⟨rfl, rfl, rfl⟩
    case round =>
      obtain ⟨rfl, rfl, rfl⟩ := hrel
      go_wp2
      go_ret
      refine ⟨by simp, ?_, World.grownBy.refl _ _⟩
      have hz : zs = [] := List.length_eq_zero_iff.1 h0
      have := H.out
      subst hz
      exact this
  · obtain ⟨n, hn⟩ : ∃ n, zs.length = n := ⟨_, rfl⟩
    rcases h.2 with ⟨rfl, h0'⟩ | ⟨g, cap, cur, rfl, hb, hg, hnc, hcm, _⟩
    · exact absurd h0' h0
    rw [hn] at h0 hn2 hnc ⊢
    have h' : w.ownsRow base 3 1 (.slice (some ⟨g, 0, none⟩) n cap) n (intsV (marks k 0 ++ zs.drop 0)) := by
      have := h; unfold IntRow at this; rw [hn] at this; simpa [marks] using this
    have HN := Lib.hid hn
    clear h hn hg
    unfold maxLen at hcm
    go_enter Try.func36, Try.ntmps36
    go_wp2
    go_loopw [1, 5] (fun q i wr => ∃ j : Nat, j ≤ n ∧ q = .int .i64 ((k + j : Nat) : Int) ∧ i = .int .i64 j ∧ wr.ownsRow base 3 1 (.slice (some ⟨g, 0, none⟩) n cap) n (intsV (marks k j ++ zs.drop j)) ∧ w.grownBy wr (some g)) (fun _ i _ => n - (intOf i).toNat)
    case atStart => exact ⟨0, Nat.zero_le _, by simp, rfl, h', World.grownBy.refl _ _⟩
    case round =>
      obtain ⟨j, hj, rfl, rfl, hr, hG⟩ := hrel
      by_cases hlt : j < n
      · have hjz : j < zs.length := by rw [HN.out]; exact hlt
        have hcl : wr.cell? ⟨g, j, none⟩ = some (.int .i64 zs[j]) := by
          rw [hr.cellAt j (by omega)]
          simp only [intsV, List.getElem?_map]
          rw [List.getElem?_append_right (by rw [marks_len]; exact Nat.le_refl _), marks_len, Nat.sub_self, List.getElem?_drop, Nat.add_zero, List.getElem?_eq_getElem hjz]
          rfl
        have hfr := hr.frozenAt j
        have HR := Lib.hid hr
        have HG := Lib.hid hG
        clear hr hG
        go_wp2
        go_roundw
        case rel =>
          have hst := HR.out.stored j (.int .i64 ((k + j : Nat) : Int))
          refine ⟨j + 1, by omega, by go_num, by go_num, ?_, HG.out.trans hst.2⟩
          have e : (intsV (marks k j ++ zs.drop j)).set j (.int .i64 ((k + j : Nat) : Int)) = intsV (marks k (j + 1) ++ zs.drop (j + 1)) := by
            unfold intsV
            rw [List.map_append, List.set_append_right _ _ (by simp [marks_len]), List.length_map, marks_len, Nat.sub_self, List.drop_eq_getElem_cons hjz, List.map_cons, List.set_cons_zero, marks_succ, List.map_append, List.map_append, List.append_assoc]
            rfl
          rw [← e]
          exact hst.1
        case measure => simp [intOf]; omega
      · obtain rfl : j = n := by omega
        rw [List.drop_of_length_le (by rw [HN.out]; exact Nat.le_refl _), List.append_nil] at hr
        have HR := Lib.hid hr
        have HG := Lib.hid hG
        clear hr hG h'
        go_wp2
        go_ret
        refine ⟨rfl, ?_, HG.out⟩
        unfold IntRow
        rw [marks_len]
        exact HR.out

set_option maxRecDepth 100000 in
set_option maxHeartbeats 1000000 in
theorem heldIntS_any (base : Nat) (v : Value) (n k : Nat) (w : World) (h : IntRow base w v (marks k n)) (hk : k ≤ 1000000000000) (hn2 : n ≤ 1000000000000) :
    Calls Try.prog 37 #[v, .int .i64 k] w fun e w' => e = .returned (.int .i64 ((k + n : Nat) : Int)) ∧ w = w' := by
  obtain ⟨a, g, cap, rfl, hs, hm, hc⟩ := h.shape
  simp only [marks_len] at hs hc ⊢
  have HC := Lib.hid hc
  have HS := Lib.hid hs
  clear hc hs hm h
  go_enter Try.func37, Try.ntmps37
  go_wp2
  go_loop [1, 5] (fun q i => ∃ j : Nat, j ≤ n ∧ q = .int .i64 ((k + j : Nat) : Int) ∧ i = .int .i64 j) (fun _ i => n - (intOf i).toNat)
  case atStart => exact ⟨0, Nat.zero_le _, by simp, rfl⟩
  case round =>
    obtain ⟨j, hj, rfl, rfl⟩ := hrel
    by_cases hlt : j < n
    · obtain ⟨rfl, _, hg⟩ := HS.out (by omega)
      have hcl : w.cell? ⟨g, j, none⟩ = some (.int .i64 ((k + j : Nat) : Int)) := by
        have := (HC.out j hlt).1
        simpa [marks] using this
      go_wp2
      go_round
      case rel => exact ⟨j + 1, by omega, by go_num, by go_num⟩
      case measure => simp [intOf]; omega
    · obtain rfl : j = n := by omega
      go_wp2
      go_ret
      exact ⟨rfl, rfl⟩

end Go.Proofs.Ytaaeiogdhmiaaaa

/- The contracts of the program's 'wordsOf' and 'letters'. -/
import Derived.Test.YtaaeiogdhmiaaaaIu
namespace Go.Proofs.Ytaaeiogdhmiaaaa
open Go.RowKit Go.Shelf

theorem letters_fwd (a : Option Addr) (len cap : Nat) (k : Int) (w : World) (hk : 0 ≤ k) :
    Calls Try.prog 103 #[.slice a len cap, .int .i64 k] w fun e w' => e = .returned (.func (.func 139) #[] #[.pointer (some ⟨w.heap.size, 0, none⟩)]) ∧ w' = w.alloc (.cells #[.slice a len cap] WT) := by
  go_enter Try.func103, Try.ntmps103
  go_wp2_with fail
  refine (values_any _ _ _ _).mono ?_
  rintro e w1 ⟨rfl, rfl⟩
  go_wp2_with fail
  go_ret
  exact ⟨rfl, rfl⟩

theorem letters_bwd (a : Option Addr) (len cap : Nat) (k : Int) (w : World) (hk : k < 0) :
    Calls Try.prog 103 #[.slice a len cap, .int .i64 k] w fun e w' => e = .returned (.func (.func 137) #[] #[.pointer (some ⟨w.heap.size, 0, none⟩)]) ∧ w' = w.alloc (.cells #[.slice a len cap] WT) := by
  go_enter Try.func103, Try.ntmps103
  go_wp2_with fail
  refine (iTurned_any _ _ _ _).mono ?_
  rintro e w1 ⟨rfl, rfl⟩
  go_wp2_with fail
  go_ret
  exact ⟨rfl, rfl⟩

theorem infoWord : (Try.prog.info? 87).map (fun i => (i.zero, i.size, i.bytes)) = some (some (.slice none 0 0), 1, 24) := by kernel_rfl

/-- The slice value v is a word with the letters l, in a block from lo on. -/
def WordAt (lo : Nat) (w : World) (v : Value) (l : List UInt8) : Prop :=
  ∃ g cap, v = .slice (some ⟨g, 0, none⟩) l.length cap ∧ lo ≤ g ∧ g < w.heap.size ∧ l.length ≤ 60 ∧ ∀ j (h : j < l.length), w.cell? ⟨g, j, none⟩ = some (.int .u8 (l[j].toNat : Int))
theorem WordAt.below {lo : Nat} {w w' : World} {v : Value} {l : List UInt8} (h : WordAt lo w v l) (hb : Below w.heap.size w w') : WordAt lo w' v l := by
  obtain ⟨g, cap, rfl, h1, h2, h3, h4⟩ := h
  exact ⟨g, cap, rfl, h1, Nat.lt_of_lt_of_le h2 hb.size, h3, fun j hj => (hb.cell (p := ⟨g, j, none⟩) h2).trans (h4 j hj)⟩
theorem WordAt.setCell {lo : Nat} {w : World} {v : Value} {l : List UInt8} (h : WordAt lo w v l) {a : Addr} (ha : a.block < lo) (u : Value) : WordAt lo (w.setCell a u) v l := by
  obtain ⟨g, cap, rfl, h1, h2, h3, h4⟩ := h
  exact ⟨g, cap, rfl, h1, Nat.lt_of_lt_of_le h2 (KeepsWalks.setCell w a u).size, h3, fun j hj => (World.cell?_of_block (a := ⟨g, j, none⟩) (Below.heap_setCell w a u g (by omega))).trans (h4 j hj)⟩
theorem WordAt.isWord {lo : Nat} {w : World} {v : Value} {l : List UInt8} (h : WordAt lo w v l) : IsWord w.heap.size w v l := by
  obtain ⟨g, cap, rfl, h1, h2, h3, h4⟩ := h
  exact ⟨g, 0, cap, rfl, h2, by omega, fun j hj => by rw [Nat.zero_add]; exact h4 j hj⟩
theorem WordAt.slice {lo : Nat} {w : World} {v : Value} {l : List UInt8} (h : WordAt lo w v l) : ∃ g cap, v = .slice (some ⟨g, 0, none⟩) l.length cap := by
  obtain ⟨g, cap, rfl, _⟩ := h; exact ⟨g, cap, rfl⟩

set_option maxRecDepth 100000 in
set_option maxHeartbeats 1000000 in
theorem wordsOf_any (a : Option Addr) (b off cap n : Nat) (ss : List ByteArray) (w : World) (hn : ss.length = n) (hn2 : n ≤ 1000000) (ha : 0 < n → a = some ⟨b, off, none⟩) (hb : b < w.heap.size)
    (hc : ∀ i (h : i < ss.length), w.cell? ⟨b, off + i, none⟩ = some (.string ss[i])) (hm : ∀ s ∈ ss, s.size ≤ maxLen) :
    Calls Try.prog 123 #[.slice a n cap] w fun e w' =>
      ((e = .returned (.tuple #[.slice none 0 0, .bool false]) ∧ ∃ s ∈ ss, wordB s.data.toList = false) ∨
       (∃ g vals, e = .returned (.tuple #[.slice (some ⟨g, 0, none⟩) n n, .bool true]) ∧ (∀ s ∈ ss, wordB s.data.toList = true) ∧ w'.ownsRow w.heap.size WT 1 (.slice (some ⟨g, 0, none⟩) n n) n vals ∧
        ∀ j (h : j < ss.length) v, vals[j]? = some v → WordAt w.heap.size w' v ss[j].data.toList)) ∧ Below w.heap.size w w' := by
  obtain ⟨i0, hi, hz0, hz1, hz2⟩ := info_parts infoWord
  have HC := Lib.hid hc
  have HM := Lib.hid hm
  have HA := Lib.hid ha
  have HN := Lib.hid hn
  clear hc hm ha hn
  go_enter Try.func123, Try.ntmps123
  go_wp2_with (at_make; refine wpList_make_full _ rfl _ _ 99 rfl w.heap.size 87 i0 (.slice none 0 0) 1 Try.underlying99 hi hz0 hz1 .i64 .i64 _ _ n rfl rfl rfl rfl (by rw [hz2]; omega) (by unfold maxLen; omega) (Nat.le_refl _) ?_; intro w1 hrow hgrow)
  have hB1 : Below w.heap.size w w1 := (Below.refl _ _).grown hgrow (Nat.le_refl _) (fun k e => by cases e)
  have hgs1 := (ownsRow_cap hrow).2.2.2
  go_loopw [14] (fun i wr => ∃ (k : Nat) (vals : List Value), k ≤ n ∧ i = .int .i64 k ∧ wr.ownsRow w.heap.size WT 1 (.slice (some ⟨w.heap.size, 0, none⟩) n n) n vals ∧ Hid (∀ j (h : j < ss.length), j < k → wordB ss[j].data.toList = true ∧ ∀ v, vals[j]? = some v → WordAt (w.heap.size + 1) wr v ss[j].data.toList) ∧ Below w.heap.size w wr)
    (fun i _ => n - (intOf i).toNat)
  case atStart => exact ⟨0, _, Nat.zero_le _, rfl, hrow, Lib.hid (fun j _ h => absurd h (Nat.not_lt_zero _)), hB1⟩
  case round =>
    obtain ⟨k, vals, hk, rfl, hr, HV, hB⟩ := hrel
    by_cases hlt : k < n
    · have hks : k < ss.length := by rw [HN.out]; exact hlt
      obtain ⟨s, hs⟩ : ∃ s, ss[k] = s := ⟨_, rfl⟩
      obtain rfl := HA.out (by omega)
      have hcs : wr.cell? ⟨b, off + k, none⟩ = some (.string s) := by rw [← hs]; exact (hB.cell (p := ⟨b, off + k, none⟩) hb).trans (HC.out k hks)
      have hsm : s.size ≤ maxLen := by rw [← hs]; exact HM.out _ (List.getElem_mem hks)
      have HS := Lib.hid hs
      clear hs
      have hgs := (ownsRow_cap hr).2.2.2
      have HR := Lib.hid hr
      clear hr
      cases hw : wordB s.data.toList with
      | true =>
        have HW := Lib.hid hw
        clear hw
        go_wp2_with fail
        refine (wordOf_yes s wr HW.out).mono ?_
        rintro e w2 ⟨g, cap2, rfl, hown, hb2⟩
        have hr2 : w2.ownsRow w.heap.size WT 1 (.slice (some ⟨w.heap.size, 0, none⟩) n n) n vals := HR.out.kept ⟨hb2.os, hb2.tape, hb2.output, hb2.size, fun j hj _ => hb2.block j hj⟩ (row := none) (.inr (by simp [Value.ownBlock]))
        have hWA : WordAt (w.heap.size + 1) w2 (.slice (some ⟨g, 0, none⟩) s.size cap2) s.data.toList := by
          obtain ⟨h1, h2⟩ := letters_of_owns hown
          have h3 := (ownsRow_cap hown).2.2.1
          exact ⟨g, cap2, by simp, by omega, h1, by have := ((wordB_iff _).1 HW.out).1; exact this, fun j hj => by have := h2 j hj; rw [Nat.zero_add] at this; exact this⟩
        have hB2 : Below w.heap.size w w2 := hB.trans (hb2.mono hB.size)
        obtain ⟨u, hu⟩ : ∃ u, w2.cell? ⟨w.heap.size, k, none⟩ = some u := by
          have hl := hr2.1
          rw [Nat.mul_one] at hl
          rw [hr2.cellAt k (by omega)]
          exact ⟨vals[k]'(by omega), List.getElem?_eq_getElem (by omega)⟩
        have hfr := hr2.frozenAt k
        have HR2 := Lib.hid hr2
        have HWA := Lib.hid hWA
        have HB2 := Lib.hid hb2
        clear hown hr2 hWA hb2
        go_wp2_with fail
        go_roundw
        case rel =>
          have hst := HR2.out.stored k (.slice (some ⟨g, 0, none⟩) s.size cap2)
          refine ⟨k + 1, _, by omega, by go_num, hst.1, Lib.hid ?_, hB2.setCell (p := ⟨w.heap.size, k, none⟩) (Nat.le_refl _) _⟩
          intro j hj hjk
          by_cases hjk2 : j = k
          · subst hjk2
            refine ⟨by rw [HS.out]; exact HW.out, fun v hv => ?_⟩
            have hl := HR2.out.1
            rw [Nat.mul_one] at hl
            rw [List.getElem?_set_self (by omega)] at hv
            cases hv
            rw [HS.out]
            exact HWA.out.setCell (by show w.heap.size < w.heap.size + 1; omega) _
          · obtain ⟨q1, q2⟩ := HV.out j hj (by omega)
            refine ⟨q1, fun v hv => ?_⟩
            rw [List.getElem?_set_ne (by omega)] at hv
            exact ((q2 v hv).below HB2.out).setCell (by show w.heap.size < w.heap.size + 1; omega) _
        case measure => simp [intOf]; omega
      | false =>
        have HW := Lib.hid hw
        clear hw
        go_wp2_with fail
        refine (wordOf_no s wr hsm HW.out).mono ?_
        rintro e w2 ⟨rfl, hb2⟩
        go_wp2_with fail
        go_ret2
        exact ⟨.inl ⟨rfl, s, by rw [← HS.out]; exact List.getElem_mem hks, HW.out⟩, hB.trans (hb2.mono hB.size)⟩
    · obtain rfl : k = n := by omega
      have HR := Lib.hid hr
      clear hr
      go_wp2_with fail
      go_ret2
      refine ⟨.inr ⟨w.heap.size, vals, rfl, fun s hs => ?_, HR.out, fun j hj v hv => ?_⟩, hB⟩
      · obtain ⟨j, hj, rfl⟩ := List.getElem_of_mem hs
        exact (HV.out j hj (by rw [← HN.out]; exact hj)).1
      · obtain ⟨g, cap2, h1, h2, h3⟩ := (HV.out j hj (by rw [← HN.out]; exact hj)).2 v hv
        exact ⟨g, cap2, h1, by omega, h3⟩

end Go.Proofs.Ytaaeiogdhmiaaaa

/- The contracts of the model's small functions on letters and words. -/
import Derived.Test.YtaaeiogdhmiaaaaMath
import Derived.Test.YtaaeiogdhmiaaaaChecked
import Derived.WalkKit
import Derived.WalkSmall
import Derived.RangeFuncBox
import Derived.Maps.AppendAt
import Derived.WalkSpells
import Derived.Deep.QuietTactic
import Derived.BigQuiet
import Derived.Lib.Hide
import Derived.Laws.BytesString
import Derived.Laws.IdiomStrings
import Derived.Outline
namespace Go.Proofs.Ytaaeiogdhmiaaaa
open Go.RowKit

theorem turned_any (c : UInt8) (w : World) :
    Calls Try.prog 108 #[.int .u8 (c.toNat : Int)] w fun e w' => e = .returned (.int .u8 ((turnB c).toNat : Int)) ∧ w = w' := by
  have hc := c.toNat_lt
  by_cases h : 97 ≤ c.toNat
  · have H := Lib.hid (turnB_hi c h)
    go_enter Try.func108, Try.ntmps108
    go_wp2
    go_ret
    exact ⟨ret_int H.out.symm, rfl⟩
  · have H := Lib.hid (turnB_lo c (by omega))
    go_enter Try.func108, Try.ntmps108
    go_wp2
    go_ret
    exact ⟨ret_int H.out.symm, rfl⟩

theorem letter_any (c : UInt8) (w : World) :
    Calls Try.prog 129 #[.int .u8 (c.toNat : Int)] w fun e w' => e = .returned (.bool (letB c)) ∧ w = w' := by
  have hc := c.toNat_lt
  have H := Lib.hid (letB_iff c)
  rcases (show c.toNat < 65 ∨ (65 ≤ c.toNat ∧ c.toNat ≤ 68) ∨ (68 < c.toNat ∧ c.toNat < 97) ∨ (97 ≤ c.toNat ∧ c.toNat ≤ 100) ∨ 100 < c.toNat from by omega) with h | h | h | h | h
  all_goals
    first | obtain ⟨h1, h2⟩ := h | have h1 := h
    go_enter Try.func129, Try.ntmps129
    go_wp2
    go_ret
    refine ⟨ret_bool ?_, rfl⟩
    rw [Bool.eq_iff_iff, H.out]
    simp
    try omega

theorem letter_yes (c : UInt8) (w : World) (h : letB c = true) :
    Calls Try.prog 129 #[.int .u8 (c.toNat : Int)] w fun e w' => e = .returned (.bool true) ∧ w = w' := by
  rw [← h]; exact letter_any c w
theorem letter_no (c : UInt8) (w : World) (h : letB c = false) :
    Calls Try.prog 129 #[.int .u8 (c.toNat : Int)] w fun e w' => e = .returned (.bool false) ∧ w = w' := by
  rw [← h]; exact letter_any c w

theorem letters_any (s : ByteArray) (w : World) (hs : s.size ≤ maxLen) :
    Calls Try.prog 110 #[.string s] w fun e w' => e = .returned (.bool (letL s.data.toList)) ∧ w = w' := by
  unfold maxLen at hs
  go_enter Try.func110, Try.ntmps110
  go_wp2
  go_loop [3] (fun i => ∃ k : Nat, k ≤ s.size ∧ i = .int .i64 k ∧ Hid (letL (s.data.toList.take k) = true)) (fun i => s.size - (intOf i).toNat)
  case atStart => exact ⟨0, Nat.zero_le _, rfl, Lib.hid rfl⟩
  case round =>
    obtain ⟨k, hk, rfl, HL⟩ := hrel
    by_cases hlt : k < s.size
    · have hl : k < s.data.toList.length := by simpa using hlt
      cases hb : letB s[k] with
      | true =>
        have HB := Lib.hid hb
        clear hb
        go_wp2_with (go_at_call 129; refine (letter_yes _ _ HB.out).mono ?_; rintro e w' ⟨rfl, rfl⟩)
        go_round
        case rel => exact ⟨k + 1, by omega, by go_num, Lib.hid (by rw [letL_take_succ _ _ hl, HL.out]; exact HB.out)⟩
        case measure => simp [intOf]; omega
      | false =>
        have HB := Lib.hid hb
        clear hb
        go_wp2_with (go_at_call 129; refine (letter_no _ _ HB.out).mono ?_; rintro e w' ⟨rfl, rfl⟩)
        go_ret
        exact ⟨ret_bool (letL_false_of _ k hl HB.out).symm, rfl⟩
    · go_wp2
      go_ret
      exact ⟨ret_bool (by rw [← HL.out, List.take_of_length_le (by simp; omega)]), rfl⟩

theorem infoU8 : (Try.prog.info? 5).map (fun i => (i.zero, i.size, i.bytes)) = some (some (.int .u8 0), 1, 1) := by kernel_rfl

theorem turned_q (c : UInt8) (w : World) :
    Calls Try.prog 108 #[.int .u8 (c.toNat : Int)] w fun e w' => e = .returned (.int .u8 ((turnB c).toNat : Int)) ∧ w' = w :=
  (turned_any c w).mono fun _ _ ⟨he, hw⟩ => ⟨he, hw.symm⟩

set_option maxRecDepth 100000 in
set_option maxHeartbeats 1000000 in
theorem reduce_any (s : ByteArray) (w : World) (hs : s.size ≤ 1048576) :
    Calls Try.prog 85 #[.string s] w fun e w' => e = .returned (.string (bstr (redL [] s.data.toList))) ∧ Below w.heap.size w w' := by
  obtain ⟨i0, hi, hz0, hz1, hz2⟩ := info_parts infoU8
  go_enter Try.func85, Try.ntmps85
  go_wp2
  go_loopw [3, 4] (fun v i wr => ∃ (k n g cap : Nat) (l : List UInt8), k ≤ s.size ∧ i = .int .i64 k ∧ v = .slice (some ⟨g, 0, none⟩) n cap ∧ n ≤ k ∧ Hid (l = redL [] (s.data.toList.take k) ∧ l.length = n) ∧ wr.ownsRow w.heap.size 5 1 (.slice (some ⟨g, 0, none⟩) n cap) n (bytesV l) ∧ Below w.heap.size w wr)
    (fun _ i _ => s.size - (intOf i).toNat)
  case atStart => exact ⟨0, 0, w.heap.size, 0, [], Nat.zero_le _, rfl, rfl, Nat.le_refl _, Lib.hid ⟨rfl, rfl⟩, World.ownsRow_made w #[] 0 (Nat.le_refl _) (Nat.zero_le _) rfl, (Below.refl _ _).alloc (Nat.le_refl _) _⟩
  case round =>
    obtain ⟨k, n, g, cap, l, hk, rfl, rfl, hnk, HL, hown, hB⟩ := hrel
    obtain ⟨hnc, hcm, hbg, hgs⟩ := ownsRow_cap hown
    unfold maxLen at hcm
    by_cases hlt : k < s.size
    · have hl : k < s.data.toList.length := by simpa using hlt
      have HR : Hid (redL [] (s.data.toList.take (k + 1)) = redStep l s[k]) := by
        rw [take_snoc _ k hl, redL_snoc, HL.out.1]; rfl
      by_cases hn : 0 < n
      · -- there is a last letter
        obtain ⟨p, x, hp⟩ : ∃ p x, l = p ++ [x] := last_split l (by rw [HL.out.2]; exact hn)
        have hpl : p.length + 1 = n := by rw [← HL.out.2, hp]; simp
        have hcx : wr.cell? ⟨g, n - 1, none⟩ = some (.int .u8 (x.toNat : Int)) := by
          have := hown.cells rfl (n - 1) (.int .u8 (x.toNat : Int)) (by
            rw [hp]
            simp [bytesV]
            rw [show n - 1 = p.length by omega]; simp)
          rw [show (⟨g, n - 1, none⟩ : Addr) = (⟨g, 0, none⟩ : Addr).add (n - 1) by simp [Addr.add]]
          exact this
        by_cases hx : x = turnB s[k]
        · have ht : ((x.toNat : Int) == ((turnB s[k]).toNat : Int)) = true := by rw [hx]; simp
          have HX := Lib.hid hx
          have HP := Lib.hid hp
          have HN := Lib.hid hpl
          clear hp hx hpl
          go_wp2
          go_quiet ((go_at_call 108; exact Calls.quiet_of_same (turned_q _ _)))
          go_wp2
          go_roundw
          case rel =>
            have hpop : wr.ownsRow w.heap.size 5 1 (.slice (some ⟨g, 0, none⟩) (n - 1) cap) (n - 1) (bytesV p) := by
              obtain rfl := HN.out
              have h2 := hown
              rw [HP.out, bytesV_append] at h2
              exact ownsRow_pop (by simp [bytesV_length]) h2
            exact ⟨k + 1, n - 1, g, cap, p, by omega, by go_num, by simp, by omega, Lib.hid ⟨by rw [HR.out, HP.out, redStep_pop _ _ _ HX.out], by have := HN.out; omega⟩, ownsRow_drewN hpop _, below_drewN hB _⟩
          case measure => simp [intOf]; omega
        · have ht : ((x.toNat : Int) == ((turnB s[k]).toNat : Int)) = false := by
            rw [beq_eq_false_iff_ne]
            intro e
            exact hx (UInt8.toNat_inj.1 (by omega))
          have HX := Lib.hid hx
          have HP := Lib.hid hp
          have HN := Lib.hid hpl
          clear hp hx hpl
          go_wp2
          go_quiet ((go_at_call 108; exact Calls.quiet_of_same (turned_q _ _)))
          go_wp2_with (at_builtin; refine wpList_append_own _ rfl _ _ 62 rfl w.heap.size 5 i0 (.int .u8 0) 1 1 Try.underlying62 hi hz0 hz1 hz2 rfl (by decide) _ _ _ rfl ((ownsRow_drewN hown _).alloc _) ⟨wr.heap.size, 0, none⟩ 1 1 [.int .u8 (s[k].toNat : Int)] rfl rfl (cell_one_new _ _ _) (fun u hu => by simp at hu; subst hu; rfl) (by unfold maxLen; omega) (by omega) (by have := hB.size; simp; omega) ?_)
          intro v' w2 hown' hgrow' _
          obtain ⟨g', cap', rfl⟩ := ownsRow_succ hown'
          go_wp2
          go_roundw
          case rel => 
            exact ⟨k + 1, n + 1, g', cap', l ++ [s[k]], by omega, by go_num, rfl, by omega, Lib.hid ⟨by rw [HR.out, HP.out, redStep_push _ _ _ HX.out], by rw [List.length_append, HL.out.2]; rfl⟩, by rw [bytesV_append]; exact hown', ((below_drewN hB _).alloc (by simp; omega) _).grown hgrow' (by have := hB.size; simp; omega) (fun j hj => by cases hj; exact hbg)⟩
          case measure => simp [intOf]; omega
      · obtain rfl : n = 0 := by omega
        have HN : Hid (l = []) := List.length_eq_zero_iff.1 HL.out.2
        go_wp2
        go_quiet (fail)
        go_wp2_with (at_builtin; refine wpList_append_own _ rfl _ _ 62 rfl w.heap.size 5 i0 (.int .u8 0) 1 1 Try.underlying62 hi hz0 hz1 hz2 rfl (by decide) _ _ _ rfl ((ownsRow_drewN hown _).alloc _) ⟨wr.heap.size, 0, none⟩ 1 1 [.int .u8 (s[k].toNat : Int)] rfl rfl (cell_one_new _ _ _) (fun u hu => by simp at hu; subst hu; rfl) (by unfold maxLen; omega) (by omega) (by have := hB.size; simp; omega) ?_)
        intro v' w2 hown' hgrow' _
        obtain ⟨g', cap', rfl⟩ := ownsRow_succ hown'
        go_wp2
        go_roundw
        case rel =>
          exact ⟨k + 1, 1, g', cap', l ++ [s[k]], by omega, by go_num, rfl, by omega, Lib.hid ⟨by rw [HR.out, HN.out, redStep_nil]; rfl, by rw [List.length_append, HL.out.2]; rfl⟩, by rw [bytesV_append]; exact hown', ((below_drewN hB _).alloc (by simp; omega) _).grown hgrow' (by have := hB.size; simp; omega) (fun j hj => by cases hj; exact hbg)⟩
        case measure => simp [intOf]; omega
    · have hconv := run_convert_bytes_back (P := Try.prog) wr 62 9 5 ⟨g, 0, none⟩ cap l Try.underlying62 Try.underlying5 Try.underlying9 (fun j hj => hown.cells rfl j _ (by simp [bytesV, hj]))
      rw [HL.out.2] at hconv
      go_wp2
      go_ret
      exact ⟨ret_string (show bstr l = bstr (redL [] s.data.toList) by rw [HL.out.1, List.take_of_length_le (by simp; omega)]), hB⟩

end Go.Proofs.Ytaaeiogdhmiaaaa

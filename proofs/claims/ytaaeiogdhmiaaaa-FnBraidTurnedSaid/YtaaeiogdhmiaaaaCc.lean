/- The contracts of the model's functions on braids: BraidIn, BraidTimes, BraidTurned, BraidSum, BraidGrow. -/
import Derived.Test.YtaaeiogdhmiaaaaCb
import Derived.Test.YtaaeiogdhmiaaaaSf
import Derived.Test.YtaaeiogdhmiaaaaSc
namespace Go.Proofs.Ytaaeiogdhmiaaaa
open Go.RowKit

theorem l9Index_any (c : UInt8) (w : World) (h : brB c = true) :
    Calls Try.prog 69 #[.int .u8 (c.toNat : Int)] w fun e w' => e = .returned (.int .i64 (plN c : Int)) ∧ w' = w := by
  have hr := (brB_iff c).1 h
  clear h
  by_cases h97 : 97 ≤ c.toNat
  · have hp : Hid (plN c = c.toNat - 120) := Lib.hid (if_pos h97)
    have h1 : 120 ≤ c.toNat ∧ c.toNat ≤ 122 := by omega
    obtain ⟨h1, h2⟩ := h1
    clear hr
    go_enter Try.func69, Try.ntmps69
    go_wp2
    go_ret
    exact ⟨ret_int (by rw [hp.out]; omega), rfl⟩
  · have hp : Hid (plN c = c.toNat - 88) := Lib.hid (if_neg h97)
    have h1 : 88 ≤ c.toNat ∧ c.toNat ≤ 90 := by omega
    obtain ⟨h1, h2⟩ := h1
    clear hr
    go_enter Try.func69, Try.ntmps69
    go_wp2
    go_ret
    exact ⟨ret_int (by rw [hp.out]; omega), rfl⟩

theorem braidB_no1 {n : Int} {s : ByteArray} (h : ¬ (2 ≤ n ∧ n ≤ 4)) : braidB n s = false := by unfold braidB; rw [decide_eq_false h]; rfl
theorem braidB_no2 {n : Int} {s : ByteArray} (h : ¬ s.size ≤ 30) : braidB n s = false := by unfold braidB; rw [decide_eq_false h, Bool.and_false]; rfl
theorem braidB_no3 {n : Int} {s : ByteArray} {k : Nat} (hk : k < s.data.toList.length) (h : brL n s.data.toList[k] = false) : braidB n s = false := by
  unfold braidB
  rw [Bool.and_eq_false_iff]
  exact .inr (List.all_eq_false.2 ⟨_, List.getElem_mem hk, by simpa using h⟩)
theorem braidB_yes {n : Int} {s : ByteArray} (h1 : 2 ≤ n ∧ n ≤ 4) (h2 : s.size ≤ 30) (h3 : (s.data.toList.take s.size).all (brL n) = true) : braidB n s = true := by
  unfold braidB
  rw [List.take_of_length_le (by simp)] at h3
  rw [decide_eq_true h1, decide_eq_true h2, h3]; rfl

set_option maxRecDepth 100000 in
set_option maxHeartbeats 2000000 in
theorem sBraidIn_any (n : Int) (s : ByteArray) (b : Bool) (w : World) (hm : s.size ≤ maxLen) (hb : braidB n s = b) :
    Calls Try.prog 23 #[brV n s] w fun e w' => e = .returned (.bool b) ∧ Below w.heap.size w w' := by
  unfold maxLen at hm
  obtain ⟨W, hW⟩ : ∃ W, w.alloc (.cells #[.int .i64 n, .string s] 26) = W := ⟨_, rfl⟩
  have hB : Below w.heap.size w W := by rw [← hW]; exact (Below.refl _ w).alloc (Nat.le_refl _) _
  have hk := World.alloc_heap_new w (.cells #[.int .i64 n, .string s] 26)
  rw [hW] at hk
  have e0 : W.cell? ⟨w.heap.size, 0, none⟩ = some (.int .i64 n) := by simp [World.cell?, hk]
  have e1 : W.cell? ⟨w.heap.size, 1, none⟩ = some (.string s) := by simp [World.cell?, hk]
  have HW := Lib.hid hW
  have HB := Lib.hid hB
  clear hk hW hB
  by_cases h1 : 2 ≤ n ∧ n ≤ 4
  · have hin := Lib.hid (show (decide (2 ≤ n) && decide (n ≤ 4)) = true by rw [decide_eq_true h1.1, decide_eq_true h1.2]; rfl)
    by_cases h2 : s.size ≤ 30
    · have HN := Lib.hid hb
      obtain ⟨h1a, h1b⟩ := h1
      clear hb
      go_enter Try.func23, Try.ntmps23
      go_wp2_with fail
      rw [HW.out]
      go_wp2_with (go_at_call 68; refine (l6In_same n 2 4 true _ hin.out).mono ?_; rintro e w1 ⟨rfl, rfl⟩)
      have hws : w.heap.size < W.heap.size := World.block_lt_of_cell? _ _ e0
      go_loopw [3] (fun i wr => ∃ k : Nat, k ≤ s.size ∧ i = .int .i64 k ∧ Hid ((s.data.toList.take k).all (brL n) = true) ∧ Below W.heap.size W wr) (fun i _ => s.size - (intOf i).toNat)
      case atStart => exact ⟨0, Nat.zero_le _, rfl, Lib.hid rfl, Below.refl _ _⟩
      case round =>
        obtain ⟨k, hk, rfl, HL, hbW⟩ := hrel
        have f0 := (hbW.cell (p := ⟨w.heap.size, 0, none⟩) hws).trans e0
        have f1 := (hbW.cell (p := ⟨w.heap.size, 1, none⟩) hws).trans e1
        have HBW := Lib.hid hbW
        clear hbW
        by_cases hlt : k < s.size
        · have hl : k < s.data.toList.length := by simpa using hlt
          cases hc : brB s[k] with
          | true =>
            have HI := Lib.hid (fun w => l9Index_any s[k] w hc)
            obtain ⟨p, hp⟩ : ∃ p, plN s[k] = p := ⟨_, rfl⟩
            rw [hp] at HI
            have hr := (brB_iff _).1 hc
            have HS : Hid ((s.data.toList.take (k + 1)).all (brL n) = brL n s.data.toList[k]) := Lib.hid (by rw [List.take_succ_eq_append_getElem hl, List.all_append, HL.out]; simp)
            have HBR : Hid (brL n s.data.toList[k] = decide ((p : Int) < n - 1)) := Lib.hid (by unfold brL; rw [show s.data.toList[k] = s[k] from rfl, hc, hp]; rfl)
            clear hp
            by_cases hpl : (p : Int) < n - 1
            · have hd : decide (n - 2 < (p : Int)) = false := decide_eq_false (by omega)
              have hd2 : ¬ n - 2 < (p : Int) := by omega
              have hne := Lib.hid hc
              clear hc
              rcases hr with ⟨h1, h2⟩ | ⟨h1, h2⟩
              · have d1 : decide ((120 : Int) ≤ (s[k].toNat : Int)) = true := decide_eq_true (by omega)
                have d2 : decide ((s[k].toNat : Int) ≤ 122) = true := decide_eq_true (by omega)
                have d3 : decide ((88 : Int) ≤ (s[k].toNat : Int)) = true := decide_eq_true (by omega)
                have d4 : decide ((s[k].toNat : Int) ≤ 90) = false := decide_eq_false (by omega)
                go_wp2
                go_quiet ((go_at_call 69; exact Calls.quiet_of_same (HI.out _)))
                go_wp2
                go_roundw
                case rel => exact ⟨k + 1, by omega, by go_num, Lib.hid (by rw [HS.out, HBR.out]; exact decide_eq_true hpl), below_drewN HBW.out _⟩
                case measure => simp [intOf]; omega
              · have d1 : decide ((120 : Int) ≤ (s[k].toNat : Int)) = false := decide_eq_false (by omega)
                have d2 : decide ((s[k].toNat : Int) ≤ 122) = true := decide_eq_true (by omega)
                have d3 : decide ((88 : Int) ≤ (s[k].toNat : Int)) = true := decide_eq_true (by omega)
                have d4 : decide ((s[k].toNat : Int) ≤ 90) = true := decide_eq_true (by omega)
                go_wp2
                go_quiet ((go_at_call 69; exact Calls.quiet_of_same (HI.out _)))
                go_wp2
                go_roundw
                case rel => exact ⟨k + 1, by omega, by go_num, Lib.hid (by rw [HS.out, HBR.out]; exact decide_eq_true hpl), below_drewN HBW.out _⟩
                case measure => simp [intOf]; omega
            · have hd : decide (n - 2 < (p : Int)) = true := decide_eq_true (by omega)
              have hd2 : n - 2 < (p : Int) := by omega
              have hbf := Lib.hid (braidB_no3 hl (by rw [HBR.out]; exact decide_eq_false hpl))
              have hne := Lib.hid hc
              clear hc
              rcases hr with ⟨h1, h2⟩ | ⟨h1, h2⟩
              · have d1 : decide ((120 : Int) ≤ (s[k].toNat : Int)) = true := decide_eq_true (by omega)
                have d2 : decide ((s[k].toNat : Int) ≤ 122) = true := decide_eq_true (by omega)
                have d3 : decide ((88 : Int) ≤ (s[k].toNat : Int)) = true := decide_eq_true (by omega)
                have d4 : decide ((s[k].toNat : Int) ≤ 90) = false := decide_eq_false (by omega)
                go_wp2
                go_quiet ((go_at_call 69; exact Calls.quiet_of_same (HI.out _)))
                go_wp2
                go_ret
                exact ⟨ret_bool (hbf.out.symm.trans HN.out), HB.out.trans ((below_drewN HBW.out _).mono HB.out.size)⟩
              · have d1 : decide ((120 : Int) ≤ (s[k].toNat : Int)) = false := decide_eq_false (by omega)
                have d2 : decide ((s[k].toNat : Int) ≤ 122) = true := decide_eq_true (by omega)
                have d3 : decide ((88 : Int) ≤ (s[k].toNat : Int)) = true := decide_eq_true (by omega)
                have d4 : decide ((s[k].toNat : Int) ≤ 90) = true := decide_eq_true (by omega)
                go_wp2
                go_quiet ((go_at_call 69; exact Calls.quiet_of_same (HI.out _)))
                go_wp2
                go_ret
                exact ⟨ret_bool (hbf.out.symm.trans HN.out), HB.out.trans ((below_drewN HBW.out _).mono HB.out.size)⟩
          | false =>
            have hr := brB_no _ hc
            have hbf := Lib.hid (braidB_no3 (n := n) hl (by unfold brL; rw [show s.data.toList[k] = s[k] from rfl, hc]; rfl))
            clear hc
            rcases (show s[k].toNat < 88 ∨ (90 < s[k].toNat ∧ s[k].toNat < 120) ∨ 122 < s[k].toNat by omega) with h1 | ⟨h1, h2⟩ | h1
            · have d1 : decide ((120 : Int) ≤ (s[k].toNat : Int)) = false := decide_eq_false (by omega)
              have d2 : decide ((s[k].toNat : Int) ≤ 122) = true := decide_eq_true (by omega)
              have d3 : decide ((88 : Int) ≤ (s[k].toNat : Int)) = false := decide_eq_false (by omega)
              have d4 : decide ((s[k].toNat : Int) ≤ 90) = true := decide_eq_true (by omega)
              clear hr
              go_wp2
              go_quiet (fail)
              go_wp2
              go_ret
              exact ⟨ret_bool (hbf.out.symm.trans HN.out), HB.out.trans ((below_drewN HBW.out _).mono HB.out.size)⟩
            · have d1 : decide ((120 : Int) ≤ (s[k].toNat : Int)) = false := decide_eq_false (by omega)
              have d2 : decide ((s[k].toNat : Int) ≤ 122) = true := decide_eq_true (by omega)
              have d3 : decide ((88 : Int) ≤ (s[k].toNat : Int)) = true := decide_eq_true (by omega)
              have d4 : decide ((s[k].toNat : Int) ≤ 90) = false := decide_eq_false (by omega)
              clear hr
              go_wp2
              go_quiet (fail)
              go_wp2
              go_ret
              exact ⟨ret_bool (hbf.out.symm.trans HN.out), HB.out.trans ((below_drewN HBW.out _).mono HB.out.size)⟩
            · have d1 : decide ((120 : Int) ≤ (s[k].toNat : Int)) = true := decide_eq_true (by omega)
              have d2 : decide ((s[k].toNat : Int) ≤ 122) = false := decide_eq_false (by omega)
              have d3 : decide ((88 : Int) ≤ (s[k].toNat : Int)) = true := decide_eq_true (by omega)
              have d4 : decide ((s[k].toNat : Int) ≤ 90) = false := decide_eq_false (by omega)
              clear hr
              go_wp2
              go_quiet (fail)
              go_wp2
              go_ret
              exact ⟨ret_bool (hbf.out.symm.trans HN.out), HB.out.trans ((below_drewN HBW.out _).mono HB.out.size)⟩
        · go_wp2
          go_ret
          exact ⟨ret_bool ((braidB_yes ⟨h1a, h1b⟩ h2 (by have := HL.out; rw [show k = s.size by omega] at this; exact this)).symm.trans HN.out), HB.out.trans (HBW.out.mono HB.out.size)⟩
    · have HN := Lib.hid ((braidB_no2 h2 (n := n)).symm.trans hb)
      clear hb
      obtain rfl := HN.out
      go_enter Try.func23, Try.ntmps23
      go_wp2_with fail
      rw [HW.out]
      go_wp2_with (go_at_call 68; refine (l6In_same n 2 4 true _ hin.out).mono ?_; rintro e w1 ⟨rfl, rfl⟩)
      go_ret
      exact ⟨rfl, HB.out⟩
  · have hin := Lib.hid (show (decide (2 ≤ n) && decide (n ≤ 4)) = false by rw [← Bool.decide_and]; exact decide_eq_false h1)
    obtain rfl := (braidB_no1 h1 (s := s)).symm.trans hb
    clear hb
    go_enter Try.func23, Try.ntmps23
    go_wp2_with fail
    rw [HW.out]
    go_wp2_with (go_at_call 68; refine (l6In_same n 2 4 false _ hin.out).mono ?_; rintro e w1 ⟨rfl, rfl⟩)
    go_ret
    exact ⟨rfl, HB.out⟩

end Go.Proofs.Ytaaeiogdhmiaaaa

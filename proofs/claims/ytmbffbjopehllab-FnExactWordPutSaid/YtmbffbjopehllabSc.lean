/- The contracts of the model's functions on words, second part: inverses, cores. -/
import Derived.Test.YtmbffbjopehllabSb
import Derived.Lib.Strings
namespace Go.Proofs.Ytmbffbjopehllab
open Go.RowKit

theorem sWordIn_is (s : ByteArray) (b : Bool) (w : World) (hs : s.size ≤ maxLen) (h : wordB s.data.toList = b) :
    Calls Try.prog 12 #[.string s] w fun e w' => e = .returned (.bool b) ∧ Below w.heap.size w w' := by
  rw [← h]; exact sWordIn_any s w hs

set_option maxRecDepth 100000 in
set_option maxHeartbeats 1000000 in
theorem back_any (s : ByteArray) (w : World) (hs : s.size ≤ 1048576) :
    Calls Try.prog 45 #[.string s] w fun e w' => e = .returned (.string (bstr (backL s.data.toList))) ∧ Below w.heap.size w w' := by
  obtain ⟨i0, hi, hz0, hz1, hz2⟩ := info_parts infoU8
  go_enter Try.func45, Try.ntmps45
  go_wp2
  go_loopw [3, 4] (fun v i wr => ∃ (k g cap : Nat), k ≤ s.size ∧ i = .int .i64 ((k : Int) - 1) ∧ v = .slice (some ⟨g, 0, none⟩) (s.size - k) cap ∧ wr.ownsRow w.heap.size 5 1 (.slice (some ⟨g, 0, none⟩) (s.size - k) cap) (s.size - k) (bytesV (backL (s.data.toList.drop k))) ∧ Below w.heap.size w wr)
    (fun _ i _ => (intOf i + 1).toNat)
  case atStart =>
    refine ⟨s.size, w.heap.size, 0, Nat.le_refl _, rfl, by simp, ?_, (Below.refl _ _).alloc (Nat.le_refl _) _⟩
    rw [Nat.sub_self, List.drop_of_length_le (by simp)]
    exact World.ownsRow_made w #[] 0 (Nat.le_refl _) (Nat.zero_le _) rfl
  case round =>
    obtain ⟨k, g, cap, hk, rfl, rfl, hown, hB⟩ := hrel
    obtain ⟨hnc, hcm, hbg, hgs⟩ := ownsRow_cap hown
    unfold maxLen at hcm
    by_cases hlt : 0 < k
    · obtain ⟨j, rfl⟩ : ∃ j, k = j + 1 := ⟨k - 1, by omega⟩
      have hl : j < s.data.toList.length := by simp; omega
      have HD : Hid (backL (s.data.toList.drop j) = backL (s.data.toList.drop (j + 1)) ++ [turnB s[j]]) := backL_drop _ j hl
      go_wp2_with fail
      refine (turned_any _ _).mono ?_
      rintro e w' ⟨rfl, rfl⟩
      go_wp2_with (at_builtin; refine wpList_append_own _ rfl _ _ 69 rfl w.heap.size 5 i0 (.int .u8 0) 1 1 Try.underlying69 hi hz0 hz1 hz2 rfl (by decide) _ _ _ rfl (hown.alloc _) ⟨wr.heap.size, 0, none⟩ 1 1 [.int .u8 ((turnB s[j]).toNat : Int)] rfl rfl (cell_one_new _ _ _) (fun u hu => by simp at hu; subst hu; rfl) (by unfold maxLen; omega) (by omega) (by have := hB.size; simp; omega) ?_)
      intro v' w2 hown' hgrow' _
      obtain ⟨g', cap', rfl⟩ := ownsRow_succ hown'
      have HO := Lib.hid hown'
      have hB' : Below w.heap.size w w2 := (hB.alloc (by have := hB.size; omega) _).grown hgrow' (by have := hB.size; simp; omega) (fun j hj => by cases hj; exact hbg)
      clear hown' hown hgrow'
      have he : s.size - (j + 1) + 1 = s.size - j := by omega
      rw [he]
      have HE := Lib.hid he
      clear he
      go_wp2
      go_roundw
      case rel =>
        refine ⟨j, g', cap', by omega, by go_num, rfl, ?_, hB'⟩
        have := HO.out
        rw [HE.out] at this
        rw [HD.out, bytesV_append]
        exact this
      case measure => simp [intOf]
    · have HK : Hid (k = 0) := Lib.hid (by omega)
      have hk0 : k ≤ 0 := by omega
      have hconv : (convert 69 9 (.slice (some ⟨g, 0, none⟩) (s.size - k) cap)).run Try.prog wr = .ok (.string (bstr (backL s.data.toList))) wr := by
        have := run_convert_bytes_back (P := Try.prog) wr 69 9 5 ⟨g, 0, none⟩ cap (backL s.data.toList) Try.underlying69 Try.underlying5 Try.underlying9 (fun j hj => hown.cells rfl j _ (by
          rw [HK.out, List.drop_zero]; simp [bytesV, hj]))
        rw [backL_length] at this
        rw [HK.out]
        exact this
      clear hown
      go_wp2
      go_ret
      exact ⟨rfl, hB⟩

theorem sWordTurned_yes (s : ByteArray) (w : World) (h : wordB s.data.toList = true) :
    Calls Try.prog 18 #[.string s] w fun e w' => e = .returned (.tuple #[.string (bstr (backL s.data.toList)), .bool true]) ∧ Below w.heap.size w w' := by
  have hs : s.size ≤ 60 := by have := ((wordB_iff _).1 h).1; simpa using this
  have H := Lib.hid h
  clear h
  go_enter Try.func18, Try.ntmps18
  go_wp2_with fail
  refine (sWordIn_is _ true _ (by unfold maxLen; omega) H.out).mono ?_
  rintro e w1 ⟨rfl, hb1⟩
  go_wp2_with fail
  refine (back_any _ _ (by omega)).mono ?_
  rintro e w2 ⟨rfl, hb2⟩
  go_wp2_with fail
  go_ret2
  exact ⟨rfl, hb1.trans (hb2.mono hb1.size)⟩

theorem sWordTurned_no (s : ByteArray) (w : World) (hs : s.size ≤ maxLen) (h : wordB s.data.toList = false) :
    Calls Try.prog 18 #[.string s] w fun e w' => e = .returned (.tuple #[.string ByteArray.empty, .bool false]) ∧ Below w.heap.size w w' := by
  have H := Lib.hid h
  clear h
  go_enter Try.func18, Try.ntmps18
  go_wp2_with fail
  refine (sWordIn_is _ false _ hs H.out).mono ?_
  rintro e w1 ⟨rfl, hb1⟩
  go_wp2_with fail
  go_ret2
  exact ⟨rfl, hb1⟩

theorem extract_core (s : ByteArray) : (s.extract 1 (s.size - 1)).data.toList = s.data.toList.tail.dropLast := by
  rw [Lib.extract_data, List.dropLast_eq_take]
  simp

set_option maxRecDepth 100000 in
set_option maxHeartbeats 1000000 in
theorem sWordCore_yes (s : ByteArray) (w : World) (h : wordB s.data.toList = true) :
    Calls Try.prog 34 #[.string s] w fun e w' => e = .returned (.tuple #[.string (bstr (coreL s.data.toList)), .bool true]) ∧ Below w.heap.size w w' := by
  have hs : s.size ≤ 60 := by have := ((wordB_iff _).1 h).1; simpa using this
  have H := Lib.hid h
  clear h
  go_enter Try.func34, Try.ntmps34
  go_wp2_with fail
  refine (sWordIn_is _ true _ (by unfold maxLen; omega) H.out).mono ?_
  rintro e w1 ⟨rfl, hb1⟩
  go_wp2_with fail
  go_loopw [0] (fun v wr => ∃ (t : ByteArray) (m : Nat), v = .string t ∧ t.size ≤ m ∧ t.size ≤ 60 ∧ Hid (coreF m t.data.toList = coreL s.data.toList) ∧ Below w1.heap.size w1 wr)
    (fun v _ => match v with | .string t => t.size | _ => 0)
  case atStart => exact ⟨s, s.size, rfl, Nat.le_refl _, hs, Lib.hid (by unfold coreL; simp), Below.refl _ _⟩
  case round =>
    obtain ⟨t, m, rfl, hm, ht, HC, hB⟩ := hrel
    by_cases h1 : 1 < t.size
    · have hd : decide ((1 : Int) < (t.size : Int)) = true := by simp; omega
      have hp0 : 0 < t.size := by omega
      have hq1 : (1 : Int) ≤ (t.size : Int) := by omega
      have hq2 : (t.size : Int) - 1 < (t.size : Int) := by omega
      have hcg := coreC_get t.data.toList (by simpa using h1)
      cases hx : coreC t.data.toList with
      | true =>
        have hx2 : t[0] = turnB t[t.size - 1] := of_decide_eq_true (hcg.symm.trans hx)
        have hte : ((t[0].toNat : Int) == ((turnB t[t.size - 1]).toNat : Int)) = true := by rw [← hx2]; simp
        have HX := Lib.hid hx
        have HEx := Lib.hid (extract_core t)
        clear hx hx2 hcg
        go_wp2
        go_quiet ((go_at_call 58; exact Calls.quiet_of_same (turned_q _ _)))
        go_wp2
        have hsz : (t.extract 1 (t.size - 1)).size = t.size - 2 := by
          have h := core_len t.data.toList
          rw [← HEx.out] at h
          simpa using h
        go_roundw
        case rel =>
          obtain ⟨m', rfl⟩ : ∃ m', m = m' + 1 := ⟨m - 1, by omega⟩
          exact ⟨_, m', rfl, by omega, by omega, Lib.hid (by rw [HEx.out, ← coreF_true HX.out]; exact HC.out), below_drewN hB _⟩
        case measure => show (t.extract 1 (t.size - 1)).size < t.size; omega
      | false =>
        have hx2 : t[0] ≠ turnB t[t.size - 1] := of_decide_eq_false (hcg.symm.trans hx)
        have hte : ((t[0].toNat : Int) == ((turnB t[t.size - 1]).toNat : Int)) = false := by
          rw [beq_eq_false_iff_ne]; intro e; exact hx2 (UInt8.toNat_inj.1 (by omega))
        have HX := Lib.hid hx
        clear hx hx2 hcg
        go_wp2
        go_quiet ((go_at_call 58; exact Calls.quiet_of_same (turned_q _ _)))
        go_wp2
        have hfin : t = bstr (coreL s.data.toList) := by rw [← HC.out, coreF_false HX.out, bstr_of]
        go_ret2
        exact ⟨by rw [← hfin]; rfl, hb1.trans ((below_drewN hB _).mono hb1.size)⟩
    · have hcf : coreC t.data.toList = false := by
        unfold coreC
        simp
        intro h; exact absurd h h1
      have hfin : Hid (t = bstr (coreL s.data.toList)) := by rw [← HC.out, coreF_false hcf, bstr_of]; exact Lib.hid rfl
      clear hcf
      have hd : decide ((1 : Int) < (t.size : Int)) = false := by simp; omega
      go_wp2
      go_quiet (fail)
      go_wp2
      go_ret2
      exact ⟨by rw [← hfin.out]; rfl, hb1.trans ((below_drewN hB _).mono hb1.size)⟩

theorem sWordCore_no (s : ByteArray) (w : World) (hs : s.size ≤ maxLen) (h : wordB s.data.toList = false) :
    Calls Try.prog 34 #[.string s] w fun e w' => e = .returned (.tuple #[.string ByteArray.empty, .bool false]) ∧ Below w.heap.size w w' := by
  have H := Lib.hid h
  clear h
  go_enter Try.func34, Try.ntmps34
  go_wp2_with fail
  refine (sWordIn_is _ false _ hs H.out).mono ?_
  rintro e w1 ⟨rfl, hb1⟩
  go_wp2_with fail
  go_ret2
  exact ⟨rfl, hb1⟩


end Go.Proofs.Ytmbffbjopehllab

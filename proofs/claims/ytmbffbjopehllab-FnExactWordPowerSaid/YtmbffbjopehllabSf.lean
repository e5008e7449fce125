/- The contracts of the model's powers of words. -/
import Derived.Test.YtmbffbjopehllabSd
namespace Go.Proofs.Ytmbffbjopehllab
open Go.RowKit

theorem l6In_same (k lo hi : Int) (b : Bool) (w : World) (h : (decide (lo ≤ k) && decide (k ≤ hi)) = b) :
    Calls Try.prog 47 #[.int .i64 k, .int .i64 lo, .int .i64 hi] w fun e w' => e = .returned (.bool b) ∧ w = w' := by
  by_cases h1 : lo ≤ k
  · by_cases h2 : k ≤ hi
    · have H : Hid (b = true) := Lib.hid (by rw [← h, decide_eq_true h1, decide_eq_true h2]; rfl)
      clear h
      go_enter Try.func47, Try.ntmps47
      go_wp2
      go_ret
      exact ⟨ret_bool H.out.symm, rfl⟩
    · have H : Hid (b = false) := Lib.hid (by rw [← h, decide_eq_false h2, Bool.and_false])
      clear h
      have h3 : hi < k := by omega
      go_enter Try.func47, Try.ntmps47
      go_wp2
      go_ret
      exact ⟨ret_bool H.out.symm, rfl⟩
  · have H : Hid (b = false) := Lib.hid (by rw [← h, decide_eq_false h1]; rfl)
    clear h
    have h3 : k < lo := by omega
    go_enter Try.func47, Try.ntmps47
    go_wp2
    go_ret
    exact ⟨ret_bool H.out.symm, rfl⟩

set_option maxRecDepth 100000 in
set_option maxHeartbeats 1000000 in
theorem many_any (s : ByteArray) (N : Nat) (w : World) (hN : N ≤ 60) (hs : s.size ≤ 60) :
    Calls Try.prog 48 #[.string s, .int .i64 N] w fun e w' => ∃ t, e = .returned (.string t) ∧ t.size ≤ 3600 ∧ Hid (t.data.toList = repL N s.data.toList) ∧ w = w' := by
  go_enter Try.func48, Try.ntmps48
  go_wp2
  go_loop [0, 1, 5] (fun x i o => ∃ (sx so : ByteArray) (n a b : Nat), x = .string sx ∧ i = .int .i64 n ∧ o = .string so ∧ n ≤ 60 ∧ sx.size ≤ 7200 ∧ so.size ≤ 3600 ∧
      Hid (sx.data.toList = repL b s.data.toList ∧ so.data.toList = repL a s.data.toList ∧ a + n * b = N ∧ b ≤ 120 ∧ a ≤ 60)) (fun _ i _ => (intOf i).toNat)
  case atStart => exact ⟨s, ByteArray.empty, N, 0, 1, rfl, rfl, rfl, hN, by omega, by simp, Lib.hid ⟨(repL_one _).symm, rfl, by omega, by omega, by omega⟩⟩
  case round =>
    obtain ⟨sx, so, n, a, b, rfl, rfl, rfl, hn, hsx, hso, HC⟩ := hrel
    have hstep : ∀ (s1 s2 : ByteArray) (p q : Nat), s1.data.toList = repL p s.data.toList → s2.data.toList = repL q s.data.toList → (s1 ++ s2).data.toList = repL (p + q) s.data.toList := fun s1 s2 p q h1 h2 => by
      rw [append_toList, h1, h2, repL_add]
    have hsz : ∀ (s1 : ByteArray) (p : Nat), s1.data.toList = repL p s.data.toList → s1.size ≤ p * 60 := fun s1 p h1 => by
      have : s1.data.toList.length = p * s.data.toList.length := by rw [h1, repL_len]
      have h2 : s1.size = p * s.size := by simpa using this
      rw [h2]; exact Nat.mul_le_mul_left _ hs
    by_cases h0 : 0 < n
    · obtain ⟨e1, e2, e3, e4, e5⟩ := HC.out
      have hbN : b ≤ 60 := by
        have : 1 * b ≤ n * b := Nat.mul_le_mul_right _ h0
        omega
      have HS1 : Hid ((sx ++ sx).data.toList = repL (b + b) s.data.toList) := hstep _ _ _ _ e1 e1
      have hz1 : (sx ++ sx).size ≤ 7200 := by have := hsz _ _ HS1.out; omega
      have hdiv : n / 2 + n / 2 + n % 2 = n := by omega
      have hmul : n * b = (n / 2) * (b + b) + (n % 2) * b := by
        conv => lhs; rw [← hdiv]
        rw [Nat.add_mul, Nat.add_mul, Nat.mul_add]
      by_cases hodd : n % 2 = 1
      · have HS2 : Hid ((so ++ sx).data.toList = repL (a + b) s.data.toList) := hstep _ _ _ _ e2 e1
        rw [hodd] at hmul
        have hab : a + b ≤ 60 := by omega
        have hz2 : (so ++ sx).size ≤ 3600 := by have := hsz _ _ HS2.out; omega
        have HX : Hid (a + b + n / 2 * (b + b) = N ∧ b + b ≤ 120 ∧ a + b ≤ 60) := Lib.hid ⟨by omega, by omega, hab⟩
        clear e1 e2 e3 e4 e5 hstep hsz hdiv hmul
        go_wp2
        go_round
        case rel => exact ⟨_, _, n / 2, a + b, b + b, rfl, by go_num, rfl, by omega, hz1, hz2, Lib.hid ⟨HS1.out, HS2.out, HX.out⟩⟩
        case measure => simp [intOf]; omega
      · have hev : n % 2 = 0 := by omega
        rw [hev] at hmul
        have HX : Hid (a + n / 2 * (b + b) = N ∧ b + b ≤ 120 ∧ a ≤ 60) := Lib.hid ⟨by omega, by omega, e5⟩
        have HE2 := Lib.hid e2
        clear e1 e2 e3 e4 e5 hstep hsz hdiv hmul
        go_wp2
        go_round
        case rel => exact ⟨_, _, n / 2, a, b + b, rfl, by go_num, rfl, by omega, hz1, hso, Lib.hid ⟨HS1.out, HE2.out, HX.out⟩⟩
        case measure => simp [intOf]; omega
    · have hn0 : n ≤ 0 := by omega
      clear hstep hsz
      go_wp2
      go_ret
      refine ⟨so, rfl, hso, Lib.hid ?_, rfl⟩
      obtain ⟨e1, e2, e3, e4, e5⟩ := HC.out
      have : a = N := by
        have : n = 0 := by omega
        subst this; omega
      rw [e2, this]

theorem many_int (s : ByteArray) (k : Int) (N : Nat) (w : World) (hk : k = (N : Int)) (hN : N ≤ 60) (hs : s.size ≤ 60) :
    Calls Try.prog 48 #[.string s, .int .i64 k] w fun e w' => ∃ t, e = .returned (.string t) ∧ t.size ≤ 3600 ∧ Hid (t.data.toList = repL N s.data.toList) ∧ w = w' := by
  subst hk; exact many_any s N w hN hs

theorem sPower_yes (s : ByteArray) (k : Int) (w : World) (h0 : wordB s.data.toList = true) (hk1 : -60 ≤ k) (hk3 : k ≤ 60) :
    Calls Try.prog 20 #[.string s, .int .i64 k] w fun e w' => e = .returned (toldV (redL [] (powL k s.data.toList))) ∧ Below w.heap.size w w' := by
  have hs : s.size ≤ 60 := by have := ((wordB_iff _).1 h0).1; simpa using this
  have H := Lib.hid h0
  clear h0
  by_cases hk : k < 0
  · by_cases h : (redL [] (powL k s.data.toList)).length ≤ 60
    · have HT := Lib.hid (toldV_yes h)
      have HL := Lib.hid (h)
      clear h
      go_enter Try.func20, Try.ntmps20
      go_wp2_with fail
      refine (sWordIn_is s true _ (by unfold maxLen; omega) H.out).mono ?_
      rintro e w1 ⟨rfl, hb1⟩
      go_wp2_with fail
      refine (l6In_same k (-60) 60 true _ (by simp; omega)).mono ?_
      rintro e w1' ⟨rfl, rfl⟩
      go_wp2_with fail
      refine (back_any s _ (by omega)).mono ?_
      rintro e w2 ⟨rfl, hb2⟩
      go_wp2_with fail
      refine (many_int (bstr (backL s.data.toList)) _ k.natAbs _ (by omega) (by omega) (by rw [bstr_size, backL_length]; simpa using hs)).mono ?_
      rintro e w3 ⟨t, rfl, ht, htl, rfl⟩
      go_wp2_with fail
      refine (reduce_is t (bstr (redL [] (powL k s.data.toList))) _ (by omega) (by rw [htl.out, bstr_toList]; unfold powL; rw [if_pos hk])).mono ?_
      rintro e w4 ⟨rfl, hb4⟩
      go_wp2_with fail
      refine (done_yes _ _ (by rw [bstr_size]; exact HL.out)).mono ?_
      rintro e w5 ⟨rfl, rfl⟩
      go_wp2_with fail
      go_ret2
      exact ⟨by rw [HT.out]; rfl, hb1.trans ((hb2.trans (hb4.mono hb2.size)).mono hb1.size)⟩
    · have HT := Lib.hid (toldV_no h)
      have HL := Lib.hid (Nat.lt_of_not_le h)
      clear h
      go_enter Try.func20, Try.ntmps20
      go_wp2_with fail
      refine (sWordIn_is s true _ (by unfold maxLen; omega) H.out).mono ?_
      rintro e w1 ⟨rfl, hb1⟩
      go_wp2_with fail
      refine (l6In_same k (-60) 60 true _ (by simp; omega)).mono ?_
      rintro e w1' ⟨rfl, rfl⟩
      go_wp2_with fail
      refine (back_any s _ (by omega)).mono ?_
      rintro e w2 ⟨rfl, hb2⟩
      go_wp2_with fail
      refine (many_int (bstr (backL s.data.toList)) _ k.natAbs _ (by omega) (by omega) (by rw [bstr_size, backL_length]; simpa using hs)).mono ?_
      rintro e w3 ⟨t, rfl, ht, htl, rfl⟩
      go_wp2_with fail
      refine (reduce_is t (bstr (redL [] (powL k s.data.toList))) _ (by omega) (by rw [htl.out, bstr_toList]; unfold powL; rw [if_pos hk])).mono ?_
      rintro e w4 ⟨rfl, hb4⟩
      go_wp2_with fail
      refine (done_no _ _ (by rw [bstr_size]; exact HL.out)).mono ?_
      rintro e w5 ⟨rfl, rfl⟩
      go_wp2_with fail
      go_ret2
      exact ⟨by rw [HT.out]; rfl, hb1.trans ((hb2.trans (hb4.mono hb2.size)).mono hb1.size)⟩
  · by_cases h : (redL [] (powL k s.data.toList)).length ≤ 60
    · have HT := Lib.hid (toldV_yes h)
      have HL := Lib.hid (h)
      clear h
      go_enter Try.func20, Try.ntmps20
      go_wp2_with fail
      refine (sWordIn_is s true _ (by unfold maxLen; omega) H.out).mono ?_
      rintro e w1 ⟨rfl, hb1⟩
      go_wp2_with fail
      refine (l6In_same k (-60) 60 true _ (by simp; omega)).mono ?_
      rintro e w1' ⟨rfl, rfl⟩
      go_wp2_with fail
      refine (many_int s _ k.natAbs _ (by omega) (by omega) hs).mono ?_
      rintro e w3 ⟨t, rfl, ht, htl, rfl⟩
      go_wp2_with fail
      refine (reduce_is t (bstr (redL [] (powL k s.data.toList))) _ (by omega) (by rw [htl.out]; unfold powL; rw [if_neg (by omega)])).mono ?_
      rintro e w4 ⟨rfl, hb4⟩
      go_wp2_with fail
      refine (done_yes _ _ (by rw [bstr_size]; exact HL.out)).mono ?_
      rintro e w5 ⟨rfl, rfl⟩
      go_wp2_with fail
      go_ret2
      exact ⟨by rw [HT.out]; rfl, hb1.trans (hb4.mono hb1.size)⟩
    · have HT := Lib.hid (toldV_no h)
      have HL := Lib.hid (Nat.lt_of_not_le h)
      clear h
      go_enter Try.func20, Try.ntmps20
      go_wp2_with fail
      refine (sWordIn_is s true _ (by unfold maxLen; omega) H.out).mono ?_
      rintro e w1 ⟨rfl, hb1⟩
      go_wp2_with fail
      refine (l6In_same k (-60) 60 true _ (by simp; omega)).mono ?_
      rintro e w1' ⟨rfl, rfl⟩
      go_wp2_with fail
      refine (many_int s _ k.natAbs _ (by omega) (by omega) hs).mono ?_
      rintro e w3 ⟨t, rfl, ht, htl, rfl⟩
      go_wp2_with fail
      refine (reduce_is t (bstr (redL [] (powL k s.data.toList))) _ (by omega) (by rw [htl.out]; unfold powL; rw [if_neg (by omega)])).mono ?_
      rintro e w4 ⟨rfl, hb4⟩
      go_wp2_with fail
      refine (done_no _ _ (by rw [bstr_size]; exact HL.out)).mono ?_
      rintro e w5 ⟨rfl, rfl⟩
      go_wp2_with fail
      go_ret2
      exact ⟨by rw [HT.out]; rfl, hb1.trans (hb4.mono hb1.size)⟩

theorem sPower_no (s : ByteArray) (k : Int) (w : World) (hs : s.size ≤ maxLen) (h : ¬ (wordB s.data.toList = true ∧ -60 ≤ k ∧ k ≤ 60)) :
    Calls Try.prog 20 #[.string s, .int .i64 k] w fun e w' => e = .returned (.tuple #[.string ByteArray.empty, .bool false]) ∧ Below w.heap.size w w' := by
  cases h0 : wordB s.data.toList with
  | false =>
    have H := Lib.hid h0
    clear h h0
    go_enter Try.func20, Try.ntmps20
    go_wp2_with fail
    refine (sWordIn_is s false _ hs H.out).mono ?_
    rintro e w1 ⟨rfl, hb1⟩
    go_wp2_with fail
    go_ret2
    exact ⟨rfl, hb1⟩
  | true =>
    have hf : (decide (-60 ≤ k) && decide (k ≤ 60)) = false := by
      rw [h0] at h
      simp only [true_and] at h
      rw [Bool.and_eq_false_iff]
      by_cases h1 : -60 ≤ k
      · right; exact decide_eq_false (fun h2 => h ⟨h1, h2⟩)
      · left; exact decide_eq_false h1
    have H := Lib.hid h0
    have HF := Lib.hid hf
    clear h h0 hf
    go_enter Try.func20, Try.ntmps20
    go_wp2_with fail
    refine (sWordIn_is s true _ hs H.out).mono ?_
    rintro e w1 ⟨rfl, hb1⟩
    go_wp2_with fail
    refine (l6In_same k (-60) 60 false _ HF.out).mono ?_
    rintro e w1' ⟨rfl, rfl⟩
    go_wp2_with fail
    go_ret2
    exact ⟨rfl, hb1⟩

end Go.Proofs.Ytmbffbjopehllab

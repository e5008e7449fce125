/- The contracts of the model's products and commutators of words. -/
import Derived.Test.YtmbffbjopehllaaSc
import Derived.Test.YtmbffbjopehllaaMathb
namespace Go.Proofs.Ytmbffbjopehllaa
open Go.RowKit

/-- What is told of letters. -/
def toldV (l : List UInt8) : Value := if l.length ≤ 60 then .tuple #[.string (bstr l), .bool true] else .tuple #[.string ByteArray.empty, .bool false]
theorem toldV_yes {l : List UInt8} (h : l.length ≤ 60) : toldV l = .tuple #[.string (bstr l), .bool true] := if_pos h
theorem toldV_no {l : List UInt8} (h : ¬ l.length ≤ 60) : toldV l = .tuple #[.string ByteArray.empty, .bool false] := if_neg h

theorem append_toList (a b : ByteArray) : (a ++ b).data.toList = a.data.toList ++ b.data.toList := by simp
theorem append_size (a b : ByteArray) : (a ++ b).size = a.size + b.size := by simp

/-- The letters of a commutator. -/
def commL (a b : List UInt8) : List UInt8 := a ++ b ++ backL a ++ backL b

theorem sComm_yes (a b : ByteArray) (w : World) (ha : wordB a.data.toList = true) (hb : wordB b.data.toList = true) :
    Calls Try.prog 32 #[.string a, .string b] w fun e w' => e = .returned (toldV (redL [] (commL a.data.toList b.data.toList))) ∧ Below w.heap.size w w' := by
  have hs : a.size ≤ 60 := by have := ((wordB_iff _).1 ha).1; simpa using this
  have hs2 : b.size ≤ 60 := by have := ((wordB_iff _).1 hb).1; simpa using this
  have hsz : (a ++ b ++ bstr (backL a.data.toList) ++ bstr (backL b.data.toList)).size = a.size + b.size + a.size + b.size := by
    rw [append_size, append_size, append_size, bstr_size, bstr_size, backL_length, backL_length]; simp
  have HE : Hid (bstr (redL [] (a ++ b ++ bstr (backL a.data.toList) ++ bstr (backL b.data.toList)).data.toList) = bstr (redL [] (commL a.data.toList b.data.toList))) := by
    rw [append_toList, append_toList, append_toList, bstr_toList, bstr_toList]; exact Lib.hid rfl
  have HA := Lib.hid ha
  have HB := Lib.hid hb
  have HZ : Hid ((a ++ b ++ bstr (backL a.data.toList) ++ bstr (backL b.data.toList)).size ≤ 1048576) := Lib.hid (by omega)
  have hz1 : (bstr (backL a.data.toList)).size ≤ 60 := by rw [bstr_size, backL_length]; simpa using hs
  have hz2 : (bstr (backL b.data.toList)).size ≤ 60 := by rw [bstr_size, backL_length]; simpa using hs2
  have hz3 : (a ++ b).size ≤ 120 := by rw [append_size]; omega
  have hz4 : (a ++ b ++ bstr (backL a.data.toList)).size ≤ 180 := by rw [append_size]; omega
  clear ha hb hsz
  by_cases h : (redL [] (commL a.data.toList b.data.toList)).length ≤ 60
  · have HT := Lib.hid (toldV_yes h)
    have HL := Lib.hid h
    clear h
    go_enter Try.func32, Try.ntmps32
    go_wp2_with fail
    refine (sWordIn_is a true _ (by unfold maxLen; omega) HA.out).mono ?_
    rintro e w1 ⟨rfl, hb1⟩
    go_wp2_with fail
    refine (sWordIn_is b true _ (by unfold maxLen; omega) HB.out).mono ?_
    rintro e w2 ⟨rfl, hb2⟩
    go_wp2_with fail
    refine (back_any a _ (by omega)).mono ?_
    rintro e w3 ⟨rfl, hb3⟩
    go_wp2_with fail
    refine (back_any b _ (by omega)).mono ?_
    rintro e w4 ⟨rfl, hb4⟩
    go_wp2_with fail
    refine (reduce_is _ _ _ HZ.out HE.out).mono ?_
    rintro e w5 ⟨rfl, hb5⟩
    go_wp2_with fail
    refine (done_yes _ _ (by rw [bstr_size]; exact HL.out)).mono ?_
    rintro e w6 ⟨rfl, rfl⟩
    go_wp2_with fail
    go_ret2
    exact ⟨by rw [HT.out]; rfl, hb1.trans ((hb2.trans ((hb3.trans ((hb4.trans (hb5.mono hb4.size)).mono hb3.size)).mono hb2.size)).mono hb1.size)⟩
  · have HT := Lib.hid (toldV_no h)
    have HL := Lib.hid (Nat.lt_of_not_le h)
    clear h
    go_enter Try.func32, Try.ntmps32
    go_wp2_with fail
    refine (sWordIn_is a true _ (by unfold maxLen; omega) HA.out).mono ?_
    rintro e w1 ⟨rfl, hb1⟩
    go_wp2_with fail
    refine (sWordIn_is b true _ (by unfold maxLen; omega) HB.out).mono ?_
    rintro e w2 ⟨rfl, hb2⟩
    go_wp2_with fail
    refine (back_any a _ (by omega)).mono ?_
    rintro e w3 ⟨rfl, hb3⟩
    go_wp2_with fail
    refine (back_any b _ (by omega)).mono ?_
    rintro e w4 ⟨rfl, hb4⟩
    go_wp2_with fail
    refine (reduce_is _ _ _ HZ.out HE.out).mono ?_
    rintro e w5 ⟨rfl, hb5⟩
    go_wp2_with fail
    refine (done_no _ _ (by rw [bstr_size]; exact HL.out)).mono ?_
    rintro e w6 ⟨rfl, rfl⟩
    go_wp2_with fail
    go_ret2
    exact ⟨by rw [HT.out]; rfl, hb1.trans ((hb2.trans ((hb3.trans ((hb4.trans (hb5.mono hb4.size)).mono hb3.size)).mono hb2.size)).mono hb1.size)⟩

theorem sComm_no (a b : ByteArray) (w : World) (hma : a.size ≤ maxLen) (hmb : b.size ≤ maxLen) (h : ¬ (wordB a.data.toList = true ∧ wordB b.data.toList = true)) :
    Calls Try.prog 32 #[.string a, .string b] w fun e w' => e = .returned (.tuple #[.string ByteArray.empty, .bool false]) ∧ Below w.heap.size w w' := by
  cases ha : wordB a.data.toList with
  | true =>
    have hb : wordB b.data.toList = false := by
      cases hb : wordB b.data.toList with
      | true => exact absurd ⟨ha, hb⟩ h
      | false => rfl
    have HA := Lib.hid ha
    have HB := Lib.hid hb
    clear ha hb h
    go_enter Try.func32, Try.ntmps32
    go_wp2_with fail
    refine (sWordIn_is a true _ hma HA.out).mono ?_
    rintro e w1 ⟨rfl, hb1⟩
    go_wp2_with fail
    refine (sWordIn_is b false _ hmb HB.out).mono ?_
    rintro e w2 ⟨rfl, hb2⟩
    go_wp2_with fail
    go_ret2
    exact ⟨rfl, hb1.trans (hb2.mono hb1.size)⟩
  | false =>
    have HA := Lib.hid ha
    clear ha h
    go_enter Try.func32, Try.ntmps32
    go_wp2_with fail
    refine (sWordIn_is a false _ hma HA.out).mono ?_
    rintro e w1 ⟨rfl, hb1⟩
    go_wp2_with fail
    go_ret2
    exact ⟨rfl, hb1⟩

end Go.Proofs.Ytmbffbjopehllaa

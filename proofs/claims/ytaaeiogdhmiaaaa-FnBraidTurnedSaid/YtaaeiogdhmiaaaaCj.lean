/- The contracts of the model's BraidTurned and BraidSum. -/
import Derived.Test.YtaaeiogdhmiaaaaCi
import Derived.Deep.RegionHeld3
namespace Go.Proofs.Ytaaeiogdhmiaaaa
open Go.RowKit

set_option maxRecDepth 100000 in
set_option maxHeartbeats 2000000 in
theorem sBraidTurned_any (n : Int) (s : ByteArray) (w : World) (hs : s.size ≤ maxLen) :
    Calls Try.prog 29 #[brV n s] w fun e w' => e = .returned (brR (braidB n s) n (bstr (backL s.data.toList))) ∧ Below w.heap.size w w' := by
  obtain ⟨W, hW⟩ : ∃ W, (w.alloc (.cells #[.int .i64 n, .string s] 26)).alloc (.cells #[.int .i64 0, .string { data := #[] }] 26) = W := ⟨_, rfl⟩
  have HX := Lib.hid (twoBox hW)
  have HW := Lib.hid hW
  clear hW
  have hsz := HX.out.2.1
  obtain ⟨b, hb⟩ : ∃ b, braidB n s = b := ⟨_, rfl⟩
  have HA := Lib.hid (fun w => sBraidIn_any n s b w hs hb)
  have HB := Lib.hid hb
  clear hb
  obtain ⟨⟨c0, c1⟩, _, _⟩ := boxOf2 HX.out.2.2.1 (Below.refl _ W)
  go_enter Try.func29, Try.ntmps29
  go_wp2_with fail
  rw [HW.out]
  refine (HA.out W).mono ?_
  rintro e w1 ⟨rfl, hb1⟩
  clear c0 c1
  obtain ⟨⟨d0, d1⟩, f0, f1⟩ := boxOf2 HX.out.2.2.2 hb1
  obtain ⟨⟨c0, c1⟩, _, _⟩ := boxOf2 HX.out.2.2.1 hb1
  have HBX := Lib.hid (HX.out.1.trans (hb1.mono HX.out.1.size))
  have HB1 := Lib.hid hb1
  clear hb1
  cases b with
  | false =>
    go_wp2
    refine bodyPost_ret (v := brR false n (bstr (backL s.data.toList))) ?_ rfl ⟨by rw [HB.out], below_two HBX.out (by omega) _ _⟩
    simp [results, Try.results29, go_sem, d0, d1, brR]
  | true =>
    obtain ⟨⟨p1, p2⟩, p3, _⟩ := braid_all HB.out
    have n1 : ¬ w.heap.size = w.heap.size + 1 := by omega
    have n2 : ¬ w.heap.size + 1 = w.heap.size := by omega
    have HSZ := Lib.hid hsz
    clear hsz
    go_wp2_with fail
    go_region_held3 (fun w' : World => w'.cell? ⟨w.heap.size, 0, none⟩ = some (.int .i64 n) ∧ w'.cell? ⟨w.heap.size, 1, none⟩ = some (.string s)) (first | go_keep | exact ⟨c0, c1⟩)
      (first
        | (go_at_call 73
           refine (back_any s _ (by omega)).mono ?_
           rintro e w3 ⟨rfl, hb3⟩
           have hb3' := Below.trans (Below.refl w1.heap.size w1).drew hb3
           have HB3 := Lib.hid (HB1.out.trans (hb3'.mono HB1.out.size))
           clear hb3 hb3' c0 c1 d0 d1 f0 f1
           obtain ⟨⟨d0, d1⟩, f0, f1⟩ := boxOf2 HX.out.2.2.2 HB3.out
           obtain ⟨⟨c0, c1⟩, _, _⟩ := boxOf2 HX.out.2.2.1 HB3.out))
    all_goals
      go_wp2
      refine bodyPost_ret (v := brR true n (bstr (backL s.data.toList))) ?_ rfl ⟨by rw [HB.out], below_two (HX.out.1.trans (HB3.out.mono HX.out.1.size)) (by omega) _ _⟩
      simp [results, Try.results29, go_sem, d0, d1, brR]

/-- A number as an answer, and whether it is told. -/
def numR (b : Bool) (z : Int) : Value := .tuple #[.int .i64 (if b then z else 0), .bool b]

set_option maxRecDepth 100000 in
set_option maxHeartbeats 2000000 in
theorem sBraidSum_any (n : Int) (s : ByteArray) (w : World) (hs : s.size ≤ maxLen) :
    Calls Try.prog 38 #[brV n s] w fun e w' => e = .returned (numR (braidB n s) (sgSum s.data.toList)) ∧ Below w.heap.size w w' := by
  obtain ⟨W, hW⟩ : ∃ W, w.alloc (.cells #[.int .i64 n, .string s] 26) = W := ⟨_, rfl⟩
  have HX := Lib.hid (oneBox hW)
  have HW := Lib.hid hW
  clear hW
  have hsz := HX.out.2.1
  obtain ⟨b, hb⟩ : ∃ b, braidB n s = b := ⟨_, rfl⟩
  have HA := Lib.hid (fun w => sBraidIn_any n s b w hs hb)
  have HB := Lib.hid hb
  clear hb
  obtain ⟨⟨c0, c1⟩, _, _⟩ := boxOf2 HX.out.2.2 (Below.refl _ W)
  go_enter Try.func38, Try.ntmps38
  go_wp2_with fail
  rw [HW.out]
  refine (HA.out W).mono ?_
  rintro e w1 ⟨rfl, hb1⟩
  clear c0 c1
  obtain ⟨⟨c0, c1⟩, _, _⟩ := boxOf2 HX.out.2.2 hb1
  have HBX := Lib.hid (HX.out.1.trans (hb1.mono HX.out.1.size))
  clear hb1
  cases b with
  | false =>
    go_wp2
    go_ret2
    exact ⟨by rw [HB.out]; rfl, HBX.out⟩
  | true =>
    obtain ⟨_, p3, _⟩ := braid_all HB.out
    go_wp2
    go_loop [4, 5] (fun z i => ∃ (k : Nat) (y : Int), k ≤ s.size ∧ i = .int .i64 k ∧ z = .int .i64 y ∧ (-30 ≤ y ∧ y ≤ 30) ∧ Hid (y = sgSum (s.data.toList.take k))) (fun _ i => s.size - (intOf i).toNat)
    case atStart => exact ⟨0, 0, Nat.zero_le _, rfl, rfl, by omega, Lib.hid rfl⟩
    case round =>
      obtain ⟨k, y, hk, rfl, rfl, ⟨hy1, hy2⟩, HY⟩ := hrel
      by_cases hlt : k < s.size
      · have hl : k < s.data.toList.length := by simpa using hlt
        have HN : Hid (sgSum (s.data.toList.take (k + 1)) = y + sgnB s[k]) := Lib.hid (by rw [List.take_succ_eq_append_getElem hl, sgSum_append, sgSum_one, HY.out]; rfl)
        have HBd := Lib.hid (sgSum_bnd (s.data.toList.take (k + 1)))
        by_cases h97 : 97 ≤ s[k].toNat
        · have hsg : Hid (sgnB s[k] = 1) := Lib.hid (if_pos h97)
          have hd : decide ((97 : Int) ≤ (s[k].toNat : Int)) = true := decide_eq_true (by omega)
          go_wp2
          go_round
          case rel => 
            have h1 := HN.out
            have h2 := HBd.out
            rw [hsg.out] at h1
            rw [h1, List.length_take] at h2
            exact ⟨k + 1, y + 1, by omega, by go_num, by go_num, by omega, Lib.hid h1.symm⟩
          case measure => simp [intOf]; omega
        · have hsg : Hid (sgnB s[k] = -1) := Lib.hid (if_neg h97)
          have hd : decide ((97 : Int) ≤ (s[k].toNat : Int)) = false := decide_eq_false (by omega)
          go_wp2
          go_round
          case rel =>
            have h1 := HN.out
            have h2 := HBd.out
            rw [hsg.out] at h1
            rw [h1, List.length_take] at h2
            exact ⟨k + 1, y - 1, by omega, by go_num, by go_num, by omega, Lib.hid (by rw [h1]; omega)⟩
          case measure => simp [intOf]; omega
      · go_wp2
        go_ret2
        refine ⟨?_, HBX.out⟩
        have h1 := HY.out
        rw [List.take_of_length_le (by simp; omega)] at h1
        rw [HB.out, ← h1]; rfl

end Go.Proofs.Ytaaeiogdhmiaaaa

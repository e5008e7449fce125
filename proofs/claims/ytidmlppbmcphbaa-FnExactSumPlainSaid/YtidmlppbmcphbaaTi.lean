/- The contracts of the model's and of the program's 'SumPlain'. -/
import Derived.Test.YtidmlppbmcphbaaTh
namespace Go.Proofs.Ytidmlppbmcphbaa
open Go.RowKit Go.Shelf

/-- The sum of all coefficients. -/
def plainZ (ts : List Tm) : Int := (ts.map Tm.c).sum
theorem plainZ_succ (ts : List Tm) (k : Nat) (h : k < ts.length) : plainZ (ts.take (k + 1)) = plainZ (ts.take k) + ts[k].c := by
  unfold plainZ; rw [List.take_succ_eq_append_getElem h, List.map_append, List.sum_append]; simp
theorem sumB_coef {ts : List Tm} (h : sumB ts = true) : ts.length ≤ 300 ∧ ∀ j (hj : j < ts.length), -1000000 ≤ ts[j].c ∧ ts[j].c ≤ 1000000 := by
  unfold sumB allGood at h
  simp only [Bool.and_eq_true, List.all_eq_true, List.mem_range, decide_eq_true_eq] at h
  refine ⟨h.2, fun j hj => ?_⟩
  have := h.1 j hj
  unfold goodAt inR at this
  rw [List.getD_eq_getElem?_getD, List.getElem?_eq_getElem hj] at this
  simp at this
  exact this.1.1.2
theorem ret_plain {z z' : Int} (h : z' = z) : Ending.returned (.tuple #[.int .i64 z, .bool true]) = .returned (.tuple #[.int .i64 z', .bool true]) := by rw [h]
def plainV (b : Bool) (z : Int) : Value := if b then .tuple #[.int .i64 z, .bool true] else .tuple #[.int .i64 0, .bool false]

set_option maxRecDepth 100000 in
set_option maxHeartbeats 1000000 in
theorem sSumPlain_yes (a : Option Addr) (cap n : Nat) (ts : List Tm) (w : World) (hs : IsTerms w a n ts) (hb : sumB ts = true) :
    Calls Try.prog 30 #[.slice a n cap] w fun e w' => e = .returned (.tuple #[.int .i64 (plainZ ts), .bool true]) ∧ Below w.heap.size w w' := by
  obtain ⟨h300, hcf⟩ := sumB_coef hb
  have hn : n ≤ 300 := by rw [← hs.len]; exact h300
  have HN := Lib.hid hs.len
  have HS := Lib.hid hs
  have HB := Lib.hid hb
  have HC := Lib.hid hcf
  clear hs hb hcf h300
  go_enter Try.func30, Try.ntmps30
  go_wp2_with fail
  refine (sSumIn_any a cap n ts _ HS.out).mono ?_
  rintro e w1 ⟨rfl, hb1⟩
  have hbb := HB.out
  rw [hbb]
  clear hbb
  go_wp2
  go_loopw [4, 5] (fun q i wr => ∃ (k : Nat) (z : Int), k ≤ n ∧ i = .int .i64 k ∧ q = .int .i64 z ∧ -1000000 * (k : Int) ≤ z ∧ z ≤ 1000000 * (k : Int) ∧ Hid (z = plainZ (ts.take k)) ∧ Below w.heap.size w wr) (fun _ i _ => n - (intOf i).toNat)
  case atStart => exact ⟨0, 0, Nat.zero_le _, rfl, rfl, by omega, by omega, Lib.hid rfl, hb1⟩
  case round =>
    obtain ⟨k, z, hk, rfl, rfl, hz1, hz2, HZ, hB⟩ := hrel
    by_cases hlt : k < n
    · have hkz : k < ts.length := by rw [HN.out]; exact hlt
      obtain ⟨x, rfl, hx⟩ := HS.out.at_ (by omega)
      obtain ⟨t, ht⟩ : ∃ t, ts[k] = t := ⟨_, rfl⟩
      have hcc := HC.out k hkz
      rw [ht] at hcc
      obtain ⟨hc1, hc2⟩ := hcc
      have hc := (hx.below hB).2 k hkz
      rw [ht, addr_next] at hc
      obtain ⟨c0, c1⟩ := hc
      have HT := Lib.hid ht
      clear ht hx
      go_wp2
      go_roundw
      case rel => exact ⟨k + 1, _, by omega, by go_num, rfl, by omega, by omega, Lib.hid (by rw [plainZ_succ ts k hkz, HT.out, HZ.out]), by first | exact hB | exact hB.alloc hB.size _⟩
      case measure => simp [intOf]; omega
    · obtain rfl : k = n := by omega
      have hz : plainZ ts = z := by rw [HZ.out, List.take_of_length_le (by rw [HN.out]; exact Nat.le_refl _)]
      have HZ2 := Lib.hid hz
      clear hz
      go_wp2
      go_ret2
      exact ⟨ret_plain HZ2.out, hB⟩

theorem sSumPlain_no (a : Option Addr) (cap n : Nat) (ts : List Tm) (w : World) (hs : IsTerms w a n ts) (hb : sumB ts = false) :
    Calls Try.prog 30 #[.slice a n cap] w fun e w' => e = .returned (.tuple #[.int .i64 0, .bool false]) ∧ Below w.heap.size w w' := by
  have HS := Lib.hid hs
  have HB := Lib.hid hb
  clear hs hb
  go_enter Try.func30, Try.ntmps30
  go_wp2_with fail
  refine (sSumIn_any a cap n ts _ HS.out).mono ?_
  rintro e w1 ⟨rfl, hb1⟩
  have hbb := HB.out
  rw [hbb]
  clear hbb
  go_wp2
  go_ret2
  exact ⟨rfl, hb1⟩

theorem sSumPlain_is (a : Option Addr) (cap n : Nat) (ts : List Tm) (b : Bool) (z : Int) (w : World) (hs : IsTerms w a n ts) (h : plainV (sumB ts) (plainZ ts) = .tuple #[.int .i64 z, .bool b]) :
    Calls Try.prog 30 #[.slice a n cap] w fun e w' => e = .returned (.tuple #[.int .i64 z, .bool b]) ∧ Below w.heap.size w w' := by
  rw [← h]
  cases hb : sumB ts with
  | true => exact sSumPlain_yes a cap n ts w hs hb
  | false => exact sSumPlain_no a cap n ts w hs hb

set_option maxRecDepth 100000 in
set_option maxHeartbeats 1000000 in
theorem iSumPlain_yes (a : Option Addr) (cap n : Nat) (ts : List Tm) (w : World) (hs : IsTerms w a n ts) (hb : sumB ts = true) :
    Calls Try.prog 31 #[.slice a n cap] w fun e w' => e = .returned (.tuple #[.int .i64 (plainZ ts), .bool true]) ∧ Below w.heap.size w w' := by
  obtain ⟨h300, hcf⟩ := sumB_coef hb
  have hn : n ≤ 300 := by rw [← hs.len]; exact h300
  have HN := Lib.hid hs.len
  have HS := Lib.hid hs
  have HB := Lib.hid hb
  have HC := Lib.hid hcf
  clear hs hb hcf h300
  go_enter Try.func31, Try.ntmps31
  go_wp2_with fail
  refine (iSumIn_any a cap n ts _ HS.out).mono ?_
  rintro e w1 ⟨rfl, hb1⟩
  have hbb := HB.out
  rw [hbb]
  clear hbb
  go_wp2
  go_loopw [4, 12] (fun q i wr => ∃ (k : Nat) (z : Int), k ≤ n ∧ i = .int .i64 k ∧ q = .int .i64 z ∧ -1000000 * (k : Int) ≤ z ∧ z ≤ 1000000 * (k : Int) ∧ Hid (z = plainZ (ts.take k)) ∧ Below w.heap.size w wr) (fun _ i _ => n - (intOf i).toNat)
  case atStart => exact ⟨0, 0, Nat.zero_le _, rfl, rfl, by omega, by omega, Lib.hid rfl, hb1⟩
  case round =>
    obtain ⟨k, z, hk, rfl, rfl, hz1, hz2, HZ, hB⟩ := hrel
    by_cases hlt : k < n
    · have hkz : k < ts.length := by rw [HN.out]; exact hlt
      obtain ⟨x, rfl, hx⟩ := HS.out.at_ (by omega)
      obtain ⟨t, ht⟩ : ∃ t, ts[k] = t := ⟨_, rfl⟩
      have hcc := HC.out k hkz
      rw [ht] at hcc
      obtain ⟨hc1, hc2⟩ := hcc
      have hc := (hx.below hB).2 k hkz
      rw [ht, addr_next] at hc
      obtain ⟨c0, c1⟩ := hc
      have HT := Lib.hid ht
      clear ht hx
      go_wp2
      go_roundw
      case rel => exact ⟨k + 1, _, by omega, by go_num, rfl, by omega, by omega, Lib.hid (by rw [plainZ_succ ts k hkz, HT.out, HZ.out]), by first | exact hB | exact hB.alloc hB.size _⟩
      case measure => simp [intOf]; omega
    · obtain rfl : k = n := by omega
      have hz : plainZ ts = z := by rw [HZ.out, List.take_of_length_le (by rw [HN.out]; exact Nat.le_refl _)]
      have HZ2 := Lib.hid hz
      clear hz
      go_wp2
      go_ret2
      exact ⟨ret_plain HZ2.out, hB⟩

theorem iSumPlain_no (a : Option Addr) (cap n : Nat) (ts : List Tm) (w : World) (hs : IsTerms w a n ts) (hb : sumB ts = false) :
    Calls Try.prog 31 #[.slice a n cap] w fun e w' => e = .returned (.tuple #[.int .i64 0, .bool false]) ∧ Below w.heap.size w w' := by
  have HS := Lib.hid hs
  have HB := Lib.hid hb
  clear hs hb
  go_enter Try.func31, Try.ntmps31
  go_wp2_with fail
  refine (iSumIn_any a cap n ts _ HS.out).mono ?_
  rintro e w1 ⟨rfl, hb1⟩
  have hbb := HB.out
  rw [hbb]
  clear hbb
  go_wp2
  go_ret2
  exact ⟨rfl, hb1⟩

theorem iSumPlain_is (a : Option Addr) (cap n : Nat) (ts : List Tm) (b : Bool) (z : Int) (w : World) (hs : IsTerms w a n ts) (h : plainV (sumB ts) (plainZ ts) = .tuple #[.int .i64 z, .bool b]) :
    Calls Try.prog 31 #[.slice a n cap] w fun e w' => e = .returned (.tuple #[.int .i64 z, .bool b]) ∧ Below w.heap.size w w' := by
  rw [← h]
  cases hb : sumB ts with
  | true => exact iSumPlain_yes a cap n ts w hs hb
  | false => exact iSumPlain_no a cap n ts w hs hb

end Go.Proofs.Ytidmlppbmcphbaa

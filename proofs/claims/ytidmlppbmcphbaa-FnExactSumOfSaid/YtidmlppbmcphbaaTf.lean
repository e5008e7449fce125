/- The contracts of slices.IndexFunc and slices.ContainsFunc at 'isZero'. -/
import Derived.Test.YtidmlppbmcphbaaTe
namespace Go.Proofs.Ytidmlppbmcphbaa
open Go.RowKit Go.Shelf

abbrev ZF : Value := .func (.func 85) #[] #[]
/-- r is the first place of a coefficient 0, or -1. -/
def FirstZero (ts : List Tm) (r : Int) : Prop :=
  (r = -1 ∧ ∀ j (h : j < ts.length), ts[j].c ≠ 0) ∨ ∃ (i : Nat) (h : i < ts.length), r = i ∧ ts[i].c = 0 ∧ ∀ j (h : j < i), ts[j].c ≠ 0

set_option maxRecDepth 100000 in
set_option maxHeartbeats 1000000 in
theorem indexZero_any (a : Option Addr) (cap n : Nat) (ts : List Tm) (w : World) (hs : IsTerms w a n ts) :
    Calls Try.prog 107 #[.slice a n cap, ZF] w fun e w' => (∃ r, e = .returned (.int .i64 r) ∧ FirstZero ts r) ∧ Below w.heap.size w w' := by
  have hm := hs.max
  have HN := Lib.hid hs.len
  have HS := Lib.hid hs
  clear hs
  unfold maxLen at hm
  go_enter Try.func107, Try.ntmps107
  go_wp2
  go_loopw [8] (fun i wr => ∃ k : Nat, k ≤ n ∧ i = .int .i64 k ∧ Hid (∀ j (h : j < ts.length), j < k → ts[j].c ≠ 0) ∧ Below w.heap.size w wr) (fun i _ => n - (intOf i).toNat)
  case atStart => exact ⟨0, Nat.zero_le _, rfl, Lib.hid (fun j _ h => absurd h (Nat.not_lt_zero _)), Below.refl _ _⟩
  case round =>
    obtain ⟨k, hk, rfl, HJ, hB⟩ := hrel
    by_cases hlt : k < n
    · have hkz : k < ts.length := by rw [HN.out]; exact hlt
      obtain ⟨x, rfl, hx⟩ := HS.out.at_ (by omega)
      obtain ⟨t, ht⟩ : ∃ t, ts[k] = t := ⟨_, rfl⟩
      have hc := (hx.below hB).2 k hkz
      rw [ht, addr_next] at hc
      obtain ⟨c0, c1⟩ := hc
      have HT := Lib.hid ht
      clear ht hx
      go_wp2_with fail
      refine (isZero_any t _).mono ?_
      rintro e w2 ⟨rfl, hg⟩
      have hb2 := hg.below
      clear hg
      by_cases hz : t.c = 0
      · have hzb : (t.c == 0) = true := by simpa using hz
        have HZ := Lib.hid hz
        clear hz
        go_wp2
        go_ret
        exact ⟨⟨_, rfl, .inr ⟨k, hkz, rfl, by rw [HT.out]; exact HZ.out, fun j hj => HJ.out j (by omega) hj⟩⟩, hB.trans (hb2.mono hB.size)⟩
      · have hzb : (t.c == 0) = false := by simpa using hz
        have HZ := Lib.hid hz
        clear hz
        go_wp2
        go_roundw
        case rel =>
          refine ⟨k + 1, by omega, by go_num, Lib.hid ?_, hB.trans (hb2.mono hB.size)⟩
          intro j hj hjk
          by_cases e : j = k
          · subst e; rw [HT.out]; exact HZ.out
          · exact HJ.out j hj (by omega)
        case measure => simp [intOf]; omega
    · obtain rfl : k = n := by omega
      go_wp2
      go_ret
      exact ⟨⟨_, rfl, .inl ⟨rfl, fun j hj => HJ.out j hj (by rw [← HN.out]; exact hj)⟩⟩, hB⟩

def hasZero (ts : List Tm) : Bool := ts.any fun t => t.c == 0
theorem hasZero_first {ts : List Tm} {r : Int} (h : FirstZero ts r) : hasZero ts = decide (0 ≤ r) := by
  unfold hasZero
  rcases h with ⟨rfl, h⟩ | ⟨i, hi, rfl, h, _⟩
  · rw [List.any_eq_false.2]
    · rfl
    · intro t ht
      obtain ⟨j, hj, rfl⟩ := List.getElem_of_mem ht
      simpa using h j hj
  · rw [decide_eq_true (by omega : (0 : Int) ≤ i)]
    exact List.any_eq_true.2 ⟨_, List.getElem_mem hi, by simpa using h⟩

theorem containsZero_is (a : Option Addr) (cap n : Nat) (ts : List Tm) (b : Bool) (w : World) (hs : IsTerms w a n ts) (hb : hasZero ts = b) :
    Calls Try.prog 84 #[.slice a n cap, ZF] w fun e w' => e = .returned (.bool b) ∧ Below w.heap.size w w' := by
  subst hb
  have HS := Lib.hid hs
  clear hs
  go_enter Try.func84, Try.ntmps84
  go_wp2_with fail
  refine (indexZero_any a cap n ts _ HS.out).mono ?_
  rintro e w2 ⟨⟨r, rfl, hr⟩, hb2⟩
  have HR := Lib.hid (hasZero_first hr)
  clear hr
  go_wp2
  go_ret
  exact ⟨ret_bool (by rw [HR.out]), hb2⟩

/-- A list that is in order. -/
def ascB (ts : List Tm) : Bool := (List.range ts.length).all fun j => decide (j = 0) || lessW (ts.getD (j - 1) default).s (ts.getD j default).s

end Go.Proofs.Ytidmlppbmcphbaa

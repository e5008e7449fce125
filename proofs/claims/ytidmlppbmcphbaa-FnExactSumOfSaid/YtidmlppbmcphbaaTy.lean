/- The contracts of the laws' own helpers that mark memory and look the marks up. -/
import Derived.Test.YtidmlppbmcphbaaTx
namespace Go.Proofs.Ytidmlppbmcphbaa
open Go.RowKit Go.Shelf

/-- The text of a mark. -/
def mkB (m : Nat) (t : ByteArray) : ByteArray :=
  if _h : m = 0 then t else mkB (m / 10) (⟨#[UInt8.ofNat (48 + m % 10)]⟩ ++ t)
termination_by m
decreasing_by omega
theorem mkB_zero (t : ByteArray) : mkB 0 t = t := by rw [mkB]; simp
theorem mkB_step {m : Nat} (h : m ≠ 0) (t : ByteArray) : mkB (m / 10) (⟨#[UInt8.ofNat (48 + m % 10)]⟩ ++ t) = mkB m t := by conv => rhs; rw [mkB, dif_neg h]
def mkS (k : Nat) : ByteArray := ⟨#[109]⟩ ++ mkB k ⟨#[]⟩

set_option maxRecDepth 100000 in
set_option maxHeartbeats 1000000 in
theorem markText_any (k : Nat) (w : World) (hk0 : 0 < k) (hk : k ≤ 100000000) :
    Calls Try.prog 64 #[.int .i64 k] w fun e w' => e = .returned (.string (mkS k)) ∧ Below w.heap.size w w' := by
  have hk1 : ¬ k = 0 := by omega
  have hk2 : decide (k = 0) = false := decide_eq_false hk1
  go_enter Try.func64, Try.ntmps64
  go_wp2
  go_loopw [0, 3] (fun p s wr => ∃ (m : Nat) (t : ByteArray), p = .int .i64 m ∧ s = .string t ∧ Hid (mkB m t = mkB k ⟨#[]⟩) ∧ t.size + m ≤ k ∧ Hid (Below w.heap.size w wr)) (fun p _ _ => (intOf p).toNat)
  case atStart => exact ⟨k, ⟨#[]⟩, rfl, rfl, Lib.hid rfl, Nat.le_of_eq (Nat.zero_add k), Lib.hid (Below.refl _ _)⟩
  case round =>
    obtain ⟨m, t, rfl, rfl, HM, hsz, HB⟩ := hrel
    by_cases hm : m = 0
    · subst hm
      go_wp2
      go_ret
      refine ⟨?_, HB.out⟩
      rw [mkS, ← HM.out, mkB_zero]
      rfl
    · have hm0 : 0 < m := by omega
      have hlt : m % 10 < 10 := Nat.mod_lt _ (by omega)
      have hval : ((UInt8.ofNat (48 + m % 10)).toNat : Int) = 48 + (m : Int) % 10 := by
        rw [UInt8.toNat_ofNat']
        rw [Nat.mod_eq_of_lt (by omega)]
        omega
      have hconv : (convert 91 9 (.slice (some ⟨wr.heap.size, 0, none⟩) 1 1)).run Try.prog (wr.alloc (.cells #[.int .u8 (48 + (m : Int) % 10)] 5)) = .ok (.string ⟨#[UInt8.ofNat (48 + m % 10)]⟩) (wr.alloc (.cells #[.int .u8 (48 + (m : Int) % 10)] 5)) := by
        have := run_convert_bytes_back (P := Try.prog) (wr.alloc (.cells #[.int .u8 (48 + (m : Int) % 10)] 5)) 91 9 5 ⟨wr.heap.size, 0, none⟩ 1 [UInt8.ofNat (48 + m % 10)] Try.underlying91 Try.underlying5 Try.underlying9 (fun j hj => by
          have hj0 : j = 0 := by simp at hj; exact hj
          subst hj0
          show (wr.alloc _).cell? ((⟨wr.heap.size, 0, none⟩ : Addr).add 0) = some (.int .u8 ((UInt8.ofNat (48 + m % 10)).toNat : Int))
          rw [hval]
          exact cell_one_new _ _ _ 0 _ rfl)
        exact this
      have hrange : 0 ≤ 48 + (m : Int) % 10 ∧ 48 + (m : Int) % 10 ≤ 255 := by omega
      have hsz2 : ((⟨#[UInt8.ofNat (48 + m % 10)]⟩ : ByteArray) ++ t).size = 1 + t.size := by simp [ByteArray.size_append]; rfl
      obtain ⟨c, hc⟩ : ∃ c : ByteArray, (⟨#[UInt8.ofNat (48 + m % 10)]⟩ : ByteArray) = c := ⟨_, rfl⟩
      rw [hc] at hconv hsz2
      have HCC := Lib.hid hc
      have HVAL := Lib.hid hval
      have HSZ2 := Lib.hid hsz2
      have hcs : c.size = 1 := by rw [← hc]; rfl
      have hnot : ¬ 9223372036854775807 < c.size + t.size := by omega
      clear hc hval hsz2 hcs
      go_wp2
      go_roundw
      case rel =>
        refine ⟨m / 10, c ++ t, by go_num, rfl, Lib.hid ?_, by rw [HSZ2.out]; omega, Lib.hid (HB.out.alloc HB.out.size _)⟩
        rw [← HM.out, ← HCC.out]
        exact mkB_step hm t
      case measure => simp [intOf]; omega

end Go.Proofs.Ytidmlppbmcphbaa

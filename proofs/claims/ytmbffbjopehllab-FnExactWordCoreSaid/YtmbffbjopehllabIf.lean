/- The contract of the program's 'WordCore'. -/
import Derived.Test.YtmbffbjopehllabIe
import Derived.Lib.Strings
namespace Go.Proofs.Ytmbffbjopehllab
open Go.RowKit Go.Shelf

theorem letters_core {g off : Nat} {l : List UInt8} {w : World} (h : Letters g off l w) : Letters g (off + 1) (l.tail.dropLast) w :=
  ⟨h.1, fun j hj => by
    have := h.2 (j + 1) (by simp at hj; omega)
    rw [core_get l j hj, show off + 1 + j = off + (j + 1) by omega]
    exact this⟩

set_option maxRecDepth 100000 in
set_option maxHeartbeats 1000000 in
theorem iWordCore_yes (s : ByteArray) (w : World) (h : wordB s.data.toList = true) :
    Calls Try.prog 35 #[.string s] w fun e w' => e = .returned (.tuple #[.string (bstr (coreL s.data.toList)), .bool true]) ∧ Below w.heap.size w w' := by
  obtain ⟨h1, h2, _⟩ := (wordB_iff _).1 h
  have hs : s.size ≤ 60 := by simpa using h1
  have H := Lib.hid h
  have HL := Lib.hid h2
  clear h h1 h2
  go_enter Try.func35, Try.ntmps35
  go_wp2_with fail
  refine (wordOf_yes _ _ H.out).mono ?_
  rintro e w1 ⟨g, cap, rfl, hown, hb1⟩
  have hcap := ownsRow_cap hown
  have hlets := letters_of_owns hown
  have hcap1 : s.size ≤ cap := hcap.1
  have hcap2 : cap ≤ maxLen := hcap.2.1
  unfold maxLen at hcap2
  clear hcap hown
  go_wp2_with fail
  go_loopw [4] (fun v wr => ∃ (l : List UInt8) (n off c m : Nat), v = .slice (some ⟨g, off, none⟩) n c ∧ n ≤ m ∧ n ≤ 60 ∧ n ≤ c ∧ c ≤ 9223372036854775807 ∧ Hid (l.length = n ∧ letL l = true ∧ coreF m l = coreL s.data.toList ∧ Letters g off l wr) ∧ Below w1.heap.size w1 wr)
    (fun v _ => match v with | .slice _ n _ => n | _ => 0)
  case atStart => exact ⟨s.data.toList, s.size, 0, cap, s.size, rfl, Nat.le_refl _, hs, hcap1, hcap2, Lib.hid ⟨by simp, HL.out, by unfold coreL; simp, hlets⟩, Below.refl _ _⟩
  case round =>
    obtain ⟨l, n, off, c, m, rfl, hm, hn, hnc, hc, HC, hB⟩ := hrel
    obtain ⟨hl, hlet, hco, hcells⟩ := HC.out
    by_cases h1 : 1 < n
    · have hd : decide ((1 : Int) < (n : Int)) = true := by simp; omega
      have hp0 : 0 < n := by omega
      have hq1 : (1 : Int) ≤ (n : Int) := by omega
      have hq2 : (n : Int) - 1 < (n : Int) := by omega
      have hc1 : 1 < c := by omega
      obtain ⟨x, hxx⟩ : ∃ x, l[0]'(by omega) = x := ⟨_, rfl⟩
      obtain ⟨y, hyy⟩ : ∃ y, l[n - 1]'(by omega) = y := ⟨_, rfl⟩
      have c0 : wr.cell? ⟨g, off, none⟩ = some (.int .u8 (x.toNat : Int)) := by rw [← hxx]; exact hcells.2 0 (by omega)
      have c1 : wr.cell? ⟨g, off + (n - 1), none⟩ = some (.int .u8 (y.toNat : Int)) := by rw [← hyy]; exact hcells.2 (n - 1) (by omega)
      have hcg : coreC l = decide (x = invB y) := by
        rw [coreC_get l (by omega), ← hxx, ← hyy, invB_let (l[n - 1]'(by omega)) (letL_get l hlet (n - 1) (by omega))]
        simp only [hl]
      cases hx : coreC l with
      | true =>
        have hx2 : x = invB y := of_decide_eq_true (hcg.symm.trans hx)
        have hte : ((x.toNat : Int) == ((invB y).toNat : Int)) = true := by rw [← hx2]; simp
        have HX := Lib.hid hx
        clear hx hx2 hcg hxx hyy hl hlet hco hcells
        go_wp2
        go_quiet ((go_at_call 59; exact Calls.quiet_of_same (inverse_any _ _)))
        go_wp2
        go_roundw
        case rel =>
          obtain ⟨hl, hlet, hco, hcells⟩ := HC.out
          obtain ⟨m', rfl⟩ : ∃ m', m = m' + 1 := ⟨m - 1, by omega⟩
          have hB2 := below_drewN hB nq
          refine ⟨l.tail.dropLast, n - 2, off + 1, c - 1, m', by rw [Nat.sub_sub], by omega, by omega, by omega, by omega, Lib.hid ⟨by rw [core_len]; omega, letL_core l hlet, by rw [← coreF_true HX.out]; exact hco, (letters_core hcells)⟩, hB2⟩
        case measure => show n - 1 - 1 < n; omega
      | false =>
        have hx2 : x ≠ invB y := of_decide_eq_false (hcg.symm.trans hx)
        have hte : ((x.toNat : Int) == ((invB y).toNat : Int)) = false := by
          rw [beq_eq_false_iff_ne]; intro e; exact hx2 (UInt8.toNat_inj.1 (by omega))
        have HX := Lib.hid hx
        clear hx hx2 hcg hxx hyy hl hlet hco hcells
        go_wp2
        go_quiet ((go_at_call 59; exact Calls.quiet_of_same (inverse_any _ _)))
        go_wp2_with fail
        have hfin : Hid (l = coreL s.data.toList) := by rw [← HC.out.2.2.1, coreF_false HX.out]; exact Lib.hid rfl
        refine (told_letters g off c n l (wr.drewN nq) HC.out.1 hn HC.out.2.2.2).mono ?_
        rintro e w2 ⟨rfl, hb2⟩
        go_wp2_with fail
        go_ret2
        exact ⟨by rw [← hfin.out]; rfl, hb1.trans (((below_drewN hB _).trans (hb2.mono (by simpa using hB.size))).mono hb1.size)⟩
    · have hcf : coreC l = false := by
        unfold coreC
        simp
        intro h; omega
      have hfin : Hid (l = coreL s.data.toList) := by rw [← hco, coreF_false hcf]; exact Lib.hid rfl
      have hd : decide ((1 : Int) < (n : Int)) = false := by simp; omega
      clear hcf hl hlet hco hcells
      go_wp2
      go_quiet (fail)
      go_wp2_with fail
      refine (told_letters g off c n l (wr.drewN nq) HC.out.1 hn HC.out.2.2.2).mono ?_
      rintro e w2 ⟨rfl, hb2⟩
      go_wp2_with fail
      go_ret2
      exact ⟨by rw [← hfin.out]; rfl, hb1.trans (((below_drewN hB _).trans (hb2.mono (by simpa using hB.size))).mono hb1.size)⟩

theorem iWordCore_no (s : ByteArray) (w : World) (hs : s.size ≤ maxLen) (h : wordB s.data.toList = false) :
    Calls Try.prog 35 #[.string s] w fun e w' => e = .returned (.tuple #[.string ByteArray.empty, .bool false]) ∧ Below w.heap.size w w' := by
  have H := Lib.hid h
  clear h
  go_enter Try.func35, Try.ntmps35
  go_wp2_with fail
  refine (wordOf_no _ _ hs H.out).mono ?_
  rintro e w1 ⟨rfl, hb1⟩
  go_wp2_with fail
  go_ret2
  exact ⟨rfl, hb1⟩

end Go.Proofs.Ytmbffbjopehllab

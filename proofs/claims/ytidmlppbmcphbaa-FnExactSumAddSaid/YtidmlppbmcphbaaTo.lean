/- The contract of the model's 'SumOf'. -/
import Derived.Test.YtidmlppbmcphbaaTn
import Derived.StillTailTactics
namespace Go.Proofs.Ytidmlppbmcphbaa
open Go.RowKit Go.Shelf

theorem acc_zero (w : World) : Acc w.heap.size (w.alloc (.cells #[] TI)) (.slice (some ⟨w.heap.size, 0, none⟩) 0 0) [] 0 0 := ⟨ownEmpty w, Nat.le_refl _, fun u h => (by cases h), fun u h => (by cases h)⟩
theorem termB_iff {t : Tm} (h : termB t = true) : t.s.size ≤ 60 ∧ -1000000 ≤ t.c ∧ t.c ≤ 1000000 := by
  unfold termB inR at h
  simp only [Bool.and_eq_true, decide_eq_true_eq] at h
  exact ⟨by have := ((wordB_iff _).1 h.1).1; simpa using this, h.2⟩
theorem fold_succ (ts : List Tm) (k : Nat) (h : k < ts.length) : (ts.take (k + 1)).foldl addT [] = addT ((ts.take k).foldl addT []) ts[k] := by
  rw [List.take_succ_eq_append_getElem h, List.foldl_append]; rfl

/-- What SumOf answers. -/
def ofB (ts : List Tm) : Bool := twB ts && sumB (canonT ts)

set_option maxRecDepth 100000 in
set_option maxHeartbeats 4000000 in
theorem sSumOf_any (a : Option Addr) (cap n : Nat) (ts : List Tm) (b : Bool) (w : World) (hs : IsTerms w a n ts) (hb : ofB ts = b) :
    Calls Try.prog 20 #[.slice a n cap] w (STold w b (canonT ts)) := by
  have hm := hs.max
  have HN := Lib.hid hs.len
  have HS := Lib.hid hs
  have HB := Lib.hid hb
  have hmx : Try.prog.follows .mixedOrders = true := by kernel_rfl
  clear hs hb
  unfold maxLen at hm
  go_enter Try.func20, Try.ntmps20
  go_wp2
  go_loopw [4, 5] (fun v i wr => ∃ k : Nat, k ≤ n ∧ i = .int .i64 k ∧ Hid ((∀ j (h : j < ts.length), j < k → termB ts[j] = true) ∧ (0 < k → n ≤ 300) ∧ Acc w.heap.size wr v ((ts.take k).foldl addT []) k (1000000 * k)) ∧ Below w.heap.size w wr) (fun _ i _ => n - (intOf i).toNat)
  case atStart => exact ⟨0, Nat.zero_le _, rfl, Lib.hid ⟨fun j _ h => absurd h (Nat.not_lt_zero _), fun h => absurd h (Nat.lt_irrefl _), acc_zero w⟩, (Below.refl _ _).alloc (Nat.le_refl _) _⟩
  case round =>
    obtain ⟨k, hk, rfl, HA, hB⟩ := hrel
    by_cases hlt : k < n
    · have hkz : k < ts.length := by rw [HN.out]; exact hlt
      obtain ⟨x, rfl, hx⟩ := HS.out.at_ (by omega)
      obtain ⟨t, ht⟩ : ∃ t, ts[k] = t := ⟨_, rfl⟩
      have hsm : t.s.size ≤ maxLen := by rw [← ht]; exact (HS.out.small _ (List.getElem_mem hkz)).1
      have hxw := hx.below hB
      have hc := hxw.2 k hkz
      have hbx := hxw.1
      rw [ht, addr_next] at hc
      obtain ⟨c0, c1⟩ := hc
      have HT := Lib.hid ht
      clear ht hx hxw
      cases hc : inR (-1000000) 1000000 t.c with
      | false =>
        have HC := Lib.hid hc
        clear hc
        go_wp2_with fail
        refine (l6In_is _ _ _ false _ HC.out).mono ?_
        rintro e w2 ⟨rfl, hb2⟩
        go_wp2
        go_ret2
        have hbf : b = false := by rw [← HB.out]; unfold ofB; rw [twB_at hkz (by rw [HT.out]; unfold termB; rw [HC.out, Bool.and_false])]; rfl
        subst hbf
        have hB2 : Below w.heap.size w w2 := hB.trans (hb2.mono hB.size)
        exact ⟨⟨_, rfl, (ownEmpty w2).mono hB2.size⟩, hB2.alloc hB2.size _⟩
      | true =>
        have HC := Lib.hid hc
        clear hc
        cases hw : wordB t.s.data.toList with
        | false =>
          have HW := Lib.hid hw
          clear hw
          go_wp2_with fail
          refine (l6In_is _ _ _ true _ HC.out).mono ?_
          rintro e w1 ⟨rfl, hb1⟩
          have d1 := (hb1.cell (p := ⟨(x.add (k * 2)).block, (x.add (k * 2)).off + 1, none⟩) (by show (x.add (k * 2)).block < _; rw [addr_add_block]; exact hbx)).trans c1
          go_wp2_with fail
          refine (sWordIn_is _ false _ hsm HW.out).mono ?_
          rintro e w2 ⟨rfl, hb2'⟩
          have hb2 := hb1.trans (hb2'.mono hb1.size)
          go_wp2
          go_ret2
          have hbf : b = false := by rw [← HB.out]; unfold ofB; rw [twB_at hkz (by rw [HT.out]; unfold termB; rw [HW.out]; rfl)]; rfl
          subst hbf
          have hB2 : Below w.heap.size w w2 := hB.trans (hb2.mono hB.size)
          exact ⟨⟨_, rfl, (ownEmpty w2).mono hB2.size⟩, hB2.alloc hB2.size _⟩
        | true =>
          have HW := Lib.hid hw
          clear hw
          by_cases h300 : n ≤ 300
          · have hd3 : decide (300 < n) = false := by simp; omega
            have hbd : -1000000 ≤ t.c ∧ t.c ≤ 1000000 := by have h := HC.out; unfold inR at h; simpa using h
            have hsz : t.s.size ≤ 60 := by have := ((wordB_iff _).1 HW.out).1; simpa using this
            have HBd := Lib.hid hbd
            clear hbd
            go_wp2_with fail
            refine (l6In_is _ _ _ true _ HC.out).mono ?_
            rintro e w1 ⟨rfl, hb1⟩
            have d1 := (hb1.cell (p := ⟨(x.add (k * 2)).block, (x.add (k * 2)).off + 1, none⟩) (by show (x.add (k * 2)).block < _; rw [addr_add_block]; exact hbx)).trans c1
            go_wp2_with fail
            refine (sWordIn_is _ true _ hsm HW.out).mono ?_
            rintro e w2 ⟨rfl, hb2'⟩
            have hb2 := hb1.trans (hb2'.mono hb1.size)
            have hbx2 := Nat.lt_of_lt_of_le hbx hb2.size
            have v0 := (hb2.cell (p := x.add (k * 2)) (by rw [addr_add_block]; exact hbx)).trans c0
            have v1 := (hb2.cell (p := ⟨(x.add (k * 2)).block, (x.add (k * 2)).off + 1, none⟩) (by show (x.add (k * 2)).block < _; rw [addr_add_block]; exact hbx)).trans c1
            have hB2 : Below w.heap.size w w2 := hB.trans (hb2.mono hB.size)
            have HAcc := Lib.hid ((HA.out.2.2).below hb2)
            clear d1 hb1 hb2'
            go_wp2
            go_still_tail 11, hmx
            change wpList _ _ _ _ _ w2.drew
            go_wp2_with fail
            refine (step_any w.heap.size u4 _ k (1000000 * k) 1000000 t.c t.s w2.drew (HAcc.out.below (Below.refl _ _).drew) (by omega) (by omega) (by omega) (by omega) HBd.out hsz hB2.size).mono ?_
            rintro e w3 ⟨⟨v', rfl, ho⟩, hb3⟩
            have hB3 : Below w.heap.size w w3 := hB2.trans (((Below.refl _ _).drew.trans hb3).mono hB2.size)
            have HO := Lib.hid ho
            clear ho hb3
            go_wp2
            go_roundw
            case rel =>
              refine ⟨k + 1, by omega, by go_num, Lib.hid ⟨fun j hj hjk => ?_, fun _ => h300, ?_⟩, hB3⟩
              · by_cases e : j = k
                · subst e; rw [HT.out]; unfold termB; rw [HW.out, HC.out]; rfl
                · exact HA.out.1 j hj (by omega)
              · have h := HO.out
                rw [fold_succ ts k hkz, HT.out]
                rw [show (1000000 : Int) * ((k + 1 : Nat) : Int) = 1000000 * k + 1000000 by omega]
                exact h
            case measure => simp [intOf]; omega
          · have hd3 : decide (300 < n) = true := by simp; omega
            go_wp2_with fail
            refine (l6In_is _ _ _ true _ HC.out).mono ?_
            rintro e w1 ⟨rfl, hb1⟩
            have d1 := (hb1.cell (p := ⟨(x.add (k * 2)).block, (x.add (k * 2)).off + 1, none⟩) (by show (x.add (k * 2)).block < _; rw [addr_add_block]; exact hbx)).trans c1
            go_wp2_with fail
            refine (sWordIn_is _ true _ hsm HW.out).mono ?_
            rintro e w2 ⟨rfl, hb2'⟩
            have hb2 := hb1.trans (hb2'.mono hb1.size)
            go_wp2
            go_ret2
            have hbf : b = false := by rw [← HB.out]; unfold ofB; rw [twB_len (by rw [HN.out]; exact h300)]; rfl
            subst hbf
            have hB2 : Below w.heap.size w w2 := hB.trans (hb2.mono hB.size)
            exact ⟨⟨_, rfl, (ownEmpty w2).mono hB2.size⟩, hB2.alloc hB2.size _⟩
    · obtain rfl : k = n := by omega
      have hall := HA.out.1
      have htw : twB ts = true := by
        by_cases h0 : 0 < k
        · exact twB_of (by rw [HN.out]; exact HA.out.2.1 h0) (fun j hj => hall j hj (by rw [← HN.out]; exact hj))
        · exact twB_of (by rw [HN.out]; omega) (fun j hj => by have := HN.out; omega)
      have h300 : k ≤ 300 := by have h : ts.length ≤ 300 := (by unfold twB at htw; simp only [Bool.and_eq_true, decide_eq_true_eq] at htw; exact htw.1); rw [HN.out] at h; exact h
      have hacc := HA.out.2.2
      rw [List.take_of_length_le (by rw [HN.out]; exact Nat.le_refl _)] at hacc
      have HAcc : Hid (Acc w.heap.size wr u4 (canonT ts) k (1000000 * k)) := Lib.hid hacc
      have hsb : sumB (canonT ts) = b := by rw [← HB.out]; unfold ofB; rw [htw, Bool.true_and]
      have HSb := Lib.hid hsb
      clear hall htw hacc hsb
      go_wp2_with fail
      refine (sDone_any w.heap.size u4 (canonT ts) b wr HAcc.out.own (HAcc.out.small (by omega) (by omega)) hB.size HSb.out).mono ?_
      rintro e w2 ⟨⟨v', rfl, ho⟩, hb2⟩
      have HO := Lib.hid ho
      clear ho
      go_wp2
      go_ret2
      exact ⟨⟨_, rfl, HO.out⟩, hB.trans (hb2.mono hB.size)⟩

end Go.Proofs.Ytidmlppbmcphbaa

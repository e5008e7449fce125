/- The contracts of the laws' own helpers on terms: a copy; are two equal. -/
import Derived.Test.YtmbffbjopehllaaTa
namespace Go.Proofs.Ytmbffbjopehllaa
open Go.RowKit

set_option maxHeartbeats 1000000 in
theorem toTerm_any (t : Tm) (w : World) :
    Calls Try.prog 37 #[.agg #[.int .i64 t.c, .string t.s]] w fun e w' => e = .returned (.agg #[.int .i64 t.c, .string t.s]) ∧ Below w.heap.size w w' := by
  obtain ⟨c, s⟩ := t
  go_enter Try.func37, Try.ntmps37
  go_wp2
  exact bodyPost_ret (v := .agg #[.int .i64 c, .string s]) (by simp [results, Try.results37, go_sem]) rfl ⟨rfl, (((Below.refl _ _).alloc (Nat.le_refl _) _).alloc (by simp) _).alloc (by simp; omega) _⟩

set_option maxHeartbeats 1000000 in
theorem eqTerm_yes (t : Tm) (w : World) :
    Calls Try.prog 41 #[.agg #[.int .i64 t.c, .string t.s], .agg #[.int .i64 t.c, .string t.s]] w fun e w' => e = .returned (.bool true) ∧ Below w.heap.size w w' := by
  obtain ⟨c, s⟩ := t
  go_enter Try.func41, Try.ntmps41
  go_wp2
  go_ret
  exact ⟨rfl, ((Below.refl _ _).alloc (Nat.le_refl _) _).alloc (by simp) _⟩

def zeroTm : Tm := ⟨0, ByteArray.empty⟩
theorem made_terms (n : Nat) : (madeCells #[.int .i64 0, .string ByteArray.empty] (n * 2)).toList = termsV (List.replicate n zeroTm) := by
  apply List.ext_getElem
  · simp [madeCells, termsV_len]
  · intro j h1 h2
    have hj : j < n * 2 := by simpa [madeCells] using h1
    have hg := termsV_get (List.replicate n zeroTm) (j / 2) (by simp; omega)
    simp only [List.getElem_replicate] at hg
    have e1 : (madeCells #[.int .i64 0, .string ByteArray.empty] (n * 2)).toList[j] = #[Value.int .i64 0, .string ByteArray.empty][j % 2]! := by simp [madeCells]
    rw [e1]
    rcases Nat.mod_two_eq_zero_or_one j with h | h
    · rw [h]
      have e2 : j / 2 * 2 = j := by omega
      rw [e2] at hg
      have := (List.getElem?_eq_some_iff.1 hg.1).2
      rw [this]; rfl
    · rw [h]
      have e2 : j / 2 * 2 + 1 = j := by omega
      rw [e2] at hg
      have := (List.getElem?_eq_some_iff.1 hg.2).2
      rw [this]; rfl

/-- One term more is filled in. -/
theorem fill_terms (ts : List Tm) (n k : Nat) (hl : ts.length = n) (hk : k < n) :
    ((termsV (ts.take k ++ List.replicate (n - k) zeroTm)).set (k * 2) (.int .i64 (ts[k]'(by omega)).c)).set (k * 2 + 1) (.string (ts[k]'(by omega)).s) = termsV (ts.take (k + 1) ++ List.replicate (n - (k + 1)) zeroTm) := by
  have hkl : (termsV (ts.take k)).length = k * 2 := by rw [termsV_len, List.length_take, Nat.min_eq_left (by omega)]
  rw [termsV_append, show n - k = (n - (k + 1)) + 1 by omega, List.replicate_succ, termsV_cons, List.set_append_right _ _ (by omega), hkl, Nat.sub_self, List.set_cons_zero, List.set_append_right _ _ (by omega), hkl, Nat.add_sub_cancel_left, List.set_cons_succ, List.set_cons_zero,
    List.take_succ_eq_append_getElem (by omega : k < ts.length), termsV_append, termsV_append, List.append_assoc]
  rfl

/-- A row of terms of the call's own reads as terms. -/
theorem termsAt_of_owns {w : World} {base g cap n : Nat} {e : TypeId} {ts : List Tm} (hn : ts.length = n) (h : w.ownsRow base e 2 (.slice (some ⟨g, 0, none⟩) n cap) n (termsV ts)) : TermsAt w ⟨g, 0, none⟩ ts := by
  have hg : g < w.heap.size := by
    rcases h.2 with ⟨h, _⟩ | ⟨g1, cap1, cur, h1, _, hgb, _⟩
    · cases h
    · cases h1; exact (Array.getElem?_eq_some_iff.1 hgb).1
  have ha : ∀ j, (⟨g, 0, none⟩ : Addr).add j = ⟨g, j, none⟩ := fun j => by unfold Addr.add; split <;> simp_all
  refine ⟨hg, fun i hi => ?_⟩
  rw [ha, ha, h.cellAt _ (by omega), h.cellAt _ (by omega)]
  exact termsV_get ts i hi

set_option maxRecDepth 100000 in
set_option maxHeartbeats 1000000 in
theorem toTermS_any (a : Option Addr) (cap n : Nat) (ts : List Tm) (w : World) (hs : IsTerms w a n ts) (hm : n ≤ 1048576) :
    Calls Try.prog 13 #[.slice a n cap] w fun e w' =>
      ∃ g, e = .returned (.slice (some ⟨g, 0, none⟩) n n) ∧ w'.ownsRow w.heap.size TI 2 (.slice (some ⟨g, 0, none⟩) n n) n (termsV ts) ∧ Below w.heap.size w w' := by
  obtain ⟨i0, hi, hz0, hz1, hz2⟩ := info_parts infoTerm
  have HN := Lib.hid hs.len
  have HS := Lib.hid hs
  clear hs
  go_enter Try.func13, Try.ntmps13
  go_wp2_with (at_make; refine wpList_make_full _ rfl _ _ 25 rfl w.heap.size TI i0 (.agg #[.int .i64 0, .string ByteArray.empty]) 2 Try.underlying25 hi hz0 hz1 .i64 .i64 _ _ n rfl rfl rfl rfl (by rw [hz2]; omega) (by unfold maxLen; omega) (Nat.le_refl _) ?_; intro w1 hrow hgrow)
  rw [show (madeCells (Value.cells (.agg #[.int .i64 0, .string ByteArray.empty])) (n * 2)).toList = termsV (ts.take 0 ++ List.replicate (n - 0) zeroTm) from made_terms n] at hrow
  have hB1 : Below w.heap.size w w1 := (Below.refl _ _).grown hgrow (Nat.le_refl _) (fun k e => by cases e)
  go_loopw [4] (fun i wr => ∃ k : Nat, k ≤ n ∧ i = .int .i64 k ∧ wr.ownsRow w.heap.size TI 2 (.slice (some ⟨w.heap.size, 0, none⟩) n n) n (termsV (ts.take k ++ List.replicate (n - k) zeroTm)) ∧ Below w.heap.size w wr)
    (fun i _ => n - (intOf i).toNat)
  case atStart => exact ⟨0, Nat.zero_le _, rfl, hrow, hB1⟩
  case round =>
    obtain ⟨k, hk, rfl, hr, hB⟩ := hrel
    by_cases hlt : k < n
    · have hkz : k < ts.length := by rw [HN.out]; exact hlt
      obtain ⟨x, rfl, hx⟩ := HS.out.at_ (by omega)
      obtain ⟨t, ht⟩ : ∃ t, ts[k] = t := ⟨_, rfl⟩
      have hc := (hx.below hB).2 k hkz
      have hfil := fill_terms ts n k HN.out hlt
      rw [ht, addr_next] at hc
      rw [ht] at hfil
      obtain ⟨hc0, hc1⟩ := hc
      have HR := Lib.hid hr
      have HF := Lib.hid hfil
      have HE := Lib.hid ht
      clear hr hfil ht hx
      go_wp2_with fail
      refine (toTerm_any t _).mono ?_
      rintro e w2 ⟨rfl, hb2⟩
      have hr2 : w2.ownsRow w.heap.size TI 2 (.slice (some ⟨w.heap.size, 0, none⟩) n n) n (termsV (ts.take k ++ List.replicate (n - k) zeroTm)) := HR.out.kept ⟨hb2.os, hb2.tape, hb2.output, hb2.size, fun j hj _ => hb2.block j hj⟩ (row := none) (.inr (by simp [Value.ownBlock]))
      have hl := hr2.1
      have hd0 : ∃ u, w2.cell? ⟨w.heap.size, k * 2, none⟩ = some u := by rw [hr2.cellAt _ (by omega)]; exact ⟨_, List.getElem?_eq_getElem (by omega)⟩
      have hd1 : ∃ u, w2.cell? ⟨w.heap.size, k * 2 + 1, none⟩ = some u := by rw [hr2.cellAt _ (by omega)]; exact ⟨_, List.getElem?_eq_getElem (by omega)⟩
      obtain ⟨u0, hu0⟩ := hd0
      obtain ⟨u1, hu1⟩ := hd1
      have hf0 := hr2.frozenAt (k * 2)
      have hf1 := hr2.frozenAt (k * 2 + 1)
      have HR2 := Lib.hid hr2
      have HB2 := Lib.hid (hB.trans (hb2.mono hB.size))
      clear hl hr2
      go_wp2
      go_roundw
      case rel =>
        have hst := (HR2.out.stored (k * 2) (.int .i64 t.c)).1.stored (k * 2 + 1) (.string t.s)
        refine ⟨k + 1, by omega, by go_num, ?_, (HB2.out.setCell (p := ⟨w.heap.size, k * 2, none⟩) (Nat.le_refl _) _).setCell (p := ⟨w.heap.size, k * 2 + 1, none⟩) (Nat.le_refl _) _⟩
        rw [← HF.out]
        exact hst.1
      case measure => simp [intOf]; omega
    · obtain rfl : k = n := by omega
      rw [Nat.sub_self, List.replicate_zero, List.append_nil, List.take_of_length_le (by rw [HN.out]; exact Nat.le_refl _)] at hr
      have HR := Lib.hid hr
      clear hr hrow
      go_wp2
      go_ret
      exact ⟨_, rfl, HR.out, hB⟩

set_option maxRecDepth 100000 in
set_option maxHeartbeats 1000000 in
theorem eqTermS_yes (a1 a2 : Option Addr) (c1 c2 n : Nat) (ts : List Tm) (w : World) (h1 : IsTerms w a1 n ts) (h2 : IsTerms w a2 n ts) :
    Calls Try.prog 15 #[.slice a1 n c1, .slice a2 n c2] w fun e w' => e = .returned (.bool true) ∧ Below w.heap.size w w' := by
  have H1 := Lib.hid h1
  have H2 := Lib.hid h2
  have HN := Lib.hid h1.len
  have hm := h1.max
  have hmx : Try.prog.follows .mixedOrders = true := by kernel_rfl
  clear h1 h2
  unfold maxLen at hm
  go_enter Try.func15, Try.ntmps15
  go_wp2
  go_loopw [5] (fun i wr => ∃ k : Nat, k ≤ n ∧ i = .int .i64 k ∧ Below w.heap.size w wr) (fun i _ => n - (intOf i).toNat)
  case atStart => exact ⟨0, Nat.zero_le _, rfl, Below.refl _ _⟩
  case round =>
    obtain ⟨k, hk, rfl, hB⟩ := hrel
    by_cases hlt : k < n
    · have hkz : k < ts.length := by rw [HN.out]; exact hlt
      obtain ⟨x1, rfl, hx1⟩ := H1.out.at_ (by omega)
      obtain ⟨x2, rfl, hx2⟩ := H2.out.at_ (by omega)
      obtain ⟨t, ht⟩ : ∃ t, ts[k] = t := ⟨_, rfl⟩
      have hc := (hx1.below hB).2 k hkz
      have hd := (hx2.below hB).2 k hkz
      have hbx1 := (hx1.below hB).1
      have hbx2 := (hx2.below hB).1
      rw [ht, addr_next] at hc hd
      have f0 := BelowBy.cell (w := wr) (by rw [addr_add_block]; exact hbx1) hc.1
      have f1 := BelowBy.cell (w := wr) (by show (x1.add (k * 2)).block < _; rw [addr_add_block]; exact hbx1) hc.2
      have f2 := BelowBy.cell (w := wr) (by rw [addr_add_block]; exact hbx2) hd.1
      have f3 := BelowBy.cell (w := wr) (by show (x2.add (k * 2)).block < _; rw [addr_add_block]; exact hbx2) hd.2
      clear hc hd ht hx1 hx2 hbx1 hbx2
      go_wp2
      refine wp_region_below hmx (by kernel_rfl) ?_
      repeat (quiet_step ((go_at_call 41; exact Calls.bel (eqTerm_yes t _))))
      refine wpQuiet_nil ?_
      rintro _ ⟨⟨W, hW⟩, rfl⟩
      clear f0 f1 f2 f3
      go_wp2
      go_roundw
      case rel => exact ⟨k + 1, by omega, by go_num, hB.trans (hW.mono hB.size)⟩
      case measure => simp [intOf]; omega
    · go_wp2
      go_ret
      exact ⟨rfl, hB⟩

end Go.Proofs.Ytmbffbjopehllaa

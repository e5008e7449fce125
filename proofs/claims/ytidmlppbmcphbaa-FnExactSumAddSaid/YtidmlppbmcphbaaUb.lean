/- The contract of the model's 'SumAdd'; sums as canonical lists. -/
import Derived.Test.YtidmlppbmcphbaaTs
import Derived.Laws.AppendOwnNone
namespace Go.Proofs.Ytidmlppbmcphbaa
open Go.RowKit Go.Shelf

theorem sSumIn_is (a : Option Addr) (cap n : Nat) (ts : List Tm) (b : Bool) (w : World) (hs : IsTerms w a n ts) (hb : sumB ts = b) :
    Calls Try.prog 16 #[.slice a n cap] w fun e w' => e = .returned (.bool b) ∧ Below w.heap.size w w' := by
  subst hb; exact sSumIn_any a cap n ts w hs
theorem iSumIn_is (a : Option Addr) (cap n : Nat) (ts : List Tm) (b : Bool) (w : World) (hs : IsTerms w a n ts) (hb : sumB ts = b) :
    Calls Try.prog 18 #[.slice a n cap] w fun e w' => e = .returned (.bool b) ∧ Below w.heap.size w w' := by
  subst hb; exact iSumIn_any a cap n ts w hs

theorem pairwise_lessW {ts : List Tm} (h : ∀ k, k < ts.length → 0 < k → lessW (ts.getD (k - 1) default).s (ts.getD k default).s = true) : ts.Pairwise (fun a b => lessW a.s b.s = true) := by
  rw [List.pairwise_iff_getElem]
  have key : ∀ d i (hi : i < ts.length) (hj : i + (d + 1) < ts.length), lessW ts[i].s ts[i + (d + 1)].s = true := by
    intro d
    induction d with
    | zero =>
      intro i hi hj
      have := h (i + 1) hj (by omega)
      rw [show i + 1 - 1 = i by omega, List.getD_eq_getElem?_getD, List.getD_eq_getElem?_getD, List.getElem?_eq_getElem hj, List.getElem?_eq_getElem hi] at this
      exact this
    | succ d ih =>
      intro i hi hj
      have h1 := ih i hi (by omega)
      have h2 := h (i + (d + 1) + 1) hj (by omega)
      rw [show i + (d + 1) + 1 - 1 = i + (d + 1) by omega, List.getD_eq_getElem?_getD, List.getD_eq_getElem?_getD, List.getElem?_eq_getElem (by omega : i + (d + 1) < ts.length), List.getElem?_eq_getElem (by omega : i + (d + 1) + 1 < ts.length)] at h2
      exact lessW_trans h1 h2
  intro i j hi hj hij
  obtain ⟨d, rfl⟩ : ∃ d, j = i + (d + 1) := ⟨j - i - 1, by omega⟩
  exact key d i hi hj
theorem sumB_parts {ts : List Tm} (h : sumB ts = true) : twB ts = true ∧ Canon ts := by
  rw [sumB_eq] at h
  simp only [Bool.and_eq_true, Bool.not_eq_true'] at h
  obtain ⟨⟨h1, h2⟩, h3⟩ := h
  refine ⟨h1, pairwise_lessW fun k hk hk0 => ?_, fun t ht => ?_⟩
  · unfold ascB at h3
    have := List.all_eq_true.1 h3 k (List.mem_range.2 hk)
    simp only [Bool.or_eq_true, decide_eq_true_eq] at this
    rcases this with h | h
    · omega
    · exact h
  · unfold hasZero at h2
    have := List.any_eq_false.1 h2 t ht
    simpa using this
theorem canonT_of_canon {ts : List Tm} (h : Canon ts) : canonT ts = ts := (canonT_unique h fun _ => rfl).symm
theorem canonT_append {x : List Tm} (y : List Tm) (h : Canon x) : canonT (x ++ y) = y.foldl addT x := by
  have h2 := canonT_of_canon h
  unfold canonT at h2 ⊢
  rw [List.foldl_append, h2]
theorem fold_succ2 (x ts : List Tm) (k : Nat) (h : k < ts.length) : (ts.take (k + 1)).foldl addT x = addT ((ts.take k).foldl addT x) ts[k] := by
  rw [List.take_succ_eq_append_getElem h, List.foldl_append]; rfl

/-- What SumAdd answers. -/
def addB (x y : List Tm) : Bool := sumB x && (sumB y && twB (canonT (x ++ y)))

set_option maxRecDepth 100000 in
set_option maxHeartbeats 4000000 in
theorem sSumAdd_no (a1 a2 : Option Addr) (c1 c2 n m : Nat) (x y : List Tm) (w : World) (hx : IsTerms w a1 n x) (hy : IsTerms w a2 m y) (hb : sumB x = false ∨ sumB y = false) :
    Calls Try.prog 24 #[.slice a1 n c1, .slice a2 m c2] w (STold w false []) := by
  have HX := Lib.hid hx
  have HY := Lib.hid hy
  clear hx hy
  cases hbx : sumB x with
  | false =>
    have HBX := Lib.hid hbx
    clear hbx hb
    go_enter Try.func24, Try.ntmps24
    go_wp2_with fail
    refine (sSumIn_is a1 c1 n x false _ HX.out HBX.out).mono ?_
    rintro e w1 ⟨rfl, hb1⟩
    have HB1 := Lib.hid hb1
    clear hb1
    go_wp2
    go_ret2
    exact ⟨⟨_, rfl, (ownEmpty w1).mono HB1.out.size⟩, HB1.out.alloc HB1.out.size _⟩
  | true =>
    have hby : sumB y = false := by rcases hb with h | h; · rw [h] at hbx; cases hbx
                                    · exact h
    have HBX := Lib.hid hbx
    have HBY := Lib.hid hby
    clear hbx hby hb
    go_enter Try.func24, Try.ntmps24
    go_wp2_with fail
    refine (sSumIn_is a1 c1 n x true _ HX.out HBX.out).mono ?_
    rintro e w1 ⟨rfl, hb1⟩
    have HB1 := Lib.hid hb1
    clear hb1
    go_wp2_with fail
    refine (sSumIn_is a2 c2 m y false _ (HY.out.below HB1.out) HBY.out).mono ?_
    rintro e w2 ⟨rfl, hb2⟩
    have HB2 := Lib.hid (HB1.out.trans (hb2.mono HB1.out.size))
    clear hb2
    go_wp2
    go_ret2
    exact ⟨⟨_, rfl, (ownEmpty w2).mono HB2.out.size⟩, HB2.out.alloc HB2.out.size _⟩

theorem acc_start {base : Nat} {w : World} {v : Value} {x : List Tm} (h : OwnTerms base w v x) (ht : twB x = true) : Acc base w v x 300 1000000 := by
  obtain ⟨h1, h2⟩ := canon_len_words ht
  exact ⟨h, h1, fun u hu => by have := (termB_iff (h2 u hu)).2; omega, fun u hu => (termB_iff (h2 u hu)).1⟩

theorem isTerms_cells {w : World} {ad : Addr} {n : Nat} {x : List Tm} (h : IsTerms w (some ad) n x) : ∀ j u, (termsV x)[j]? = some u → w.cell? (ad.add j) = some u := by
  intro j u hu
  rcases Nat.eq_zero_or_pos n with h0 | h0
  · have : x = [] := List.length_eq_zero_iff.1 (h.len.trans h0)
    subst this
    simp [termsV] at hu
  · obtain ⟨z, e, h2⟩ := h.at_ h0
    cases e
    exact h2.cells j u hu

set_option maxRecDepth 100000 in
set_option maxHeartbeats 4000000 in
theorem sSumAdd_yes (ad1 : Addr) (a2 : Option Addr) (c1 c2 n m : Nat) (x y : List Tm) (b : Bool) (w : World) (hx : IsTerms w (some ad1) n x) (hy : IsTerms w a2 m y) (hbx : sumB x = true) (hby : sumB y = true) (hb : twB (canonT (x ++ y)) = b) :
    Calls Try.prog 24 #[.slice (some ad1) n c1, .slice a2 m c2] w (STold w b (canonT (x ++ y))) := by
  obtain ⟨i0, hi, hz0, hz1, hz2⟩ := info_parts infoTerm
  obtain ⟨htx, hcx⟩ := sumB_parts hbx
  obtain ⟨hty, hcy⟩ := sumB_parts hby
  obtain ⟨hlx, hwx⟩ := canon_len_words htx
  obtain ⟨hly, hwy⟩ := canon_len_words hty
  have hn : n ≤ 300 := by rw [← hx.len]; exact hlx
  have hm : m ≤ 300 := by rw [← hy.len]; exact hly
  have HX := Lib.hid hx
  have HY := Lib.hid hy
  have HBX := Lib.hid hbx
  have HBY := Lib.hid hby
  have HTX := Lib.hid htx
  have HCX := Lib.hid hcx
  have HWY := Lib.hid hwy
  have HBB := Lib.hid hb
  have hmx : Try.prog.follows .mixedOrders = true := by kernel_rfl
  clear hx hy hbx hby htx hcx hty hcy hlx hwx hly hwy hb
  go_enter Try.func24, Try.ntmps24
  go_wp2_with fail
  refine (sSumIn_is (some ad1) c1 n x true _ HX.out HBX.out).mono ?_
  rintro e w1 ⟨rfl, hb1⟩
  have HB1 := Lib.hid hb1
  clear hb1
  go_wp2_with fail
  refine (sSumIn_is a2 c2 m y true _ (HY.out.below HB1.out) HBY.out).mono ?_
  rintro e w2 ⟨rfl, hb2⟩
  have HB2 := Lib.hid (HB1.out.trans (hb2.mono HB1.out.size))
  clear hb2
  have hmade := World.ownsRow_made (base := w2.heap.size) (e := TI) (size := 2) w2 #[] 0 (Nat.le_refl _) (Nat.zero_le _) rfl
  have hba : Below w2.heap.size w2 (w2.alloc (.cells #[] TI)) := (Below.refl _ _).alloc (Nat.le_refl _) _
  have HBA := Lib.hid hba
  have HXC := Lib.hid (isTerms_cells ((HX.out.below HB2.out).below hba))
  have HLX : Hid ((termsV x).length = n * 2) := Lib.hid (by rw [termsV_len, HX.out.len])
  clear hba
  go_wp2_with (at_builtin; refine wpList_append_own _ rfl _ _ 25 rfl w2.heap.size TI i0 (.agg #[.int .i64 0, .string ByteArray.empty]) 2 24 Try.underlying25 hi hz0 hz1 hz2 rfl (by decide) _ _ _ rfl hmade ad1 n c1 (termsV x) rfl HLX.out HXC.out (oneCell_terms _) (by unfold maxLen; omega) (by omega) (by simp) ?_)
  intro v1 w3 hown1 hgrow1 hnil1
  obtain ⟨g1, cap1, hg1, rfl⟩ := notNil hown1 hnil1
  have hown2 : OwnTerms w2.heap.size w3 (.slice (some ⟨g1, 0, none⟩) n cap1) x := by
    have hl := HX.out.len
    subst hl
    exact ⟨g1, cap1, rfl, hown1⟩
  have hb3 : Below w2.heap.size w2 w3 := HBA.out.grown hgrow1 (by simp) (fun k e => by simp [Value.ownBlock] at e; omega)
  have HO := Lib.hid (acc_start (hown2.mono HB2.out.size) HTX.out)
  have HB3 := Lib.hid (HB2.out.trans (hb3.mono HB2.out.size))
  clear hown1 hgrow1 hnil1 hown2 hb3 hmade
  go_wp2_with fail
  go_loopw [6, 7] (fun v i wr => ∃ k : Nat, k ≤ m ∧ i = .int .i64 k ∧ Hid (Acc w.heap.size wr v ((y.take k).foldl addT x) (300 + k) (1000000 + 1000000 * k)) ∧ Below w.heap.size w wr) (fun _ i _ => m - (intOf i).toNat)
  case atStart => exact ⟨0, Nat.zero_le _, rfl, Lib.hid (by simpa using HO.out), HB3.out⟩
  case round =>
    obtain ⟨k, hk, rfl, HA, hB⟩ := hrel
    by_cases hlt : k < m
    · have hky : k < y.length := by rw [HY.out.len]; exact hlt
      obtain ⟨z, rfl, hz⟩ := HY.out.at_ (by omega)
      obtain ⟨t, ht⟩ : ∃ t, y[k] = t := ⟨_, rfl⟩
      have hzw := hz.below hB
      have hc := hzw.2 k hky
      have hbz := hzw.1
      rw [ht, addr_next] at hc
      obtain ⟨c0, d1⟩ := hc
      have htb := termB_iff (HWY.out _ (List.getElem_mem hky))
      rw [ht] at htb
      have HT := Lib.hid ht
      have HTB := Lib.hid htb
      have HAcc := HA
      clear ht hz hzw htb
      go_wp2
      go_still_tail 11, hmx
      change wpList _ _ _ _ _ wr.drew
      go_wp2_with fail
      refine (step_any w.heap.size u6 _ (300 + k) (1000000 + 1000000 * k) 1000000 t.c t.s wr.drew (HAcc.out.below (Below.refl _ _).drew) (by omega) (by omega) (by omega) (by omega) HTB.out.2 HTB.out.1 hB.size).mono ?_
      rintro e w4 ⟨⟨v', rfl, ho⟩, hb4⟩
      have hB4 : Below w.heap.size w w4 := hB.trans (((Below.refl _ _).drew.trans hb4).mono hB.size)
      have HO := Lib.hid ho
      clear ho hb4
      go_wp2
      go_roundw
      case rel =>
        refine ⟨k + 1, by omega, by go_num, Lib.hid ?_, hB4⟩
        have h := HO.out
        rw [fold_succ2 x y k hky, HT.out]
        rw [show (1000000 : Int) + 1000000 * ((k + 1 : Nat) : Int) = 1000000 + 1000000 * k + 1000000 by omega]
        exact h
      case measure => simp [intOf]; omega
    · obtain rfl : k = m := by omega
      have hacc := HA.out
      rw [List.take_of_length_le (by rw [HY.out.len]; exact Nat.le_refl _), ← canonT_append y HCX.out] at hacc
      have HAcc := Lib.hid hacc
      have HSb : Hid (sumB (canonT (x ++ y)) = b) := Lib.hid (by rw [sumB_canon (canon_of _)]; exact HBB.out)
      clear hacc
      go_wp2_with fail
      refine (sDone_any w.heap.size u6 (canonT (x ++ y)) b wr HAcc.out.own (HAcc.out.small (by omega) (by omega)) hB.size HSb.out).mono ?_
      rintro e w2 ⟨⟨v', rfl, ho⟩, hb2⟩
      have HO := Lib.hid ho
      clear ho
      go_wp2
      go_ret2
      exact ⟨⟨_, rfl, HO.out⟩, hB.trans (hb2.mono hB.size)⟩

end Go.Proofs.Ytidmlppbmcphbaa

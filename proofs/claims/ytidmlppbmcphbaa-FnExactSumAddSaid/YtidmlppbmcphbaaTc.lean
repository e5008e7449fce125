/- The contracts of the model's 'l6In', 'l2Less', 'SumIn'. -/
import Derived.Test.YtidmlppbmcphbaaTb
import Derived.Test.YtidmlppbmcphbaaSc
import Derived.IntWalk
namespace Go.Proofs.Ytidmlppbmcphbaa
open Go.RowKit

def inR (a b c : Int) : Bool := decide (a ≤ c) && decide (c ≤ b)
/-- Shorter words first, of one length byte by byte. -/
def lessW (a b : ByteArray) : Bool := if a.size = b.size then Op.bytesLess a.toList b.toList else decide (a.size < b.size)
/-- Is the term at j as a sum wants it, beside the one ahead of it? -/
def goodAt (ts : List Tm) (j : Nat) : Bool :=
  (ts.getD j default).c != 0 && inR (-1000000) 1000000 (ts.getD j default).c && wordB (ts.getD j default).s.data.toList && (decide (j = 0) || lessW (ts.getD (j - 1) default).s (ts.getD j default).s)
def allGood (ts : List Tm) (n : Nat) : Bool := (List.range n).all (goodAt ts)
theorem allGood_succ (ts : List Tm) (n : Nat) : allGood ts (n + 1) = (allGood ts n && goodAt ts n) := by simp [allGood, List.range_succ]
theorem allGood_false (ts : List Tm) (n k : Nat) (hk : k < n) (h : goodAt ts k = false) : allGood ts n = false :=
  List.all_eq_false.2 ⟨k, List.mem_range.2 hk, by simp [h]⟩
/-- Is this a sum? -/
def sumB (ts : List Tm) : Bool := allGood ts ts.length && decide (ts.length ≤ 300)

theorem sumB_false (ts : List Tm) (k : Nat) (hk : k < ts.length) (h : goodAt ts k = false) : sumB ts = false := by
  unfold sumB; rw [allGood_false ts _ k hk h, Bool.false_and]
theorem goodAt_c (ts : List Tm) (k : Nat) (t : Tm) (ht : ts.getD k default = t) (h : t.c = 0) : goodAt ts k = false := by
  unfold goodAt; rw [ht, h]; rfl
theorem goodAt_r (ts : List Tm) (k : Nat) (t : Tm) (ht : ts.getD k default = t) (h : inR (-1000000) 1000000 t.c = false) : goodAt ts k = false := by
  unfold goodAt; rw [ht, h]; simp
theorem goodAt_w (ts : List Tm) (k : Nat) (t : Tm) (ht : ts.getD k default = t) (h : wordB t.s.data.toList = false) : goodAt ts k = false := by
  unfold goodAt; rw [ht, h]; simp
theorem goodAt_zero (ts : List Tm) (k : Nat) (t : Tm) (hk : k = 0) (ht : ts.getD k default = t) (h0 : ¬ t.c = 0) (h1 : inR (-1000000) 1000000 t.c = true) (h2 : wordB t.s.data.toList = true) : goodAt ts k = true := by
  unfold goodAt; rw [ht, h1, h2]; simp [h0, hk]
theorem goodAt_succ (ts : List Tm) (k : Nat) (t p : Tm) (hk : 0 < k) (ht : ts.getD k default = t) (hp : ts.getD (k - 1) default = p) (h0 : ¬ t.c = 0) (h1 : inR (-1000000) 1000000 t.c = true) (h2 : wordB t.s.data.toList = true) : goodAt ts k = lessW p.s t.s := by
  have h3 : ¬ k = 0 := by omega
  unfold goodAt; rw [ht, hp, h1, h2]; simp [h0, h3]

theorem l6In_any (c a b : Int) (w : World) :
    Calls Try.prog 54 #[.int .i64 c, .int .i64 a, .int .i64 b] w fun e w' => e = .returned (.bool (inR a b c)) ∧ w = w' := by
  by_cases h : a ≤ c
  · go_enter Try.func54, Try.ntmps54
    go_wp2
    go_ret
    exact ⟨ret_bool (by simp [inR, h]), rfl⟩
  · go_enter Try.func54, Try.ntmps54
    go_wp2
    go_ret
    exact ⟨ret_bool (by unfold inR; rw [decide_eq_false (by omega : ¬ a ≤ c)]; rfl), rfl⟩

theorem l2Less_any (a b : ByteArray) (w : World) :
    Calls Try.prog 56 #[.string a, .string b] w fun e w' => e = .returned (.bool (lessW a b)) ∧ w = w' := by
  by_cases h : a.size = b.size
  · go_enter Try.func56, Try.ntmps56
    go_wp2
    go_ret
    exact ⟨ret_bool (by unfold lessW; rw [if_pos h]), rfl⟩
  · have hne : (((a.size : Int) != (b.size : Int)) : Bool) = true := by simp; omega
    go_enter Try.func56, Try.ntmps56
    go_wp2
    go_ret
    exact ⟨ret_bool (by unfold lessW; rw [if_neg h]), rfl⟩

theorem l6In_is (c a b : Int) (r : Bool) (w : World) (h : inR a b c = r) :
    Calls Try.prog 54 #[.int .i64 c, .int .i64 a, .int .i64 b] w fun e w' => e = .returned (.bool r) ∧ Below w.heap.size w w' :=
  (l6In_any c a b w).mono fun _ _ ⟨h1, h2⟩ => ⟨by rw [h1, h], by rw [← h2]; exact Below.refl _ _⟩
theorem l2Less_is (a b : ByteArray) (r : Bool) (w : World) (h : lessW a b = r) :
    Calls Try.prog 56 #[.string a, .string b] w fun e w' => e = .returned (.bool r) ∧ Below w.heap.size w w' :=
  (l2Less_any a b w).mono fun _ _ ⟨h1, h2⟩ => ⟨by rw [h1, h], by rw [← h2]; exact Below.refl _ _⟩

set_option maxRecDepth 100000 in
set_option maxHeartbeats 2000000 in
theorem sSumIn_any (a : Option Addr) (cap n : Nat) (ts : List Tm) (w : World) (hs : IsTerms w a n ts) :
    Calls Try.prog 16 #[.slice a n cap] w fun e w' => e = .returned (.bool (sumB ts)) ∧ Below w.heap.size w w' := by
  have HN := Lib.hid hs.len
  have HS := Lib.hid hs
  have hm := hs.max
  have hmx : Try.prog.follows .mixedOrders = true := by kernel_rfl
  clear hs
  unfold maxLen at hm
  go_enter Try.func16, Try.ntmps16
  go_wp2
  go_loopw [3] (fun i wr => ∃ k : Nat, k ≤ n ∧ i = .int .i64 k ∧ Hid (allGood ts k = true) ∧ Below w.heap.size w wr) (fun i _ => n - (intOf i).toNat)
  case atStart => exact ⟨0, Nat.zero_le _, rfl, Lib.hid rfl, Below.refl _ _⟩
  case round =>
    obtain ⟨k, hk, rfl, HG, hB⟩ := hrel
    by_cases hlt : k < n
    · have hkz : k < ts.length := by rw [HN.out]; exact hlt
      obtain ⟨x, rfl, hx⟩ := HS.out.at_ (by omega)
      obtain ⟨t, ht⟩ : ∃ t, ts[k] = t := ⟨_, rfl⟩
      have hsm : t.s.size ≤ maxLen := by rw [← ht]; exact (HS.out.small _ (List.getElem_mem hkz)).1
      have hc := (hx.below hB).2 k hkz
      have hbx := (hx.below hB).1
      rw [ht, addr_next] at hc
      obtain ⟨c0, c1⟩ := hc
      have HT : Hid (ts.getD k default = t) := Lib.hid (by rw [List.getD_eq_getElem?_getD, List.getElem?_eq_getElem hkz, ht]; rfl)
      have HX := Lib.hid (hx.below hB)
      clear ht hx
      obtain ⟨V, hV⟩ : ∃ V, wr.alloc (.cells #[.int .i64 t.c, .string t.s] TI) = V := ⟨_, rfl⟩
      have hbV : Below wr.heap.size wr V := by rw [← hV]; exact (Below.refl _ _).alloc (Nat.le_refl _) _
      have hzV : V.heap.size = wr.heap.size + 1 := by rw [← hV]; simp
      have v0 := BelowBy.cell (w := V) (a := ⟨wr.heap.size, 0, none⟩) (by show wr.heap.size < _; omega) (by rw [← hV]; exact (World.cell?_alloc_at _ _ _ _ (by simp)).trans rfl : V.cell? ⟨wr.heap.size, 0, none⟩ = some (.int .i64 t.c))
      have v1 := BelowBy.cell (w := V) (a := ⟨wr.heap.size, 1, none⟩) (by show wr.heap.size < _; omega) (by rw [← hV]; exact (World.cell?_alloc_at _ _ _ _ (by simp)).trans rfl : V.cell? ⟨wr.heap.size, 1, none⟩ = some (.string t.s))
      have HV := Lib.hid hV
      have HZ := Lib.hid hzV
      clear hV hzV
      by_cases h0 : t.c = 0
      · have HC0 := Lib.hid h0
        have hz : (t.c == 0) = true := by rw [h0]; rfl
        clear h0
        go_wp2
        rw [HV.out]
        refine wp_region_below hmx (by kernel_rfl) ?_
        repeat (((with_reducible refine wpQuiet_step (fun K hK => ?_)); go_simp; first | ((with_reducible refine hK _ ?_); clear hK K) | (refine (if_neg (by decide)).mpr ?_; (with_reducible refine hK _ ?_); clear hK K) | (apply Exists.intro; (with_reducible refine ⟨fun _ => ?_, hK _ ?_⟩); (first | (go_at_call 54; exact Calls.bel (l6In_is _ _ _ _ _ HC.out)) | (go_at_call 55; exact Calls.bel (sWordIn_is _ _ _ hsm HW.out)) | (go_at_call 56; exact Calls.bel (l2Less_is _ _ _ _ HLs.out))); clear hK K)))
        with_reducible refine wpQuiet_nil ?_
        rintro W ⟨⟨_, hW⟩, rfl⟩
        have hBW : Below w.heap.size w W := hB.trans (((hbV.mono (Nat.le_refl _)).trans (hW.mono (by rw [HZ.out]; omega))).mono hB.size)
        clear v0 v1
        go_wp2
        go_ret
        exact ⟨ret_bool (sumB_false ts k hkz (by rw [goodAt_c ts k t HT.out HC0.out])).symm, hBW⟩
      · have hz : (t.c == 0) = false := by simpa using h0
        have HC0 := Lib.hid h0
        clear h0
        cases hc : inR (-1000000) 1000000 t.c with
        | false =>
          have HC := Lib.hid hc
          clear hc
          go_wp2
          rw [HV.out]
          refine wp_region_below hmx (by kernel_rfl) ?_
          repeat (((with_reducible refine wpQuiet_step (fun K hK => ?_)); go_simp; first | ((with_reducible refine hK _ ?_); clear hK K) | (refine (if_neg (by decide)).mpr ?_; (with_reducible refine hK _ ?_); clear hK K) | (apply Exists.intro; (with_reducible refine ⟨fun _ => ?_, hK _ ?_⟩); (first | (go_at_call 54; exact Calls.bel (l6In_is _ _ _ _ _ HC.out)) | (go_at_call 55; exact Calls.bel (sWordIn_is _ _ _ hsm HW.out)) | (go_at_call 56; exact Calls.bel (l2Less_is _ _ _ _ HLs.out))); clear hK K)))
          with_reducible refine wpQuiet_nil ?_
          rintro W ⟨⟨_, hW⟩, rfl⟩
          have hBW : Below w.heap.size w W := hB.trans (((hbV.mono (Nat.le_refl _)).trans (hW.mono (by rw [HZ.out]; omega))).mono hB.size)
          clear v0 v1
          go_wp2
          go_ret
          exact ⟨ret_bool (sumB_false ts k hkz (by rw [goodAt_r ts k t HT.out HC.out])).symm, hBW⟩
        | true =>
          have HC := Lib.hid hc
          clear hc
          cases hw : wordB t.s.data.toList with
          | false =>
            have HW := Lib.hid hw
            clear hw
            go_wp2
            rw [HV.out]
            refine wp_region_below hmx (by kernel_rfl) ?_
            repeat (((with_reducible refine wpQuiet_step (fun K hK => ?_)); go_simp; first | ((with_reducible refine hK _ ?_); clear hK K) | (refine (if_neg (by decide)).mpr ?_; (with_reducible refine hK _ ?_); clear hK K) | (apply Exists.intro; (with_reducible refine ⟨fun _ => ?_, hK _ ?_⟩); (first | (go_at_call 54; exact Calls.bel (l6In_is _ _ _ _ _ HC.out)) | (go_at_call 55; exact Calls.bel (sWordIn_is _ _ _ hsm HW.out)) | (go_at_call 56; exact Calls.bel (l2Less_is _ _ _ _ HLs.out))); clear hK K)))
            with_reducible refine wpQuiet_nil ?_
            rintro W ⟨⟨_, hW⟩, rfl⟩
            have hBW : Below w.heap.size w W := hB.trans (((hbV.mono (Nat.le_refl _)).trans (hW.mono (by rw [HZ.out]; omega))).mono hB.size)
            clear v0 v1
            go_wp2
            go_ret
            exact ⟨ret_bool (sumB_false ts k hkz (by rw [goodAt_w ts k t HT.out HW.out])).symm, hBW⟩
          | true =>
            have HW := Lib.hid hw
            clear hw
            by_cases hk0 : k = 0
            · have HK0 := Lib.hid hk0
              have hd : decide (0 < k) = false := by simp; omega
              clear hk0
              go_wp2
              rw [HV.out]
              refine wp_region_below hmx (by kernel_rfl) ?_
              repeat (((with_reducible refine wpQuiet_step (fun K hK => ?_)); go_simp; first | ((with_reducible refine hK _ ?_); clear hK K) | (refine (if_neg (by decide)).mpr ?_; (with_reducible refine hK _ ?_); clear hK K) | (apply Exists.intro; (with_reducible refine ⟨fun _ => ?_, hK _ ?_⟩); (first | (go_at_call 54; exact Calls.bel (l6In_is _ _ _ _ _ HC.out)) | (go_at_call 55; exact Calls.bel (sWordIn_is _ _ _ hsm HW.out)) | (go_at_call 56; exact Calls.bel (l2Less_is _ _ _ _ HLs.out))); clear hK K)))
              with_reducible refine wpQuiet_nil ?_
              rintro W ⟨⟨_, hW⟩, rfl⟩
              have hBW : Below w.heap.size w W := hB.trans (((hbV.mono (Nat.le_refl _)).trans (hW.mono (by rw [HZ.out]; omega))).mono hB.size)
              clear v0 v1
              go_wp2
              go_roundw
              case rel => exact ⟨k + 1, by omega, by go_num, Lib.hid (by rw [allGood_succ, HG.out, Bool.true_and]; exact goodAt_zero ts k t HK0.out HT.out HC0.out HC.out HW.out), hBW⟩
              case measure => simp [intOf]; omega
            · have HKp := Lib.hid (Nat.pos_of_ne_zero hk0)
              have hd : decide (0 < k) = true := by simp; omega
              obtain ⟨j, hj⟩ : ∃ j, k - 1 = j := ⟨_, rfl⟩
              have hjn : j < n := by omega
              have hjz : j < ts.length := by omega
              obtain ⟨p, hp⟩ : ∃ p, ts[j] = p := ⟨_, rfl⟩
              have hd0 := (HX.out.2 j hjz).2
              have hdb := HX.out.1
              have hwr : IntKind.i64.wrap ((k : Int) - 1) = (j : Int) := by rw [IntWalk.i64_in _ (by omega)]; omega
              have HP : Hid (ts.getD (k - 1) default = p) := Lib.hid (by rw [hj, List.getD_eq_getElem?_getD, List.getElem?_eq_getElem hjz, hp]; rfl)
              rw [hp, addr_next] at hd0
              have v2 := BelowBy.cell (w := V) (a := ⟨(x.add (j * 2)).block, (x.add (j * 2)).off + 1, none⟩) (by show (x.add (j * 2)).block < _; rw [addr_add_block]; rw [HZ.out]; omega) ((hbV.cell (p := ⟨(x.add (j * 2)).block, (x.add (j * 2)).off + 1, none⟩) (by show (x.add (j * 2)).block < _; rw [addr_add_block]; exact hdb)).trans hd0)
              clear hk0 hj hp hd0 hdb
              cases hl : lessW p.s t.s with
              | false =>
                have HLs := Lib.hid hl
                clear hl
                go_wp2
                rw [HV.out]
                refine wp_region_below hmx (by kernel_rfl) ?_
                repeat (((with_reducible refine wpQuiet_step (fun K hK => ?_)); go_simp; first | ((with_reducible refine hK _ ?_); clear hK K) | (refine (if_neg (by decide)).mpr ?_; (with_reducible refine hK _ ?_); clear hK K) | (apply Exists.intro; (with_reducible refine ⟨fun _ => ?_, hK _ ?_⟩); (first | (go_at_call 54; exact Calls.bel (l6In_is _ _ _ _ _ HC.out)) | (go_at_call 55; exact Calls.bel (sWordIn_is _ _ _ hsm HW.out)) | (go_at_call 56; exact Calls.bel (l2Less_is _ _ _ _ HLs.out))); clear hK K)))
                with_reducible refine wpQuiet_nil ?_
                rintro W ⟨⟨_, hW⟩, rfl⟩
                have hBW : Below w.heap.size w W := hB.trans (((hbV.mono (Nat.le_refl _)).trans (hW.mono (by rw [HZ.out]; omega))).mono hB.size)
                clear v0 v1 v2 hwr
                go_wp2
                go_ret
                exact ⟨ret_bool (sumB_false ts k hkz (by rw [goodAt_succ ts k t p HKp.out HT.out HP.out HC0.out HC.out HW.out]; exact HLs.out)).symm, hBW⟩
              | true =>
                have HLs := Lib.hid hl
                clear hl
                go_wp2
                rw [HV.out]
                refine wp_region_below hmx (by kernel_rfl) ?_
                repeat (((with_reducible refine wpQuiet_step (fun K hK => ?_)); go_simp; first | ((with_reducible refine hK _ ?_); clear hK K) | (refine (if_neg (by decide)).mpr ?_; (with_reducible refine hK _ ?_); clear hK K) | (apply Exists.intro; (with_reducible refine ⟨fun _ => ?_, hK _ ?_⟩); (first | (go_at_call 54; exact Calls.bel (l6In_is _ _ _ _ _ HC.out)) | (go_at_call 55; exact Calls.bel (sWordIn_is _ _ _ hsm HW.out)) | (go_at_call 56; exact Calls.bel (l2Less_is _ _ _ _ HLs.out))); clear hK K)))
                with_reducible refine wpQuiet_nil ?_
                rintro W ⟨⟨_, hW⟩, rfl⟩
                have hBW : Below w.heap.size w W := hB.trans (((hbV.mono (Nat.le_refl _)).trans (hW.mono (by rw [HZ.out]; omega))).mono hB.size)
                clear v0 v1 v2 hwr
                go_wp2
                go_roundw
                case rel => exact ⟨k + 1, by omega, by go_num, Lib.hid (by rw [allGood_succ, HG.out, Bool.true_and]; rw [goodAt_succ ts k t p HKp.out HT.out HP.out HC0.out HC.out HW.out]; exact HLs.out), hBW⟩
                case measure => simp [intOf]; omega
    · obtain rfl : k = n := by omega
      go_wp2
      go_ret
      exact ⟨ret_bool (by unfold sumB; rw [HN.out, HG.out, Bool.true_and, Bool.eq_iff_iff]; simp; omega), hB⟩

end Go.Proofs.Ytidmlppbmcphbaa

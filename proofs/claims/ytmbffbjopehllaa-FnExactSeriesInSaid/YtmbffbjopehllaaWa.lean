/- Monomials and series: what they are; the contracts of the model's 'l4Mono' and 'SeriesIn'. -/
import Derived.Test.YtmbffbjopehllaaVa
namespace Go.Proofs.Ytmbffbjopehllaa
open Go.RowKit

def genB (c : UInt8) : Bool := decide (97 ≤ c.toNat) && decide (c.toNat ≤ 100)
/-- Is this a monomial? -/
def monoB (s : ByteArray) : Bool := s.data.toList.all genB && decide (s.size ≤ 4)
theorem genB_false (s : ByteArray) (k : Nat) (hk : k < s.data.toList.length) (h : genB s.data.toList[k] = false) : monoB s = false := by
  unfold monoB; rw [List.all_eq_false.2 ⟨_, List.getElem_mem hk, by rw [h]; exact Bool.false_ne_true⟩]; rfl

set_option maxRecDepth 100000 in
set_option maxHeartbeats 1000000 in
theorem sMono_is (s : ByteArray) (b : Bool) (w : World) (hs : s.size ≤ maxLen) (hb : monoB s = b) :
    Calls Try.prog 35 #[.string s] w fun e w' => e = .returned (.bool b) ∧ Below w.heap.size w w' := by
  have HB := Lib.hid hb
  unfold maxLen at hs
  clear hb
  go_enter Try.func35, Try.ntmps35
  go_wp2
  go_loopw [3] (fun i wr => ∃ k : Nat, k ≤ s.size ∧ i = .int .i64 k ∧ Hid ((s.data.toList.take k).all genB = true) ∧ Below w.heap.size w wr) (fun i _ => s.size - (intOf i).toNat)
  case atStart => exact ⟨0, Nat.zero_le _, rfl, Lib.hid rfl, Below.refl _ _⟩
  case round =>
    obtain ⟨k, hk, rfl, HG, hB⟩ := hrel
    by_cases hlt : k < s.size
    · have hl : k < s.data.toList.length := by simpa using hlt
      have hstep : (s.data.toList.take (k + 1)).all genB = genB s[k] := by rw [take_snoc _ k hl, List.all_append, HG.out, Bool.true_and]; simp; rfl
      have HS := Lib.hid hstep
      have HF : Hid (genB s[k] = false → b = false) := Lib.hid fun h => by rw [← HB.out]; exact genB_false s k hl h
      clear hstep
      by_cases h1 : 97 ≤ s[k].toNat
      · by_cases h2 : s[k].toNat ≤ 100
        · have hg : genB s[k] = true := by unfold genB; rw [decide_eq_true h1, decide_eq_true h2]; rfl
          have HGT := Lib.hid hg
          clear hg
          go_wp2_with fail
          go_roundw
          case rel => exact ⟨k + 1, by omega, by go_num, Lib.hid (by rw [HS.out]; exact HGT.out), hB⟩
          case measure => simp [intOf]; omega
        · have hg : genB s[k] = false := by unfold genB; rw [decide_eq_false h2, Bool.and_false]
          have hbf := HF.out hg
          clear hg
          subst hbf
          go_wp2_with fail
          go_ret
          exact ⟨rfl, hB⟩
      · have hg : genB s[k] = false := by unfold genB; rw [decide_eq_false h1]; rfl
        have hbf := HF.out hg
        clear hg
        subst hbf
        go_wp2_with fail
        go_ret
        exact ⟨rfl, hB⟩
    · have hall : s.data.toList.all genB = true := by rw [← HG.out, List.take_of_length_le (by simp; omega)]
      have hbb : decide (s.size ≤ 4) = b := by rw [← HB.out]; unfold monoB; rw [hall, Bool.true_and]
      have HBB := Lib.hid hbb
      clear hbb hall
      go_wp2_with fail
      go_ret
      exact ⟨ret_bool (by rw [← HBB.out]; exact decide_eq_decide.2 (by omega)), hB⟩

/-- Is the term at j as a series wants it, beside the one ahead of it? -/
def serAt (ts : List Tm) (j : Nat) : Bool :=
  (ts.getD j default).c != 0 && inR (-1000000) 1000000 (ts.getD j default).c && monoB (ts.getD j default).s && (decide (j = 0) || lessW (ts.getD (j - 1) default).s (ts.getD j default).s)
def allSer (ts : List Tm) (n : Nat) : Bool := (List.range n).all (serAt ts)
theorem allSer_succ (ts : List Tm) (n : Nat) : allSer ts (n + 1) = (allSer ts n && serAt ts n) := by simp [allSer, List.range_succ]
theorem allSer_false (ts : List Tm) (n k : Nat) (hk : k < n) (h : serAt ts k = false) : allSer ts n = false :=
  List.all_eq_false.2 ⟨k, List.mem_range.2 hk, by simp [h]⟩
/-- Is this a series? -/
def serB (ts : List Tm) : Bool := allSer ts ts.length && decide (ts.length ≤ 400)

theorem serB_false (ts : List Tm) (k : Nat) (hk : k < ts.length) (h : serAt ts k = false) : serB ts = false := by
  unfold serB; rw [allSer_false ts _ k hk h, Bool.false_and]
theorem serAt_c (ts : List Tm) (k : Nat) (t : Tm) (ht : ts.getD k default = t) (h : t.c = 0) : serAt ts k = false := by
  unfold serAt; rw [ht, h]; rfl
theorem serAt_r (ts : List Tm) (k : Nat) (t : Tm) (ht : ts.getD k default = t) (h : inR (-1000000) 1000000 t.c = false) : serAt ts k = false := by
  unfold serAt; rw [ht, h]; simp
theorem serAt_w (ts : List Tm) (k : Nat) (t : Tm) (ht : ts.getD k default = t) (h : monoB t.s = false) : serAt ts k = false := by
  unfold serAt; rw [ht, h]; simp
theorem serAt_zero (ts : List Tm) (k : Nat) (t : Tm) (hk : k = 0) (ht : ts.getD k default = t) (h0 : ¬ t.c = 0) (h1 : inR (-1000000) 1000000 t.c = true) (h2 : monoB t.s = true) : serAt ts k = true := by
  unfold serAt; rw [ht, h1, h2]; simp [h0, hk]
theorem serAt_succ (ts : List Tm) (k : Nat) (t p : Tm) (hk : 0 < k) (ht : ts.getD k default = t) (hp : ts.getD (k - 1) default = p) (h0 : ¬ t.c = 0) (h1 : inR (-1000000) 1000000 t.c = true) (h2 : monoB t.s = true) : serAt ts k = lessW p.s t.s := by
  have h3 : ¬ k = 0 := by omega
  unfold serAt; rw [ht, hp, h1, h2]; simp [h0, h3]

set_option maxRecDepth 100000 in
set_option maxHeartbeats 2000000 in
theorem sSeriesIn_any (a : Option Addr) (cap n : Nat) (ts : List Tm) (w : World) (hs : IsTerms w a n ts) :
    Calls Try.prog 12 #[.slice a n cap] w fun e w' => e = .returned (.bool (serB ts)) ∧ Below w.heap.size w w' := by
  have HN := Lib.hid hs.len
  have HS := Lib.hid hs
  have hm := hs.max
  have hmx : Try.prog.follows .mixedOrders = true := by kernel_rfl
  clear hs
  unfold maxLen at hm
  go_enter Try.func12, Try.ntmps12
  go_wp2
  go_loopw [3] (fun i wr => ∃ k : Nat, k ≤ n ∧ i = .int .i64 k ∧ Hid (allSer ts k = true) ∧ Below w.heap.size w wr) (fun i _ => n - (intOf i).toNat)
  case atStart => exact ⟨0, Nat.zero_le _, rfl, Lib.hid rfl, Below.refl _ _⟩
  case round =>
    obtain ⟨k, hk, rfl, HG, hB⟩ := hrel
    by_cases hlt : k < n
    · have hkz : k < ts.length := by rw [HN.out]; exact hlt
      obtain ⟨x, rfl, hx⟩ := HS.out.at_ (by omega)
      obtain ⟨t, ht⟩ : ∃ t, ts[k] = t := ⟨_, rfl⟩
      have hsm : t.s.size ≤ maxLen := by rw [← ht]; exact (HS.out.small _ (List.getElem_mem hkz)).1
      have hc := (hx.below hB).2 k hkz
      have hbx := (hx.below hB).1
      rw [ht, addr_next] at hc
      obtain ⟨c0, c1⟩ := hc
      have HT : Hid (ts.getD k default = t) := Lib.hid (by rw [List.getD_eq_getElem?_getD, List.getElem?_eq_getElem hkz, ht]; rfl)
      have HX := Lib.hid (hx.below hB)
      clear ht hx
      obtain ⟨V, hV⟩ : ∃ V, wr.alloc (.cells #[.int .i64 t.c, .string t.s] TI) = V := ⟨_, rfl⟩
      have hbV : Below wr.heap.size wr V := by rw [← hV]; exact (Below.refl _ _).alloc (Nat.le_refl _) _
      have hzV : V.heap.size = wr.heap.size + 1 := by rw [← hV]; simp
      have v0 := BelowBy.cell (w := V) (a := ⟨wr.heap.size, 0, none⟩) (by show wr.heap.size < _; omega) (by rw [← hV]; exact (World.cell?_alloc_at _ _ _ _ (by simp)).trans rfl : V.cell? ⟨wr.heap.size, 0, none⟩ = some (.int .i64 t.c))
      have v1 := BelowBy.cell (w := V) (a := ⟨wr.heap.size, 1, none⟩) (by show wr.heap.size < _; omega) (by rw [← hV]; exact (World.cell?_alloc_at _ _ _ _ (by simp)).trans rfl : V.cell? ⟨wr.heap.size, 1, none⟩ = some (.string t.s))
      have HV := Lib.hid hV
      have HZ := Lib.hid hzV
      clear hV hzV
      by_cases h0 : t.c = 0
      · have HC0 := Lib.hid h0
        have hz : (t.c == 0) = true := by rw [h0]; rfl
        clear h0
        go_wp2
        rw [HV.out]
        refine wp_region_below hmx (by kernel_rfl) ?_
        repeat (((with_reducible refine wpQuiet_step (fun K hK => ?_)); go_simp; first | ((with_reducible refine hK _ ?_); clear hK K) | (refine (if_neg (by decide)).mpr ?_; (with_reducible refine hK _ ?_); clear hK K) | (apply Exists.intro; (with_reducible refine ⟨fun _ => ?_, hK _ ?_⟩); (first | (go_at_call 34; exact Calls.bel (l6In_is _ _ _ _ _ HC.out)) | (go_at_call 35; exact Calls.bel (sMono_is _ _ _ hsm HW.out)) | (go_at_call 36; exact Calls.bel (l2Less_is _ _ _ _ HLs.out))); clear hK K)))
        with_reducible refine wpQuiet_nil ?_
        rintro W ⟨⟨_, hW⟩, rfl⟩
        have hBW : Below w.heap.size w W := hB.trans (((hbV.mono (Nat.le_refl _)).trans (hW.mono (by rw [HZ.out]; omega))).mono hB.size)
        clear v0 v1
        go_wp2
        go_ret
        exact ⟨ret_bool (serB_false ts k hkz (by rw [serAt_c ts k t HT.out HC0.out])).symm, hBW⟩
      · have hz : (t.c == 0) = false := by simpa using h0
        have HC0 := Lib.hid h0
        clear h0
        cases hc : inR (-1000000) 1000000 t.c with
        | false =>
          have HC := Lib.hid hc
          clear hc
          go_wp2
          rw [HV.out]
          refine wp_region_below hmx (by kernel_rfl) ?_
          repeat (((with_reducible refine wpQuiet_step (fun K hK => ?_)); go_simp; first | ((with_reducible refine hK _ ?_); clear hK K) | (refine (if_neg (by decide)).mpr ?_; (with_reducible refine hK _ ?_); clear hK K) | (apply Exists.intro; (with_reducible refine ⟨fun _ => ?_, hK _ ?_⟩); (first | (go_at_call 34; exact Calls.bel (l6In_is _ _ _ _ _ HC.out)) | (go_at_call 35; exact Calls.bel (sMono_is _ _ _ hsm HW.out)) | (go_at_call 36; exact Calls.bel (l2Less_is _ _ _ _ HLs.out))); clear hK K)))
          with_reducible refine wpQuiet_nil ?_
          rintro W ⟨⟨_, hW⟩, rfl⟩
          have hBW : Below w.heap.size w W := hB.trans (((hbV.mono (Nat.le_refl _)).trans (hW.mono (by rw [HZ.out]; omega))).mono hB.size)
          clear v0 v1
          go_wp2
          go_ret
          exact ⟨ret_bool (serB_false ts k hkz (by rw [serAt_r ts k t HT.out HC.out])).symm, hBW⟩
        | true =>
          have HC := Lib.hid hc
          clear hc
          cases hw : monoB t.s with
          | false =>
            have HW := Lib.hid hw
            clear hw
            go_wp2
            rw [HV.out]
            refine wp_region_below hmx (by kernel_rfl) ?_
            repeat (((with_reducible refine wpQuiet_step (fun K hK => ?_)); go_simp; first | ((with_reducible refine hK _ ?_); clear hK K) | (refine (if_neg (by decide)).mpr ?_; (with_reducible refine hK _ ?_); clear hK K) | (apply Exists.intro; (with_reducible refine ⟨fun _ => ?_, hK _ ?_⟩); (first | (go_at_call 34; exact Calls.bel (l6In_is _ _ _ _ _ HC.out)) | (go_at_call 35; exact Calls.bel (sMono_is _ _ _ hsm HW.out)) | (go_at_call 36; exact Calls.bel (l2Less_is _ _ _ _ HLs.out))); clear hK K)))
            with_reducible refine wpQuiet_nil ?_
            rintro W ⟨⟨_, hW⟩, rfl⟩
            have hBW : Below w.heap.size w W := hB.trans (((hbV.mono (Nat.le_refl _)).trans (hW.mono (by rw [HZ.out]; omega))).mono hB.size)
            clear v0 v1
            go_wp2
            go_ret
            exact ⟨ret_bool (serB_false ts k hkz (by rw [serAt_w ts k t HT.out HW.out])).symm, hBW⟩
          | true =>
            have HW := Lib.hid hw
            clear hw
            by_cases hk0 : k = 0
            · have HK0 := Lib.hid hk0
              have hd : decide (0 < k) = false := by simp; omega
              clear hk0
              go_wp2
              rw [HV.out]
              refine wp_region_below hmx (by kernel_rfl) ?_
              repeat (((with_reducible refine wpQuiet_step (fun K hK => ?_)); go_simp; first | ((with_reducible refine hK _ ?_); clear hK K) | (refine (if_neg (by decide)).mpr ?_; (with_reducible refine hK _ ?_); clear hK K) | (apply Exists.intro; (with_reducible refine ⟨fun _ => ?_, hK _ ?_⟩); (first | (go_at_call 34; exact Calls.bel (l6In_is _ _ _ _ _ HC.out)) | (go_at_call 35; exact Calls.bel (sMono_is _ _ _ hsm HW.out)) | (go_at_call 36; exact Calls.bel (l2Less_is _ _ _ _ HLs.out))); clear hK K)))
              with_reducible refine wpQuiet_nil ?_
              rintro W ⟨⟨_, hW⟩, rfl⟩
              have hBW : Below w.heap.size w W := hB.trans (((hbV.mono (Nat.le_refl _)).trans (hW.mono (by rw [HZ.out]; omega))).mono hB.size)
              clear v0 v1
              go_wp2
              go_roundw
              case rel => exact ⟨k + 1, by omega, by go_num, Lib.hid (by rw [allSer_succ, HG.out, Bool.true_and]; exact serAt_zero ts k t HK0.out HT.out HC0.out HC.out HW.out), hBW⟩
              case measure => simp [intOf]; omega
            · have HKp := Lib.hid (Nat.pos_of_ne_zero hk0)
              have hd : decide (0 < k) = true := by simp; omega
              obtain ⟨j, hj⟩ : ∃ j, k - 1 = j := ⟨_, rfl⟩
              have hjn : j < n := by omega
              have hjz : j < ts.length := by omega
              obtain ⟨p, hp⟩ : ∃ p, ts[j] = p := ⟨_, rfl⟩
              have hd0 := (HX.out.2 j hjz).2
              have hdb := HX.out.1
              have hwr : IntKind.i64.wrap ((k : Int) - 1) = (j : Int) := by rw [IntWalk.i64_in _ (by omega)]; omega
              have HP : Hid (ts.getD (k - 1) default = p) := Lib.hid (by rw [hj, List.getD_eq_getElem?_getD, List.getElem?_eq_getElem hjz, hp]; rfl)
              rw [hp, addr_next] at hd0
              have v2 := BelowBy.cell (w := V) (a := ⟨(x.add (j * 2)).block, (x.add (j * 2)).off + 1, none⟩) (by show (x.add (j * 2)).block < _; rw [addr_add_block]; rw [HZ.out]; omega) ((hbV.cell (p := ⟨(x.add (j * 2)).block, (x.add (j * 2)).off + 1, none⟩) (by show (x.add (j * 2)).block < _; rw [addr_add_block]; exact hdb)).trans hd0)
              clear hk0 hj hp hd0 hdb
              cases hl : lessW p.s t.s with
              | false =>
                have HLs := Lib.hid hl
                clear hl
                go_wp2
                rw [HV.out]
                refine wp_region_below hmx (by kernel_rfl) ?_
                repeat (((with_reducible refine wpQuiet_step (fun K hK => ?_)); go_simp; first | ((with_reducible refine hK _ ?_); clear hK K) | (refine (if_neg (by decide)).mpr ?_; (with_reducible refine hK _ ?_); clear hK K) | (apply Exists.intro; (with_reducible refine ⟨fun _ => ?_, hK _ ?_⟩); (first | (go_at_call 34; exact Calls.bel (l6In_is _ _ _ _ _ HC.out)) | (go_at_call 35; exact Calls.bel (sMono_is _ _ _ hsm HW.out)) | (go_at_call 36; exact Calls.bel (l2Less_is _ _ _ _ HLs.out))); clear hK K)))
                with_reducible refine wpQuiet_nil ?_
                rintro W ⟨⟨_, hW⟩, rfl⟩
                have hBW : Below w.heap.size w W := hB.trans (((hbV.mono (Nat.le_refl _)).trans (hW.mono (by rw [HZ.out]; omega))).mono hB.size)
                clear v0 v1 v2 hwr
                go_wp2
                go_ret
                exact ⟨ret_bool (serB_false ts k hkz (by rw [serAt_succ ts k t p HKp.out HT.out HP.out HC0.out HC.out HW.out]; exact HLs.out)).symm, hBW⟩
              | true =>
                have HLs := Lib.hid hl
                clear hl
                go_wp2
                rw [HV.out]
                refine wp_region_below hmx (by kernel_rfl) ?_
                repeat (((with_reducible refine wpQuiet_step (fun K hK => ?_)); go_simp; first | ((with_reducible refine hK _ ?_); clear hK K) | (refine (if_neg (by decide)).mpr ?_; (with_reducible refine hK _ ?_); clear hK K) | (apply Exists.intro; (with_reducible refine ⟨fun _ => ?_, hK _ ?_⟩); (first | (go_at_call 34; exact Calls.bel (l6In_is _ _ _ _ _ HC.out)) | (go_at_call 35; exact Calls.bel (sMono_is _ _ _ hsm HW.out)) | (go_at_call 36; exact Calls.bel (l2Less_is _ _ _ _ HLs.out))); clear hK K)))
                with_reducible refine wpQuiet_nil ?_
                rintro W ⟨⟨_, hW⟩, rfl⟩
                have hBW : Below w.heap.size w W := hB.trans (((hbV.mono (Nat.le_refl _)).trans (hW.mono (by rw [HZ.out]; omega))).mono hB.size)
                clear v0 v1 v2 hwr
                go_wp2
                go_roundw
                case rel => exact ⟨k + 1, by omega, by go_num, Lib.hid (by rw [allSer_succ, HG.out, Bool.true_and]; rw [serAt_succ ts k t p HKp.out HT.out HP.out HC0.out HC.out HW.out]; exact HLs.out), hBW⟩
                case measure => simp [intOf]; omega
    · obtain rfl : k = n := by omega
      go_wp2
      go_ret
      exact ⟨ret_bool (by unfold serB; rw [HN.out, HG.out, Bool.true_and, Bool.eq_iff_iff]; simp; omega), hB⟩

end Go.Proofs.Ytmbffbjopehllaa

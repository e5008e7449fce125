/- The contracts of the program's 'ofSeries' and 'SeriesIn'. -/
import Derived.Test.YtmbffbjopehllaaZb
namespace Go.Proofs.Ytmbffbjopehllaa
open Go.RowKit Go.Shelf

attribute [local go_sem] Oper.semAt_some

/-- Is a term as a series wants it? -/
def okT (t : Tm) : Bool := monoB t.s && (inR (-1000000) 1000000 t.c && !(t.c == 0))
theorem all_mem {f g : Tm → Bool} : ∀ {l : List Tm}, (∀ t ∈ l, f t = g t) → l.all f = l.all g
  | [], _ => rfl
  | t :: r, h => by rw [List.all_cons, List.all_cons, h t (by simp), all_mem fun u hu => h u (List.mem_cons_of_mem _ hu)]
theorem serB_eq (ts : List Tm) : serB ts = (decide (ts.length ≤ 400) && (ascB ts && ts.all okT)) := by
  by_cases hc : Canon ts
  · rw [serB_canon hc, ascB_canon hc, Bool.true_and]
    unfold twS
    congr 1
    refine all_mem fun t ht => ?_
    unfold okT
    have : (t.c == 0) = false := by simpa using hc.2 t ht
    rw [this, Bool.not_false, Bool.and_true, Bool.and_comm]
  · have h1 : serB ts = false := by
      cases h : serB ts
      · rfl
      · exact absurd (serB_parts h).2.2 hc
    have h2 : (ascB ts && ts.all okT) = false := by
      cases h : (ascB ts && ts.all okT)
      · rfl
      · refine absurd ?_ hc
        simp only [Bool.and_eq_true] at h
        refine ⟨pairwise_lessW fun k hk hk0 => ?_, fun t ht => ?_⟩
        · have h3 := h.1
          unfold ascB at h3
          have := List.all_eq_true.1 h3 k (List.mem_range.2 hk)
          simp only [Bool.or_eq_true, decide_eq_true_eq] at this
          rcases this with h | h
          · omega
          · exact h
        · have := List.all_eq_true.1 h.2 t ht
          unfold okT at this
          simp only [Bool.and_eq_true, Bool.not_eq_true', beq_eq_false_iff_ne] at this
          exact this.2.2
    rw [h1, h2, Bool.and_false]

set_option maxHeartbeats 1000000 in
theorem ofSeries_is (t : Tm) (b : Bool) (w : World) (hs : t.s.size ≤ maxLen) (hb : okT t = b) :
    Calls Try.prog 40 #[.agg #[.int .i64 t.c, .string t.s]] w fun e w' => e = .returned (.bool b) ∧ Below w.heap.size w w' := by
  have HS := Lib.hid hs
  clear hs
  unfold okT at hb
  cases hm : monoB t.s with
  | false =>
    rw [hm] at hb
    obtain rfl : b = false := hb.symm
    have HM := Lib.hid hm
    clear hm hb
    obtain ⟨c, s⟩ := t
    go_enter Try.func40, Try.ntmps40
    go_wp2_with fail
    refine (known4_is s false _ HS.out HM.out).mono ?_
    rintro e w1 ⟨rfl, hb1⟩
    have HB1 := Lib.hid hb1
    clear hb1
    go_wp2
    go_ret
    exact ⟨rfl, ((Below.refl _ w).alloc (Nat.le_refl _) _).trans (HB1.out.mono (by simp))⟩
  | true =>
    rw [hm, Bool.true_and] at hb
    have HM := Lib.hid hm
    clear hm
    have hbx : ∀ w1, Below (w.alloc (.cells #[.int .i64 t.c, .string t.s] TI)).heap.size (w.alloc (.cells #[.int .i64 t.c, .string t.s] TI)) w1 → w1.cell? ⟨w.heap.size, 0, none⟩ = some (.int .i64 t.c) ∧ w1.cell? ⟨w.heap.size, 1, none⟩ = some (.string t.s) := fun w1 hb => by
      constructor
      · rw [hb.cell (p := ⟨w.heap.size, 0, none⟩) (by simp)]; exact (World.cell?_alloc_at _ _ _ _ (by simp)).trans rfl
      · rw [hb.cell (p := ⟨w.heap.size, 1, none⟩) (by simp)]; exact (World.cell?_alloc_at _ _ _ _ (by simp)).trans rfl
    have HBX := Lib.hid hbx
    clear hbx
    cases hr : inR (-1000000) 1000000 t.c with
    | false =>
      rw [hr] at hb
      obtain rfl : b = false := hb.symm
      have HR := Lib.hid hr
      clear hr hb
      obtain ⟨c, s⟩ := t
      go_enter Try.func40, Try.ntmps40
      go_wp2_with fail
      refine (known4_is s true _ HS.out HM.out).mono ?_
      rintro e w1 ⟨rfl, hb1⟩
      obtain ⟨x0, x1⟩ := HBX.out w1 hb1
      have HB1 := Lib.hid hb1
      clear hb1
      go_wp2_with fail
      refine (inRange_is ⟨c, s⟩ false _ HR.out).mono ?_
      rintro e w2 ⟨rfl, hb2⟩
      have HB2 := Lib.hid (HB1.out.trans (hb2.mono HB1.out.size))
      clear hb2
      go_wp2
      go_ret
      exact ⟨rfl, ((Below.refl _ w).alloc (Nat.le_refl _) _).trans (HB2.out.mono (by simp))⟩
    | true =>
      rw [hr, Bool.true_and] at hb
      have HR := Lib.hid hr
      clear hr
      obtain ⟨c, s⟩ := t
      obtain ⟨z, hz⟩ : ∃ z, (c == 0) = z := ⟨_, rfl⟩
      have hb' : (!z) = b := by rw [← hz]; exact hb
      have HZ := Lib.hid (show ∀ W, Calls Try.prog 70 #[.agg #[.int .i64 c, .string s]] W fun e w' => e = .returned (.bool z) ∧ Grew W w' from fun W => by rw [← hz]; exact isZero_any ⟨c, s⟩ W)
      clear hz hb
      go_enter Try.func40, Try.ntmps40
      go_wp2_with fail
      refine (known4_is s true _ HS.out HM.out).mono ?_
      rintro e w1 ⟨rfl, hb1⟩
      obtain ⟨x0, x1⟩ := HBX.out w1 hb1
      have HB1 := Lib.hid hb1
      clear hb1
      go_wp2_with fail
      refine (inRange_is ⟨c, s⟩ true _ HR.out).mono ?_
      rintro e w2 ⟨rfl, hb2⟩
      have HB2 := Lib.hid (HB1.out.trans (hb2.mono HB1.out.size))
      clear hb2 x0 x1
      obtain ⟨x0, x1⟩ := HBX.out w2 HB2.out
      go_wp2_with fail
      refine (HZ.out _).mono ?_
      rintro e w3 ⟨rfl, hb3⟩
      have HB3 := Lib.hid (HB2.out.trans (hb3.below.mono HB2.out.size))
      clear hb3 x0 x1
      go_wp2
      go_ret
      exact ⟨by first | rfl | exact ret_bool hb'.symm, ((Below.refl _ w).alloc (Nat.le_refl _) _).trans (HB3.out.mono (by simp))⟩

theorem all_take {ts : List Tm} {f : Tm → Bool} {k : Nat} (hk : k < ts.length) (h : (ts.take k).all f = true) (hf : f ts[k] = true) : (ts.take (k + 1)).all f = true := by
  rw [List.take_succ_eq_append_getElem hk, List.all_append, h]
  simp [hf]

set_option maxRecDepth 100000 in
set_option maxHeartbeats 2000000 in
theorem iSeriesIn_any (a : Option Addr) (cap n : Nat) (ts : List Tm) (w : World) (hs : IsTerms w a n ts) :
    Calls Try.prog 14 #[.slice a n cap] w fun e w' => e = .returned (.bool (serB ts)) ∧ Below w.heap.size w w' := by
  have hm := hs.max
  have hE := serB_eq ts
  rw [hs.len] at hE
  have HN := Lib.hid hs.len
  have HS := Lib.hid hs
  clear hs
  unfold maxLen at hm
  by_cases h4 : n ≤ 400
  · have hgt : decide ((400 : Int) < (n : Int)) = false := decide_eq_false (by omega)
    rw [decide_eq_true h4, Bool.true_and] at hE
    have HE := Lib.hid hE
    clear hE
    have hb2 : Below w.heap.size w (w.alloc (.cells #[.slice a n cap, .func (.func 38) #[] #[]] 54)) := (Below.refl _ w).alloc (Nat.le_refl _) _
    have HS2 := Lib.hid (HS.out.below hb2)
    have hn0 : w.heap.size < (w.alloc (.cells #[.slice a n cap, .func (.func 38) #[] #[]] 54)).heap.size := by simp
    have HA := Lib.hid (ascends_any w.heap.size a cap n ts (w.alloc (.cells #[.slice a n cap, .func (.func 38) #[] #[]] 54)) HS2.out hn0 ((World.cell?_alloc_at _ _ _ _ (by simp)).trans rfl) ((World.cell?_alloc_at _ _ _ _ (by simp)).trans rfl))
    have HB2 := Lib.hid hb2
    clear hb2 hn0
    cases h3 : ascB ts with
    | false =>
      have H3 := Lib.hid h3
      clear h3
      go_enter Try.func14, Try.ntmps14
      go_wp2_with fail
      refine HA.out.mono ?_
      rintro e w3 ⟨rfl, hb3⟩
      have H3' := H3.out
      rw [H3']
      clear H3'
      have HB3 := Lib.hid (HB2.out.trans (hb3.mono HB2.out.size))
      clear hb3
      go_wp2
      go_ret
      exact ⟨ret_bool (by rw [HE.out, H3.out]; rfl), HB3.out⟩
    | true =>
      have H3 := Lib.hid h3
      clear h3
      go_enter Try.func14, Try.ntmps14
      go_wp2_with fail
      refine HA.out.mono ?_
      rintro e w3 ⟨rfl, hb3⟩
      have H3' := H3.out
      rw [H3']
      clear H3'
      have HB3 := Lib.hid (HB2.out.trans (hb3.mono HB2.out.size))
      have HS3 := Lib.hid (HS2.out.below hb3)
      clear hb3
      go_wp2_with fail
      go_loopw [17] (fun i wr => ∃ k : Nat, k ≤ n ∧ i = .int .i64 k ∧ Hid ((ts.take k).all okT = true) ∧ Below w.heap.size w wr) (fun i _ => n - (intOf i).toNat)
      case atStart => exact ⟨0, Nat.zero_le _, rfl, Lib.hid rfl, HB3.out⟩
      case round =>
        obtain ⟨k, hk, rfl, HK, hB⟩ := hrel
        by_cases hlt : k < n
        · have hkz : k < ts.length := by rw [HN.out]; exact hlt
          obtain ⟨x, rfl, hx⟩ := HS.out.at_ (by omega)
          obtain ⟨t, ht⟩ : ∃ t, ts[k] = t := ⟨_, rfl⟩
          have hc := (hx.below hB).2 k hkz
          rw [ht, addr_next] at hc
          obtain ⟨hc0, hc1⟩ := hc
          have hsm : t.s.size ≤ maxLen := by rw [← ht]; exact (HS.out.small _ (List.getElem_mem hkz)).1
          have HT := Lib.hid ht
          have HSM := Lib.hid hsm
          have hwr := Lib.hid hB
          clear hx ht hsm hB
          cases hok : okT t with
          | false =>
            have HO := Lib.hid hok
            clear hok
            go_wp2_with fail
            refine (ofSeries_is t false _ HSM.out HO.out).mono ?_
            rintro e w4 ⟨rfl, hb4⟩
            have HB4 := Lib.hid hb4
            clear hb4
            go_wp2
            go_ret
            refine ⟨ret_bool ?_, (hwr.out.alloc hwr.out.size _).trans (HB4.out.mono (by have := hwr.out.size; simp; omega))⟩
            rw [HE.out, H3.out, Bool.true_and]
            exact (List.all_eq_false.2 ⟨t, by rw [← HT.out]; exact List.getElem_mem hkz, by rw [HO.out]; exact Bool.false_ne_true⟩).symm
          | true =>
            have HO := Lib.hid hok
            clear hok
            go_wp2_with fail
            refine (ofSeries_is t true _ HSM.out HO.out).mono ?_
            rintro e w4 ⟨rfl, hb4⟩
            have HB4 := Lib.hid hb4
            clear hb4
            go_wp2
            go_roundw
            case rel => exact ⟨k + 1, by omega, by go_num, Lib.hid (all_take hkz HK.out (by rw [HT.out]; exact HO.out)), (hwr.out.alloc hwr.out.size _).trans (HB4.out.mono (by have := hwr.out.size; simp; omega))⟩
            case measure => simp [intOf]; omega
        · obtain rfl : k = n := by omega
          have hall : ts.all okT = true := by have := HK.out; rwa [List.take_of_length_le (by rw [HN.out]; exact Nat.le_refl _)] at this
          have HL := Lib.hid hall
          clear hall
          go_wp2
          go_ret
          exact ⟨ret_bool (by rw [HE.out, H3.out, HL.out]; rfl), hB⟩
  · have hgt : decide ((400 : Int) < (n : Int)) = true := decide_eq_true (by omega)
    rw [decide_eq_false h4, Bool.false_and] at hE
    have HE := Lib.hid hE
    clear hE
    go_enter Try.func14, Try.ntmps14
    go_wp2
    go_ret
    exact ⟨ret_bool HE.out.symm, (Below.refl _ w).alloc (Nat.le_refl _) _⟩
theorem iSeriesIn_is (a : Option Addr) (cap n : Nat) (ts : List Tm) (b : Bool) (w : World) (hs : IsTerms w a n ts) (hb : serB ts = b) :
    Calls Try.prog 14 #[.slice a n cap] w fun e w' => e = .returned (.bool b) ∧ Below w.heap.size w w' := by rw [← hb]; exact iSeriesIn_any a cap n ts w hs

end Go.Proofs.Ytmbffbjopehllaa

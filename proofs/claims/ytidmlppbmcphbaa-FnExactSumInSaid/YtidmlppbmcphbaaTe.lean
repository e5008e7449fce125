/- The contracts of the program's 'termWords', 'isZero', 'inRange'. -/
import Derived.Test.YtidmlppbmcphbaaTd
import Derived.Test.YtidmlppbmcphbaaIw
namespace Go.Proofs.Ytidmlppbmcphbaa
open Go.RowKit Go.Shelf

/-- Is a term as SumOf wants it? -/
def termB (t : Tm) : Bool := wordB t.s.data.toList && inR (-1000000) 1000000 t.c
def twB (ts : List Tm) : Bool := decide (ts.length ≤ 300) && ts.all termB
theorem twB_len {ts : List Tm} (h : ¬ ts.length ≤ 300) : twB ts = false := by unfold twB; rw [decide_eq_false h, Bool.false_and]
theorem twB_at {ts : List Tm} {k : Nat} (hk : k < ts.length) (h : termB ts[k] = false) : twB ts = false := by
  unfold twB
  rw [Bool.and_eq_false_iff]
  exact .inr (List.all_eq_false.2 ⟨_, List.getElem_mem hk, by simp [h]⟩)
theorem twB_of {ts : List Tm} (h : ts.length ≤ 300) (ha : ∀ j (hj : j < ts.length), termB ts[j] = true) : twB ts = true := by
  unfold twB
  rw [decide_eq_true h, Bool.true_and]
  exact List.all_eq_true.2 fun t ht => by
    obtain ⟨j, hj, rfl⟩ := List.getElem_of_mem ht
    exact ha j hj

theorem inRange_is (t : Tm) (r : Bool) (w : World) (h : inR (-1000000) 1000000 t.c = r) :
    Calls Try.prog 88 #[.agg #[.int .i64 t.c, .string t.s]] w fun e w' => e = .returned (.bool r) ∧ Below w.heap.size w w' := by
  subst h
  obtain ⟨c, s⟩ := t
  by_cases h : -1000000 ≤ c
  · go_enter Try.func88, Try.ntmps88
    go_wp2
    go_ret
    exact ⟨ret_bool (by unfold inR; rw [decide_eq_true h]; simp), (Below.refl _ _).alloc (Nat.le_refl _) _⟩
  · go_enter Try.func88, Try.ntmps88
    go_wp2
    go_ret
    exact ⟨ret_bool (by unfold inR; rw [decide_eq_false (by omega : ¬ -1000000 ≤ c)]; rfl), (Below.refl _ _).alloc (Nat.le_refl _) _⟩

theorem isZero_any (t : Tm) (w : World) :
    Calls Try.prog 85 #[.agg #[.int .i64 t.c, .string t.s]] w fun e w' => e = .returned (.bool (t.c == 0)) ∧ Grew w w' := by
  obtain ⟨c, s⟩ := t
  go_enter Try.func85, Try.ntmps85
  go_wp2
  go_ret
  exact ⟨rfl, (Grew.refl w).alloc _⟩

set_option maxRecDepth 100000 in
set_option maxHeartbeats 1000000 in
theorem termWords_any (a : Option Addr) (cap n : Nat) (ts : List Tm) (w : World) (hs : IsTerms w a n ts) :
    Calls Try.prog 62 #[.slice a n cap] w fun e w' =>
      ((e = .returned (.tuple #[.slice none 0 0, .bool false]) ∧ twB ts = false) ∨
       (∃ g vals, e = .returned (.tuple #[.slice (some ⟨g, 0, none⟩) n n, .bool true]) ∧ twB ts = true ∧ w'.ownsRow w.heap.size WT 1 (.slice (some ⟨g, 0, none⟩) n n) n vals ∧
        ∀ j (h : j < ts.length) v, vals[j]? = some v → WordAt w.heap.size w' v ts[j].s.data.toList)) ∧ Below w.heap.size w w' := by
  have hm := hs.max
  have HN := Lib.hid hs.len
  have HS := Lib.hid hs
  clear hs
  unfold maxLen at hm
  by_cases h300 : n ≤ 300
  · obtain ⟨i0, hi, hz0, hz1, hz2⟩ := info_parts infoWord
    go_enter Try.func62, Try.ntmps62
    go_wp2_with (at_make; refine wpList_make_full _ rfl _ _ 66 rfl w.heap.size 74 i0 (.slice none 0 0) 1 Try.underlying66 hi hz0 hz1 .i64 .i64 _ _ n rfl rfl rfl rfl (by rw [hz2]; omega) (by unfold maxLen; omega) (Nat.le_refl _) ?_; intro w1 hrow hgrow)
    have hB1 : Below w.heap.size w w1 := (Below.refl _ _).grown hgrow (Nat.le_refl _) (fun k e => by cases e)
    have hgs1 := (ownsRow_cap hrow).2.2.2
    go_loopw [17] (fun i wr => ∃ (k : Nat) (vals : List Value), k ≤ n ∧ i = .int .i64 k ∧ wr.ownsRow w.heap.size WT 1 (.slice (some ⟨w.heap.size, 0, none⟩) n n) n vals ∧ Hid (∀ j (h : j < ts.length), j < k → termB ts[j] = true ∧ ∀ v, vals[j]? = some v → WordAt (w.heap.size + 1) wr v ts[j].s.data.toList) ∧ Below w.heap.size w wr)
      (fun i _ => n - (intOf i).toNat)
    case atStart => exact ⟨0, _, Nat.zero_le _, rfl, hrow, Lib.hid (fun j _ h => absurd h (Nat.not_lt_zero _)), hB1⟩
    case round =>
      obtain ⟨k, vals, hk, rfl, hr, HV, hB⟩ := hrel
      by_cases hlt : k < n
      · have hkz : k < ts.length := by rw [HN.out]; exact hlt
        obtain ⟨x, rfl, hx⟩ := HS.out.at_ (by omega)
        obtain ⟨t, ht⟩ : ∃ t, ts[k] = t := ⟨_, rfl⟩
        have hsm : t.s.size ≤ maxLen := by rw [← ht]; exact (HS.out.small _ (List.getElem_mem hkz)).1
        have hc := (hx.below hB).2 k hkz
        rw [ht, addr_next] at hc
        obtain ⟨c0, c1⟩ := hc
        have HT := Lib.hid ht
        have hgs := (ownsRow_cap hr).2.2.2
        have HR := Lib.hid hr
        clear hr ht hx
        cases hw : wordB t.s.data.toList with
        | true =>
          have HW := Lib.hid hw
          clear hw
          go_wp2_with fail
          refine (wordOf_yes t.s _ HW.out).mono ?_
          rintro e w2 ⟨g, cap2, rfl, hown, hb2⟩
          have hb2' : Below wr.heap.size wr w2 := ((Below.refl _ wr).alloc (Nat.le_refl _) (.cells #[.int .i64 t.c, .string t.s] TI)).trans (hb2.mono (by simp))
          have hs2 : wr.heap.size + 1 ≤ w2.heap.size := by have := hb2.size; simpa using this
          have d0 : w2.cell? ⟨wr.heap.size, 0, none⟩ = some (.int .i64 t.c) := (hb2.cell (p := ⟨wr.heap.size, 0, none⟩) (by show wr.heap.size < _; simp)).trans ((World.cell?_alloc_at _ _ _ _ (by simp)).trans rfl)
          have d1 : w2.cell? ⟨wr.heap.size, 1, none⟩ = some (.string t.s) := (hb2.cell (p := ⟨wr.heap.size, 1, none⟩) (by show wr.heap.size < _; simp)).trans ((World.cell?_alloc_at _ _ _ _ (by simp)).trans rfl)
          have hr2 : w2.ownsRow w.heap.size WT 1 (.slice (some ⟨w.heap.size, 0, none⟩) n n) n vals := HR.out.kept ⟨hb2'.os, hb2'.tape, hb2'.output, hb2'.size, fun j hj _ => hb2'.block j hj⟩ (row := none) (.inr (by simp [Value.ownBlock]))
          have hWA : WordAt (w.heap.size + 1) w2 (.slice (some ⟨g, 0, none⟩) t.s.size cap2) t.s.data.toList := by
            obtain ⟨h1, h2⟩ := letters_of_owns hown
            have h3 := (ownsRow_cap hown).2.2.1
            simp only [World.size_alloc] at h3
            exact ⟨g, cap2, by simp, by omega, h1, by have := ((wordB_iff _).1 HW.out).1; exact this, fun j hj => by have := h2 j hj; rw [Nat.zero_add] at this; exact this⟩
          have hB2 : Below w.heap.size w w2 := hB.trans (hb2'.mono hB.size)
          cases hr3 : inR (-1000000) 1000000 t.c with
          | false =>
            have HRg := Lib.hid hr3
            clear hr3 hown hr2 hWA hb2
            go_wp2_with fail
            refine (inRange_is t false _ HRg.out).mono ?_
            rintro e w3 ⟨rfl, hb3⟩
            go_wp2_with fail
            go_ret2
            exact ⟨.inl ⟨rfl, twB_at hkz (by rw [HT.out]; unfold termB; rw [HRg.out, Bool.and_false])⟩, hB2.trans (hb3.mono hB2.size)⟩
          | true =>
            have HRg := Lib.hid hr3
            clear hr3 hown
            have HWA := Lib.hid hWA
            have HB2 := Lib.hid hb2'
            have HR2 := Lib.hid hr2
            clear hr2 hWA hb2'
            go_wp2_with fail
            refine (inRange_is t true _ HRg.out).mono ?_
            rintro e w3 ⟨rfl, hb3⟩
            have hr3 : w3.ownsRow w.heap.size WT 1 (.slice (some ⟨w.heap.size, 0, none⟩) n n) n vals := HR2.out.kept ⟨hb3.os, hb3.tape, hb3.output, hb3.size, fun j hj _ => hb3.block j hj⟩ (row := none) (.inr (by simp [Value.ownBlock]))
            have hB3 : Below w.heap.size w w3 := hB2.trans (hb3.mono hB2.size)
            obtain ⟨u, hu⟩ : ∃ u, w3.cell? ⟨w.heap.size, k, none⟩ = some u := by
              have hl := hr3.1
              rw [Nat.mul_one] at hl
              rw [hr3.cellAt k (by omega)]
              exact ⟨vals[k]'(by omega), List.getElem?_eq_getElem (by omega)⟩
            have hfr := hr3.frozenAt k
            have HR3 := Lib.hid hr3
            have HB3 := Lib.hid (HB2.out.trans (hb3.mono HB2.out.size))
            have HW3 := Lib.hid (HWA.out.below hb3)
            clear hr3 hb3
            go_wp2_with fail
            go_roundw
            case rel =>
              have hst := HR3.out.stored k (.slice (some ⟨g, 0, none⟩) t.s.size cap2)
              refine ⟨k + 1, _, by omega, by go_num, hst.1, Lib.hid ?_, hB3.setCell (p := ⟨w.heap.size, k, none⟩) (Nat.le_refl _) _⟩
              intro j hj hjk
              by_cases hjk2 : j = k
              · subst hjk2
                refine ⟨by rw [HT.out]; unfold termB; rw [HW.out, HRg.out]; rfl, fun v hv => ?_⟩
                have hl := HR3.out.1
                rw [Nat.mul_one] at hl
                rw [List.getElem?_set_self (by omega)] at hv
                cases hv
                rw [HT.out]
                exact HW3.out.setCell (by show w.heap.size < w.heap.size + 1; omega) _
              · obtain ⟨q1, q2⟩ := HV.out j hj (by omega)
                refine ⟨q1, fun v hv => ?_⟩
                rw [List.getElem?_set_ne (by omega)] at hv
                exact ((q2 v hv).below HB3.out).setCell (by show w.heap.size < w.heap.size + 1; omega) _
            case measure => simp [intOf]; omega
        | false =>
          have HW := Lib.hid hw
          clear hw
          go_wp2_with fail
          refine (wordOf_no t.s _ hsm HW.out).mono ?_
          rintro e w2 ⟨rfl, hb2⟩
          have hb2' : Below wr.heap.size wr w2 := ((Below.refl _ wr).alloc (Nat.le_refl _) (.cells #[.int .i64 t.c, .string t.s] TI)).trans (hb2.mono (by simp))
          clear hb2
          go_wp2_with fail
          go_ret2
          exact ⟨.inl ⟨rfl, twB_at hkz (by rw [HT.out]; unfold termB; rw [HW.out]; rfl)⟩, hB.trans (hb2'.mono hB.size)⟩
      · obtain rfl : k = n := by omega
        have HR := Lib.hid hr
        clear hr
        go_wp2_with fail
        go_ret2
        refine ⟨.inr ⟨w.heap.size, vals, rfl, twB_of (by rw [HN.out]; exact h300) (fun j hj => (HV.out j hj (by rw [← HN.out]; exact hj)).1), HR.out, fun j hj v hv => ?_⟩, hB⟩
        obtain ⟨g, cap2, h1, h2, h3⟩ := (HV.out j hj (by rw [← HN.out]; exact hj)).2 v hv
        exact ⟨g, cap2, h1, by omega, h3⟩
  · have h300' : 300 < n := by omega
    go_enter Try.func62, Try.ntmps62
    go_wp2
    go_ret2
    exact ⟨.inl ⟨rfl, twB_len (by rw [HN.out]; omega)⟩, Below.refl _ _⟩

end Go.Proofs.Ytidmlppbmcphbaa

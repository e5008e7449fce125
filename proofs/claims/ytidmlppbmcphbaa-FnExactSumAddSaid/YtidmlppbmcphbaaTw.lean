/- The contract of slices.DeleteFunc at 'isZero'. -/
import Derived.Test.YtidmlppbmcphbaaTv
import Derived.Lib.SliceRun
namespace Go.Proofs.Ytidmlppbmcphbaa
open Go.RowKit Go.Shelf

/-- A shorter slice of the same row. -/
theorem ownsRow_shorter {w : World} {base : Nat} {e : TypeId} {size g n k cap : Nat} {xs : List Value} (h : w.ownsRow base e size (.slice (some ⟨g, 0, none⟩) n cap) n xs) (hk : k ≤ n) :
    w.ownsRow base e size (.slice (some ⟨g, 0, none⟩) k cap) k (xs.take (k * size)) := by
  have hks : k * size ≤ n * size := Nat.mul_le_mul_right _ hk
  rcases h.2 with ⟨h', _⟩ | ⟨g', cap', cur, h', hb, hg, hnc, hcm, hcs, htake⟩
  · simp at h'
  · simp only [Value.slice.injEq, Option.some.injEq, Addr.mk.injEq, and_true, true_and] at h'
    obtain ⟨rfl, rfl⟩ := h'
    refine ⟨by rw [List.length_take, h.1]; omega, .inr ⟨g, cap, cur, rfl, hb, hg, by omega, hcm, hcs, ?_⟩⟩
    rw [← htake, List.take_take, Nat.min_eq_left hks]
/-- Stores behind the first m cells. -/
theorem ownsRow_behind {base : Nat} {e : TypeId} {size g n cap m : Nat} : ∀ (vs : List Value) (o : Nat) {w : World} {xs : List Value}, w.ownsRow base e size (.slice (some ⟨g, 0, none⟩) n cap) n xs → m ≤ o →
    ∃ ys, (w.setCells g o vs).ownsRow base e size (.slice (some ⟨g, 0, none⟩) n cap) n ys ∧ ys.take m = xs.take m
  | [], _, _, xs, h, _ => ⟨xs, h, rfl⟩
  | v :: r, o, w, xs, h, hm => by
    obtain ⟨ys, h1, h2⟩ := ownsRow_behind (m := m) r (o + 1) (h.stored o v).1 (by omega)
    refine ⟨ys, h1, h2.trans ?_⟩
    rw [List.take_set, List.set_eq_of_length_le (by rw [List.length_take]; omega)]
theorem below_cells {B g : Nat} (hg : B ≤ g) : ∀ (vs : List Value) (o : Nat) {w0 w : World}, Below B w0 w → Below B w0 (w.setCells g o vs)
  | [], _, _, _, h => h
  | v :: r, o, _, _, h => below_cells hg r (o + 1) (h.setCell (p := ⟨g, o, none⟩) hg v)

/-- 'clear' at a slice of terms. -/
theorem clear_terms {P : Program} (w : World) (t : TypeId) (ht : P.underlying t = some (.slice TI)) (hv : ∀ w, (zeroValue TI).run P w = .ok (.agg #[.int .i64 0, .string ByteArray.empty]) w) (b o n c : Nat) (hn : 0 < n)
    (hc : ∀ j, j < n * 2 → (w.cell? ⟨b, o + j, none⟩).isSome = true) (hf : ∀ j, w.frozen? ⟨b, j, none⟩ = false) :
    ∃ vs, ∀ ty, (Builtin.clear_ #[t] ty #[.slice (some ⟨b, o, none⟩) n c]).run P w = .ok (.tuple #[]) (w.setCells b o vs) := by
  refine ⟨(Builtin.zeroCells #[.int .i64 0, .string ByteArray.empty] n).toList, fun ty => ?_⟩
  have hlen : (Builtin.zeroCells #[.int .i64 0, .string ByteArray.empty] n).toList.length = n * 2 := by simp [Builtin.zeroCells]
  have hst := run_storeCells_cells (P := P) b o (Builtin.zeroCells #[.int .i64 0, .string ByteArray.empty] n).toList 0 w (by rw [hlen]; simpa using hc) (fun j _ => hf _) (by
    intro u hu
    simp only [Builtin.zeroCells, Array.toList_map, List.mem_map] at hu
    obtain ⟨i, _, rfl⟩ := hu
    have h2 : i % 2 < 2 := Nat.mod_lt _ (by omega)
    rcases (by omega : i % 2 = 0 ∨ i % 2 = 1) with h | h
    · simp [h, Value.oneCell']
    · simp [h, Value.oneCell'])
  simp only [Nat.add_zero] at hst
  obtain ⟨m, rfl⟩ : ∃ m, n = m + 1 := ⟨n - 1, by omega⟩
  simp [Builtin.clear_, run_underlying ht, hv, Value.cells, hst]

abbrev nzT (ts : List Tm) : List Tm := ts.filter fun t => !(t.c == 0)
theorem nzT_all {ts : List Tm} (h : ∀ j (h : j < ts.length), ts[j].c ≠ 0) : nzT ts = ts := by
  refine List.filter_eq_self.2 fun t ht => ?_
  obtain ⟨j, hj, rfl⟩ := List.getElem_of_mem ht
  simpa using h j hj
theorem nzT_first {ts : List Tm} {i : Nat} (hi : i < ts.length) (h0 : ts[i].c = 0) (h : ∀ j (h : j < i), ts[j].c ≠ 0) : nzT (ts.take (i + 1)) = ts.take i := by
  rw [List.take_add_one, List.getElem?_eq_getElem hi]
  unfold nzT
  rw [List.filter_append]
  have h1 : (ts.take i).filter (fun t => !(t.c == 0)) = ts.take i := nzT_all fun j hj => by
    rw [List.length_take] at hj
    rw [List.getElem_take]
    exact h j (by omega)
  rw [h1]
  simp [h0]
theorem nzT_step {ts : List Tm} {j : Nat} {t : Tm} (hj : j < ts.length) (ht : ts[j] = t) : nzT (ts.take (j + 1)) = nzT (ts.take j) ++ (if t.c = 0 then [] else [t]) := by
  rw [List.take_add_one, List.getElem?_eq_getElem hj]
  unfold nzT
  rw [List.filter_append, ht]
  by_cases h : t.c = 0 <;> simp [h]
theorem nzT_len (ts : List Tm) (j : Nat) : (nzT (ts.take j)).length ≤ j := Nat.le_trans (List.length_filter_le _ _) (by rw [List.length_take]; omega)

/-- The terms kept so far, and the rest as it was. -/
structure Kept (base : Nat) (w : World) (g cap n i j : Nat) (ts us : List Tm) : Prop where
  own : w.ownsRow base TI 2 (.slice (some ⟨g, 0, none⟩) n cap) n (termsV us)
  len : us.length = n
  head : us.take i = nzT (ts.take j)
  tail : us.drop j = ts.drop j
  hi : i < j
  hj : j ≤ n
theorem Kept.below {base : Nat} {w w' : World} {g cap n i j : Nat} {ts us : List Tm} (h : Kept base w g cap n i j ts us) (hb : Below w.heap.size w w') : Kept base w' g cap n i j ts us :=
  ⟨by have := h.own; rw [← h.len] at this ⊢; exact OwnT.below this hb, h.len, h.head, h.tail, h.hi, h.hj⟩
theorem Kept.at_ {base : Nat} {w : World} {g cap n i j : Nat} {ts us : List Tm} (h : Kept base w g cap n i j ts us) (hjn : j < n) (hz : j < ts.length) :
    w.cell? ⟨g, j * 2, none⟩ = some (.int .i64 ts[j].c) ∧ w.cell? ⟨g, j * 2 + 1, none⟩ = some (.string ts[j].s) := by
  have hta := termsAt_of_owns (ts := us) (g := g) (cap := cap) rfl (by rw [h.len]; exact h.own)
  have hju : j < us.length := by rw [h.len]; exact hjn
  obtain ⟨h1, h2⟩ := hta.2 j hju
  have e : us[j] = ts[j] := by
    have := congrArg (·[0]?) h.tail
    simp only [List.getElem?_drop, Nat.add_zero, List.getElem?_eq_getElem hju, List.getElem?_eq_getElem hz] at this
    exact Option.some.inj this
  rw [e] at h1 h2
  rw [add_off] at h1 h2
  exact ⟨h1, h2⟩
theorem set_terms (us : List Tm) (i : Nat) (t : Tm) (hi : i < us.length) : ((termsV us).set (i * 2) (.int .i64 t.c)).set (i * 2 + 1) (.string t.s) = termsV (us.set i t) := by
  have e : us = us.take i ++ us[i] :: us.drop (i + 1) := by rw [List.getElem_cons_drop]; exact (List.take_append_drop i us).symm
  have hl : (termsV (us.take i)).length = i * 2 := by rw [termsV_len, List.length_take, Nat.min_eq_left (by omega)]
  have hset : us.set i t = us.take i ++ t :: us.drop (i + 1) := by rw [List.set_eq_take_append_cons_drop, if_pos hi]
  rw [hset]
  have e2 : termsV us = termsV (us.take i) ++ .int .i64 us[i].c :: .string us[i].s :: termsV (us.drop (i + 1)) := by
    rw [← termsV_cons, ← termsV_append, ← e]
  rw [e2, termsV_append, termsV_cons, List.set_append_right _ _ (by omega), List.set_append_right _ _ (by omega), hl, Nat.sub_self, show i * 2 + 1 - i * 2 = 1 by omega]
  rfl
theorem Kept.keep {base : Nat} {w : World} {g cap n i j : Nat} {ts us : List Tm} {t : Tm} (h : Kept base w g cap n i j ts us) (hz : j < ts.length) (hjn : j < n) (ht : ts[j] = t) (hc : t.c ≠ 0) :
    Kept base ((w.setCell ⟨g, i * 2, none⟩ (.int .i64 t.c)).setCell ⟨g, i * 2 + 1, none⟩ (.string t.s)) g cap n (i + 1) (j + 1) ts (us.set i t) := by
  have hiu : i < us.length := by rw [h.len]; have := h.hi; omega
  refine ⟨?_, by rw [List.length_set]; exact h.len, ?_, ?_, by have := h.hi; omega, by omega⟩
  · rw [← set_terms us i t hiu]
    exact ((h.own.stored (i * 2) (.int .i64 t.c)).1.stored (i * 2 + 1) (.string t.s)).1
  · rw [nzT_step hz ht, if_neg hc, ← h.head, List.take_add_one, List.getElem?_set_self hiu, List.take_set, List.set_eq_of_length_le (by rw [List.length_take]; omega)]
    rfl
  · have := congrArg (List.drop 1) h.tail
    rw [List.drop_drop, List.drop_drop] at this
    rw [List.drop_set, if_pos (by have := h.hi; omega)]
    exact this
theorem Kept.skip {base : Nat} {w : World} {g cap n i j : Nat} {ts us : List Tm} {t : Tm} (h : Kept base w g cap n i j ts us) (hz : j < ts.length) (hjn : j < n) (ht : ts[j] = t) (hc : t.c = 0) : Kept base w g cap n i (j + 1) ts us := by
  refine ⟨h.own, h.len, ?_, ?_, by have := h.hi; omega, by omega⟩
  · rw [nzT_step hz ht, if_pos hc, List.append_nil]; exact h.head
  · have := congrArg (List.drop 1) h.tail
    rw [List.drop_drop, List.drop_drop] at this
    exact this

set_option maxRecDepth 100000 in
set_option maxHeartbeats 2000000 in
theorem deleteZero_any (base : Nat) (v : Value) (ts : List Tm) (w : World) (h : OwnT base w v ts) (hsm : SmallT ts) (hbase : base ≤ w.heap.size) :
    Calls Try.prog 89 #[v, ZF] w fun e w' =>
      (∃ r, e = .returned r ∧ OwnT base w' r (nzT ts)) ∧ Below base w w' := by
  obtain ⟨a, cap, rfl, hI⟩ := h.isTerms hsm
  have hmax : ts.length ≤ maxLen := hsm.1
  unfold maxLen at hmax
  have HI := Lib.hid hI
  have HO := Lib.hid h
  obtain ⟨n, hn⟩ : ∃ n, ts.length = n := ⟨_, rfl⟩
  rw [hn] at hmax HI HO ⊢
  have HN := Lib.hid hn
  clear hI h hsm hn
  go_enter Try.func89, Try.ntmps89
  go_wp2_with fail
  refine (indexZero_any a cap n ts _ HI.out).mono ?_
  rintro e w2 ⟨⟨r, rfl, hr⟩, hb2⟩
  have HB2 := Lib.hid hb2
  rcases hr with ⟨rfl, hall⟩ | ⟨i, hi, rfl, hz, hbef⟩
  · have HA := Lib.hid hall
    clear hall hb2
    go_wp2
    go_ret
    refine ⟨⟨_, rfl, ?_⟩, HB2.out.mono hbase⟩
    rw [nzT_all HA.out]
    have := HO.out.below HB2.out
    exact this
  · have hin : i < n := by rw [← HN.out]; exact hi
    have hd : decide ((i : Int) = -1) = false := by simp
    obtain ⟨g, rfl, hg⟩ : ∃ g, a = some ⟨g, 0, none⟩ ∧ base ≤ g := by
      rcases HO.out.2 with ⟨_, e1⟩ | ⟨g, cap1, cur, e0, hg, _⟩
      · rw [HN.out] at e1; omega
      · simp only [Value.slice.injEq] at e0; exact ⟨g, e0.1, hg⟩
    have hok : (w2.ownsRow base TI 2 (.slice (some ⟨g, 0, none⟩) n cap) n (termsV ts)) := by
      have := HO.out.below HB2.out
      unfold OwnT at this
      rw [HN.out] at this
      exact this
    have hcap : n ≤ cap := (ownsRow_cap hok).1
    have hcm : cap ≤ 2 ^ 63 - 1 := (ownsRow_cap hok).2.1
    have hk0 : Kept base w2 g cap n i (i + 1) ts ts := ⟨hok, HN.out, (nzT_first hi hz hbef).symm, rfl, by omega, by omega⟩
    have HK0 := Lib.hid hk0
    have HBB := Lib.hid (HB2.out.mono hbase)
    clear hz hbef hb2 hok hk0 hi
    go_wp2_with fail
    go_loopw [5, 6] (fun p q wr => ∃ (i j : Nat) (us : List Tm), p = .int .i64 i ∧ q = .int .i64 j ∧ Hid (Kept base wr g cap n i j ts us) ∧ i < j ∧ j ≤ n ∧ Hid (Below base w wr)) (fun _ q _ => n - (intOf q).toNat)
    case atStart => exact ⟨i, i + 1, ts, rfl, by go_num, HK0, by omega, by omega, HBB⟩
    case round =>
      obtain ⟨i, j, us, rfl, rfl, HK, hij, hjn, HB⟩ := hrel
      by_cases hlt : j < n
      · have hjz : j < ts.length := by rw [HN.out]; exact hlt
        obtain ⟨t, ht⟩ : ∃ t, ts[j] = t := ⟨_, rfl⟩
        obtain ⟨c0, c1⟩ := HK.out.at_ hlt hjz
        rw [ht] at c0 c1
        have HT := Lib.hid ht
        have hgw : g < wr.heap.size := (ownsRow_cap HK.out.own).2.2.2
        have hbw : base ≤ wr.heap.size := by omega
        clear ht
        go_wp2_with fail
        refine (isZero_any t _).mono ?_
        rintro e w4 ⟨rfl, hg4⟩
        have hb4 := hg4.below
        have hbw4 : Below wr.heap.size wr w4 := ((Below.refl _ wr).alloc (Nat.le_refl _) _).trans (hb4.mono (by simp))
        have hK4 := HK.out.below hbw4
        have HB4 := Lib.hid (HB.out.trans (hbw4.mono hbw))
        have hxb : (wr.alloc (.cells #[.int .i64 t.c, .string t.s] TI)).heap[wr.heap.size]? = some (.cells #[.int .i64 t.c, .string t.s] TI (0, 0)) := World.alloc_heap_new _ _
        have hxb4 := (hb4.block wr.heap.size (by simp)).trans hxb
        have d0 : w4.cell? ⟨wr.heap.size, 0, none⟩ = some (.int .i64 t.c) := by unfold World.cell?; rw [hxb4]; rfl
        have d1 : w4.cell? ⟨wr.heap.size, 1, none⟩ = some (.string t.s) := by unfold World.cell?; rw [hxb4]; rfl
        have hlu : (termsV us).length = n * 2 := by rw [termsV_len, hK4.len]
        have hd0 : ∃ u, w4.cell? ⟨g, i * 2, none⟩ = some u := by rw [hK4.own.cellAt _ (by omega)]; exact ⟨_, List.getElem?_eq_getElem (by omega)⟩
        have hd1 : ∃ u, w4.cell? ⟨g, i * 2 + 1, none⟩ = some u := by rw [hK4.own.cellAt _ (by omega)]; exact ⟨_, List.getElem?_eq_getElem (by omega)⟩
        obtain ⟨u0, hu0⟩ := hd0
        obtain ⟨u1, hu1⟩ := hd1
        have hf0 := hK4.own.frozenAt (i * 2)
        have hf1 := hK4.own.frozenAt (i * 2 + 1)
        have hin2 : i < n := by omega
        have HK4 := Lib.hid hK4
        clear hg4 hb4 hbw4 hK4 hxb hxb4 hlu c0 c1
        by_cases hz : t.c = 0
        · have hzb : (t.c == 0) = true := by simpa using hz
          have HZ := Lib.hid hz
          clear hz
          go_wp2
          go_roundw
          case rel =>
            refine ⟨_, _, _, _, _, _, _, _, _, _, _, _, _, _, _, _, _, _, _, _, _, _, _, ?_, rfl⟩
            exact ⟨i, j + 1, us, rfl, by go_num, Lib.hid (HK4.out.skip hjz hlt HT.out HZ.out), by omega, by omega, HB4⟩
          case measure => simp [intOf]; omega
        · have hzb : (t.c == 0) = false := by simpa using hz
          have HZ := Lib.hid hz
          clear hz
          go_wp2
          go_roundw
          case rel =>
            refine ⟨_, _, _, _, _, _, _, _, _, _, _, _, _, _, _, _, _, _, _, _, _, _, _, ?_, rfl⟩
            exact ⟨i + 1, j + 1, us.set i t, by go_num, by go_num, Lib.hid (HK4.out.keep hjz hlt HT.out HZ.out), by omega, by omega, Lib.hid ((HB4.out.setCell (p := ⟨g, i * 2, none⟩) hg _).setCell (p := ⟨g, i * 2 + 1, none⟩) hg _)⟩
          case measure => simp [intOf]; omega
      · obtain rfl : j = n := by omega
        obtain ⟨i0, hi, hz0, hz1, hz2⟩ := info_parts infoTerm
        have hzv : ∀ w, (zeroValue TI).run Try.prog w = .ok (.agg #[.int .i64 0, .string ByteArray.empty]) w := fun w => by simp [zeroValue, typeInfo, hi, hz0]
        have hlu : (termsV us).length = j * 2 := by rw [termsV_len, HK.out.len]
        obtain ⟨vs, hcl⟩ := clear_terms (P := Try.prog) wr 25 Try.underlying25 hzv g (i * 2) (j - i) (cap - i) (by omega)
          (fun m hm => by rw [HK.out.own.cellAt _ (by omega), List.getElem?_eq_getElem (by omega)]; rfl) (fun m => HK.out.own.frozenAt m)
        clear hi hz0 hz1 hz2 hzv hlu
        go_wp2
        go_ret
        obtain ⟨ys, h1, h2⟩ := ownsRow_behind (m := i * 2) vs (i * 2) HK.out.own (Nat.le_refl _)
        have h3 := ownsRow_shorter (k := i) h1 (by omega)
        refine ⟨⟨_, rfl, ?_⟩, below_cells hg vs _ HB.out⟩
        have hnz : nzT ts = us.take i := by rw [HK.out.head, List.take_of_length_le (by rw [HN.out]; exact Nat.le_refl _)]
        have hl : (us.take i).length = i := by rw [List.length_take, HK.out.len]; omega
        have ht : (termsV us).take (i * 2) = termsV (us.take i) := by
          have e : us = us.take i ++ us.drop i := (List.take_append_drop i us).symm
          conv => lhs; rw [e]
          rw [termsV_append, List.take_append_of_le_length (by rw [termsV_len, hl]; exact Nat.le_refl _), List.take_of_length_le (by rw [termsV_len, hl]; exact Nat.le_refl _)]
        rw [h2, ht] at h3
        unfold OwnT
        rw [hnz, hl]
        exact h3

end Go.Proofs.Ytidmlppbmcphbaa

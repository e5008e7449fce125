/- The contracts of the program's 'push' (all ways in one) and 'gathered'. -/
import Derived.Test.YtidmlppbmcphbaaTu
namespace Go.Proofs.Ytidmlppbmcphbaa
open Go.RowKit Go.Shelf

theorem push_any (base bs : Nat) (acc : List Tm) (x : Tm) (w : World) (h : HoldS base bs acc w) (hbs : bs < base) (hbase : base ≤ w.heap.size) (hlen : acc.length ≤ 1000000)
    (hsum : ∀ l, acc.getLast? = some l → -9223372036854775808 ≤ l.c + x.c ∧ l.c + x.c ≤ 9223372036854775807) :
    Calls Try.prog 111 #[.pointer (some ⟨bs, 0, none⟩), .agg #[.int .i64 x.c, .string x.s], .func (.func 91) #[] #[]] w fun e w' =>
      e = .returned (.tuple #[]) ∧ HoldS base bs (pushT acc x) w' ∧ BelowBut bs base w w' := by
  rcases List.eq_nil_or_concat acc with rfl | ⟨pre, l, rfl⟩
  · exact push_empty base bs x w h hbs hbase
  · rw [List.concat_eq_append] at *
    have hp : pre.length ≤ 1000000 := by rw [List.length_append] at hlen; omega
    by_cases hls : l.s = x.s
    · rw [push_last, if_pos hls]
      exact push_join base bs pre l x w h hls (hsum l (by simp)) hp hbs hbase
    · rw [push_last, if_neg hls]
      exact push_more base bs pre l x w h hls hp hbs hbase

theorem push_len (acc : List Tm) (t : Tm) : (pushT acc t).length ≤ acc.length + 1 := by
  rcases List.eq_nil_or_concat acc with rfl | ⟨b, l, rfl⟩
  · rw [push_nil]; simp
  · rw [List.concat_eq_append, push_last]; split <;> simp
theorem push_bnd {acc : List Tm} {t : Tm} {B C : Int} (h : ∀ u ∈ acc, -B ≤ u.c ∧ u.c ≤ B) (ht : -C ≤ t.c ∧ t.c ≤ C) (hB : 0 ≤ B) (hC : 0 ≤ C) : ∀ u ∈ pushT acc t, -(B + C) ≤ u.c ∧ u.c ≤ B + C := by
  intro u hu
  rcases List.eq_nil_or_concat acc with rfl | ⟨b, l, rfl⟩
  · rw [push_nil] at hu; rw [List.mem_singleton.1 hu]; omega
  · rw [List.concat_eq_append] at *
    rw [push_last] at hu
    have hl := h l (by simp)
    split at hu
    · rcases List.mem_append.1 hu with hu | hu
      · have := h u (by simp [hu]); omega
      · rw [List.mem_singleton.1 hu]; show -(B + C) ≤ l.c + t.c ∧ l.c + t.c ≤ B + C; omega
    · rcases List.mem_append.1 hu with hu | hu
      · have := h u hu; omega
      · rw [List.mem_singleton.1 hu]; omega
theorem merge_take {ts : List Tm} {k : Nat} (hk : k < ts.length) : mergeT (ts.take (k + 1)) = pushT (mergeT (ts.take k)) ts[k] := by
  unfold mergeT
  rw [List.take_add_one, List.getElem?_eq_getElem hk, List.foldl_append]
  rfl
theorem merge_len (ts : List Tm) : ∀ k, (mergeT (ts.take k)).length ≤ k
  | 0 => by simp [mergeT]
  | k + 1 => by
    by_cases hk : k < ts.length
    · rw [merge_take hk]
      have := push_len (mergeT (ts.take k)) ts[k]
      have := merge_len ts k
      omega
    · have := merge_len ts k
      rw [List.take_of_length_le (by omega)] at this ⊢
      omega
theorem merge_bnd {ts : List Tm} {C : Int} (hC : 0 ≤ C) (h : ∀ u ∈ ts, -C ≤ u.c ∧ u.c ≤ C) : ∀ k : Nat, ∀ u ∈ mergeT (ts.take k), -(C * k) ≤ u.c ∧ u.c ≤ C * k
  | 0, u, hu => by simp [mergeT] at hu
  | k + 1, u, hu => by
    have e : C * ((k + 1 : Nat) : Int) = C * k + C := by rw [Int.natCast_add, Int.mul_add]; simp
    have hk0 : 0 ≤ C * (k : Int) := Int.mul_nonneg hC (Int.natCast_nonneg _)
    rw [e]
    by_cases hk : k < ts.length
    · rw [merge_take hk] at hu
      exact push_bnd (merge_bnd hC h k) (h _ (List.getElem_mem hk)) hk0 hC u hu
    · rw [List.take_of_length_le (by omega)] at hu
      have := merge_bnd hC h k u (by rw [List.take_of_length_le (by omega)]; exact hu)
      omega
theorem merge_all (ts : List Tm) : mergeT (ts.take ts.length) = mergeT ts := by rw [List.take_of_length_le (Nat.le_refl _)]

theorem HoldS.alloc {base bs : Nat} {acc : List Tm} {w : World} (h : HoldS base bs acc w) (hb : bs < w.heap.size) (o : Obj) : HoldS base bs acc (w.alloc o) := by
  obtain ⟨v, h1, h2⟩ := h
  exact ⟨v, (Below.heap_alloc _ _ _ hb).trans h1, h2.alloc _⟩
theorem smallT_perm {ss ts : List Tm} (hp : ss.Perm ts) (hl : ts.length ≤ maxLen) (h : ∀ t ∈ ts, t.s.size ≤ maxLen ∧ -9223372036854775808 ≤ t.c ∧ t.c ≤ 9223372036854775807) : SmallT ss :=
  ⟨by rw [hp.length_eq]; exact hl, fun t ht => h t (hp.mem_iff.1 ht)⟩

set_option maxRecDepth 100000 in
set_option maxHeartbeats 2000000 in
/-- The program's 'gathered' at terms. -/
theorem gathered_any (a : Option Addr) (cap n : Nat) (ts : List Tm) (w : World) (hs : IsTerms w a n ts) (hn : n ≤ 100000) (hc : ∀ t ∈ ts, -1000000000000 ≤ t.c ∧ t.c ≤ 1000000000000) :
    Calls Try.prog 90 #[.slice a n cap, CF, .func (.func 91) #[] #[]] w fun e w' =>
      (∃ v, e = .returned (.agg #[v, CF]) ∧ ∃ ss : List Tm, ss.Perm ts ∧ ss.Pairwise (fun a b => lessW b.s a.s = false) ∧ OwnT w.heap.size w' v (mergeT ss)) ∧ Below w.heap.size w w' := by
  have HS := Lib.hid hs
  have HC := Lib.hid hc
  clear hs hc
  go_enter Try.func90, Try.ntmps90
  go_wp2_with fail
  refine (valuesT_any a n cap _).mono ?_
  rintro e w2 ⟨rfl, rfl⟩
  obtain ⟨N, hN⟩ : ∃ N, w.heap.size = N := ⟨_, rfl⟩
  have q0 : ((((w.alloc (.cells #[.slice none 0 0, .nilFunc] SrT)).alloc (.cells #[.slice none 0 0, CF] SrT)).alloc (.cells #[.slice a n cap] ST))).heap[N]? = some (.cells #[.slice none 0 0, .nilFunc] SrT (0, 0)) := by
    rw [← hN, Below.heap_alloc _ _ _ (by simp; omega), Below.heap_alloc _ _ _ (by simp)]
    exact World.alloc_heap_new _ _
  have q1 : ((((w.alloc (.cells #[.slice none 0 0, .nilFunc] SrT)).alloc (.cells #[.slice none 0 0, CF] SrT)).alloc (.cells #[.slice a n cap] ST))).heap[N + 1]? = some (.cells #[.slice none 0 0, CF] SrT (0, 0)) := by
    rw [← hN, Below.heap_alloc _ _ _ (by simp)]
    have := World.alloc_heap_new (w.alloc (.cells #[.slice none 0 0, .nilFunc] SrT)) (.cells #[.slice none 0 0, CF] SrT)
    simpa using this
  have q2 : ((((w.alloc (.cells #[.slice none 0 0, .nilFunc] SrT)).alloc (.cells #[.slice none 0 0, CF] SrT)).alloc (.cells #[.slice a n cap] ST))).cell? ⟨N + 2, 0, none⟩ = some (.slice a n cap) := by
    have := World.alloc_heap_new ((w.alloc (.cells #[.slice none 0 0, .nilFunc] SrT)).alloc (.cells #[.slice none 0 0, CF] SrT)) (.cells #[.slice a n cap] ST)
    simp only [World.size_alloc, hN] at this
    unfold World.cell?
    rw [show N + 2 = N + 1 + 1 from rfl, this]
    rfl
  have hsz : ((((w.alloc (.cells #[.slice none 0 0, .nilFunc] SrT)).alloc (.cells #[.slice none 0 0, CF] SrT)).alloc (.cells #[.slice a n cap] ST))).heap.size = N + 3 := by simp [hN]
  have hbV : Below w.heap.size w ((((w.alloc (.cells #[.slice none 0 0, .nilFunc] SrT)).alloc (.cells #[.slice none 0 0, CF] SrT)).alloc (.cells #[.slice a n cap] ST))) := (((Below.refl _ _).alloc (Nat.le_refl _) _).alloc (by simp) _).alloc (by simp; omega) _
  simp only [World.size_alloc, hN]
  generalize ((((w.alloc (.cells #[.slice none 0 0, .nilFunc] SrT)).alloc (.cells #[.slice none 0 0, CF] SrT)).alloc (.cells #[.slice a n cap] ST))) = V at *
  have HS2 : Hid (0 < n → ∃ x, a = some x ∧ TermsAt V x ts) := Lib.hid (HS.out.below hbV).at_
  have HQ0 := Lib.hid q0
  have HQ1 := Lib.hid q1
  have HQ2 := Lib.hid q2
  have HSZ := Lib.hid hsz
  have HBV := Lib.hid hbV
  have HN := Lib.hid hN
  clear q0 q1 q2 hsz hbV hN
  go_wp2_with fail
  refine (sortedFunc_any (N + 1 + 1) ts a cap n V HS.out.len (by omega) (by rw [HSZ.out]; omega) HQ2.out HS2.out).mono ?_
  rintro e w3 ⟨⟨v3, rfl, ss, hp, hso, ho⟩, hb3⟩
  have hsl : ss.length = n := hp.length_eq.trans HS.out.len
  have hsm : SmallT ss := smallT_perm hp (by rw [HS.out.len]; exact HS.out.max) HS.out.small
  have hoT : OwnT V.heap.size w3 v3 ss := by unfold OwnT; rw [hsl]; exact ho
  obtain ⟨a3, cap3, rfl, hI⟩ := hoT.isTerms hsm
  have hlow : ∀ j, (Value.slice a3 ss.length cap3).ownBlock = some j → V.heap.size ≤ j := ownLow hoT
  have hcs : ∀ t ∈ ss, -1000000000000 ≤ t.c ∧ t.c ≤ 1000000000000 := fun t ht => HC.out t (hp.mem_iff.1 ht)
  have hfar : ∀ x, a3 = some x → N + 3 ≤ x.block := by
    intro x ex
    rcases ho.2 with ⟨e0, _⟩ | ⟨g1, cap1, cur1, e0, hg1, _⟩
    · simp only [Value.slice.injEq] at e0
      rw [e0.1] at ex; cases ex
    · simp only [Value.slice.injEq] at e0
      rw [e0.1] at ex
      cases ex
      rw [← HSZ.out]; exact hg1
  rw [hsl]
  have hs3 : N + 3 ≤ w3.heap.size := by rw [← HSZ.out]; exact hb3.size
  have q1 : w3.heap[N + 1]? = some (.cells #[.slice none 0 0, CF] SrT (0, 0)) := (hb3.block (N + 1) (by rw [HSZ.out]; omega)).trans HQ1.out
  have q0 : w3.heap[N]? = some (.cells #[.slice none 0 0, .nilFunc] SrT (0, 0)) := (hb3.block N (by rw [HSZ.out]; omega)).trans HQ0.out
  obtain ⟨base, hbase⟩ : ∃ base, w3.heap.size = base := ⟨_, rfl⟩
  have h0 : HoldS base (N + 1) (mergeT (ss.take 0)) w3 := ⟨_, q1, ⟨rfl, .inl ⟨rfl, rfl⟩⟩⟩
  have HP := Lib.hid hp
  have HSO := Lib.hid hso
  have HSL := Lib.hid hsl
  have HI := Lib.hid hI
  have HCS := Lib.hid hcs
  have HFAR := Lib.hid hfar
  have HB3 := Lib.hid (HBV.out.trans (hb3.mono (by rw [HSZ.out, HN.out]; omega)))
  have HBASE := Lib.hid hbase
  have HQ0' := Lib.hid q0
  clear hp hso ho hsl hsm hoT hI hlow hcs hfar hb3 q1 q0 HQ0 HQ1 HQ2 HBV HS2
  rw [hbase] at hs3
  clear hbase
  go_wp2_with fail
  go_loopw [17] (fun i wr => ∃ k : Nat, k ≤ n ∧ i = .int .i64 k ∧ Hid (HoldS base (N + 1) (mergeT (ss.take k)) wr) ∧ Hid (BelowBut (N + 1) base w3 wr)) (fun i _ => n - (intOf i).toNat)
  case atStart => exact ⟨0, Nat.zero_le _, rfl, Lib.hid h0, Lib.hid (BelowBut.refl _ _ _)⟩
  case round =>
    obtain ⟨k, hk, rfl, HH, HB⟩ := hrel
    by_cases hlt : k < n
    · have hkz : k < ss.length := by rw [HSL.out]; exact hlt
      obtain ⟨x, rfl, hx⟩ := HI.out.at_ (by rw [HSL.out]; omega)
      obtain ⟨t, ht⟩ : ∃ t, ss[k] = t := ⟨_, rfl⟩
      have hxf := HFAR.out x rfl
      have hxb := hx.1
      rw [HBASE.out] at hxb
      have hblk : wr.heap[x.block]? = w3.heap[x.block]? := HB.out.block x.block hxb (by omega)
      have hc := hx.2 k hkz
      rw [ht, addr_next] at hc
      obtain ⟨hc0, hc1⟩ := hc
      have c0 : wr.cell? (x.add (k * 2)) = some (.int .i64 t.c) := (World.cell?_of_block (w := w3) (by rw [addr_add_block]; exact hblk)).trans hc0
      have c1 : wr.cell? ⟨(x.add (k * 2)).block, (x.add (k * 2)).off + 1, none⟩ = some (.string t.s) := (World.cell?_of_block (w := w3) (a := ⟨(x.add (k * 2)).block, (x.add (k * 2)).off + 1, none⟩) (by show wr.heap[(x.add (k * 2)).block]? = _; rw [addr_add_block]; exact hblk)).trans hc1
      have HT := Lib.hid ht
      have hbw : base ≤ wr.heap.size := by rw [← HBASE.out]; exact HB.out.size
      have hsum : ∀ l, (mergeT (ss.take k)).getLast? = some l → -9223372036854775808 ≤ l.c + t.c ∧ l.c + t.c ≤ 9223372036854775807 := by
        intro l hl
        have h1 := merge_bnd (C := 1000000000000) (by omega) HCS.out k l (List.mem_of_getLast? hl)
        have h2 := HCS.out ss[k] (List.getElem_mem hkz)
        rw [ht] at h2
        omega
      have hml := merge_len ss k
      have hmt := merge_take hkz
      rw [ht] at hmt
      have HMT := Lib.hid hmt
      have hpush := push_any base (N + 1) (mergeT (ss.take k)) t (wr.alloc (.cells #[.int .i64 t.c, .string t.s] TI)) (HH.out.alloc (by omega) _) (by omega) (by simp; omega) (by omega) hsum
      have HPU := Lib.hid hpush
      clear ht hx hc0 hc1 hblk h0 hsum hml hmt hpush
      go_wp2_with fail
      refine HPU.out.mono ?_
      rintro e w4 ⟨rfl, hh4, hb4⟩
      have HH4 := Lib.hid hh4
      have HB4 := Lib.hid (HB.out.trans ((BelowBut.of (N + 1) ((Below.refl base wr).alloc hbw _)).trans hb4))
      clear hh4 hb4
      go_wp2
      go_roundw
      case rel => exact ⟨k + 1, by omega, by go_num, Lib.hid (by rw [HMT.out]; exact HH4.out), HB4⟩
      case measure => simp [intOf]; omega
    · obtain rfl : k = n := by omega
      clear h0
      obtain ⟨v, hbx, hrow⟩ := HH.out
      obtain ⟨av, mv, cv, rfl⟩ : ∃ a m c, v = .slice a m c := by
        rcases hrow.2 with ⟨rfl, _⟩ | ⟨g, cap, cur, rfl, _⟩
        · exact ⟨_, _, _, rfl⟩
        · exact ⟨_, _, _, rfl⟩
      have r0 : wr.cell? ⟨N + 1, 0, none⟩ = some (.slice av mv cv) := by simp [World.cell?, hbx]
      have r1 : wr.cell? ⟨N + 1, 1, none⟩ = some CF := by simp [World.cell?, hbx]
      have hq0 := (HB.out.block N (by omega) (by omega)).trans HQ0'.out
      have p0 : wr.cell? ⟨N, 0, none⟩ = some (.slice none 0 0) := by simp [World.cell?, hq0]
      have p1 : wr.cell? ⟨N, 1, none⟩ = some .nilFunc := by simp [World.cell?, hq0]
      have f0 : wr.frozen? ⟨N, 0, none⟩ = false := by simp [World.frozen?, hq0]
      have f1 : wr.frozen? ⟨N, 1, none⟩ = false := by simp [World.frozen?, hq0]
      have HROW := Lib.hid hrow
      clear hbx hrow hq0
      have hqN := (HB.out.block N (by omega) (by omega)).trans HQ0'.out
      have hqr : ((wr.setCell ⟨N, 0, none⟩ (.slice av mv cv)).setCell ⟨N, 1, none⟩ CF).heap[N]? = some (.cells #[.slice av mv cv, CF] SrT (0, 0)) := by
        simp [World.setCell, Array.getElem?_modify, hqN]
      have HQR := Lib.hid hqr
      clear hqN hqr
      go_wp2
      refine bodyPost_ret (results_cell_row rfl _ _ N SrT #[.slice av mv cv, CF] (0, 0) _ rfl HQR.out Try.underlying95 rfl (by kernel_rfl)) rfl ?_
      have hk : ss.take k = ss := List.take_of_length_le (by rw [HSL.out]; exact Nat.le_refl _)
      have hr := HROW.out
      rw [hk] at hr
      have hbb : Below w.heap.size w wr := HB3.out.trans ⟨HB.out.os, HB.out.tape, HB.out.output, HB.out.size, fun j hj => HB.out.block j (by rw [HN.out] at hj; omega) (by rw [HN.out] at hj; omega)⟩
      refine ⟨⟨_, rfl, ss, HP.out, HSO.out, ?_⟩, (hbb.setCell (p := ⟨N, 0, none⟩) (by show w.heap.size ≤ N; rw [HN.out]; exact Nat.le_refl _) _).setCell (p := ⟨N, 1, none⟩) (by show w.heap.size ≤ N; rw [HN.out]; exact Nat.le_refl _) _⟩
      exact ownsRow_base (ownsRow_setCell_below (ownsRow_setCell_below hr (by show N < base; omega) _) (by show N < base; omega) _) (by rw [HN.out]; omega)

end Go.Proofs.Ytidmlppbmcphbaa

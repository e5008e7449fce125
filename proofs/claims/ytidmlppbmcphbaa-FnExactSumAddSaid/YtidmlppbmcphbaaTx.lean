/- The contracts of the program's 'toldSum' and 'SumOf'. -/
import Derived.Test.YtidmlppbmcphbaaTw
import Derived.Test.YtidmlppbmcphbaaTs
namespace Go.Proofs.Ytidmlppbmcphbaa
open Go.RowKit Go.Shelf

/-- What a call of the program answers that tells a sum. -/
def ITold (w : World) (b : Bool) (us : List Tm) (e : Ending) (w' : World) : Prop := (∃ v', e = .returned (.tuple #[v', .bool b]) ∧ OwnT w.heap.size w' v' (cond b us [])) ∧ Below w.heap.size w w'
theorem ownNil (base : Nat) (w : World) : OwnT base w (.slice none 0 0) [] := ⟨rfl, .inl ⟨rfl, rfl⟩⟩
/-- Terms that may be gathered: not too many, not too great, their words of whatever length. -/
theorem filter_small {ts : List Tm} {p : Tm → Bool} (h : SmallT ts) : SmallT (ts.filter p) :=
  ⟨Nat.le_trans (List.length_filter_le _ _) h.1, fun t ht => h.2 t (List.mem_filter.1 ht).1⟩
theorem push_words {acc : List Tm} {t : Tm} {M : Nat} (h : ∀ u ∈ acc, u.s.size ≤ M) (ht : t.s.size ≤ M) : ∀ u ∈ pushT acc t, u.s.size ≤ M := by
  intro u hu
  rcases List.eq_nil_or_concat acc with rfl | ⟨b, l, rfl⟩
  · rw [push_nil] at hu; rw [List.mem_singleton.1 hu]; exact ht
  · rw [List.concat_eq_append] at *
    rw [push_last] at hu
    have hl := h l (by simp)
    split at hu
    · rcases List.mem_append.1 hu with hu | hu
      · exact h u (by simp [hu])
      · rw [List.mem_singleton.1 hu]; exact hl
    · rcases List.mem_append.1 hu with hu | hu
      · exact h u hu
      · rw [List.mem_singleton.1 hu]; exact ht
theorem merge_words {M : Nat} : ∀ (ts acc : List Tm), (∀ u ∈ acc, u.s.size ≤ M) → (∀ u ∈ ts, u.s.size ≤ M) → ∀ u ∈ ts.foldl pushT acc, u.s.size ≤ M
  | [], _, h, _ => h
  | t :: r, acc, h, ht => merge_words r (pushT acc t) (push_words h (ht t (by simp))) (fun u hu => ht u (by simp [hu]))
theorem merge_small {ts : List Tm} (hn : ts.length ≤ 100000) (hc : ∀ t ∈ ts, -1000000000000 ≤ t.c ∧ t.c ≤ 1000000000000) (hs : ∀ t ∈ ts, t.s.size ≤ maxLen) : SmallT (mergeT ts) := by
  have h1 := merge_len ts ts.length
  have h2 := merge_bnd (C := 1000000000000) (by omega) hc ts.length
  rw [merge_all] at h1 h2
  refine ⟨by unfold maxLen; omega, fun t ht => ⟨merge_words ts [] (fun u h => by cases h) hs t ht, ?_⟩⟩
  have := h2 t ht
  omega

set_option maxRecDepth 100000 in
set_option maxHeartbeats 1000000 in
theorem toldSum_any (a : Option Addr) (cap n : Nat) (ts : List Tm) (b : Bool) (w : World) (hs : IsTerms w a n ts) (hn : n ≤ 100000) (hc : ∀ t ∈ ts, -1000000000000 ≤ t.c ∧ t.c ≤ 1000000000000) (hb : twB (canonT ts) = b) :
    Calls Try.prog 63 #[.slice a n cap] w (ITold w b (canonT ts)) := by
  have HS := Lib.hid hs
  have HC := Lib.hid hc
  have HBB := Lib.hid hb
  clear hs hc hb
  go_enter Try.func63, Try.ntmps63
  go_wp2_with fail
  refine (gathered_any a cap n ts _ HS.out hn HC.out).mono ?_
  rintro e w1 ⟨⟨v, rfl, ss, hp, hso, ho⟩, hb1⟩
  obtain ⟨av, mv, cv, rfl⟩ : ∃ a m c, v = .slice a m c := by
    rcases ho.2 with ⟨rfl, _⟩ | ⟨g, cap, cur, rfl, _⟩
    · exact ⟨_, _, _, rfl⟩
    · exact ⟨_, _, _, rfl⟩
  have hss : SmallT (mergeT ss) := merge_small (by rw [hp.length_eq, HS.out.len]; exact hn) (fun t ht => HC.out t (hp.mem_iff.1 ht)) (fun t ht => (HS.out.small t (hp.mem_iff.1 ht)).1)
  have heq : nzT (mergeT ss) = canonT ts := gathered_eq hp hso
  have hsc : SmallT (canonT ts) := by rw [← heq]; exact filter_small hss
  have hdel := deleteZero_any w.heap.size (.slice av mv cv) (mergeT ss) w1 ho hss hb1.size
  rw [heq] at hdel
  have HD := Lib.hid hdel
  have hfield : (Instr.field SrT (.agg #[.slice av mv cv, CF]) 0).run Try.prog w1 = .ok (.slice av mv cv) w1 := by
    simp [Instr.field, run_underlying Try.underlying95, part, run_isAgg_plain Try.underlying25 rfl, asAgg, Result.andThen]
  have HSC := Lib.hid hsc
  have HB1 := Lib.hid hb1
  clear hp hso ho hss heq hsc hdel hb1
  go_wp2_with fail
  refine HD.out.mono ?_
  rintro e w2 ⟨⟨r, rfl, ho⟩, hb2⟩
  obtain ⟨ar, cr, rfl, hI⟩ := ho.isTerms HSC.out
  have HO := Lib.hid ho
  have HI := Lib.hid hI
  have HB2 := Lib.hid (HB1.out.trans hb2)
  clear ho hI hb2
  go_wp2_with fail
  refine (termWords_any ar cr _ (canonT ts) _ HI.out).mono ?_
  rintro e w3 ⟨⟨rfl, hf⟩ | ⟨g, vals, rfl, hf, _, _⟩, hb3⟩
  · obtain rfl : b = false := by rw [← HBB.out, hf]
    have HB3 := Lib.hid hb3
    clear hb3 hf
    go_wp2
    go_ret2
    exact ⟨⟨_, rfl, ownNil _ _⟩, HB2.out.trans (HB3.out.mono HB2.out.size)⟩
  · obtain rfl : b = true := by rw [← HBB.out, hf]
    have HB3 := Lib.hid hb3
    clear hb3 hf
    go_wp2
    go_ret2
    exact ⟨⟨_, rfl, HO.out.below HB3.out⟩, HB2.out.trans (HB3.out.mono HB2.out.size)⟩

set_option maxRecDepth 100000 in
set_option maxHeartbeats 1000000 in
theorem iSumOf_any (a : Option Addr) (cap n : Nat) (ts : List Tm) (b : Bool) (w : World) (hs : IsTerms w a n ts) (hb : ofB ts = b) :
    Calls Try.prog 21 #[.slice a n cap] w (ITold w b (canonT ts)) := by
  have HS := Lib.hid hs
  have HBB := Lib.hid hb
  clear hs hb
  go_enter Try.func21, Try.ntmps21
  go_wp2_with fail
  refine (termWords_any a cap n ts _ HS.out).mono ?_
  rintro e w3 ⟨⟨rfl, hf⟩ | ⟨g, vals, rfl, hf, _, _⟩, hb3⟩
  · obtain rfl : b = false := by rw [← HBB.out, ofB, hf]; rfl
    have HB3 := Lib.hid hb3
    clear hb3 hf
    go_wp2
    go_ret2
    exact ⟨⟨_, rfl, ownNil _ _⟩, HB3.out⟩
  · have hcl := canon_len_words hf
    have hn : n ≤ 100000 := by rw [← HS.out.len]; omega
    have hbb : twB (canonT ts) = b := by rw [← HBB.out, ofB, hf, Bool.true_and, sumB_canon (canon_of ts)]
    have htold := toldSum_any a cap n ts b w3 (HS.out.below hb3) hn (fun t ht => by have := (termB_iff (hcl.2 t ht)).2; omega) hbb
    have HT := Lib.hid htold
    have HB3 := Lib.hid hb3
    clear hb3 hf hcl hn hbb htold
    go_wp2_with fail
    refine HT.out.mono ?_
    rintro e w4 ⟨⟨v', rfl, ho⟩, hb4⟩
    have HO := Lib.hid ho
    have HB4 := Lib.hid hb4
    clear ho hb4
    go_wp2
    go_ret2
    exact ⟨⟨_, rfl, HO.out.mono HB3.out.size⟩, HB3.out.trans (HB4.out.mono HB3.out.size)⟩

end Go.Proofs.Ytidmlppbmcphbaa

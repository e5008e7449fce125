/- What the laws' proofs stand on, part 4 of 5. -/
import Derived.Laws.CopyOwn
import Derived.Deep.AppendLies
import Derived.Laws.AppendOwnNone
import Derived.Lib.Strings
import Derived.IntWalk
import Derived.RangeFuncBox
import Derived.Laws.BitsAllLaws
import Derived.Deep.QuietTactic
import Derived.BigQuiet
import Derived.ChangeSlices
import Derived.Test.YtebgcebjlbhjjabBa
import Derived.Test.YtebgcebjlbhjjabBb
import Derived.Test.YtebgcebjlbhjjabBc

/- The contracts of the program's 'SumAdd'; both SumAdds as a law wants them. -/

namespace Go.Proofs.Ytebgcebjlbhjjab
open Go.RowKit Go.Shelf

theorem sumB_small {x : List Tm} (h : sumB x = true) : x.length ≤ 300 ∧ (∀ t ∈ x, t.s.size ≤ 60 ∧ -1000000 ≤ t.c ∧ t.c ≤ 1000000) ∧ SmallT x := by
  obtain ⟨h1, h2⟩ := canon_len_words (sumB_parts h).1
  have h3 : ∀ t ∈ x, t.s.size ≤ 60 ∧ -1000000 ≤ t.c ∧ t.c ≤ 1000000 := fun t ht => termB_iff (h2 t ht)
  exact ⟨h1, h3, by unfold maxLen; omega, fun t ht => by have := h3 t ht; unfold maxLen; omega⟩
theorem told_small {b : Bool} {L us : List Tm} (h : b = true → twB L = true) (hus : cond b L [] = us) : SmallT us ∧ us.length ≤ 300 := by
  cases b with
  | false => subst hus; exact ⟨⟨Nat.zero_le _, fun t h => by cases h⟩, Nat.zero_le _⟩
  | true =>
    have hus : L = us := hus
    subst hus
    obtain ⟨h1, h2⟩ := canon_len_words (h rfl)
    exact ⟨⟨by unfold maxLen; omega, fun t ht => by have := termB_iff (h2 t ht); unfold maxLen; omega⟩, h1⟩

set_option maxRecDepth 100000 in
set_option maxHeartbeats 4000000 in
theorem iSumAdd_no (a1 a2 : Option Addr) (c1 c2 n m : Nat) (x y : List Tm) (w : World) (hx : IsTerms w a1 n x) (hy : IsTerms w a2 m y) (hb : sumB x = false ∨ sumB y = false) :
    Calls Try.prog 25 #[.slice a1 n c1, .slice a2 m c2] w (ITold w false []) := by
  have HX := Lib.hid hx
  have HY := Lib.hid hy
  clear hx hy
  cases hbx : sumB x with
  | false =>
    have HBX := Lib.hid hbx
    clear hbx hb
    go_enter Try.func25, Try.ntmps25
    go_wp2_with fail
    refine (iSumIn_is a1 c1 n x false _ HX.out HBX.out).mono ?_
    rintro e w1 ⟨rfl, hb1⟩
    have HB1 := Lib.hid hb1
    clear hb1
    go_wp2
    go_ret2
    exact ⟨⟨_, rfl, ownNil _ _⟩, HB1.out⟩
  | true =>
    have hby : sumB y = false := by rcases hb with h | h; · rw [h] at hbx; cases hbx
                                    · exact h
    have HBX := Lib.hid hbx
    have HBY := Lib.hid hby
    clear hbx hby hb
    go_enter Try.func25, Try.ntmps25
    go_wp2_with fail
    refine (iSumIn_is a1 c1 n x true _ HX.out HBX.out).mono ?_
    rintro e w1 ⟨rfl, hb1⟩
    have HB1 := Lib.hid hb1
    clear hb1
    go_wp2_with fail
    refine (iSumIn_is a2 c2 m y false _ (HY.out.below HB1.out) HBY.out).mono ?_
    rintro e w2 ⟨rfl, hb2⟩
    have HB2 := Lib.hid (HB1.out.trans (hb2.mono HB1.out.size))
    clear hb2
    go_wp2
    go_ret2
    exact ⟨⟨_, rfl, ownNil _ _⟩, HB2.out⟩

theorem two_cells (w : World) (u v : Value) (x y : List Tm) (t : TypeId) : ∀ i (h : i < [(u, x), (v, y)].length), (w.alloc (.cells #[u, v] t)).cell? ⟨w.heap.size, i, none⟩ = some [(u, x), (v, y)][i].1 := fun i h => by
  rw [World.cell?_alloc_at _ _ _ _ rfl]
  match i, h with
  | 0, _ => rfl
  | 1, _ => rfl
theorem concat_two (u v : Value) (x y : List Tm) (w : World) (hx : PartT w u x) (hy : PartT w v y) (hs : x.length + y.length ≤ 200000) :
    Calls Try.prog 80 #[.slice (some ⟨w.heap.size, 0, none⟩) 2 2] (w.alloc (.cells #[u, v] 25)) fun e w' => (∃ r, e = .returned r ∧ OwnT w.heap.size w' r (x ++ y)) ∧ Below w.heap.size w w' := by
  have hba : Below w.heap.size w (w.alloc (.cells #[u, v] 25)) := (Below.refl _ _).alloc (Nat.le_refl _) _
  refine (concat_any w.heap.size 2 2 [(u, x), (v, y)] _ rfl (by omega) (by simp) (two_cells w u v x y _) (fun p hp => by
    simp only [List.mem_cons, List.not_mem_nil, or_false] at hp
    rcases hp with rfl | rfl
    · exact hx.below hba
    · exact hy.below hba) (by unfold lens; simp; omega)).mono ?_
  rintro e w4 ⟨⟨r, rfl, ho⟩, hb4⟩
  have hfl : flatT [(u, x), (v, y)] = x ++ y := by unfold flatT; simp
  rw [hfl] at ho
  exact ⟨⟨_, rfl, ho.mono (by simp)⟩, hba.trans (hb4.mono (by simp))⟩

set_option maxRecDepth 100000 in
set_option maxHeartbeats 4000000 in
theorem iSumAdd_yes (a1 a2 : Option Addr) (c1 c2 n m : Nat) (x y : List Tm) (b : Bool) (w : World) (hx : IsTerms w a1 n x) (hy : IsTerms w a2 m y) (px : PartT w (.slice a1 n c1) x) (py : PartT w (.slice a2 m c2) y)
    (hbx : sumB x = true) (hby : sumB y = true) (hb : twB (canonT (x ++ y)) = b) :
    Calls Try.prog 25 #[.slice a1 n c1, .slice a2 m c2] w (ITold w b (canonT (x ++ y))) := by
  obtain ⟨hlx, hwx, hsx⟩ := sumB_small hbx
  obtain ⟨hly, hwy, hsy⟩ := sumB_small hby
  have hsm : SmallT (x ++ y) := ⟨by rw [List.length_append]; unfold maxLen; omega, fun t ht => by
    rcases List.mem_append.1 ht with h | h
    · exact hsx.2 t h
    · exact hsy.2 t h⟩
  have hcf : ∀ t ∈ x ++ y, -1000000000000 ≤ t.c ∧ t.c ≤ 1000000000000 := fun t ht => by
    rcases List.mem_append.1 ht with h | h
    · have := hwx t h; omega
    · have := hwy t h; omega
  have hln : (x ++ y).length ≤ 100000 := by rw [List.length_append]; omega
  have HX := Lib.hid hx
  have HY := Lib.hid hy
  have HPX := Lib.hid px
  have HPY := Lib.hid py
  have HBX := Lib.hid hbx
  have HBY := Lib.hid hby
  have HBB := Lib.hid hb
  have HSM := Lib.hid hsm
  have HCF := Lib.hid hcf
  have HLN := Lib.hid hln
  have HLS : Hid (x.length + y.length ≤ 200000) := Lib.hid (by omega)
  clear hx hy px py hbx hby hb hlx hwx hsx hly hwy hsy hsm hcf hln
  go_enter Try.func25, Try.ntmps25
  go_wp2_with fail
  refine (iSumIn_is a1 c1 n x true _ HX.out HBX.out).mono ?_
  rintro e w1 ⟨rfl, hb1⟩
  have HB1 := Lib.hid hb1
  clear hb1
  go_wp2_with fail
  refine (iSumIn_is a2 c2 m y true _ (HY.out.below HB1.out) HBY.out).mono ?_
  rintro e w2 ⟨rfl, hb2⟩
  have HB2 := Lib.hid (HB1.out.trans (hb2.mono HB1.out.size))
  clear hb2
  go_wp2_with fail
  with_reducible refine (concat_two (.slice a1 n c1) (.slice a2 m c2) x y w2 (HPX.out.below HB2.out) (HPY.out.below HB2.out) HLS.out).mono ?_
  rintro e w4 ⟨⟨v, rfl, ho⟩, hb4⟩
  obtain ⟨av, cv, rfl, hI⟩ := ho.isTerms HSM.out
  obtain ⟨N, hN⟩ : ∃ N, (x ++ y).length = N := ⟨_, rfl⟩
  have hln := HLN.out
  rw [hN] at hI hln ⊢
  have HB4 := Lib.hid (HB2.out.trans (hb4.mono HB2.out.size))
  have htold := toldSum_any av cv N (x ++ y) b w4 hI hln HCF.out HBB.out
  have HT := Lib.hid htold
  clear ho hI hb4 htold hN
  go_wp2_with fail
  with_reducible refine HT.out.mono ?_
  rintro e w5 ⟨⟨v', rfl, ho⟩, hb5⟩
  have HO := Lib.hid ho
  have HB5 := Lib.hid hb5
  clear ho hb5
  go_wp2
  go_ret2
  exact ⟨⟨_, rfl, HO.out.mono HB4.out.size⟩, HB4.out.trans (HB5.out.mono HB4.out.size)⟩

/-! ### As a law wants them -/
theorem addB_tw {x y : List Tm} {b : Bool} (h : addB x y = b) : b = true → twB (canonT (x ++ y)) = true := by
  intro hb
  subst hb
  unfold addB at h
  simp only [Bool.and_eq_true] at h
  exact h.2.2
theorem iSumAdd_law {g1 g2 c1 c2 n m : Nat} {x y : List Tm} {b : Bool} {w : World} (hx : IsTerms w (some ⟨g1, 0, none⟩) n x) (hy : IsTerms w (some ⟨g2, 0, none⟩) m y) (hb : addB x y = b) :
    Calls Try.prog 25 #[.slice (some ⟨g1, 0, none⟩) n c1, .slice (some ⟨g2, 0, none⟩) m c2] w (ITold w b (canonT (x ++ y))) := by
  unfold addB at hb
  cases hbx : sumB x with
  | false => rw [hbx] at hb; subst hb; exact iSumAdd_no _ _ _ _ _ _ x y w hx hy (.inl hbx)
  | true =>
    cases hby : sumB y with
    | false => rw [hbx, hby] at hb; subst hb; exact iSumAdd_no _ _ _ _ _ _ x y w hx hy (.inr hby)
    | true => rw [hbx, hby] at hb; exact iSumAdd_yes _ _ _ _ _ _ x y b w hx hy (partT_of hx) (partT_of hy) hbx hby hb

end Go.Proofs.Ytebgcebjlbhjjab

/- The contracts of the program's 'SumTimes'; both SumTimes as a law wants them. -/

namespace Go.Proofs.Ytebgcebjlbhjjab
open Go.RowKit Go.Shelf

/-- A row of words, those of the terms. -/
def WordsAt (w : World) (g : Nat) (ts : List Tm) : Prop :=
  g < w.heap.size ∧ ∀ j (h : j < ts.length), ∃ gw cap, w.cell? ⟨g, j, none⟩ = some (.slice (some ⟨gw, 0, none⟩) ts[j].s.size cap) ∧ IsWord w.heap.size w (.slice (some ⟨gw, 0, none⟩) ts[j].s.size cap) ts[j].s.data.toList
theorem WordsAt.below {w w' : World} {g : Nat} {ts : List Tm} (h : WordsAt w g ts) (hb : Below w.heap.size w w') : WordsAt w' g ts :=
  ⟨Nat.lt_of_lt_of_le h.1 hb.size, fun j hj => by
    obtain ⟨gw, cap, h1, h2⟩ := h.2 j hj
    exact ⟨gw, cap, (hb.cell (p := ⟨g, j, none⟩) h.1).trans h1, (h2.below hb).mono hb.size⟩⟩
theorem wordsAt_of {w : World} {base lo g cap n : Nat} {vals : List Value} {ts : List Tm} (hn : ts.length = n) (h : w.ownsRow base WT 1 (.slice (some ⟨g, 0, none⟩) n cap) n vals) (hv : ∀ j (h : j < ts.length) v, vals[j]? = some v → WordAt lo w v ts[j].s.data.toList) : WordsAt w g ts :=
  ⟨(ownsRow_cap h).2.2.2, fun j hj => by
    have hl := h.1
    rw [Nat.mul_one] at hl
    have hjv : j < vals.length := by omega
    have hw := hv j hj vals[j] (List.getElem?_eq_getElem hjv)
    have hi := hw.isWord
    obtain ⟨gw, cp, e⟩ := hw.slice
    have hsz : ts[j].s.data.toList.length = ts[j].s.size := by simp
    rw [hsz] at e
    refine ⟨gw, cp, ?_, by rw [← e]; exact hi⟩
    rw [h.cellAt j (by omega), List.getElem?_eq_getElem hjv, e]⟩

theorem reduced_boxes0 (w : World) (its : List Item) (hG : ∀ it ∈ its, Gives it ∧ IsWord w.heap.size w it.sv it.L) (hl : (its.map Item.xs).flatten.length ≤ 100000000) (hn : its.length ≤ 1000000) :
    Calls Try.prog 78 #[.slice (some ⟨w.heap.size + its.length, 0, none⟩) its.length its.length] ((boxes w its).alloc (.cells (funcs w.heap.size its).toArray IT)) fun e w' =>
      ∃ g m cap', e = .returned (.slice (some ⟨g, 0, none⟩) m cap') ∧ (redX [] (its.map Item.xs).flatten).length = m ∧ w'.ownsRow w.heap.size 96 1 (.slice (some ⟨g, 0, none⟩) m cap') m (bytesV (redX [] (its.map Item.xs).flatten)) ∧ Below w.heap.size w w' := by
  have hbw := boxes_below its w
  have hsz := boxes_size its w
  have hbW : Below w.heap.size w ((boxes w its).alloc (.cells (funcs w.heap.size its).toArray IT)) := hbw.alloc (by omega) _
  have hr := reduced_in 20 (by omega) (some ⟨w.heap.size + its.length, 0, none⟩) (w.heap.size + its.length) 0 its.length (partsOf w.heap.size its) ((boxes w its).alloc (.cells (funcs w.heap.size its).toArray IT)) (fun _ => rfl)
    (by simp; omega)
    (fun i h => by
      rw [World.cell?_alloc_at _ _ _ _ (by show _ = _; omega)]
      rw [Nat.zero_add, List.getElem?_toArray]
      exact funcs_get its _ i h)
    (fun p hp => by
      obtain ⟨it, hm, B, rfl, hB, hc⟩ := parts_mem its w p hp
      obtain ⟨hg, hw⟩ := hG it hm
      refine ⟨hg.1 _ B _ ?_ (Nat.le_refl _) (cell_past hc _) ((hw.below hbW).mono ?_), hg.2⟩
      · simp; omega
      · simp; omega)
    (by rw [cat_parts]; exact hl) (by rw [partsOf_len]; exact hn)
  rw [cat_parts, partsOf_len] at hr
  refine ((callsIn_wide (n := 20)).1 hr).mono ?_
  rintro e w' ⟨g, m, cap', rfl, hm, hown, hb⟩
  have hsW : w.heap.size ≤ ((boxes w its).alloc (.cells (funcs w.heap.size its).toArray IT)).heap.size := hbW.size
  exact ⟨g, m, cap', rfl, hm, ownsRow_base hown hsW, hbW.trans (hb.mono hsW)⟩

/-- Two words, one behind the other. -/
theorem reduced_two (g1 g2 n1 n2 c1 c2 : Nat) (s1 s2 : ByteArray) (w : World) (h1 : wordB s1.data.toList = true) (h2 : wordB s2.data.toList = true) (i1 : IsWord w.heap.size w (.slice (some ⟨g1, 0, none⟩) n1 c1) s1.data.toList) (i2 : IsWord w.heap.size w (.slice (some ⟨g2, 0, none⟩) n2 c2) s2.data.toList) :
    Calls Try.prog 78 #[.slice (some ⟨w.heap.size + 2, 0, none⟩) 2 2]
      (((w.alloc (.cells #[.slice (some ⟨g1, 0, none⟩) n1 c1] WT)).alloc (.cells #[.slice (some ⟨g2, 0, none⟩) n2 c2] WT)).alloc (.cells #[.func (.func 148) #[] #[.pointer (some ⟨w.heap.size, 0, none⟩)], .func (.func 148) #[] #[.pointer (some ⟨w.heap.size + 1, 0, none⟩)]] IT)) fun e w' =>
      ∃ g m cap', e = .returned (.slice (some ⟨g, 0, none⟩) m cap') ∧ (redL [] (s1.data.toList ++ s2.data.toList)).length = m ∧ m ≤ 1000 ∧ w'.ownsRow w.heap.size 96 1 (.slice (some ⟨g, 0, none⟩) m cap') m (bytesV (redL [] (s1.data.toList ++ s2.data.toList))) ∧ Below w.heap.size w w' := by
  obtain ⟨p1, p2, _⟩ := (wordB_iff _).1 h1
  obtain ⟨q1, q2, _⟩ := (wordB_iff _).1 h2
  have hr : redX [] (s1.data.toList ++ (s2.data.toList ++ [])) = redL [] (s1.data.toList ++ s2.data.toList) := by
    rw [List.append_nil]; exact redX_eq _ _ (by rw [letL_append, p2, q2]; rfl)
  have hrd := reduced_boxes0 w [⟨148, .slice (some ⟨g1, 0, none⟩) n1 c1, s1.data.toList, s1.data.toList⟩, ⟨148, .slice (some ⟨g2, 0, none⟩) n2 c2, s2.data.toList, s2.data.toList⟩]
    (fun it hit => by
      rcases List.mem_cons.1 hit with rfl | hit
      · exact ⟨gives_fwd _ _, i1⟩
      · obtain rfl := List.mem_singleton.1 hit; exact ⟨gives_fwd _ _, i2⟩) (by simp only [List.map_cons, List.map_nil, List.flatten_cons, List.flatten_nil, List.length_append, List.length_nil]; omega) (by simp)
  simp only [List.map_cons, List.map_nil, List.flatten_cons, List.flatten_nil, hr] at hrd
  refine hrd.mono ?_
  rintro e w' ⟨g, m, cap', h1, h2, h3, h4⟩
  refine ⟨g, m, cap', h1, h2, ?_, h3, h4⟩
  have := redL_len (s1.data.toList ++ s2.data.toList) []
  rw [List.length_append] at this
  simp only [List.length_nil] at this
  omega

def prodB (x y : List Tm) : Bool := sumB x && (sumB y && (fitB (pairsT x y) && twB (canonT (pairsT x y))))

set_option maxRecDepth 100000 in
set_option maxHeartbeats 4000000 in
theorem iSumTimes_no (a1 a2 : Option Addr) (c1 c2 n m : Nat) (x y : List Tm) (w : World) (hx : IsTerms w a1 n x) (hy : IsTerms w a2 m y) (hb : sumB x = false ∨ sumB y = false) :
    Calls Try.prog 24 #[.slice a1 n c1, .slice a2 m c2] w (ITold w false []) := by
  have HX := Lib.hid hx
  have HY := Lib.hid hy
  have HBB := Lib.hid hb
  clear hx hy hb
  go_enter Try.func24, Try.ntmps24
  go_wp2_with fail
  refine (sumWords_any a1 c1 n x _ HX.out).mono ?_
  rintro e w1 ⟨⟨rfl, hf⟩ | ⟨g, vals, rfl, hf, _, _⟩, hb1⟩
  · have HB1 := Lib.hid hb1
    clear hb1 hf
    go_wp2
    go_ret2
    exact ⟨⟨_, rfl, ownNil _ _⟩, HB1.out⟩
  · have HB1 := Lib.hid hb1
    have hby : sumB y = false := by rcases HBB.out with h | h; · rw [h] at hf; cases hf
                                    · exact h
    have HBY := Lib.hid hby
    clear hb1 hf hby
    go_wp2_with fail
    refine (sumWords_any a2 c2 m y _ (HY.out.below HB1.out)).mono ?_
    rintro e w2 ⟨⟨rfl, hf⟩ | ⟨g, vals, rfl, hf, _, _⟩, hb2⟩
    · have HB2 := Lib.hid (HB1.out.trans (hb2.mono HB1.out.size))
      clear hb2 hf
      go_wp2
      go_ret2
      exact ⟨⟨_, rfl, ownNil _ _⟩, HB2.out⟩
    · rw [HBY.out] at hf; cases hf

set_option maxRecDepth 100000 in
set_option maxHeartbeats 8000000 in
theorem iSumTimes_yes (a1 a2 : Option Addr) (c1 c2 n m : Nat) (x y : List Tm) (b : Bool) (w : World) (hx : IsTerms w a1 n x) (hy : IsTerms w a2 m y) (hbx : sumB x = true) (hby : sumB y = true)
    (hb : (fitB (pairsT x y) && twB (canonT (pairsT x y))) = b) :
    Calls Try.prog 24 #[.slice a1 n c1, .slice a2 m c2] w (ITold w b (canonT (pairsT x y))) := by
  obtain ⟨i0, hi, hz0, hz1, hz2⟩ := info_parts infoTerm
  obtain ⟨hlx, hwx⟩ := canon_len_words (sumB_parts hbx).1
  obtain ⟨hly, hwy⟩ := canon_len_words (sumB_parts hby).1
  have hn : n ≤ 300 := by rw [← hx.len]; exact hlx
  have hm : m ≤ 300 := by rw [← hy.len]; exact hly
  have HX := Lib.hid hx
  have HY := Lib.hid hy
  have HBX := Lib.hid hbx
  have HBY := Lib.hid hby
  have HWX := Lib.hid hwx
  have HWY := Lib.hid hwy
  have HBB := Lib.hid hb
  have HLEN : Hid (∀ k j, k < n → j ≤ m → ∀ t : Tm, (pairsT (x.take k) y ++ (y.take j).map (pairT t)).length ≤ 90000) := Lib.hid fun k j hk hj t => by
    have h1 := pairs_len (x.take k) y
    have h2 : (x.take k).length * y.length ≤ 299 * 300 := Nat.mul_le_mul (by rw [List.length_take]; omega) hly
    rw [List.length_append, List.length_map, List.length_take]
    omega
  have HLENN : Hid ((pairsT x y).length ≤ 90000) := Lib.hid (by rw [pairs_len]; exact Nat.mul_le_mul hlx hly)
  obtain ⟨q, hq⟩ : ∃ q : Nat, (n : Int) * (m : Int) = (q : Int) := ⟨n * m, by rw [Int.natCast_mul]⟩
  have hq9 : q ≤ 90000 := by
    have : n * m ≤ 300 * 300 := Nat.mul_le_mul hn hm
    have h2 : ((n * m : Nat) : Int) = (q : Int) := by rw [Int.natCast_mul]; exact hq
    omega
  clear hx hy hbx hby hlx hwx hly hwy hb
  go_enter Try.func24, Try.ntmps24
  go_wp2_with fail
  refine (sumWords_any a1 c1 n x _ HX.out).mono ?_
  rintro e w1 ⟨⟨rfl, hf⟩ | ⟨g1, vals1, rfl, hf, hr1, hv1⟩, hb1⟩
  · rw [HBX.out] at hf; cases hf
  have HB1 := Lib.hid hb1
  have HW1 := Lib.hid (wordsAt_of HX.out.len hr1 hv1)
  clear hb1 hf hr1 hv1
  go_wp2_with fail
  refine (sumWords_any a2 c2 m y _ (HY.out.below HB1.out)).mono ?_
  rintro e w2 ⟨⟨rfl, hf⟩ | ⟨g2, vals2, rfl, hf, hr2, hv2⟩, hb2⟩
  · rw [HBY.out] at hf; cases hf
  have HB2 := Lib.hid (HB1.out.trans (hb2.mono HB1.out.size))
  have HWX2 := Lib.hid (HW1.out.below hb2)
  have HWY2 := Lib.hid (wordsAt_of HY.out.len hr2 hv2)
  clear hb2 hf hr2 hv2
  go_wp2_with (at_make; refine wpList_make_own _ rfl _ _ 25 rfl w2.heap.size TI i0 (.agg #[.int .i64 0, .string ByteArray.empty]) 2 Try.underlying25 hi hz0 hz1 .i64 .i64 _ q rfl rfl rfl (by rw [hz2]; omega) (by unfold maxLen; omega) (Nat.le_refl _) ?_; intro w3 hrow hgrow)
  have hb3 : Below w2.heap.size w2 w3 := (Below.refl _ _).grown hgrow (Nat.le_refl _) (fun k e => by cases e)
  have HO3 : Hid (OwnT w2.heap.size w3 (.slice (some ⟨w2.heap.size, 0, none⟩) 0 q) []) := Lib.hid hrow
  have HB3 := Lib.hid hb3
  have hs2 := HB2.out.size
  clear hrow hgrow hb3 hq
  go_loopw [9, 38] (fun v i wr => ∃ k : Nat, k ≤ n ∧ i = .int .i64 k ∧ Hid ((∀ t ∈ pairsT (x.take k) y, t.s.size ≤ 60) ∧ OwnT w2.heap.size wr v (pairsT (x.take k) y)) ∧ Below w2.heap.size w2 wr) (fun _ i _ => n - (intOf i).toNat)
  case atStart => exact ⟨0, Nat.zero_le _, rfl, Lib.hid ⟨fun t h => (by cases h), HO3.out⟩, HB3.out⟩
  case round =>
    obtain ⟨k, hk, rfl, HA, hB⟩ := hrel
    by_cases hlt : k < n
    · have hkx : k < x.length := by rw [HX.out.len]; exact hlt
      obtain ⟨z, rfl, hz⟩ := HX.out.at_ (by omega)
      obtain ⟨t, ht⟩ : ∃ t, x[k] = t := ⟨_, rfl⟩
      have htb := HWX.out _ (List.getElem_mem hkx)
      obtain ⟨gw, cw, hcw, hiw⟩ := HWX2.out.2 k hkx
      have hcw := (hB.cell (p := ⟨g1, k, none⟩) HWX2.out.1).trans hcw
      rw [ht] at htb hcw hiw
      have HTI := Lib.hid (termB_iff htb)
      have HTW := Lib.hid (termB_word htb)
      have HT := Lib.hid ht
      have HZ := Lib.hid hz
      have HIW := Lib.hid (hiw)
      have HBo := Lib.hid hB
      clear ht htb hz hiw
      go_wp2
      go_loopw [9, 45] (fun v i wr2 => ∃ j : Nat, j ≤ m ∧ i = .int .i64 j ∧ Hid ((∀ u ∈ pairsT (x.take k) y ++ (y.take j).map (pairT t), u.s.size ≤ 60) ∧ OwnT w2.heap.size wr2 v (pairsT (x.take k) y ++ (y.take j).map (pairT t))) ∧ Below w2.heap.size w2 wr2) (fun _ i _ => m - (intOf i).toNat)
      case atStart => exact ⟨0, Nat.zero_le _, rfl, Lib.hid (by simpa using ⟨HA.out.1, HA.out.2⟩), hB⟩
      case round =>
        obtain ⟨j, hj, rfl, HAj, hBj⟩ := hrel
        by_cases hltj : j < m
        · have hjy : j < y.length := by rw [HY.out.len]; exact hltj
          obtain ⟨zy, rfl, hzy⟩ := HY.out.at_ (by omega)
          obtain ⟨u, hu⟩ : ∃ u, y[j] = u := ⟨_, rfl⟩
          have hub := HWY.out _ (List.getElem_mem hjy)
          obtain ⟨gu, cu, hcu, hiu⟩ := (HWY2.out.below hBj).2 j hjy
          rw [hu] at hub hcu hiu
          have HUI := Lib.hid (termB_iff hub)
          have HUW := Lib.hid (termB_word hub)
          have HU := Lib.hid hu
          have HZY := Lib.hid hzy
          have hrd := reduced_two gw gu _ _ cw cu t.s u.s wr HTW.out HUW.out ((HIW.out.below hBj).mono hBj.size) hiu
          obtain ⟨r, hr⟩ : ∃ r, redL [] (t.s.data.toList ++ u.s.data.toList) = r := ⟨_, rfl⟩
          rw [hr] at hrd
          have HPT : Hid (pairT t u = ⟨t.c * u.c, bstr r⟩) := Lib.hid (by rw [← hr]; rfl)
          have HRD := Lib.hid hrd
          clear hu hub hzy hrd hr hiu
          go_wp2_with fail
          refine (letters_fwd _ _ _ 1 _ (by decide)).mono ?_
          rintro e w4 ⟨rfl, rfl⟩
          go_wp2_with fail
          refine (letters_fwd _ _ _ 1 _ (by decide)).mono ?_
          rintro e w4 ⟨rfl, rfl⟩
          go_wp2_with fail
          refine HRD.out.mono ?_
          rintro e w5 ⟨g5, l5, cap5, rfl, hl5, hm5, hown5, hb5⟩
          have HL5 := Lib.hid hl5
          have HO5 := Lib.hid hown5
          have HB5 := Lib.hid hb5
          clear hl5 hown5 hb5
          by_cases hrs : l5 ≤ 60
          · go_wp2_with fail
            refine (told_yes _ g5 cap5 l5 r _ HL5.out hrs HO5.out).mono ?_
            rintro e w6 ⟨rfl, hb6⟩
            have hb56 : Below wr.heap.size wr w6 := HB5.out.trans (hb6.mono HB5.out.size)
            have hB6 : Below w2.heap.size w2 w6 := hBj.trans (hb56.mono hBj.size)
            obtain ⟨rs, hrs2⟩ : ∃ rs, bstr r = rs := ⟨_, rfl⟩
            have hrss : rs.size ≤ 60 := by rw [← hrs2, bstr_size, HL5.out]; exact hrs
            have HPT2 : Hid (pairT t u = ⟨t.c * u.c, rs⟩) := Lib.hid (by rw [HPT.out, hrs2])
            rw [hrs2]
            have hzw := HZ.out.below (HB2.out.trans (hB6.mono hs2))
            have hzyw := HZY.out.below (HB2.out.trans (hB6.mono hs2))
            have hc := hzw.2 k hkx
            have hcy := hzyw.2 j hjy
            rw [HT.out] at hc
            rw [HU.out] at hcy
            obtain ⟨c0, _⟩ := hc
            obtain ⟨e0, _⟩ := hcy
            have HMB := Lib.hid (mul_bnd HTI.out.2 HUI.out.2)
            have hmul : IntKind.i64.wrap (t.c * u.c) = t.c * u.c := by have := HMB.out; exact IntWalk.i64_in _ (by omega)
            have hO6 : OwnT w2.heap.size w6 u9 (pairsT (x.take k) y ++ (y.take j).map (pairT t)) := HAj.out.2.below hb56
            obtain ⟨N, hN⟩ : ∃ N, (pairsT (x.take k) y ++ (y.take j).map (pairT t)).length = N := ⟨_, rfl⟩
            have hN9 : N ≤ 90000 := by rw [← hN]; exact HLEN.out k j hlt (by omega) t
            unfold OwnT at hO6
            rw [hN] at hO6
            have HO6 := Lib.hid hO6
            have HN := Lib.hid hN
            have hsz6 := hB6.size
            clear hb6 hb56 hrs2 hzw hzyw hO6 hN
            have hwr : w6.drew.heap.size = w6.heap.size := rfl
            go_wp2_with fail
            go_region_law
              ((refine step_append_lies _ (by rfl) _ _ _ (by rfl) w2.heap.size TI i0 _ 2 24 Try.underlying25 hi hz0 hz1 hz2 rfl (by omega) u9 N (termsV (pairsT (x.take k) y ++ (y.take j).map (pairT t))) (by rfl) ((HO6.out.alloc _).drew)
                  ⟨w6.heap.size, 0, none⟩ 1 1 [.int .i64 (t.c * u.c), .string rs] (by rfl) (by rfl) (World.news_of_block (cs := #[.int .i64 (t.c * u.c), .string rs]) (t := TI) (fr := (0, 0)) (heap_alloc_new w6 _)) (by simp [Value.oneCell'])
                  (by omega) (by unfold maxLen; omega) (by omega) (by simp; omega) (w6.heap.size + 1) (by simp) ?_; intro gg cap1 w7 hown7 hgrow7 hat hlt7))
            all_goals
              have hlow := ownsRow_low HO6.out
              have hB7 : Below w2.heap.size w2 w7 := hB6.trans ((((Below.refl w2.heap.size w6).alloc hsz6 _).drew).grown hgrow7 (by show w2.heap.size ≤ (w6.alloc _).heap.size; simp; omega) hlow)
              have HO7 := Lib.hid hown7
              clear hown7 hgrow7 hat hlt7 hlow
              go_wp2
              go_roundw
              case rel =>
                refine ⟨j + 1, by omega, by go_num, Lib.hid ⟨fun v hv => ?_, ?_⟩, hB7⟩
                · rw [map_succ (pairT t) y j hjy, ← List.append_assoc] at hv
                  rcases List.mem_append.1 hv with hv | hv
                  · exact HAj.out.1 v hv
                  · rw [List.mem_singleton.1 hv, HU.out, HPT2.out]; exact hrss
                · rw [map_succ (pairT t) y j hjy, HU.out, HPT2.out, ← List.append_assoc]
                  unfold OwnT
                  rw [List.length_append, HN.out, termsV_append]
                  exact HO7.out
              case measure => simp [intOf]; omega
          · have hB5 : Below w2.heap.size w2 w5 := hBj.trans (HB5.out.mono hBj.size)
            go_wp2_with fail
            refine (told_no _ _ _ _ (by omega) (by unfold maxLen; omega)).mono ?_
            rintro e w6 ⟨rfl, rfl⟩
            go_wp2
            go_ret2
            have hbf : b = false := by
              rw [← HBB.out]
              have : fitB (pairsT x y) = false := by
                refine List.all_eq_false.2 ⟨pairT t u, ?_, by rw [HPT.out]; simp only [bstr_size, HL5.out]; simpa using hrs⟩
                unfold pairsT
                exact List.mem_flatMap.2 ⟨t, by rw [← HT.out]; exact List.getElem_mem hkx, List.mem_map.2 ⟨u, by rw [← HU.out]; exact List.getElem_mem hjy, rfl⟩⟩
              rw [this]; rfl
            subst hbf
            exact ⟨⟨_, rfl, ownNil _ _⟩, HB2.out.trans (hB5.mono hs2)⟩
        · obtain rfl : j = m := by omega
          go_wp2
          go_roundw
          case rel =>
            refine ⟨k + 1, by omega, by go_num, Lib.hid ?_, hBj⟩
            have h := HAj.out
            have hty : y.take j = y := List.take_of_length_le (by rw [HY.out.len]; exact Nat.le_refl _)
            rw [hty, ← HT.out, ← pairs_succ x y k hkx] at h
            exact h
          case measure => simp [intOf]; omega
    · obtain rfl : k = n := by omega
      have hacc := HA.out
      rw [List.take_of_length_le (by rw [HX.out.len]; exact Nat.le_refl _)] at hacc
      obtain ⟨hfit, hown⟩ := hacc
      have hcf : ∀ t ∈ pairsT x y, -1000000000000 ≤ t.c ∧ t.c ≤ 1000000000000 := fun t ht => by
        unfold pairsT at ht
        obtain ⟨u, hu, ht⟩ := List.mem_flatMap.1 ht
        obtain ⟨v, hv, rfl⟩ := List.mem_map.1 ht
        exact mul_bnd (termB_iff (HWX.out u hu)).2 (termB_iff (HWY.out v hv)).2
      have hlen := HLENN.out
      have hsm : SmallT (pairsT x y) := ⟨by unfold maxLen; omega, fun t ht => by have := hcf t ht; have := hfit t ht; unfold maxLen; omega⟩
      obtain ⟨av, cv, rfl, hI⟩ := hown.isTerms hsm
      have hbb : twB (canonT (pairsT x y)) = b := by
        rw [← HBB.out, show fitB (pairsT x y) = true from List.all_eq_true.2 fun t ht => by simpa using hfit t ht, Bool.true_and]
      obtain ⟨N, hN⟩ : ∃ N, (pairsT x y).length = N := ⟨_, rfl⟩
      rw [hN] at hI hlen ⊢
      have htold := toldSum_any av cv N (pairsT x y) b wr hI (by omega) hcf hbb
      have HTo := Lib.hid htold
      have HBr := Lib.hid hB
      clear hfit hown hcf hsm hI hbb hN htold
      go_wp2_with fail
      refine HTo.out.mono ?_
      rintro e w5 ⟨⟨v', rfl, ho⟩, hb5⟩
      have HO := Lib.hid ho
      have HB5 := Lib.hid (HB2.out.trans ((HBr.out.trans (hb5.mono HBr.out.size)).mono hs2))
      have hs5 := HBr.out.size
      clear ho hb5
      go_wp2
      go_ret2
      exact ⟨⟨_, rfl, HO.out.mono (by omega)⟩, HB5.out⟩

/-! ### As a law wants them -/
theorem prodB_tw {x y : List Tm} {b : Bool} (h : prodB x y = b) : b = true → twB (canonT (pairsT x y)) = true := by
  intro hb
  subst hb
  unfold prodB at h
  simp only [Bool.and_eq_true] at h
  exact h.2.2.2
theorem sSumTimes_law {g1 g2 c1 c2 n m : Nat} {x y : List Tm} {b : Bool} {w : World} (hx : IsTerms w (some ⟨g1, 0, none⟩) n x) (hy : IsTerms w (some ⟨g2, 0, none⟩) m y) (hb : prodB x y = b) :
    Calls Try.prog 61 #[.slice (some ⟨g1, 0, none⟩) n c1, .slice (some ⟨g2, 0, none⟩) m c2] w (STold w b (canonT (pairsT x y))) := by
  unfold prodB at hb
  cases hbx : sumB x with
  | false => rw [hbx] at hb; subst hb; exact sSumTimes_no _ _ _ _ _ _ x y w hx hy (.inl hbx)
  | true =>
    cases hby : sumB y with
    | false => rw [hbx, hby] at hb; subst hb; exact sSumTimes_no _ _ _ _ _ _ x y w hx hy (.inr hby)
    | true => rw [hbx, hby] at hb; exact sSumTimes_yes _ _ _ _ _ _ x y b w hx hy hbx hby hb
theorem iSumTimes_law {g1 g2 c1 c2 n m : Nat} {x y : List Tm} {b : Bool} {w : World} (hx : IsTerms w (some ⟨g1, 0, none⟩) n x) (hy : IsTerms w (some ⟨g2, 0, none⟩) m y) (hb : prodB x y = b) :
    Calls Try.prog 24 #[.slice (some ⟨g1, 0, none⟩) n c1, .slice (some ⟨g2, 0, none⟩) m c2] w (ITold w b (canonT (pairsT x y))) := by
  unfold prodB at hb
  cases hbx : sumB x with
  | false => rw [hbx] at hb; subst hb; exact iSumTimes_no _ _ _ _ _ _ x y w hx hy (.inl hbx)
  | true =>
    cases hby : sumB y with
    | false => rw [hbx, hby] at hb; subst hb; exact iSumTimes_no _ _ _ _ _ _ x y w hx hy (.inr hby)
    | true => rw [hbx, hby] at hb; exact iSumTimes_yes _ _ _ _ _ _ x y b w hx hy hbx hby hb

end Go.Proofs.Ytebgcebjlbhjjab

/- The contracts of the program's 'changed' and 'SumTurned'; both SumTurneds as a law wants them. -/

namespace Go.Proofs.Ytebgcebjlbhjjab
open Go.RowKit Go.Shelf

/-- A function value that changes words, from w on. -/
def ChangeOk (w0 : World) (F : Nat) (lb : Array Value) (f : List UInt8 → List UInt8) : Prop :=
  ∀ (W : World) (g n cap : Nat) (L : List UInt8), Below w0.heap.size w0 W → L.length = n → wordB L = true → IsWord W.heap.size W (.slice (some ⟨g, 0, none⟩) n cap) L →
    Calls Try.prog F (#[.slice (some ⟨g, 0, none⟩) n cap] ++ lb) W fun e w' => ∃ g4 m cap4, e = .returned (.slice (some ⟨g4, 0, none⟩) m cap4) ∧ (f L).length = m ∧ m ≤ 100000 ∧ w'.ownsRow W.heap.size 96 1 (.slice (some ⟨g4, 0, none⟩) m cap4) m (bytesV (f L)) ∧ Below W.heap.size W w'

set_option maxRecDepth 100000 in
set_option maxHeartbeats 2000000 in
theorem changed_no (a : Option Addr) (cap n : Nat) (x : List Tm) (fv : Value) (w : World) (hx : IsTerms w a n x) (hb : sumB x = false) :
    Calls Try.prog 76 #[.slice a n cap, fv] w (ITold w false []) := by
  have HX := Lib.hid hx
  have HBX := Lib.hid hb
  clear hx hb
  go_enter Try.func76, Try.ntmps76
  go_wp2_with fail
  refine (sumWords_any a cap n x _ HX.out).mono ?_
  rintro e w1 ⟨⟨rfl, hf⟩ | ⟨g, vals, rfl, hf, _, _⟩, hb1⟩
  · have HB1 := Lib.hid hb1
    clear hb1 hf
    go_wp2
    go_ret2
    exact ⟨⟨_, rfl, ownNil _ _⟩, HB1.out⟩
  · rw [HBX.out] at hf; cases hf

set_option maxRecDepth 100000 in
set_option maxHeartbeats 8000000 in
theorem changed_yes (F : Nat) (lb : Array Value) (f : List UInt8 → List UInt8) (a : Option Addr) (cap n : Nat) (x : List Tm) (b : Bool) (w : World) (hx : IsTerms w a n x) (eg : ∀ args w, (callFunc F args).run Try.prog w = .ok (.enter F args) w) (hch : ChangeOk w F lb f)
    (hbx : sumB x = true) (hb : (fitB (x.map (mapT f)) && twB (canonT (x.map (mapT f)))) = b) :
    Calls Try.prog 76 #[.slice a n cap, .func (.func F) #[] lb] w (ITold w b (canonT (x.map (mapT f)))) := by
  obtain ⟨i0, hi, hz0, hz1, hz2⟩ := info_parts infoTerm
  obtain ⟨hlx, hwx⟩ := canon_len_words (sumB_parts hbx).1
  have hn : n ≤ 300 := by rw [← hx.len]; exact hlx
  have hyn : (x.map (mapT f)).length = n := by rw [List.length_map, hx.len]
  obtain ⟨ys, hys⟩ : ∃ ys, x.map (mapT f) = ys := ⟨_, rfl⟩
  rw [hys] at hb hyn ⊢
  have HX := Lib.hid hx
  have HBX := Lib.hid hbx
  have HWX := Lib.hid hwx
  have HBB := Lib.hid hb
  have HYS := Lib.hid hys
  have HYN := Lib.hid hyn
  have HCH := Lib.hid hch
  clear hx hbx hlx hwx hb hys hyn hch
  go_enter Try.func76, Try.ntmps76
  go_wp2_with fail
  refine (sumWords_any a cap n x _ HX.out).mono ?_
  rintro e w1 ⟨⟨rfl, hf⟩ | ⟨g1, vals1, rfl, hf, hr1, hv1⟩, hb1⟩
  · rw [HBX.out] at hf; cases hf
  have HB1 := Lib.hid hb1
  have HW1 := Lib.hid (wordsAt_of HX.out.len hr1 hv1)
  clear hb1 hf hr1 hv1
  go_wp2_with (at_make; refine wpList_make_full _ rfl _ _ 25 rfl w1.heap.size TI i0 (.agg #[.int .i64 0, .string ByteArray.empty]) 2 Try.underlying25 hi hz0 hz1 .i64 .i64 _ _ n rfl rfl rfl rfl (by rw [hz2]; omega) (by unfold maxLen; omega) (Nat.le_refl _) ?_; intro w2 hrow hgrow)
  rw [show (madeCells (Value.cells (.agg #[.int .i64 0, .string ByteArray.empty])) (n * 2)).toList = termsV (ys.take 0 ++ List.replicate (n - 0) zeroTm) from made_terms n] at hrow
  have hb2 : Below w1.heap.size w1 w2 := (Below.refl _ _).grown hgrow (Nat.le_refl _) (fun k e => by cases e)
  have HR2 := Lib.hid hrow
  have HB2 := Lib.hid hb2
  have hs1 := HB1.out.size
  clear hrow hgrow hb2
  go_loopw [25] (fun i wr => ∃ k : Nat, k ≤ n ∧ i = .int .i64 k ∧ Hid ((∀ j (h : j < ys.length), j < k → ys[j].s.size ≤ 60) ∧ wr.ownsRow w1.heap.size TI 2 (.slice (some ⟨w1.heap.size, 0, none⟩) n n) n (termsV (ys.take k ++ List.replicate (n - k) zeroTm))) ∧ Below w1.heap.size w1 wr) (fun i _ => n - (intOf i).toNat)
  case atStart => exact ⟨0, Nat.zero_le _, rfl, Lib.hid ⟨fun j _ h => absurd h (Nat.not_lt_zero _), HR2.out⟩, HB2.out⟩
  case round =>
    obtain ⟨k, hk, rfl, HA, hB⟩ := hrel
    by_cases hlt : k < n
    · have hkx : k < x.length := by rw [HX.out.len]; exact hlt
      have hky : k < ys.length := by rw [HYN.out]; exact hlt
      obtain ⟨z, rfl, hz⟩ := HX.out.at_ (by omega)
      obtain ⟨t, ht⟩ : ∃ t, x[k] = t := ⟨_, rfl⟩
      have hyk : ys[k] = mapT f t := by have h := HYS.out; subst h; rw [List.getElem_map, ht]
      have htb := HWX.out _ (List.getElem_mem hkx)
      obtain ⟨gw, cw, hcw, hiw⟩ := (HW1.out.below hB).2 k hkx
      rw [ht] at htb hcw hiw
      have hcall := HCH.out wr gw t.s.size cw t.s.data.toList (HB1.out.trans (hB.mono hs1)) (by simp) (termB_word htb) hiw
      obtain ⟨r, hr⟩ : ∃ r, f t.s.data.toList = r := ⟨_, rfl⟩
      rw [hr] at hcall
      have HYK : Hid (ys[k] = ⟨t.c, bstr r⟩) := Lib.hid (by rw [hyk, ← hr]; rfl)
      have HT := Lib.hid ht
      have HZ := Lib.hid hz
      have HCA := Lib.hid hcall
      clear ht htb hz hiw hyk hr hcall
      go_wp2_with fail
      refine HCA.out.mono ?_
      rintro e w5 ⟨g5, l5, cap5, rfl, hl5, hm5, hown5, hb5⟩
      have HL5 := Lib.hid hl5
      have HO5 := Lib.hid hown5
      have HB5 := Lib.hid hb5
      clear hl5 hown5 hb5
      by_cases hrs : l5 ≤ 60
      · go_wp2_with fail
        refine (told_yes _ g5 cap5 l5 r _ HL5.out hrs HO5.out).mono ?_
        rintro e w6 ⟨rfl, hb6⟩
        have hb56 : Below wr.heap.size wr w6 := HB5.out.trans (hb6.mono HB5.out.size)
        have hB6 : Below w1.heap.size w1 w6 := hB.trans (hb56.mono hB.size)
        obtain ⟨rs, hrs2⟩ : ∃ rs, bstr r = rs := ⟨_, rfl⟩
        have hrss : rs.size ≤ 60 := by rw [← hrs2, bstr_size, HL5.out]; exact hrs
        have HYK2 : Hid (ys[k] = ⟨t.c, rs⟩) := Lib.hid (by rw [HYK.out, hrs2])
        rw [hrs2]
        have hc := (HZ.out.below (HB1.out.trans (hB6.mono hs1))).2 k hkx
        rw [HT.out] at hc
        obtain ⟨c0, _⟩ := hc
        have hr6 : w6.ownsRow w1.heap.size TI 2 (.slice (some ⟨w1.heap.size, 0, none⟩) n n) n (termsV (ys.take k ++ List.replicate (n - k) zeroTm)) := HA.out.2.kept ⟨hb56.os, hb56.tape, hb56.output, hb56.size, fun j hj _ => hb56.block j hj⟩ (row := none) (.inr (by simp [Value.ownBlock]))
        have hl := hr6.1
        have hd0 : ∃ u, w6.cell? ⟨w1.heap.size, k * 2, none⟩ = some u := by rw [hr6.cellAt _ (by omega)]; exact ⟨_, List.getElem?_eq_getElem (by omega)⟩
        have hd1 : ∃ u, w6.cell? ⟨w1.heap.size, k * 2 + 1, none⟩ = some u := by rw [hr6.cellAt _ (by omega)]; exact ⟨_, List.getElem?_eq_getElem (by omega)⟩
        obtain ⟨u0, hu0⟩ := hd0
        obtain ⟨u1, hu1⟩ := hd1
        have hf0 := hr6.frozenAt (k * 2)
        have hf1 := hr6.frozenAt (k * 2 + 1)
        have hfil := fill_terms ys n k HYN.out hlt
        rw [HYK2.out] at hfil
        have HF := Lib.hid hfil
        have HR6 := Lib.hid hr6
        have HB6 := Lib.hid hB6
        clear hl hr6 hfil hb6 hb56 hrs2 hB6
        go_wp2
        go_roundw
        case rel =>
          refine ⟨k + 1, by omega, by go_num, Lib.hid ⟨fun j hj hjk => ?_, ?_⟩, (HB6.out.setCell (p := ⟨w1.heap.size, k * 2, none⟩) (Nat.le_refl _) _).setCell (p := ⟨w1.heap.size, k * 2 + 1, none⟩) (Nat.le_refl _) _⟩
          · by_cases e : j = k
            · subst e; rw [HYK2.out]; exact hrss
            · exact HA.out.1 j hj (by omega)
          · rw [← HF.out]
            exact ((HR6.out.stored (k * 2) (.int .i64 t.c)).1.stored (k * 2 + 1) (.string rs)).1
        case measure => simp [intOf]; omega
      · have hB5 : Below w1.heap.size w1 w5 := hB.trans (HB5.out.mono hB.size)
        go_wp2_with fail
        refine (told_no _ _ _ _ (by omega) (by unfold maxLen; omega)).mono ?_
        rintro e w6 ⟨rfl, rfl⟩
        go_wp2
        go_ret2
        have hbf : b = false := by
          rw [← HBB.out, fitB_at hky (by rw [HYK.out]; simp only [bstr_size, HL5.out]; exact hrs)]; rfl
        subst hbf
        exact ⟨⟨_, rfl, ownNil _ _⟩, HB1.out.trans (hB5.mono hs1)⟩
    · obtain rfl : n = k := by omega
      obtain ⟨hfit, hown⟩ := HA.out
      rw [Nat.sub_self, List.replicate_zero, List.append_nil, List.take_of_length_le (by rw [HYN.out]; exact Nat.le_refl _)] at hown
      have hft : ∀ j (hj : j < ys.length), ys[j].s.size ≤ 60 := fun j hj => hfit j hj (by rw [← HYN.out]; exact hj)
      have hcf : ∀ t ∈ ys, t.s.size ≤ 60 ∧ -1000000 ≤ t.c ∧ t.c ≤ 1000000 := fun t ht => by
        obtain ⟨j, hj, rfl⟩ := List.getElem_of_mem ht
        refine ⟨hft j hj, ?_⟩
        have h := HYS.out
        subst h
        rw [List.getElem_map]
        have hjx : j < x.length := by rw [List.length_map] at hj; exact hj
        exact (termB_iff (HWX.out _ (List.getElem_mem hjx))).2
      have hI : IsTerms wr (some ⟨w1.heap.size, 0, none⟩) n ys := ⟨HYN.out, by unfold maxLen; omega, fun _ => ⟨_, rfl, termsAt_of_owns HYN.out hown⟩, fun t ht => by have := hcf t ht; unfold maxLen; omega⟩
      have hbb : twB (canonT ys) = b := by rw [← HBB.out, fitB_of hft, Bool.true_and]
      have htold := toldSum_any (some ⟨w1.heap.size, 0, none⟩) n n ys b wr hI (by omega) (fun t ht => by have := hcf t ht; omega) hbb
      have HTo := Lib.hid htold
      have HBr := Lib.hid hB
      clear hfit hown hft hcf hI hbb htold
      go_wp2_with fail
      refine HTo.out.mono ?_
      rintro e w5 ⟨⟨v', rfl, ho⟩, hb5⟩
      have HO := Lib.hid ho
      have HB5 := Lib.hid (HB1.out.trans ((HBr.out.trans (hb5.mono HBr.out.size)).mono hs1))
      have hs5 := HBr.out.size
      clear ho hb5
      go_wp2
      go_ret2
      exact ⟨⟨_, rfl, HO.out.mono (by omega)⟩, HB5.out⟩

/-! ### SumTurned -/
theorem inverse_change (w0 : World) : ChangeOk w0 101 #[] backL := fun W g n cap L _ hl hw hi => by
  have hs := ((wordB_iff _).1 hw).1
  refine (show Calls Try.prog 101 #[.slice (some ⟨g, 0, none⟩) n cap] W _ from wordInverse_yes g n cap L W hl hw hi).mono ?_
  rintro e w' ⟨g4, cap4, rfl, ho, hb⟩
  exact ⟨g4, n, cap4, rfl, by rw [backL_length, hl], by omega, ho, hb⟩
theorem fit_turned {x : List Tm} (h : sumB x = true) : fitB (x.map (mapT backL)) = true := by
  refine List.all_eq_true.2 fun t ht => ?_
  obtain ⟨u, hu, rfl⟩ := List.mem_map.1 ht
  have h1 := (sumB_small h).2.1 u hu
  unfold mapT
  simp only [bstr_size, backL_length]
  have : u.s.data.toList.length = u.s.size := by simp
  simpa [this] using h1.1

def turnedB (x : List Tm) : Bool := sumB x && twB (canonT (x.map (mapT backL)))

theorem turnedB_tw {x : List Tm} {b : Bool} (h : turnedB x = b) : b = true → twB (canonT (x.map (mapT backL))) = true := by
  intro hb
  subst hb
  unfold turnedB at h
  simp only [Bool.and_eq_true] at h
  exact h.2
end Go.Proofs.Ytebgcebjlbhjjab

/- The contracts of the program's 'imagesOf' and 'WordPut'. -/

namespace Go.Proofs.Ytebgcebjlbhjjab
open Go.RowKit Go.Shelf

/-- A list of strings from a cell 0 on, as a law copies it. -/
structure StrsIn (w : World) (a : Option Addr) (g : Nat) (n : Nat) (zs : List ByteArray) : Prop where
  len : zs.length = n
  at0 : 0 < n → a = some ⟨g, 0, none⟩
  blk : g < w.heap.size
  cells : ∀ i (h : i < zs.length), w.cell? ⟨g, i, none⟩ = some (.string zs[i])
  small : ∀ s ∈ zs, s.size ≤ maxLen
theorem StrsIn.below {w w' : World} {a : Option Addr} {g n : Nat} {zs : List ByteArray} (h : StrsIn w a g n zs) (hb : Below w.heap.size w w') : StrsIn w' a g n zs :=
  ⟨h.len, h.at0, Nat.lt_of_lt_of_le h.blk hb.size, fun i hi => (hb.cell (p := ⟨g, i, none⟩) h.blk).trans (h.cells i hi), h.small⟩

theorem imagesOf_yes (a : Option Addr) (g cap n : Nat) (zs : List ByteArray) (w : World) (hs : StrsIn w a g n zs) (hf : fourB zs = true) :
    Calls Try.prog 68 #[.slice a n cap] w fun e w' =>
      ∃ (gi : Nat), e = .returned (.tuple #[.slice (some ⟨gi, 0, none⟩) 4 4, .bool true]) ∧ FourAt gi w.heap.size w' zs ∧ Below w.heap.size w w' := by
  obtain ⟨hz4, hz⟩ := (fourB_iff zs).1 hf
  obtain rfl : n = 4 := by have := hs.len; omega
  obtain rfl := hs.at0 (by omega)
  have hw := wordsOf_four g zs w hz4 hs.blk hs.cells hz cap
  have HW := Lib.hid hw
  clear hw hs hz4 hz hf
  go_enter Try.func68, Try.ntmps68
  go_wp2_with fail
  refine HW.out.mono ?_
  rintro e w2 ⟨gi, vals, rfl, hgi, hvals, hb2⟩
  have HV := Lib.hid hvals
  clear hvals
  go_wp2_with fail
  go_ret2
  refine ⟨gi, rfl, ⟨hgi, fun j h => ?_⟩, hb2⟩
  obtain ⟨v, h1, _, h2⟩ := HV.out j h
  exact ⟨v, h1, h2⟩

theorem imagesOf_no (a : Option Addr) (g cap n : Nat) (zs : List ByteArray) (w : World) (hs : StrsIn w a g n zs) (hn : n ≤ maxLen) (hf : fourB zs = false) :
    Calls Try.prog 68 #[.slice a n cap] w fun e w' =>
      e = .returned (.tuple #[.slice none 0 0, .bool false]) ∧ Below w.heap.size w w' := by
  have hnm := hn
  unfold maxLen at hnm
  by_cases h4 : n = 4
  · have hno : ¬ ∀ s ∈ zs, wordB s.data.toList = true := fun h => by
      have := (fourB_iff zs).2 ⟨hs.len.trans h4, h⟩
      rw [hf] at this; cases this
    have hw := wordsOf_any a g 0 cap n zs w hs.len (by omega) hs.at0 hs.blk (fun i h => by rw [Nat.zero_add]; exact hs.cells i h) hs.small
    have HW := Lib.hid hw
    have HN := Lib.hid hno
    clear hw hs hno hf hn hnm
    subst h4
    go_enter Try.func68, Try.ntmps68
    go_wp2_with fail
    refine HW.out.mono ?_
    rintro e w2 ⟨⟨rfl, _⟩ | ⟨_, _, _, h, _⟩, hb2⟩
    · go_wp2_with fail
      go_ret2
      exact ⟨rfl, hb2⟩
    · exact absurd h HN.out
  · clear hs hf hn
    have h4' : ¬ ((n : Int) = 4) := by omega
    go_enter Try.func68, Try.ntmps68
    go_wp2
    go_ret2
    exact ⟨rfl, Below.refl _ _⟩

set_option maxHeartbeats 1000000 in
theorem iPut_yes (s : ByteArray) (a : Option Addr) (g cap n : Nat) (zs : List ByteArray) (w : World) (hs : StrsIn w a g n zs) (hw : wordB s.data.toList = true) (hf : fourB zs = true) :
    Calls Try.prog 20 #[.string s, .slice a n cap] w fun e w' => e = .returned (toldV (redL [] (putL zs s.data.toList))) ∧ Below w.heap.size w w' := by
  obtain ⟨p1, p2, _⟩ := (wordB_iff _).1 hw
  obtain ⟨hz4, hz⟩ := (fourB_iff zs).1 hf
  have hs60 : s.size ≤ 60 := by simpa using p1
  have HX : Hid (redX [] (s.data.toList.map (imgX zs)).flatten = redL [] (putL zs s.data.toList)) := by
    have := letL_putX zs s.data.toList hz
    have e := (putX_eq zs s.data.toList hz).1
    rw [← e]
    unfold putX at this ⊢
    exact Lib.hid (redX_eq _ _ this)
  have HLr : Hid ((redL [] (putL zs s.data.toList)).length ≤ 4000) := by
    have h1 := redL_len (putL zs s.data.toList) []
    have h2 := putX_len zs s.data.toList hz
    rw [(putX_eq zs s.data.toList hz).1] at h2
    have h3 : s.data.toList.length * 60 ≤ 60 * 60 := Nat.mul_le_mul p1 (Nat.le_refl _)
    exact Lib.hid (by simp only [List.length_nil] at h1; omega)
  have H := Lib.hid hw
  have HF := Lib.hid hf
  have HS := Lib.hid hs
  have H2 := Lib.hid p2
  have HZ := Lib.hid hz
  have HZ4 := Lib.hid hz4
  clear hw hf hs p1 p2 hz hz4
  by_cases h : (redL [] (putL zs s.data.toList)).length ≤ 60
  · have HT := Lib.hid (toldV_yes h)
    have HL := Lib.hid h
    clear h
    go_enter Try.func20, Try.ntmps20
    go_wp2_with fail
    refine (imagesOf_yes a g cap n zs w HS.out HF.out).mono ?_
    rintro e w1 ⟨gi, rfl, hfo, hb1⟩
    have HFo := Lib.hid hfo
    clear hfo
    go_wp2_with fail
    refine (wordOf_yes s _ H.out).mono ?_
    rintro e w2 ⟨g1, cap1, rfl, hown, hb2⟩
    have hw1 := Lib.hid (isWord_of_owns (n₀ := w2.heap.size) (l := s.data.toList) (by simp) (by omega) hown (Nat.le_refl _))
    clear hown
    go_wp2_with fail
    refine ((callsIn_wide (n := 40)).1 (wordPut_in 40 (by omega) g1 s.size cap1 gi 4 w.heap.size s.data.toList zs w2 (by simp) hs60 H2.out hw1.out HZ4.out HZ.out (HFo.out.below hb2))).mono ?_
    rintro e w3 ⟨g4, m, cap4, rfl, hm, hown, hb3⟩
    rw [HX.out] at hm hown
    have HM := Lib.hid hm
    have HO := Lib.hid hown
    clear hm hown
    go_wp2_with fail
    refine (told_yes _ _ _ _ _ _ HM.out (by rw [← HM.out]; exact HL.out) HO.out).mono ?_
    rintro e w5 ⟨rfl, hb5⟩
    go_wp2_with fail
    go_ret2
    exact ⟨by rw [HT.out]; rfl, hb1.trans ((hb2.trans ((hb3.trans (hb5.mono hb3.size)).mono hb2.size)).mono hb1.size)⟩
  · have HT := Lib.hid (toldV_no h)
    have HL := Lib.hid (Nat.lt_of_not_le h)
    clear h
    go_enter Try.func20, Try.ntmps20
    go_wp2_with fail
    refine (imagesOf_yes a g cap n zs w HS.out HF.out).mono ?_
    rintro e w1 ⟨gi, rfl, hfo, hb1⟩
    have HFo := Lib.hid hfo
    clear hfo
    go_wp2_with fail
    refine (wordOf_yes s _ H.out).mono ?_
    rintro e w2 ⟨g1, cap1, rfl, hown, hb2⟩
    have hw1 := Lib.hid (isWord_of_owns (n₀ := w2.heap.size) (l := s.data.toList) (by simp) (by omega) hown (Nat.le_refl _))
    clear hown
    go_wp2_with fail
    refine ((callsIn_wide (n := 40)).1 (wordPut_in 40 (by omega) g1 s.size cap1 gi 4 w.heap.size s.data.toList zs w2 (by simp) hs60 H2.out hw1.out HZ4.out HZ.out (HFo.out.below hb2))).mono ?_
    rintro e w3 ⟨g4, m, cap4, rfl, hm, hown, hb3⟩
    rw [HX.out] at hm hown
    have HM := Lib.hid hm
    have HO := Lib.hid hown
    clear hm hown
    go_wp2_with fail
    refine (told_no _ _ _ _ (by rw [← HM.out]; exact HL.out) (by have := HLr.out; rw [HM.out] at this; unfold maxLen; omega)).mono ?_
    rintro e w5 ⟨rfl, rfl⟩
    go_wp2_with fail
    go_ret2
    exact ⟨by rw [HT.out]; rfl, hb1.trans ((hb2.trans (hb3.mono hb2.size)).mono hb1.size)⟩

theorem iPut_no (s : ByteArray) (a : Option Addr) (g cap n : Nat) (zs : List ByteArray) (w : World) (hm : s.size ≤ maxLen) (hn : n ≤ maxLen) (hs : StrsIn w a g n zs) (h : ¬ (wordB s.data.toList = true ∧ fourB zs = true)) :
    Calls Try.prog 20 #[.string s, .slice a n cap] w fun e w' => e = .returned (.tuple #[.string ByteArray.empty, .bool false]) ∧ Below w.heap.size w w' := by
  have HS := Lib.hid hs
  clear hs
  cases hf : fourB zs with
  | false =>
    have HF := Lib.hid hf
    clear hf h
    go_enter Try.func20, Try.ntmps20
    go_wp2_with fail
    refine (imagesOf_no a g cap n zs w HS.out hn HF.out).mono ?_
    rintro e w1 ⟨rfl, hb1⟩
    go_wp2_with fail
    go_ret2
    exact ⟨rfl, hb1⟩
  | true =>
    have hw : wordB s.data.toList = false := by
      cases hw : wordB s.data.toList with
      | true => exact absurd ⟨hw, hf⟩ h
      | false => rfl
    have HF := Lib.hid hf
    have HW := Lib.hid hw
    clear hf h hw
    go_enter Try.func20, Try.ntmps20
    go_wp2_with fail
    refine (imagesOf_yes a g cap n zs w HS.out HF.out).mono ?_
    rintro e w1 ⟨gi, rfl, hfo, hb1⟩
    clear hfo
    go_wp2_with fail
    refine (wordOf_no _ _ hm HW.out).mono ?_
    rintro e w2 ⟨rfl, hb2⟩
    go_wp2_with fail
    go_ret2
    exact ⟨rfl, hb1.trans (hb2.mono hb1.size)⟩

end Go.Proofs.Ytebgcebjlbhjjab

/- The contracts of the program's 'SumPut'; both SumPuts as a law wants them. -/

namespace Go.Proofs.Ytebgcebjlbhjjab
open Go.RowKit Go.Shelf

theorem StrsIn.strsAt {w : World} {g n : Nat} {zs : List ByteArray} (h : StrsIn w (some ⟨g, 0, none⟩) g n zs) : StrsAt w (some ⟨g, 0, none⟩) zs :=
  ⟨fun _ => ⟨_, rfl, h.blk, fun i hi => by
    have ha : (⟨g, 0, none⟩ : Addr).add i = ⟨g, i, none⟩ := by unfold Addr.add; split <;> simp_all
    rw [ha]; exact h.cells i hi⟩, h.small⟩
theorem strsIn_owns {w : World} {base g n : Nat} {a : Option Addr} {w0 : World} {zs : List ByteArray} (h0 : IsStrs w0 a n zs) (h : w.ownsRow base 9 1 (.slice (some ⟨g, 0, none⟩) n n) n (strsV zs)) : StrsIn w (some ⟨g, 0, none⟩) g n zs := by
  obtain ⟨_, h2, h3⟩ := strsAt_of_owns h0.len h h0.at_.small
  exact ⟨h0.len, fun _ => rfl, h2, h3, h0.at_.small⟩

theorem put_change (w0 : World) (B gi lo : Nat) (zs : List ByteArray) (hB : w0.cell? ⟨B, 0, none⟩ = some (.slice (some ⟨gi, 0, none⟩) 4 4)) (hf : FourAt gi lo w0 zs) (hz4 : zs.length = 4) (hz : ∀ z ∈ zs, wordB z.data.toList = true) :
    ChangeOk w0 77 #[.pointer (some ⟨B, 0, none⟩)] (putF zs) := fun W g n cap L hb hl hw hi => by
  have hBW := (hb.cell (p := ⟨B, 0, none⟩) (World.block_lt_of_cell? _ _ hB)).trans hB
  obtain ⟨p1, p2, _⟩ := (wordB_iff _).1 hw
  have hput := (callsIn_wide (n := 40)).1 (wordPut_in 40 (by omega) g n cap gi 4 lo L zs W hl (by omega) p2 hi hz4 hz (hf.below hb))
  have hX : redX [] (L.map (imgX zs)).flatten = putF zs L := by
    have h1 := redX_eq (putX zs L) [] (letL_putX zs L hz)
    unfold putX at h1
    rw [h1]
    have h2 := (putX_eq zs L hz).1
    unfold putX at h2
    rw [h2]; rfl
  have hXl : (putF zs L).length ≤ 100000 := by
    rw [← hX]
    have h1 := redX_len (L.map (imgX zs)).flatten []
    have h2 := putX_len zs L hz
    unfold putX at h2
    simp only [List.length_nil] at h1
    omega
  rw [hX] at hput
  have HP := Lib.hid hput
  have HXL := Lib.hid hXl
  clear hput hX hXl hi hb hw hf hz hB hl p1 p2
  show Calls Try.prog 77 #[.slice (some ⟨g, 0, none⟩) n cap, .pointer (some ⟨B, 0, none⟩)] W _
  go_enter Try.func77, Try.ntmps77
  go_wp2_with fail
  refine HP.out.mono ?_
  rintro e w3 ⟨g4, m, cap4, rfl, hm, hown, hb3⟩
  have HM := Lib.hid hm
  have HO := Lib.hid hown
  clear hm hown
  go_wp2
  go_ret
  exact ⟨g4, m, cap4, rfl, HM.out, by rw [← HM.out]; exact HXL.out, HO.out, hb3⟩

def sumPutB (x : List Tm) (zs : List ByteArray) : Bool := sumB x && (fourB zs && (fitB (x.map (mapT (putF zs))) && twB (canonT (x.map (mapT (putF zs))))))

set_option maxRecDepth 100000 in
set_option maxHeartbeats 4000000 in
theorem iSumPut_noFour (a : Option Addr) (cap n g2 c2 m : Nat) (zs : List ByteArray) (w : World) (hs : StrsIn w (some ⟨g2, 0, none⟩) g2 m zs) (hm : m ≤ maxLen) (hb : fourB zs = false) :
    Calls Try.prog 23 #[.slice a n cap, .slice (some ⟨g2, 0, none⟩) m c2] w (ITold w false []) := by
  have HS := Lib.hid hs
  have HF := Lib.hid hb
  clear hs hb
  go_enter Try.func23, Try.ntmps23
  go_wp2_with fail
  refine (imagesOf_no _ g2 c2 m zs _ HS.out hm HF.out).mono ?_
  rintro e w1 ⟨rfl, hb1⟩
  have HB1 := Lib.hid hb1
  clear hb1
  go_wp2
  go_ret2
  exact ⟨⟨_, rfl, ownNil _ _⟩, by first | exact HB1.out | exact HB1.out.alloc HB1.out.size _ | exact (HB1.out.alloc HB1.out.size _).setCell (by exact HB1.out.size) _⟩

set_option maxRecDepth 100000 in
set_option maxHeartbeats 4000000 in
theorem iSumPut_four (a : Option Addr) (cap n g2 c2 m : Nat) (x : List Tm) (zs : List ByteArray) (b : Bool) (w : World) (hx : IsTerms w a n x) (hs : StrsIn w (some ⟨g2, 0, none⟩) g2 m zs) (hf : fourB zs = true) (hb : (sumB x && (fitB (x.map (mapT (putF zs))) && twB (canonT (x.map (mapT (putF zs)))))) = b) :
    Calls Try.prog 23 #[.slice a n cap, .slice (some ⟨g2, 0, none⟩) m c2] w (ITold w b (canonT (x.map (mapT (putF zs))))) := by
  obtain ⟨hz4, hz⟩ := (fourB_iff zs).1 hf
  have HX := Lib.hid hx
  have HS := Lib.hid hs
  have HF := Lib.hid hf
  have HBB := Lib.hid hb
  have HZ4 := Lib.hid hz4
  have HZ := Lib.hid hz
  clear hx hs hf hb hz4 hz
  go_enter Try.func23, Try.ntmps23
  go_wp2_with fail
  refine (imagesOf_yes _ g2 c2 m zs _ HS.out HF.out).mono ?_
  rintro e w1 ⟨gi, rfl, hfo, hb1⟩
  have HFo := Lib.hid hfo
  have HB1 := Lib.hid hb1
  clear hfo hb1
  have hba : Below w1.heap.size w1 (w1.alloc (.cells #[.slice (some ⟨gi, 0, none⟩) 4 4] 73)) := (Below.refl _ _).alloc (Nat.le_refl _) _
  have hbx : (w1.alloc (.cells #[.slice (some ⟨gi, 0, none⟩) 4 4] 73)).cell? ⟨w1.heap.size, 0, none⟩ = some (.slice (some ⟨gi, 0, none⟩) 4 4) := by
    rw [World.cell?_alloc_at _ _ _ _ rfl]; rfl
  have hch := put_change _ w1.heap.size gi w.heap.size zs hbx (HFo.out.below hba) HZ4.out HZ.out
  have hxw := HX.out.below (HB1.out.trans (hba.mono HB1.out.size))
  have HC : Hid (Calls Try.prog 76 #[.slice a n cap, .func (.func 77) #[] #[.pointer (some ⟨w1.heap.size, 0, none⟩)]] (w1.alloc (.cells #[.slice (some ⟨gi, 0, none⟩) 4 4] 73)) (ITold (w1.alloc (.cells #[.slice (some ⟨gi, 0, none⟩) 4 4] 73)) b (canonT (x.map (mapT (putF zs)))))) := by
    have h := HBB.out
    cases hbx2 : sumB x with
    | false => rw [hbx2] at h; subst h; exact Lib.hid (changed_no a cap n x _ _ hxw hbx2)
    | true => rw [hbx2, Bool.true_and] at h; exact Lib.hid (changed_yes _ #[.pointer (some ⟨w1.heap.size, 0, none⟩)] (putF zs) a cap n x b _ hxw (enters_of Try.func77 (by kernel_rfl) rfl) hch hbx2 h)
  have HBA := Lib.hid (HB1.out.trans (hba.mono HB1.out.size))
  clear hba hbx hch hxw
  go_wp2_with fail
  with_reducible refine HC.out.mono ?_
  rintro e w4 ⟨⟨v', rfl, ho⟩, hb4⟩
  have HO := Lib.hid ho
  have HB4 := Lib.hid hb4
  clear ho hb4
  go_wp2
  go_ret2
  exact ⟨⟨_, rfl, HO.out.mono HBA.out.size⟩, HBA.out.trans (HB4.out.mono HBA.out.size)⟩

/-! ### As a law wants them -/
theorem sumPutB_tw {x : List Tm} {zs : List ByteArray} {b : Bool} (h : sumPutB x zs = b) : b = true → twB (canonT (x.map (mapT (putF zs)))) = true := by
  intro hb
  subst hb
  unfold sumPutB at h
  simp only [Bool.and_eq_true] at h
  exact h.2.2.2
theorem iSumPut_law {g1 g2 c1 c2 n m : Nat} {x : List Tm} {zs : List ByteArray} {b : Bool} {w : World} (hx : IsTerms w (some ⟨g1, 0, none⟩) n x) (hm : m ≤ maxLen) (hs : StrsIn w (some ⟨g2, 0, none⟩) g2 m zs) (hb : sumPutB x zs = b) :
    Calls Try.prog 23 #[.slice (some ⟨g1, 0, none⟩) n c1, .slice (some ⟨g2, 0, none⟩) m c2] w (ITold w b (canonT (x.map (mapT (putF zs))))) := by
  unfold sumPutB at hb
  cases hbf : fourB zs with
  | false =>
    have : b = false := by rw [← hb, hbf, Bool.false_and, Bool.and_false]
    subst this
    exact iSumPut_noFour _ _ _ _ _ _ zs w hs hm hbf
  | true => rw [hbf, Bool.true_and] at hb; exact iSumPut_four _ _ _ _ _ _ x zs b w hx hs hbf hb

end Go.Proofs.Ytebgcebjlbhjjab

/- The contracts of the laws' 'markTermS' and 'heldTermS'. -/

namespace Go.Proofs.Ytebgcebjlbhjjab
open Go.RowKit Go.Shelf

def markT (k i : Nat) : Tm := ⟨((k + 2 * i : Nat) : Int), mkS (k + 2 * i + 1)⟩
/-- The marks from k on. -/
def marksT (k n : Nat) : List Tm := (List.range n).map (markT k)
theorem marksT_len (k n : Nat) : (marksT k n).length = n := by simp [marksT]
theorem marksT_get (k n i : Nat) (h : i < (marksT k n).length) : (marksT k n)[i] = markT k i := by simp [marksT]
theorem marksT_set (k j n : Nat) (us : List Tm) (hl : us.length = n) (hj : j < n) : (marksT k j ++ us.drop j).set j (markT k j) = marksT k (j + 1) ++ us.drop (j + 1) := by
  rw [List.set_append_right _ _ (by rw [marksT_len]; exact Nat.le_refl _), marksT_len, Nat.sub_self, List.drop_eq_getElem_cons (by omega : j < us.length), List.set_cons_zero]
  unfold marksT
  rw [List.range_succ, List.map_append, List.append_assoc]
  rfl

theorem ownsRow_past {w w' : World} {base : Nat} {e : TypeId} {size : Nat} {v : Value} {n : Nat} {xs : List Value} (h : w.ownsRow base e size v n xs) (hb : Below w.heap.size w w') : w'.ownsRow base e size v n xs :=
  h.kept ⟨hb.os, hb.tape, hb.output, hb.size, fun j hj _ => hb.block j hj⟩ (row := none) (by
    rcases h.2 with ⟨rfl, _⟩ | ⟨g, cap, cur, rfl, _⟩
    · exact .inl rfl
    · exact .inr (by simp [Value.ownBlock]))
theorem marksT_row (k j n : Nat) (us : List Tm) (hl : us.length = n) (hj : j < n) :
    ((termsV (marksT k j ++ us.drop j)).set (j * 2) (.int .i64 ((k + 2 * j : Nat) : Int))).set (j * 2 + 1) (.string (mkS (k + 2 * j + 1))) = termsV (marksT k (j + 1) ++ us.drop (j + 1)) := by
  rw [← marksT_set k j n us hl hj]
  exact set_terms _ j (markT k j) (by rw [List.length_append, marksT_len, List.length_drop]; omega)

theorem grown_trans {a b c : World} {row : Option Nat} (h : a.grownBy b row) (k : b.grownBy c row) : a.grownBy c row :=
  ⟨k.os.trans h.os, k.tape.trans h.tape, k.output.trans h.output, Nat.le_trans h.size k.size, fun i hi hne => (k.block i (Nat.lt_of_lt_of_le hi h.size) hne).trans (h.block i hi hne)⟩
theorem grown_refl (a : World) (row : Option Nat) : a.grownBy a row := ⟨rfl, rfl, rfl, Nat.le_refl _, fun _ _ _ => rfl⟩
theorem grown_below {a b : World} (row : Option Nat) (h : Below a.heap.size a b) : a.grownBy b row := ⟨h.os, h.tape, h.output, h.size, fun i hi _ => h.block i hi⟩
theorem mkB_size : ∀ (m : Nat) (t : ByteArray), (mkB m t).size ≤ t.size + m := by
  intro m
  induction m using Nat.strongRecOn with
  | _ m ih =>
    intro t
    by_cases h : m = 0
    · subst h; rw [mkB_zero]; exact Nat.le_refl _
    · rw [← mkB_step h]
      have h1 := ih (m / 10) (by omega) (⟨#[UInt8.ofNat (48 + m % 10)]⟩ ++ t)
      have h2 : ((⟨#[UInt8.ofNat (48 + m % 10)]⟩ : ByteArray) ++ t).size = 1 + t.size := by simp [ByteArray.size_append]; rfl
      omega
theorem mkS_size (k : Nat) : (mkS k).size ≤ k + 1 := by
  have h := mkB_size k ⟨#[]⟩
  have h0 : (⟨#[]⟩ : ByteArray).size = 0 := rfl
  have h1 : (mkS k).size = 1 + (mkB k ⟨#[]⟩).size := by unfold mkS; simp [ByteArray.size_append]; rfl
  omega
theorem marksT_small (k n : Nat) (hk : k ≤ 1000000) (hn : n ≤ 1048576) : SmallT (marksT k n) :=
  ⟨by rw [marksT_len]; unfold maxLen; omega, fun t ht => by
    unfold marksT at ht
    obtain ⟨i, hi, rfl⟩ := List.mem_map.1 ht
    have hi := List.mem_range.1 hi
    have := mkS_size (k + 2 * i + 1)
    unfold markT maxLen
    dsimp only
    omega⟩

def marksS (k n : Nat) : List ByteArray := (List.range n).map fun i => mkS (k + i)
theorem marksS_len (k n : Nat) : (marksS k n).length = n := by simp [marksS]
theorem marksS_set (k j n : Nat) (us : List ByteArray) (hl : us.length = n) (hj : j < n) : (strsV (marksS k j ++ us.drop j)).set j (.string (mkS (k + j))) = strsV (marksS k (j + 1) ++ us.drop (j + 1)) := by
  have h1 : (marksS k j ++ us.drop j).set j (mkS (k + j)) = marksS k (j + 1) ++ us.drop (j + 1) := by
    rw [List.set_append_right _ _ (by rw [marksS_len]; exact Nat.le_refl _), marksS_len, Nat.sub_self, List.drop_eq_getElem_cons (by omega : j < us.length), List.set_cons_zero]
    unfold marksS
    rw [List.range_succ, List.map_append, List.append_assoc]
    rfl
  rw [← h1]
  unfold strsV
  rw [List.map_set]
def OwnS (base : Nat) (w : World) (v : Value) (zs : List ByteArray) : Prop := w.ownsRow base 9 1 v zs.length (strsV zs)
theorem OwnS.below {base : Nat} {w w' : World} {v : Value} {zs : List ByteArray} (h : OwnS base w v zs) (hb : Below w.heap.size w w') : OwnS base w' v zs := ownsRow_past h hb

end Go.Proofs.Ytebgcebjlbhjjab

/- What the laws on lists of terms need about rows of the call's own. -/

namespace Go.Proofs.Ytebgcebjlbhjjab
open Go.RowKit Go.Shelf

theorem isTerms_owns {w : World} {base g cap n : Nat} {a : Option Addr} {w0 : World} {ts : List Tm} (h0 : IsTerms w0 a n ts) (h : w.ownsRow base TI 2 (.slice (some ⟨g, 0, none⟩) n cap) n (termsV ts)) : IsTerms w (some ⟨g, 0, none⟩) n ts :=
  ⟨h0.len, h0.max, fun _ => ⟨_, rfl, termsAt_of_owns h0.len h⟩, h0.small⟩
theorem ownIsTerms {base : Nat} {w : World} {a : Option Addr} {n c : Nat} {ts : List Tm} (h : OwnT base w (.slice a n c) ts) (hs : SmallT ts) : IsTerms w a n ts := by
  obtain ⟨a', c', e, hI⟩ := h.isTerms hs
  simp only [Value.slice.injEq] at e
  obtain ⟨rfl, rfl, rfl⟩ := e
  exact hI
theorem IsTerms.smallT {w : World} {a : Option Addr} {n : Nat} {ts : List Tm} (h : IsTerms w a n ts) : SmallT ts := ⟨by rw [h.len]; exact h.max, h.small⟩
theorem OwnT.keptBy {base : Nat} {w w' : World} {v : Value} {ts : List Tm} {row : Option Nat} (h : OwnT base w v ts) (hg : w.grownBy w' row) (hne : v.ownBlock = row → False) : OwnT base w' v ts := h.kept hg (.inr hne)
theorem OwnS.keptBy {base : Nat} {w w' : World} {v : Value} {ts : List ByteArray} {row : Option Nat} (h : OwnS base w v ts) (hg : w.grownBy w' row) (hne : v.ownBlock = row → False) : OwnS base w' v ts := h.kept hg (.inr hne)
theorem IsStrs.below {w w' : World} {a : Option Addr} {n : Nat} {zs : List ByteArray} (h : IsStrs w a n zs) (hb : Below w.heap.size w w') : IsStrs w' a n zs := ⟨h.len, h.max, h.at_.below hb⟩
theorem isStrs_owns {w : World} {base g n : Nat} {a : Option Addr} {w0 : World} {zs : List ByteArray} (h0 : IsStrs w0 a n zs) (h : w.ownsRow base 9 1 (.slice (some ⟨g, 0, none⟩) n n) n (strsV zs)) : IsStrs w (some ⟨g, 0, none⟩) n zs :=
  ⟨h0.len, h0.max, (strsAt_of_owns h0.len h h0.at_.small).1⟩
theorem ownIsStrs {base : Nat} {w w0 : World} {a : Option Addr} {g n : Nat} {zs : List ByteArray} (h0 : IsStrs w0 a n zs) (h : OwnS base w (.slice (some ⟨g, 0, none⟩) n n) zs) : StrsAt w (some ⟨g, 0, none⟩) zs := by
  unfold OwnS at h
  rw [h0.len] at h
  exact (strsAt_of_owns h0.len h h0.at_.small).1

end Go.Proofs.Ytebgcebjlbhjjab

/- Lists of lists of terms in memory; the contracts of the laws' own helpers on them. -/

namespace Go.Proofs.Ytebgcebjlbhjjab
open Go.RowKit Go.Shelf

abbrev TT : TypeId := 25
theorem infoTerms : (Try.prog.info? TT).map (fun i => (i.zero, i.size, i.bytes)) = some (some (.slice none 0 0), 1, 24) := by kernel_rfl

def total (rows : List (List Tm)) : Nat := (rows.map List.length).sum
theorem total_succ (rows : List (List Tm)) (k : Nat) (h : k < rows.length) : total (rows.take (k + 1)) = total (rows.take k) + rows[k].length := by
  unfold total; rw [List.take_succ_eq_append_getElem h, List.map_append, List.sum_append]; simp
theorem total_take_le : ∀ (rows : List (List Tm)) (k : Nat), total (rows.take k) ≤ total rows
  | [], k => by simp [total]
  | r :: rs, 0 => by simp [total]
  | r :: rs, k + 1 => by have := total_take_le rs k; unfold total at *; simp only [List.take_succ_cons, List.map_cons, List.sum_cons]; omega
theorem total_get (rows : List (List Tm)) (k : Nat) (h : k < rows.length) : total (rows.take k) + rows[k].length ≤ total rows := by
  rw [← total_succ rows k h]; exact total_take_le rows (k + 1)

/-- A slice of slices of terms. -/
structure IsTT (w : World) (a : Option Addr) (n : Nat) (rows : List (List Tm)) : Prop where
  len : rows.length = n
  max : n ≤ maxLen
  at_ : 0 < n → ∃ x, a = some x ∧ x.block < w.heap.size ∧ ∀ i (h : i < rows.length), ∃ ai ci, w.cell? (x.add i) = some (.slice ai rows[i].length ci) ∧ IsTerms w ai rows[i].length rows[i]
theorem IsTT.below {w w' : World} {a : Option Addr} {n : Nat} {rows : List (List Tm)} (h : IsTT w a n rows) (hb : Below w.heap.size w w') : IsTT w' a n rows :=
  ⟨h.len, h.max, fun h0 => by
    obtain ⟨x, e, hx, hc⟩ := h.at_ h0
    refine ⟨x, e, Nat.lt_of_lt_of_le hx hb.size, fun i hi => ?_⟩
    obtain ⟨ai, ci, h1, h2⟩ := hc i hi
    exact ⟨ai, ci, (hb.cell (p := x.add i) (by rw [addr_add_block]; exact hx)).trans h1, h2.below hb⟩⟩
theorem IsTT.none (w : World) (a : Option Addr) : IsTT w a 0 [] := ⟨rfl, Nat.zero_le _, fun h => absurd h (Nat.lt_irrefl _)⟩

/-! ### Rows of the call's own -/
theorem ownsRow_touched {w w' : World} {base : Nat} {e : TypeId} {size : Nat} {v : Value} {n : Nat} {xs : List Value} (h : w.ownsRow base e size v n xs) (ht : ∀ b, v.ownBlock = some b → b < w.heap.size → w'.heap[b]? = w.heap[b]?) : w'.ownsRow base e size v n xs := by
  refine ⟨h.1, ?_⟩
  rcases h.2 with ⟨rfl, h0⟩ | ⟨g, cap, cur, rfl, hb, hg, h3⟩
  · exact .inl ⟨rfl, h0⟩
  · exact .inr ⟨g, cap, cur, rfl, hb, (ht g rfl (Array.getElem?_eq_some_iff.1 hg).1).trans hg, h3⟩
structure OwnTT (lo : Nat) (w : World) (v : Value) (vals : List Value) (rows : List (List Tm)) : Prop where
  row : w.ownsRow lo TT 1 v rows.length vals
  each : ∀ (i : Nat) (h : i < rows.length) (u : Value), vals[i]? = some u → OwnT lo w u rows[i]
  apart : ∀ (i j : Nat) (u x : Value) (b : Nat), vals[i]? = some u → vals[j]? = some x → i ≠ j → u.ownBlock = some b → x.ownBlock = some b → False
  head : ∀ (i : Nat) (u : Value) (b : Nat), vals[i]? = some u → v.ownBlock = some b → u.ownBlock = some b → False
theorem OwnTT.val {lo : Nat} {w : World} {v : Value} {vals : List Value} {rows : List (List Tm)} (h : OwnTT lo w v vals rows) {i : Nat} (hi : i < rows.length) : ∃ u, vals[i]? = some u := by
  have := h.row.1
  rw [Nat.mul_one] at this
  exact ⟨_, List.getElem?_eq_getElem (by omega)⟩
/-- What lies elsewhere is as it was. -/
structure Touched (S : Nat → Prop) (w w' : World) : Prop where
  os : w'.os = w.os
  tape : w'.tape = w.tape
  output : w'.output = w.output
  size : w.heap.size ≤ w'.heap.size
  block : ∀ i, i < w.heap.size → ¬ S i → w'.heap[i]? = w.heap[i]?
theorem Touched.refl (S : Nat → Prop) (w : World) : Touched S w w := ⟨rfl, rfl, rfl, Nat.le_refl _, fun _ _ _ => rfl⟩
theorem Touched.grown {S : Nat → Prop} {w w1 w2 : World} {row : Option Nat} (h : Touched S w w1) (hg : w1.grownBy w2 row) (hS : ∀ b, row = some b → S b) : Touched S w w2 :=
  ⟨hg.os.trans h.os, hg.tape.trans h.tape, hg.output.trans h.output, Nat.le_trans h.size hg.size, fun i hi hn => by
    rw [hg.block i (Nat.lt_of_lt_of_le hi h.size) (fun e => hn (hS i e.symm)), h.block i hi hn]⟩
theorem Touched.below {S : Nat → Prop} {lo : Nat} {w w' : World} (h : Touched S w w') (hl : lo ≤ w.heap.size) (hS : ∀ i, S i → lo ≤ i) : Below lo w w' :=
  ⟨h.os, h.tape, h.output, h.size, fun i hi => h.block i (by omega) fun hs => by have := hS i hs; omega⟩
/-- The blocks of the rows. -/
def InRows (vals : List Value) (b : Nat) : Prop := ∃ (i : Nat) (u : Value), vals[i]? = some u ∧ u.ownBlock = some b
theorem OwnTT.low {lo : Nat} {w : World} {v : Value} {vals : List Value} {rows : List (List Tm)} (h : OwnTT lo w v vals rows) {b : Nat} (hb : InRows vals b) : lo ≤ b ∧ b < w.heap.size := by
  obtain ⟨i, u, hu, e⟩ := hb
  have hi : i < rows.length := by
    have h1 := (List.getElem?_eq_some_iff.1 hu).1
    have := h.row.1
    rw [Nat.mul_one] at this
    omega
  exact (h.each i hi u hu).lt b e
theorem OwnTT.below {lo : Nat} {w w' : World} {v : Value} {vals : List Value} {rows : List (List Tm)} (h : OwnTT lo w v vals rows) (hb : Below w.heap.size w w') : OwnTT lo w' v vals rows :=
  ⟨ownsRow_past h.row hb, fun i hi u hu => (h.each i hi u hu).below hb, h.apart, h.head⟩
theorem OwnTT.touched {lo : Nat} {w w' : World} {S : Nat → Prop} {v : Value} {vals : List Value} {rows : List (List Tm)} (h : OwnTT lo w v vals rows) (ht : Touched S w w') (hv : ∀ b, v.ownBlock = some b → ¬ S b) (hr : ∀ b, InRows vals b → ¬ S b) : OwnTT lo w' v vals rows :=
  ⟨ownsRow_touched h.row fun b hb hl => ht.block b hl (hv b hb), fun i hi u hu => ownsRow_touched (h.each i hi u hu) fun b hb hl => ht.block b hl (hr b ⟨i, u, hu, hb⟩), h.apart, h.head⟩
theorem OwnT.touched {lo : Nat} {w w' : World} {S : Nat → Prop} {v : Value} {ts : List Tm} (h : OwnT lo w v ts) (ht : Touched S w w') (hv : ∀ b, v.ownBlock = some b → ¬ S b) : OwnT lo w' v ts :=
  ownsRow_touched h fun b hb hl => ht.block b hl (hv b hb)
theorem OwnTT.isTT {lo : Nat} {w : World} {v : Value} {vals : List Value} {rows : List (List Tm)} (h : OwnTT lo w v vals rows) (hs : ∀ r ∈ rows, SmallT r) (hn : rows.length ≤ maxLen) : ∃ a cap, v = .slice a rows.length cap ∧ IsTT w a rows.length rows := by
  rcases h.row.2 with ⟨rfl, h0⟩ | ⟨g, cap, cur, rfl, hb, hg, h3⟩
  · exact ⟨none, 0, by rw [h0], rfl, hn, fun hp => absurd hp (by omega)⟩
  · refine ⟨_, cap, rfl, rfl, hn, fun _ => ⟨_, rfl, (Array.getElem?_eq_some_iff.1 hg).1, fun i hi => ?_⟩⟩
    obtain ⟨u, hu⟩ := h.val hi
    obtain ⟨ai, ci, rfl, hI⟩ := (h.each i hi u hu).isTerms (hs _ (List.getElem_mem hi))
    refine ⟨ai, ci, ?_, hI⟩
    exact h.row.cells rfl i _ hu

/-! ### The laws' helpers -/
end Go.Proofs.Ytebgcebjlbhjjab

/- The contracts of the laws' 'toTermSS', 'eqTermSS', 'markTermSS' and 'heldTermSS'. -/

namespace Go.Proofs.Ytebgcebjlbhjjab
open Go.RowKit Go.Shelf

/-- Blocks that ascend. -/
def AscV (vals : List Value) (k : Nat) : Prop := ∀ (i j : Nat) (u x : Value) (b c : Nat), i < j → j < k → vals[i]? = some u → vals[j]? = some x → u.ownBlock = some b → x.ownBlock = some c → b < c
theorem AscV.apart {vals : List Value} {k : Nat} (h : AscV vals k) {i j : Nat} {u x : Value} {b : Nat} (hi : i < k) (hj : j < k) (hu : vals[i]? = some u) (hx : vals[j]? = some x) (hne : i ≠ j) (e1 : u.ownBlock = some b) (e2 : x.ownBlock = some b) : False := by
  rcases Nat.lt_or_ge i j with h1 | h1
  · have := h i j u x b b h1 hj hu hx e1 e2; omega
  · have := h j i x u b b (by omega) hi hx hu e2 e1; omega

/-- Rows that are filled in one by one, in a block that lies ahead of them all. -/
structure Filling (lo B : Nat) (w : World) (vals : List Value) (n k : Nat) (rows : List (List Tm)) : Prop where
  row : w.ownsRow lo TT 1 (.slice (some ⟨B, 0, none⟩) n n) n vals
  each : ∀ (j : Nat) (h : j < rows.length), j < k → ∃ u, vals[j]? = some u ∧ OwnT (B + 1) w u rows[j]
  asc : AscV vals k
theorem Filling.start {lo B : Nat} {w : World} {vals : List Value} {n : Nat} {rows : List (List Tm)} (h : w.ownsRow lo TT 1 (.slice (some ⟨B, 0, none⟩) n n) n vals) : Filling lo B w vals n 0 rows :=
  ⟨h, fun _ _ h0 => absurd h0 (Nat.not_lt_zero _), fun _ _ _ _ _ _ _ h0 => absurd h0 (Nat.not_lt_zero _)⟩
theorem Filling.below {lo B : Nat} {w w' : World} {vals : List Value} {n k : Nat} {rows : List (List Tm)} (h : Filling lo B w vals n k rows) (hb : Below w.heap.size w w') : Filling lo B w' vals n k rows :=
  ⟨ownsRow_past h.row hb, fun j hj hk => by obtain ⟨u, h1, h2⟩ := h.each j hj hk; exact ⟨u, h1, h2.below hb⟩, h.asc⟩
/-- One row more: it was made behind all earlier ones. -/
theorem Filling.more {lo B : Nat} {w w2 : World} {vals : List Value} {n k : Nat} {rows : List (List Tm)} {v : Value} (h : Filling lo B w vals n k rows) (hb : Below w.heap.size w w2) (hk : k < n) (hl : rows.length = n) (hkr : k < rows.length) (ho : OwnT w.heap.size w2 v rows[k]) :
    Filling lo B (w2.setCell ⟨B, k, none⟩ v) (vals.set k v) n (k + 1) rows := by
  have hB : B < w.heap.size := (ownsRow_cap h.row).2.2.2
  have hst := (h.below hb).row.stored k v
  have hvl := h.row.1
  rw [Nat.mul_one] at hvl
  have hbl : ∀ b, B + 1 ≤ b → (w2.setCell ⟨B, k, none⟩ v).heap[b]? = w2.heap[b]? := fun b hb => Below.heap_setCell w2 ⟨B, k, none⟩ v b (by show b ≠ B; omega)
  have hkeep : ∀ {u : Value} {ts : List Tm}, OwnT (B + 1) w2 u ts → OwnT (B + 1) (w2.setCell ⟨B, k, none⟩ v) u ts := fun hu => ownsRow_touched hu fun b hb _ => hbl b (hu.lt b hb).1
  refine ⟨hst.1, fun j hj hjk => ?_, fun i j u x b c hij hjk hu hx hb' hc => ?_⟩
  · by_cases e : j = k
    · subst e
      exact ⟨v, List.getElem?_set_self (by omega), hkeep (ho.mono (by omega))⟩
    · obtain ⟨u, h1, h2⟩ := h.each j hj (by omega)
      exact ⟨u, by rw [List.getElem?_set_ne (by omega)]; exact h1, hkeep (h2.below hb)⟩
  · by_cases e : j = k
    · subst e
      rw [List.getElem?_set_self (by omega)] at hx
      cases hx
      rw [List.getElem?_set_ne (by omega)] at hu
      obtain ⟨u', h1, h2⟩ := h.each i (by omega) hij
      rw [h1] at hu
      cases hu
      have p1 := (h2.lt b hb').2
      have p2 := (ho.lt c hc).1
      omega
    · rw [List.getElem?_set_ne (by omega)] at hx
      rw [List.getElem?_set_ne (by omega)] at hu
      exact h.asc i j u x b c hij (by omega) hu hx hb' hc
theorem Filling.done {lo B : Nat} {w : World} {vals : List Value} {n : Nat} {rows : List (List Tm)} (h : Filling lo B w vals n n rows) (hl : rows.length = n) (hlo : lo ≤ B) : OwnTT lo w (.slice (some ⟨B, 0, none⟩) n n) vals rows := by
  have hvl := h.row.1
  rw [Nat.mul_one] at hvl
  have hi : ∀ {i : Nat} {u : Value}, vals[i]? = some u → i < n := fun hu => by have := (List.getElem?_eq_some_iff.1 hu).1; omega
  refine ⟨by rw [hl]; exact h.row, fun i hi2 u hu => ?_, fun i j u x b hu hx hne e1 e2 => h.asc.apart (hi hu) (hi hx) hu hx hne e1 e2, fun i u b hu hv e => ?_⟩
  · obtain ⟨u', h1, h2⟩ := h.each i hi2 (hi hu)
    rw [h1] at hu
    cases hu
    exact h2.mono (by omega)
  · obtain ⟨u', h1, h2⟩ := h.each i (by have := hi hu; omega) (hi hu)
    rw [h1] at hu
    cases hu
    have := (h2.lt b e).1
    simp only [Value.ownBlock, Option.some.injEq] at hv
    omega

def marksTT (k : Nat) : List (List Tm) → List (List Tm)
  | [] => []
  | r :: rs => marksT k r.length :: marksTT (k + 2 * r.length) rs
theorem marksTT_len : ∀ (rs : List (List Tm)) (k : Nat), (marksTT k rs).length = rs.length
  | [], _ => rfl
  | r :: rs, k => by rw [marksTT, List.length_cons, marksTT_len rs, List.length_cons]
theorem marksTT_get : ∀ (rs : List (List Tm)) (k i : Nat) (h : i < rs.length), (marksTT k rs)[i]'(by rw [marksTT_len]; exact h) = marksT (k + 2 * total (rs.take i)) (rs[i]).length
  | r :: rs, k, 0, _ => by simp [marksTT, total]
  | r :: rs, k, i + 1, h => by
    have ih := marksTT_get rs (k + 2 * r.length) i (by simpa using h)
    simp only [marksTT, List.getElem_cons_succ, List.take_succ_cons]
    rw [ih]
    congr 1
    unfold total
    simp only [List.map_cons, List.sum_cons]
    omega
/-- The first j rows are marked. -/
def halfTT (k j : Nat) (rows : List (List Tm)) : List (List Tm) := (marksTT k rows).take j ++ rows.drop j
theorem halfTT_len (k j : Nat) (rows : List (List Tm)) : (halfTT k j rows).length = rows.length := by
  unfold halfTT; rw [List.length_append, List.length_take, marksTT_len, List.length_drop]; omega
theorem halfTT_get (k j : Nat) (rows : List (List Tm)) (i : Nat) (h : i < rows.length) : (halfTT k j rows)[i]'(by rw [halfTT_len]; exact h) = if i < j then (marksTT k rows)[i]'(by rw [marksTT_len]; exact h) else rows[i] := by
  have hl : ((marksTT k rows).take j).length = min j rows.length := by rw [List.length_take, marksTT_len]
  unfold halfTT
  by_cases hij : i < j
  · rw [if_pos hij, List.getElem_append_left (by rw [hl]; omega), List.getElem_take]
  · rw [if_neg hij, List.getElem_append_right (by rw [hl]; omega), List.getElem_drop]
    congr 1
    rw [hl]; omega

theorem OwnTT.marked {lo k j : Nat} {w w2 : World} {v u : Value} {vals : List Value} {rows : List (List Tm)} (h : OwnTT lo w v vals (halfTT k j rows)) (hj : j < rows.length) (hu : vals[j]? = some u) (hg : w.grownBy w2 u.ownBlock) (ho : OwnT lo w2 u (marksT (k + 2 * total (rows.take j)) rows[j].length)) :
    OwnTT lo w2 v vals (halfTT k (j + 1) rows) := by
  refine ⟨?_, fun i hi x hx => ?_, h.apart, h.head⟩
  · have h1 := h.row
    rw [halfTT_len] at h1 ⊢
    exact ownsRow_touched h1 fun b hb hl => hg.block b hl fun e => h.head j u b hu hb e.symm
  · have hi' : i < rows.length := by rw [halfTT_len] at hi; exact hi
    rw [halfTT_get k (j + 1) rows i hi']
    by_cases e : i = j
    · subst e
      rw [hu] at hx
      cases hx
      rw [if_pos (by omega), marksTT_get rows k i hi']
      exact ho
    · have h2 := h.each i (by rw [halfTT_len]; exact hi') x hx
      rw [halfTT_get k j rows i hi'] at h2
      have h3 : OwnT lo w2 x (if i < j then (marksTT k rows)[i]'(by rw [marksTT_len]; exact hi') else rows[i]) := ownsRow_touched h2 fun b hb hl => hg.block b hl fun e2 => h.apart i j x u b hx hu e hb e2.symm
      by_cases hij : i < j
      · rw [if_pos hij] at h3; rw [if_pos (by omega)]; exact h3
      · rw [if_neg hij] at h3; rw [if_neg (by omega)]; exact h3

end Go.Proofs.Ytebgcebjlbhjjab

/- The contract of the program's 'beginnings'. -/

namespace Go.Proofs.Ytebgcebjlbhjjab
open Go.RowKit Go.Shelf

theorem row_heap {w : World} {base : Nat} {e : TypeId} {g n : Nat} {xs : List Value} (h : w.ownsRow base e 1 (.slice (some ⟨g, 0, none⟩) n n) n xs) : w.heap[g]? = some (.cells xs.toArray e (0, 0)) := by
  rcases h.2 with ⟨h2, _⟩ | ⟨g', cap, cur, h2, _, hgb, _, _, hcs, htk⟩
  · cases h2
  · cases h2
    rw [hgb]
    have e2 : cur.toList.take (n * 1) = cur.toList := List.take_of_length_le (by simp [hcs])
    rw [e2] at htk
    rw [← htk]
theorem letters_heap {w : World} {g : Nat} {l : List UInt8} {e : TypeId} (h : w.heap[g]? = some (.cells (bytesV l).toArray e (0, 0))) : Letters g 0 l w :=
  ⟨(Array.getElem?_eq_some_iff.1 h).1, fun j hj => by
    unfold World.cell?
    simp only [h]
    simp [bytesV, hj]⟩

/-- A row of all beginnings of the letters l, over one array. -/
def StartsAt (w : World) (B : Nat) (l : List UInt8) : Prop :=
  B < w.heap.size ∧ ∃ G, Letters G 0 l w ∧ ∀ j, j ≤ l.length → w.cell? ⟨B, j, none⟩ = some (.slice (some ⟨G, 0, none⟩) j j)
theorem StartsAt.below {w w' : World} {B : Nat} {l : List UInt8} (h : StartsAt w B l) (hb : Below w.heap.size w w') : StartsAt w' B l := by
  obtain ⟨h1, G, h2, h3⟩ := h
  exact ⟨Nat.lt_of_lt_of_le h1 hb.size, G, h2.below hb, fun j hj => (hb.cell (p := ⟨B, j, none⟩) h1).trans (h3 j hj)⟩
theorem Letters.take {g off : Nat} {l : List UInt8} {w : World} (h : Letters g off l w) (k : Nat) : Letters g off (l.take k) w :=
  ⟨h.1, fun j hj => by
    rw [List.getElem_take]
    exact h.2 j (by rw [List.length_take] at hj; omega)⟩

theorem infoLetter : (Try.prog.info? 96).map (fun i => (i.zero, i.size, i.bytes)) = some (some (.int .u8 0), 1, 1) := by kernel_rfl

set_option maxRecDepth 100000 in
set_option maxHeartbeats 2000000 in
theorem beginnings_any (g off cap n : Nat) (l : List UInt8) (w : World) (hl : l.length = n) (hn : n ≤ 60) (hlet : Letters g off l w) :
    Calls Try.prog 120 #[.slice (some ⟨g, off, none⟩) n cap] w fun e w' => ∃ B, e = .returned (.slice (some ⟨B, 0, none⟩) (n + 1 : Nat) (n + 1 : Nat)) ∧ StartsAt w' B l ∧ Below w.heap.size w w' := by
  obtain ⟨hgs, hcells⟩ := hlet
  have HCe := Lib.hid hcells
  have HL := Lib.hid hl
  clear hcells hl
  obtain ⟨i0, hi, hz0, hz1, hz2⟩ := info_parts infoLetter
  obtain ⟨j0, hj, hy0, hy1, hy2⟩ := info_parts infoWord
  have hone : (Try.prog.info? 96).map (·.size) = some 1 := by kernel_rfl
  obtain ⟨bl, hbl⟩ : ∃ bl, bytesV l = bl := ⟨_, rfl⟩
  have HBL := Lib.hid hbl
  have hbn : bl.length = n := by rw [← hbl, bytesV_length, HL.out]
  clear hbl
  go_enter Try.func120, Try.ntmps120
  have hmk : (madeCells (Value.cells (.int .u8 0)) (n * 1)).toList = List.replicate n (.int .u8 0) := by
    rw [show Value.cells (.int .u8 0) = #[.int .u8 0] from rfl, toList_madeCells_one, Nat.mul_one]
  have hsrc : ∀ w1, Below w.heap.size w w1 → ∀ j v, bl[j]? = some v → w1.cell? ((⟨g, off, none⟩ : Addr).add j) = some v := fun w1 hb1 j v hv => by
    rw [← HBL.out] at hv
    have hjl : j < l.length := by have := (List.getElem?_eq_some_iff.1 hv).1; rwa [bytesV_length] at this
    have hc := (hb1.cell (p := ⟨g, off + j, none⟩) hgs).trans (HCe.out j hjl)
    rw [show (⟨g, off, none⟩ : Addr).add j = ⟨g, off + j, none⟩ by unfold Addr.add; split <;> simp_all]
    rw [hc]
    simp [bytesV, hjl] at hv
    rw [hv]
  have h1c : ∀ v ∈ bl, v.oneCell' = true := fun v hv => by
    rw [← HBL.out] at hv
    unfold bytesV at hv
    obtain ⟨c, _, rfl⟩ := List.mem_map.1 hv
    rfl
  have HMK := Lib.hid hmk
  have HSRC := Lib.hid hsrc
  have H1C := Lib.hid h1c
  clear hsrc h1c hmk
  go_wp2_with (first | (refine wpList_copy_splice rfl _ _ _ _ rfl 96 Try.underlying77 hone _ _ n n n cap rfl rfl w.heap.size 0 (List.replicate n (.int .u8 0)) 96 HH1.out bl (by rw [hbn]; exact (Nat.min_self n).symm) (fun _ => ⟨rfl, _, rfl, HSRC.out _ HB1.out⟩) (by simp [hbn]) H1C.out w.heap.size w HB1.out (Nat.le_refl _) ?_; intro w2 hg2 hb2) | (at_make; refine wpList_make_full _ rfl _ _ 77 rfl w.heap.size 96 i0 (.int .u8 0) 1 Try.underlying77 hi hz0 hz1 .i64 .i64 _ _ n rfl rfl rfl rfl (by rw [hz2]; omega) (by unfold maxLen; omega) (Nat.le_refl _) ?_; intro w1 hrow hgrow; rw [HMK.out] at hrow; have HH1 := Lib.hid (row_heap hrow); have HB1 : Hid (Below w.heap.size w w1) := Lib.hid ((Below.refl _ _).grown hgrow (Nat.le_refl _) (fun k e => by cases e)); clear hrow hgrow) | (at_make; refine wpList_make_full _ rfl _ _ 73 rfl w2.heap.size 77 j0 (.slice none 0 0) 1 Try.underlying73 hj hy0 hy1 .i64 .i64 _ _ (n + 1) rfl rfl rfl rfl (by rw [hy2]; omega) (by unfold maxLen; omega) (Nat.le_refl _) ?_; intro w3 hrow hgrow))
  have hsp : splice (List.replicate n (Value.int .u8 0)) 0 bl = bl := by unfold splice; simp [hbn]
  rw [hsp, ← HBL.out] at hg2
  have HG := Lib.hid (letters_heap hg2.out)
  clear hg2 hsp
  have hb3 : Below w2.heap.size w2 w3 := (Below.refl _ _).grown hgrow (Nat.le_refl _) (fun k e => by cases e)
  have hs3 := (ownsRow_cap hrow).2.2.2
  have HR3 := Lib.hid hrow
  clear hrow hgrow
  go_wp2_with fail
  go_loopw [18] (fun i wr => ∃ (k : Nat) (vals : List Value), k ≤ n + 1 ∧ i = .int .i64 k ∧ Hid (wr.ownsRow w2.heap.size WT 1 (.slice (some ⟨w2.heap.size, 0, none⟩) (n + 1) (n + 1)) (n + 1) vals) ∧ Hid (∀ j, j < k → vals[j]? = some (.slice (some ⟨w.heap.size, 0, none⟩) j j)) ∧ Below w2.heap.size w2 wr)
    (fun i _ => n + 1 - (intOf i).toNat)
  case atStart => exact ⟨0, _, Nat.zero_le _, rfl, HR3, Lib.hid (fun j h => absurd h (Nat.not_lt_zero _)), hb3⟩
  case round =>
    obtain ⟨k, vals, hk, rfl, HR, HV, hB⟩ := hrel
    by_cases hlt : k < n + 1
    · have hl := HR.out.1
      rw [Nat.mul_one] at hl
      have hd : ∃ u, wr.cell? ⟨w2.heap.size, k, none⟩ = some u := by rw [HR.out.cellAt k (by omega)]; exact ⟨_, List.getElem?_eq_getElem (by omega)⟩
      obtain ⟨u, hu⟩ := hd
      have hfr := HR.out.frozenAt k
      have hkn : k ≤ n := by omega
      go_wp2
      go_roundw
      case rel =>
        have hst := HR.out.stored k (.slice (some ⟨w.heap.size, 0, none⟩) k k)
        refine ⟨k + 1, _, by omega, by go_num, Lib.hid hst.1, Lib.hid ?_, hB.setCell (p := ⟨w2.heap.size, k, none⟩) (Nat.le_refl _) _⟩
        intro j hj
        by_cases hjk : j = k
        · subst hjk; rw [List.getElem?_set_self (by omega)]
        · rw [List.getElem?_set_ne (by omega)]; exact HV.out j (by omega)
      case measure => simp [intOf]; omega
    · obtain rfl : k = n + 1 := by omega
      go_wp2_with fail
      go_ret
      refine ⟨w2.heap.size, rfl, ⟨(ownsRow_cap HR.out).2.2.2, w.heap.size, HG.out.below hB, fun j hj => ?_⟩, hb2.trans (hB.mono hb2.size)⟩
      rw [HR.out.cellAt j (by have := HL.out; omega)]
      exact HV.out j (by have := HL.out; omega)

end Go.Proofs.Ytebgcebjlbhjjab

/- The contract of the program's 'derivative'. -/

namespace Go.Proofs.Ytebgcebjlbhjjab
open Go.RowKit Go.Shelf

set_option maxRecDepth 100000 in
set_option maxHeartbeats 4000000 in
theorem derivative_any (g off cap n : Nat) (l : List UInt8) (gi c : Int) (w : World) (hl : l.length = n) (hn : n ≤ 60) (hlet : Letters g off l w) (hll : letL l = true) (hc : -1000000 ≤ c ∧ c ≤ 1000000) :
    Calls Try.prog 66 #[.slice (some ⟨g, off, none⟩) n cap, .int .i64 gi, .int .i64 c] w fun e w' => (∃ v, e = .returned v ∧ OwnT w.heap.size w' v (foxL gi c l)) ∧ Below w.heap.size w w' := by
  have HBg := Lib.hid (beginnings_any g off cap n l w hl hn hlet)
  obtain ⟨hgs, hcells⟩ := hlet
  obtain ⟨i0, hi, hz0, hz1, hz2⟩ := info_parts infoTerm
  have HCe := Lib.hid hcells
  have HL := Lib.hid hl
  have HLL := Lib.hid hll
  have HC := Lib.hid hc
  have hmx : Try.prog.follows .mixedOrders = true := by kernel_rfl
  clear hcells hl hll hc
  go_enter Try.func66, Try.ntmps66
  go_wp2_with fail
  refine HBg.out.mono ?_
  rintro e w1 ⟨B, rfl, hst, hb1⟩
  have HST := Lib.hid hst
  have HB1 := Lib.hid hb1
  clear hst hb1
  go_wp2_with fail
  go_loopw [8, 16] (fun v i wr => ∃ k : Nat, k ≤ n ∧ i = .int .i64 k ∧ Hid (OwnT w1.heap.size wr v (foxN gi c l k)) ∧ Below w1.heap.size w1 wr) (fun _ i _ => n - (intOf i).toNat)
  case atStart => exact ⟨0, Nat.zero_le _, rfl, Lib.hid ⟨rfl, .inl ⟨rfl, rfl⟩⟩, Below.refl _ _⟩
  case round =>
    obtain ⟨k, hk, rfl, HO, hB⟩ := hrel
    by_cases hlt : k < n
    · have hkl : k < l.length := by rw [HL.out]; exact hlt
      obtain ⟨x, hx⟩ : ∃ x, l[k] = x := ⟨_, rfl⟩
      have hsrc : wr.cell? ⟨g, off + k, none⟩ = some (.int .u8 (x.toNat : Int)) := by
        rw [← hx]; exact ((HB1.out.trans (hB.mono HB1.out.size)).cell (p := ⟨g, off + k, none⟩) hgs).trans (HCe.out k hkl)
      have hlet : letB x = true := by rw [← hx]; exact letL_get _ HLL.out k hkl
      have hsucc := foxN_succ gi c l k hkl
      rw [hx] at hsucc
      obtain ⟨q, hq⟩ : ∃ q, idxB x = q := ⟨_, rfl⟩
      have HIX : Hid (∀ W, Calls Try.prog 85 #[.int .u8 (x.toNat : Int)] W fun e w' => e = .returned (.int .i64 (q : Int)) ∧ w' = W) := Lib.hid fun W => by rw [← hq]; exact iIndex_any x W hlet
      obtain ⟨hBs, G, hLG, hcs⟩ := HST.out.below hB
      have c0 := hcs k (by omega)
      have c1 := hcs (k + 1) (by omega)
      obtain ⟨u, hu⟩ : ∃ u, sgnB x = u := ⟨_, rfl⟩
      have hcu : -1000000 ≤ c * u ∧ c * u ≤ 1000000 := by rw [← hu]; exact mul_sgn HC.out x
      have hmul : IntKind.i64.wrap (c * u) = c * u := IntWalk.i64_in _ (by omega)
      have HSX : Hid (∀ W, Calls Try.prog 86 #[.int .u8 (x.toNat : Int)] W fun e w' => e = .returned (.int .i64 u) ∧ w' = W) := Lib.hid fun W => by rw [← hu]; exact iSign_any x W hlet
      have HSB : Hid (∀ p : BelowBy wr, Calls Try.prog 86 #[.int .u8 (x.toNat : Int)] p.world fun e w' => e = .returned (.int .i64 u) ∧ Below p.world.heap.size p.world w') :=
        Lib.hid fun p => (HSX.out p.world).mono fun e w' ⟨h1, h2⟩ => ⟨h1, by rw [h2]; exact Below.refl _ _⟩
      by_cases hg : (q : Int) = gi
      · have hgg : (idxB x : Int) = gi := by rw [hq]; exact hg
        have hlen := foxN_len gi c l k
        obtain ⟨N, hN⟩ : ∃ N, (foxN gi c l k).length = N := ⟨_, rfl⟩
        rw [hN] at hlen
        have hown := HO.out
        unfold OwnT at hown
        rw [hN] at hown
        have HOW := Lib.hid hown
        have HN := Lib.hid hN
        have hbs := hB.size
        clear hown hN
        by_cases h97 : 97 ≤ x.toNat
        · have hu0 : ¬ u < 0 := by rw [← hu]; unfold sgnB; rw [if_pos h97]; omega
          have hdu : decide (u < 0) = false := decide_eq_false hu0
          rw [foxT_hi hgg h97, hu] at hsucc
          obtain ⟨r, hr⟩ : ∃ r, bstr (l.take k) = r := ⟨_, rfl⟩
          rw [hr] at hsucc
          have HTX : Hid (∀ p : BelowBy wr, Calls Try.prog 111 #[.slice (some ⟨G, 0, none⟩) k k] p.world fun e w' => e = .returned (.string r) ∧ Below p.world.heap.size p.world w') :=
            Lib.hid fun p => by rw [← hr]; exact text_letters G 0 k k (l.take k) p.world (by rw [List.length_take]; omega) (by omega) ((hLG.below p.below).take k)
          have HS := Lib.hid hsucc
          have hbk := hBs
          clear hsucc hr hgg hq hu hlet hcs hLG hcu
          go_wp2_with fail
          refine (HIX.out _).mono ?_
          rintro e w2 ⟨rfl, rfl⟩
          go_wp2_with fail
          refine (HSX.out _).mono ?_
          rintro e w2 ⟨rfl, rfl⟩
          go_wp2_with fail
          refine (HSX.out _).mono ?_
          rintro e w2 ⟨rfl, rfl⟩
          go_wp2_with fail
          refine (HTX.out ⟨w2, Below.refl _ _⟩).mono ?_
          rintro e w3 ⟨rfl, hb3⟩
          have HB3 := Lib.hid (hB.trans (hb3.mono hbs))
          have HO3 := Lib.hid (show w3.ownsRow w1.heap.size TI 2 u8 N (termsV (foxN gi c l k)) from ownsRow_past HOW.out hb3)
          have hs3 : w1.heap.size ≤ w3.heap.size := HB3.out.size
          clear hb3
          go_wp2_with (at_builtin; refine wpList_append_lies _ rfl _ _ _ rfl w1.heap.size TI i0 _ 2 24 Try.underlying25 hi hz0 hz1 hz2 rfl (by omega) u8 N (termsV (foxN gi c l k)) rfl (HO3.out.alloc _) ⟨w3.heap.size, 0, none⟩ 1 1 [.int .i64 (c * u), .string r] rfl rfl (World.news_of_block (cs := #[.int .i64 (c * u), .string r]) (t := TI) (fr := (0, 0)) (heap_alloc_new w3 _)) (by simp [Value.oneCell']) (by omega) (by unfold maxLen; omega) (by omega) (by simp; omega) (w3.heap.size + 1) (by simp) ?_; intro gg cap1 w7 hown7 hgrow7 hat hlt7)
          have hlow := ownsRow_low HO3.out
          have hB7 : Below w1.heap.size w1 w7 := HB3.out.trans (((Below.refl w1.heap.size w3).alloc hs3 _).grown hgrow7 (by simp; omega) hlow)
          have HO7 := Lib.hid hown7
          clear hown7 hgrow7 hat hlt7 hlow
          go_wp2
          go_roundw
          case rel =>
            refine ⟨k + 1, by omega, by go_num, Lib.hid ?_, hB7⟩
            rw [HS.out]
            unfold OwnT
            rw [List.length_append, HN.out, termsV_append]
            exact HO7.out
          case measure => simp [intOf]; omega
        · have hu0 : u < 0 := by rw [← hu]; unfold sgnB; rw [if_neg h97]; omega
          have hdu : decide (u < 0) = true := decide_eq_true hu0
          rw [foxT_lo hgg h97, hu, ← hx, ← take_snoc l k hkl] at hsucc
          obtain ⟨r, hr⟩ : ∃ r, bstr (l.take (k + 1)) = r := ⟨_, rfl⟩
          rw [hr] at hsucc
          have HTX : Hid (∀ p : BelowBy wr, Calls Try.prog 111 #[.slice (some ⟨G, 0, none⟩) (k + 1 : Nat) (k + 1 : Nat)] p.world fun e w' => e = .returned (.string r) ∧ Below p.world.heap.size p.world w') :=
            Lib.hid fun p => by rw [← hr]; exact text_letters G 0 (k + 1) (k + 1) (l.take (k + 1)) p.world (by rw [List.length_take]; omega) (by omega) ((hLG.below p.below).take (k + 1))
          have HS := Lib.hid hsucc
          have hbk := hBs
          clear hsucc hr hgg hq hu hlet hcs hLG hcu hx
          go_wp2_with fail
          refine (HIX.out _).mono ?_
          rintro e w2 ⟨rfl, rfl⟩
          go_wp2_with fail
          refine (HSX.out _).mono ?_
          rintro e w2 ⟨rfl, rfl⟩
          go_wp2_with fail
          refine (HSX.out _).mono ?_
          rintro e w2 ⟨rfl, rfl⟩
          go_wp2_with fail
          refine (HTX.out ⟨w2, Below.refl _ _⟩).mono ?_
          rintro e w3 ⟨rfl, hb3⟩
          have HB3 := Lib.hid (hB.trans (hb3.mono hbs))
          have HO3 := Lib.hid (show w3.ownsRow w1.heap.size TI 2 u8 N (termsV (foxN gi c l k)) from ownsRow_past HOW.out hb3)
          have hs3 : w1.heap.size ≤ w3.heap.size := HB3.out.size
          clear hb3
          go_wp2_with (at_builtin; refine wpList_append_lies _ rfl _ _ _ rfl w1.heap.size TI i0 _ 2 24 Try.underlying25 hi hz0 hz1 hz2 rfl (by omega) u8 N (termsV (foxN gi c l k)) rfl (HO3.out.alloc _) ⟨w3.heap.size, 0, none⟩ 1 1 [.int .i64 (c * u), .string r] rfl rfl (World.news_of_block (cs := #[.int .i64 (c * u), .string r]) (t := TI) (fr := (0, 0)) (heap_alloc_new w3 _)) (by simp [Value.oneCell']) (by omega) (by unfold maxLen; omega) (by omega) (by simp; omega) (w3.heap.size + 1) (by simp) ?_; intro gg cap1 w7 hown7 hgrow7 hat hlt7)
          have hlow := ownsRow_low HO3.out
          have hB7 : Below w1.heap.size w1 w7 := HB3.out.trans (((Below.refl w1.heap.size w3).alloc hs3 _).grown hgrow7 (by simp; omega) hlow)
          have HO7 := Lib.hid hown7
          clear hown7 hgrow7 hat hlt7 hlow
          go_wp2
          go_roundw
          case rel =>
            refine ⟨k + 1, by omega, by go_num, Lib.hid ?_, hB7⟩
            rw [HS.out]
            unfold OwnT
            rw [List.length_append, HN.out, termsV_append]
            exact HO7.out
          case measure => simp [intOf]; omega
      · have hgg : ¬ (idxB x : Int) = gi := by rw [hq]; exact hg
        have hdg : decide ((q : Int) = gi) = false := decide_eq_false hg
        rw [foxT_no hgg, List.append_nil] at hsucc
        have HS := Lib.hid hsucc
        clear hsucc hgg hq hu hlet hcs hLG hcu
        go_wp2_with fail
        refine (HIX.out _).mono ?_
        rintro e w2 ⟨rfl, rfl⟩
        go_wp2_with fail
        go_roundw
        case rel => exact ⟨k + 1, by omega, by go_num, Lib.hid (by rw [HS.out]; exact HO.out), hB⟩
        case measure => simp [intOf]; omega
    · obtain rfl : k = n := by omega
      go_wp2_with fail
      go_ret
      refine ⟨⟨_, rfl, ?_⟩, HB1.out.trans (hB.mono HB1.out.size)⟩
      unfold foxL
      rw [HL.out]
      exact HO.out.mono HB1.out.size

end Go.Proofs.Ytebgcebjlbhjjab

/- The contracts of the program's 'FoxSum' and 'FoxOf'. -/

namespace Go.Proofs.Ytebgcebjlbhjjab
open Go.RowKit Go.Shelf

/-- A list of terms of the call's own is put behind another one. -/
theorem wpList_append_terms {w : World} {ops : Array Oper} {rest : List Oper} {o : Oper} {a : Act} {Q : Exit → Act → World → Prop} (hgd : o.guard = none) (s x : Operand)
    (ho : o.op = .call { callee := .builtin .append, args := #[s, x], argTypes := #[25, 25] }) (base b2 : Nat) (v1 v2 : Value) (ts1 ts2 : List Tm) (hs : a.eval s = v1) (hx : a.eval x = v2)
    (h1 : OwnT base w v1 ts1) (h2 : OwnT b2 w v2 ts2) (hl : ts1.length + ts2.length ≤ 1000000) (hbase : base ≤ w.heap.size)
    (h : ∀ v' w', OwnT base w' v' (ts1 ++ ts2) → w.grownBy w' v1.ownBlock → wpList Try.prog ops Q rest (a.put o.dst v') w') : wpList Try.prog ops Q (o :: rest) a w := by
  obtain ⟨i0, hi, hz0, hz1, hz2⟩ := info_parts infoTerm
  rcases h2.2 with ⟨rfl, h0⟩ | ⟨g, cap, cur, rfl, _⟩
  · have h20 : ts2 = [] := List.eq_nil_of_length_eq_zero h0
    subst h20
    refine wpList_append_own_none hgd s x 25 ho base TI i0 2 Try.underlying25 hi v1 ts1.length (termsV ts1) hs h1 hx ?_
    refine h v1 w (by rw [List.append_nil]; exact h1) ⟨rfl, rfl, rfl, Nat.le_refl _, fun _ _ _ => rfl⟩
  · have hat := termsAt_of_owns rfl h2
    have hc : ∀ j u, (termsV ts2)[j]? = some u → w.cell? ((⟨g, 0, none⟩ : Addr).add j) = some u := hat.cells
    refine wpList_append_own _ hgd s x 25 ho base TI i0 (.agg #[.int .i64 0, .string ByteArray.empty]) 2 24 Try.underlying25 hi hz0 hz1 hz2 rfl (by decide) v1 ts1.length (termsV ts1) hs h1
      ⟨g, 0, none⟩ ts2.length cap (termsV ts2) hx (termsV_len ts2) hc (oneCell_terms _) (by unfold maxLen; omega) (by omega) hbase ?_
    intro v' w' h3 h4 _
    refine h v' w' ?_ h4
    unfold OwnT
    rw [List.length_append, termsV_append]
    exact h3

set_option maxRecDepth 100000 in
set_option maxHeartbeats 4000000 in
theorem iFoxSum_noSum (a : Option Addr) (cap n : Nat) (x : List Tm) (g : Int) (w : World) (hx : IsTerms w a n x) (hb : sumB x = false) :
    Calls Try.prog 18 #[.slice a n cap, .int .i64 g] w (ITold w false []) := by
  have HX := Lib.hid hx
  have HBX := Lib.hid hb
  clear hx hb
  go_enter Try.func18, Try.ntmps18
  go_wp2_with fail
  refine (sumWords_any a cap n x _ HX.out).mono ?_
  rintro e w1 ⟨⟨rfl, hf⟩ | ⟨g1, vals, rfl, hf, _, _⟩, hb1⟩
  · have HB1 := Lib.hid hb1
    clear hb1 hf
    go_wp2
    go_ret2
    exact ⟨⟨_, rfl, ownNil _ _⟩, HB1.out⟩
  · rw [HBX.out] at hf; cases hf

set_option maxRecDepth 100000 in
set_option maxHeartbeats 4000000 in
theorem iFoxSum_noGen (a : Option Addr) (cap n : Nat) (x : List Tm) (g : Int) (w : World) (hx : IsTerms w a n x) (hb : inR 0 3 g = false) :
    Calls Try.prog 18 #[.slice a n cap, .int .i64 g] w (ITold w false []) := by
  have HX := Lib.hid hx
  have hgn : ¬ (0 ≤ g ∧ g ≤ 3) := by
    intro h
    unfold inR at hb
    rw [decide_eq_true h.1, decide_eq_true h.2] at hb
    cases hb
  clear hx hb
  by_cases h0 : g < 0
  · have hd : decide (g < 0) = true := decide_eq_true h0
    go_enter Try.func18, Try.ntmps18
    go_wp2_with fail
    refine (sumWords_any a cap n x _ HX.out).mono ?_
    rintro e w1 ⟨⟨rfl, hf⟩ | ⟨g1, vals, rfl, hf, _, _⟩, hb1⟩
    · have HB1 := Lib.hid hb1
      clear hb1 hf
      go_wp2
      go_ret2
      exact ⟨⟨_, rfl, ownNil _ _⟩, HB1.out⟩
    · have HB1 := Lib.hid hb1
      clear hb1 hf
      go_wp2
      go_ret2
      exact ⟨⟨_, rfl, ownNil _ _⟩, HB1.out⟩
  · have hd : decide (g < 0) = false := decide_eq_false h0
    have h4 : 4 ≤ g := by omega
    have hd4 : decide (4 ≤ g) = true := decide_eq_true h4
    go_enter Try.func18, Try.ntmps18
    go_wp2_with fail
    refine (sumWords_any a cap n x _ HX.out).mono ?_
    rintro e w1 ⟨⟨rfl, hf⟩ | ⟨g1, vals, rfl, hf, _, _⟩, hb1⟩
    · have HB1 := Lib.hid hb1
      clear hb1 hf
      go_wp2
      go_ret2
      exact ⟨⟨_, rfl, ownNil _ _⟩, HB1.out⟩
    · have HB1 := Lib.hid hb1
      clear hb1 hf
      go_wp2
      go_ret2
      exact ⟨⟨_, rfl, ownNil _ _⟩, HB1.out⟩

set_option maxRecDepth 100000 in
set_option maxHeartbeats 4000000 in
theorem iFoxSum_yes (a : Option Addr) (cap n : Nat) (x : List Tm) (g : Int) (b : Bool) (w : World) (hx : IsTerms w a n x) (hbx : sumB x = true) (hg : inR 0 3 g = true) (hb : twB (canonT (foxI g x)) = b) :
    Calls Try.prog 18 #[.slice a n cap, .int .i64 g] w (ITold w b (canonT (foxI g x))) := by
  obtain ⟨hlx, hwx⟩ := canon_len_words (sumB_parts hbx).1
  have hn : n ≤ 300 := by rw [← hx.len]; exact hlx
  have HX := Lib.hid hx
  have HBX := Lib.hid hbx
  have HWX := Lib.hid hwx
  have HBB := Lib.hid hb
  obtain ⟨hg0, hg3⟩ : 0 ≤ g ∧ g ≤ 3 := by unfold inR at hg; simpa using hg
  have hd : decide (g < 0) = false := decide_eq_false (by omega)
  have hd4 : decide (4 ≤ g) = false := decide_eq_false (by omega)
  have HLEN : Hid (∀ k, k ≤ n → (foxI g (x.take k)).length ≤ 18000) := Lib.hid fun k hk => by
    have h1 := foxI_len g (x.take k) fun t ht => (termB_iff (hwx t (List.mem_of_mem_take ht))).1
    have h2 : (x.take k).length ≤ 300 := by rw [List.length_take]; omega
    omega
  clear hx hbx hlx hwx hb hg
  go_enter Try.func18, Try.ntmps18
  go_wp2_with fail
  refine (sumWords_any a cap n x _ HX.out).mono ?_
  rintro e w1 ⟨⟨rfl, hf⟩ | ⟨g1, vals, rfl, hf, hr1, hv1⟩, hb1⟩
  · rw [HBX.out] at hf; cases hf
  have HB1 := Lib.hid hb1
  have HW1 := Lib.hid (wordsAt_of HX.out.len hr1 hv1)
  clear hb1 hf hr1 hv1
  go_wp2_with fail
  go_loopw [8, 28] (fun v i wr => ∃ k : Nat, k ≤ n ∧ i = .int .i64 k ∧ Hid (OwnT w1.heap.size wr v (foxI g (x.take k))) ∧ Below w1.heap.size w1 wr) (fun _ i _ => n - (intOf i).toNat)
  case atStart => exact ⟨0, Nat.zero_le _, rfl, Lib.hid ⟨rfl, .inl ⟨rfl, rfl⟩⟩, Below.refl _ _⟩
  case round =>
    obtain ⟨k, hk, rfl, HO, hB⟩ := hrel
    by_cases hlt : k < n
    · have hkx : k < x.length := by rw [HX.out.len]; exact hlt
      obtain ⟨z, rfl, hz⟩ := HX.out.at_ (by omega)
      obtain ⟨t, ht⟩ : ∃ t, x[k] = t := ⟨_, rfl⟩
      have htb := HWX.out _ (List.getElem_mem hkx)
      obtain ⟨gw, cw, hcw, hiw⟩ := (HW1.out.below hB).2 k hkx
      have hzw := hz.below (HB1.out.trans (hB.mono HB1.out.size))
      have hc := hzw.2 k hkx
      rw [ht] at htb hcw hiw hc
      obtain ⟨c0, _⟩ := hc
      have hti := termB_iff htb
      have hlet := ((wordB_iff _).1 (termB_word htb)).2.1
      obtain ⟨_, offw, _, heq, hgw, hq0, hcells⟩ := hiw
      simp only [Value.slice.injEq, Option.some.injEq, Addr.mk.injEq] at heq
      obtain ⟨⟨rfl, rfl, hq1⟩, hq2, rfl⟩ := heq
      clear hq0 hq1 hq2
      have hlw : Letters gw 0 t.s.data.toList wr := ⟨hgw, hcells⟩
      have HD : Hid (Calls Try.prog 66 #[.slice (some ⟨gw, 0, none⟩) t.s.size cw, .int .i64 g, .int .i64 t.c] wr fun e w' => (∃ v, e = .returned v ∧ OwnT wr.heap.size w' v (foxL g t.c t.s.data.toList)) ∧ Below wr.heap.size wr w') :=
        Lib.hid (derivative_any gw 0 cw t.s.size t.s.data.toList g t.c wr (by simp) hti.1 hlw hlet hti.2)
      have hsucc := foxI_succ g x k hkx
      rw [ht] at hsucc
      have hlen := HLEN.out (k + 1) (by omega)
      rw [hsucc, List.length_append] at hlen
      have HS := Lib.hid hsucc
      have HLE := Lib.hid hlen
      have hbs := hB.size
      clear ht htb hzw hti hlet hcells hlw hsucc hlen hz
      go_wp2_with fail
      refine HD.out.mono ?_
      rintro e w3 ⟨⟨vd, rfl, hod⟩, hb3⟩
      have HOD := Lib.hid hod
      have HO3 := Lib.hid (HO.out.below hb3)
      have HB3 := Lib.hid (hB.trans (hb3.mono hbs))
      have hs3 : w1.heap.size ≤ w3.heap.size := HB3.out.size
      clear hod hb3
      go_wp2_with (at_builtin; refine wpList_append_terms rfl _ _ rfl w1.heap.size wr.heap.size _ _ _ _ rfl rfl HO3.out HOD.out (by have := HLE.out; omega) hs3 ?_; intro v' w5 ho5 hg5)
      have hB5 : Below w1.heap.size w1 w5 := HB3.out.trans ((Below.refl w1.heap.size w3).grown hg5 hs3 (ownsRow_low HO3.out))
      have HO5 := Lib.hid ho5
      clear ho5 hg5
      go_wp2
      go_roundw
      case rel => exact ⟨k + 1, by omega, by go_num, Lib.hid (by rw [HS.out]; exact HO5.out), hB5⟩
      case measure => simp [intOf]; omega
    · obtain rfl : k = n := by omega
      have hown := HO.out
      rw [List.take_of_length_le (by rw [HX.out.len]; exact Nat.le_refl _)] at hown
      have hcf : ∀ t ∈ foxI g x, t.s.size ≤ 60 ∧ -1000000 ≤ t.c ∧ t.c ≤ 1000000 := fun t ht => foxI_mem (fun u hu => termB_iff (HWX.out u hu)) ht
      have hlen := HLEN.out k (Nat.le_refl _)
      rw [List.take_of_length_le (by rw [HX.out.len]; exact Nat.le_refl _)] at hlen
      have hsm : SmallT (foxI g x) := ⟨by unfold maxLen; omega, fun t ht => by have := hcf t ht; unfold maxLen; omega⟩
      obtain ⟨av, cv, rfl, hI⟩ := hown.isTerms hsm
      obtain ⟨N, hN⟩ : ∃ N, (foxI g x).length = N := ⟨_, rfl⟩
      rw [hN] at hI hlen ⊢
      have htold := toldSum_any av cv N (foxI g x) b wr hI (by omega) (fun t ht => by have := hcf t ht; omega) HBB.out
      have HTo := Lib.hid htold
      have HBr := Lib.hid hB
      clear hown hcf hsm hI hN htold
      go_wp2_with fail
      refine HTo.out.mono ?_
      rintro e w5 ⟨⟨v', rfl, ho⟩, hb5⟩
      have HO := Lib.hid ho
      have HB5 := Lib.hid (HB1.out.trans ((HBr.out.trans (hb5.mono HBr.out.size)).mono HB1.out.size))
      have hs5 := HBr.out.size
      have hs1 := HB1.out.size
      clear ho hb5
      go_wp2
      go_ret2
      exact ⟨⟨_, rfl, HO.out.mono (by omega)⟩, HB5.out⟩

end Go.Proofs.Ytebgcebjlbhjjab

/- The contracts of both 'FoxOf' and both 'FoxTwice'. -/

namespace Go.Proofs.Ytebgcebjlbhjjab
open Go.RowKit Go.Shelf

theorem iFoxSum_any (a : Option Addr) (cap n : Nat) (x : List Tm) (g : Int) (b : Bool) (w : World) (hx : IsTerms w a n x) (hb : foxSumB x g = b) :
    Calls Try.prog 18 #[.slice a n cap, .int .i64 g] w (ITold w b (canonT (foxI g x))) := by
  unfold foxSumB at hb
  cases hbx : sumB x with
  | false => rw [hbx] at hb; subst hb; exact iFoxSum_noSum _ _ _ x g w hx hbx
  | true =>
    cases hbg : inR 0 3 g with
    | false => rw [hbx, hbg] at hb; subst hb; exact iFoxSum_noGen _ _ _ x g w hx hbg
    | true => rw [hbx, hbg] at hb; exact iFoxSum_yes _ _ _ x g b w hx hbx hbg hb

/-- What FoxOf answers. -/
def foxOfB (s : ByteArray) (g : Int) : Bool := wordB s.data.toList && inR 0 3 g
theorem sum_one (s : ByteArray) : sumB [⟨1, s⟩] = wordB s.data.toList := by
  rw [sumB_canon ⟨by simp, fun t ht => by rw [List.mem_singleton.1 ht]; exact Int.one_ne_zero⟩]
  unfold twB termB inR
  simp
theorem foxI_one (s : ByteArray) (g : Int) : foxI g [⟨1, s⟩] = foxL g 1 s.data.toList := by simp [foxI]
theorem foxOf_sum {s : ByteArray} {g : Int} : foxSumB [⟨1, s⟩] g = foxOfB s g := by
  unfold foxSumB foxOfB
  rw [sum_one, foxI_one]
  cases h : wordB s.data.toList with
  | false => rfl
  | true => rw [fox_tw h, Bool.and_true]
theorem foxOfB_tw {s : ByteArray} {g : Int} {b : Bool} (h : foxOfB s g = b) : b = true → twB (canonT (foxL g 1 s.data.toList)) = true := by
  intro hb
  subst hb
  unfold foxOfB at h
  simp only [Bool.and_eq_true] at h
  exact fox_tw h.1
theorem isTerms_one (w : World) (c : Int) (s : ByteArray) (hs : s.size ≤ maxLen) (hc : -9223372036854775808 ≤ c ∧ c ≤ 9223372036854775807) :
    IsTerms (w.alloc (.cells #[.int .i64 c, .string s] TI)) (some ⟨w.heap.size, 0, none⟩) 1 [⟨c, s⟩] :=
  ⟨rfl, by unfold maxLen; omega, fun _ => ⟨_, rfl, by simp, fun i hi => by
    have hi0 : i = 0 := by simp at hi; exact hi
    subst hi0
    have ha : ∀ j, (⟨w.heap.size, 0, none⟩ : Addr).add j = ⟨w.heap.size, j, none⟩ := fun j => by unfold Addr.add; split <;> simp_all
    rw [ha, ha]
    exact ⟨(World.cell?_alloc_at _ _ _ _ (by simp)).trans rfl, (World.cell?_alloc_at _ _ _ _ (by simp)).trans rfl⟩⟩,
    fun t ht => by rw [List.mem_singleton.1 ht]; exact ⟨hs, hc⟩⟩

set_option maxRecDepth 100000 in
set_option maxHeartbeats 2000000 in
theorem iFoxOf_any (s : ByteArray) (g : Int) (b : Bool) (w : World) (hs : s.size ≤ maxLen) (hb : foxOfB s g = b) :
    Calls Try.prog 22 #[.string s, .int .i64 g] w (ITold w b (canonT (foxL g 1 s.data.toList))) := by
  have hc := iFoxSum_any (some ⟨w.heap.size, 0, none⟩) 1 1 [⟨1, s⟩] g b (w.alloc (.cells #[.int .i64 1, .string s] TI)) (isTerms_one w 1 s hs (by omega)) (by rw [foxOf_sum]; exact hb)
  rw [foxI_one] at hc
  have HC := Lib.hid hc
  clear hc hb
  go_enter Try.func22, Try.ntmps22
  go_wp2_with fail
  refine HC.out.mono ?_
  rintro e w1 ⟨⟨v', rfl, ho⟩, hb1⟩
  have HO := Lib.hid ho
  have HB1 := Lib.hid hb1
  clear ho hb1
  go_wp2
  go_ret2
  exact ⟨⟨_, rfl, HO.out.mono (by simp)⟩, ((Below.refl w.heap.size w).alloc (Nat.le_refl _) _).trans (HB1.out.mono (by simp))⟩

set_option maxRecDepth 100000 in
set_option maxHeartbeats 2000000 in
theorem sFoxOf_any (s : ByteArray) (g : Int) (b : Bool) (w : World) (hs : s.size ≤ maxLen) (hb : foxOfB s g = b) :
    Calls Try.prog 82 #[.string s, .int .i64 g] w (STold w b (canonT (foxL g 1 s.data.toList))) := by
  unfold foxOfB at hb
  cases hw : wordB s.data.toList with
  | false =>
    rw [hw] at hb
    obtain rfl : false = b := hb
    have HW := Lib.hid hw
    clear hw
    go_enter Try.func82, Try.ntmps82
    go_wp2_with fail
    refine (sWordIn_is _ false _ hs HW.out).mono ?_
    rintro e w1 ⟨rfl, hb1⟩
    have HB1 := Lib.hid hb1
    clear hb1
    go_wp2
    go_ret2
    exact ⟨⟨_, rfl, (ownEmpty w1).mono HB1.out.size⟩, HB1.out.alloc HB1.out.size _⟩
  | true =>
    cases hg : inR 0 3 g with
    | false =>
      rw [hw, hg] at hb
      obtain rfl : false = b := hb
      have HW := Lib.hid hw
      have HG := Lib.hid hg
      clear hw hg
      go_enter Try.func82, Try.ntmps82
      go_wp2_with fail
      refine (sWordIn_is _ true _ hs HW.out).mono ?_
      rintro e w1 ⟨rfl, hb1⟩
      have HB1 := Lib.hid hb1
      clear hb1
      go_wp2_with fail
      refine (l6In_is _ _ _ false _ HG.out).mono ?_
      rintro e w2 ⟨rfl, hb2⟩
      have HB2 := Lib.hid (HB1.out.trans (hb2.mono HB1.out.size))
      clear hb2
      go_wp2
      go_ret2
      exact ⟨⟨_, rfl, (ownEmpty w2).mono HB2.out.size⟩, HB2.out.alloc HB2.out.size _⟩
    | true =>
      rw [hw, hg] at hb
      obtain rfl : true = b := hb
      obtain ⟨hw1, hw2, _⟩ := (wordB_iff _).1 hw
      have HF : Hid (∀ W, Calls Try.prog 109 #[.string s, .int .i64 g] W fun e w' => (∃ v, e = .returned v ∧ Acc W.heap.size w' v (canonT (foxL g 1 s.data.toList)) 60 60) ∧ Below W.heap.size W w') :=
        Lib.hid fun W => l3Fox_any s g W (by simpa using hw1) hw2
      have HW := Lib.hid hw
      have HG := Lib.hid hg
      clear hw hg hw1 hw2
      go_enter Try.func82, Try.ntmps82
      go_wp2_with fail
      refine (sWordIn_is _ true _ hs HW.out).mono ?_
      rintro e w1 ⟨rfl, hb1⟩
      have HB1 := Lib.hid hb1
      clear hb1
      go_wp2_with fail
      refine (l6In_is _ _ _ true _ HG.out).mono ?_
      rintro e w2 ⟨rfl, hb2⟩
      have HB2 := Lib.hid (HB1.out.trans (hb2.mono HB1.out.size))
      clear hb2
      go_wp2_with fail
      refine (HF.out _).mono ?_
      rintro e w3 ⟨⟨v, rfl, ho⟩, hb3⟩
      have HO := Lib.hid ho.own
      have HB3 := Lib.hid (HB2.out.trans (hb3.mono HB2.out.size))
      have hs2 := HB2.out.size
      clear ho hb3
      go_wp2
      go_ret2
      exact ⟨⟨_, rfl, HO.out.mono hs2⟩, HB3.out⟩

/-! ### FoxTwice -/
structure Twice (s : ByteArray) (g h : Int) (b1 b2 : Bool) (us us2 : List Tm) (z : Int) (b : Bool) : Prop where
  h1 : foxOfB s g = b1
  hus : cond b1 (canonT (foxL g 1 s.data.toList)) [] = us
  h2 : foxSumB us h = b2
  hus2 : cond b2 (canonT (foxI h us)) [] = us2
  hz : cond (b1 && b2) (plainZ us2) 0 = z
  hb : (b1 && b2) = b
theorem Twice.small {s : ByteArray} {g h : Int} {b1 b2 : Bool} {us us2 : List Tm} {z : Int} {b : Bool} (t : Twice s g h b1 b2 us us2 z b) : SmallT us := (told_small (foxOfB_tw t.h1) t.hus).1
theorem Twice.small2 {s : ByteArray} {g h : Int} {b1 b2 : Bool} {us us2 : List Tm} {z : Int} {b : Bool} (t : Twice s g h b1 b2 us us2 z b) : SmallT us2 := (told_small (foxSumB_tw t.h2) t.hus2).1
theorem Twice.sum2 {s : ByteArray} {g h : Int} {b1 b2 : Bool} {us us2 : List Tm} {z : Int} {b : Bool} (t : Twice s g h b1 b2 us us2 z b) (hb : b2 = true) : sumB us2 = true := by
  have h2 := t.hus2
  rw [hb] at h2
  have h2 : canonT (foxI h us) = us2 := h2
  rw [← h2, sumB_canon (canon_of _)]
  exact foxSumB_tw t.h2 hb

set_option maxRecDepth 100000 in
set_option maxHeartbeats 2000000 in
theorem sFoxTwice_any (s : ByteArray) (g h : Int) (b1 b2 : Bool) (us us2 : List Tm) (z : Int) (b : Bool) (w : World) (hs : s.size ≤ maxLen) (ht : Twice s g h b1 b2 us us2 z b) :
    Calls Try.prog 28 #[.string s, .int .i64 g, .int .i64 h] w fun e w' => e = .returned (.tuple #[.int .i64 z, .bool b]) ∧ Below w.heap.size w w' := by
  have HT := Lib.hid ht
  clear ht
  obtain ⟨n, hn⟩ : ∃ n, us.length = n := ⟨_, rfl⟩
  obtain ⟨n2, hn2⟩ : ∃ n, us2.length = n := ⟨_, rfl⟩
  have HN := Lib.hid hn
  have HN2 := Lib.hid hn2
  clear hn hn2
  go_enter Try.func28, Try.ntmps28
  go_wp2_with fail
  refine (sFoxOf_any s g b1 w hs HT.out.h1).mono ?_
  rintro e w1 ⟨⟨v1, rfl, ho1⟩, hb1⟩
  rw [HT.out.hus] at ho1
  obtain ⟨a1, c1, rfl, hI1⟩ := ho1.own.isTerms HT.out.small
  rw [HN.out] at hI1 ⊢
  have HI1 := Lib.hid hI1
  have HB1 := Lib.hid hb1
  clear ho1 hI1 hb1
  go_wp2_with fail
  refine (sFoxSum_any a1 c1 n us h b2 _ HI1.out HT.out.h2).mono ?_
  rintro e w2 ⟨⟨v2, rfl, ho2⟩, hb2⟩
  rw [HT.out.hus2] at ho2
  obtain ⟨a2, c2, rfl, hI2⟩ := ho2.own.isTerms HT.out.small2
  rw [HN2.out] at hI2 ⊢
  have HI2 := Lib.hid hI2
  have HB2 := Lib.hid (HB1.out.trans (hb2.mono HB1.out.size))
  clear ho2 hI2 hb2
  cases b1 with
  | false =>
    obtain rfl : b = false := HT.out.hb.symm
    obtain rfl : z = 0 := HT.out.hz.symm
    go_wp2
    go_ret2
    exact ⟨rfl, HB2.out⟩
  | true =>
    cases b2 with
    | false =>
      obtain rfl : b = false := HT.out.hb.symm
      obtain rfl : z = 0 := HT.out.hz.symm
      go_wp2
      go_ret2
      exact ⟨rfl, HB2.out⟩
    | true =>
      obtain rfl : b = true := HT.out.hb.symm
      have HZ : Hid (plainZ us2 = z) := Lib.hid HT.out.hz
      have HS2 := Lib.hid (HT.out.sum2 rfl)
      go_wp2_with fail
      refine (sSumPlain_yes a2 c2 n2 us2 _ HI2.out HS2.out).mono ?_
      rw [HZ.out]
      rintro e w3 ⟨rfl, hb3⟩
      go_wp2
      go_ret2
      exact ⟨rfl, HB2.out.trans (hb3.mono HB2.out.size)⟩

set_option maxRecDepth 100000 in
set_option maxHeartbeats 2000000 in
theorem iFoxTwice_any (s : ByteArray) (g h : Int) (b1 b2 : Bool) (us us2 : List Tm) (z : Int) (b : Bool) (w : World) (hs : s.size ≤ maxLen) (ht : Twice s g h b1 b2 us us2 z b) :
    Calls Try.prog 27 #[.string s, .int .i64 g, .int .i64 h] w fun e w' => e = .returned (.tuple #[.int .i64 z, .bool b]) ∧ Below w.heap.size w w' := by
  have HT := Lib.hid ht
  clear ht
  obtain ⟨n, hn⟩ : ∃ n, us.length = n := ⟨_, rfl⟩
  obtain ⟨n2, hn2⟩ : ∃ n, us2.length = n := ⟨_, rfl⟩
  have HN := Lib.hid hn
  have HN2 := Lib.hid hn2
  clear hn hn2
  go_enter Try.func27, Try.ntmps27
  go_wp2_with fail
  refine (iFoxOf_any s g b1 w hs HT.out.h1).mono ?_
  rintro e w1 ⟨⟨v1, rfl, ho1⟩, hb1⟩
  rw [HT.out.hus] at ho1
  obtain ⟨a1, c1, rfl, hI1⟩ := ho1.isTerms HT.out.small
  rw [HN.out] at hI1 ⊢
  have HI1 := Lib.hid hI1
  have HB1 := Lib.hid hb1
  clear ho1 hI1 hb1
  cases b1 with
  | false =>
    obtain rfl : b = false := HT.out.hb.symm
    obtain rfl : z = 0 := HT.out.hz.symm
    go_wp2
    go_ret2
    exact ⟨rfl, HB1.out⟩
  | true =>
    go_wp2_with fail
    refine (iFoxSum_any a1 c1 n us h b2 _ HI1.out HT.out.h2).mono ?_
    rintro e w2 ⟨⟨v2, rfl, ho2⟩, hb2⟩
    rw [HT.out.hus2] at ho2
    obtain ⟨a2, c2, rfl, hI2⟩ := ho2.isTerms HT.out.small2
    rw [HN2.out] at hI2 ⊢
    have HI2 := Lib.hid hI2
    have HB2 := Lib.hid (HB1.out.trans (hb2.mono HB1.out.size))
    clear ho2 hI2 hb2
    cases b2 with
    | false =>
      obtain rfl : b = false := HT.out.hb.symm
      obtain rfl : z = 0 := HT.out.hz.symm
      go_wp2
      go_ret2
      exact ⟨rfl, HB2.out⟩
    | true =>
      obtain rfl : b = true := HT.out.hb.symm
      have HZ : Hid (plainZ us2 = z) := Lib.hid HT.out.hz
      have HS2 := Lib.hid (HT.out.sum2 rfl)
      go_wp2_with fail
      refine (iSumPlain_yes a2 c2 n2 us2 _ HI2.out HS2.out).mono ?_
      rw [HZ.out]
      rintro e w3 ⟨rfl, hb3⟩
      go_wp2
      go_ret2
      exact ⟨rfl, HB2.out.trans (hb3.mono HB2.out.size)⟩

/-! ### As a law wants them -/
theorem sFoxSum_law {gn c n : Nat} {x : List Tm} {g : Int} {b : Bool} {w : World} (hx : IsTerms w (some ⟨gn, 0, none⟩) n x) (hb : foxSumB x g = b) :
    Calls Try.prog 83 #[.slice (some ⟨gn, 0, none⟩) n c, .int .i64 g] w (STold w b (canonT (foxI g x))) := sFoxSum_any _ _ _ x g b w hx hb
theorem iFoxSum_law {gn c n : Nat} {x : List Tm} {g : Int} {b : Bool} {w : World} (hx : IsTerms w (some ⟨gn, 0, none⟩) n x) (hb : foxSumB x g = b) :
    Calls Try.prog 18 #[.slice (some ⟨gn, 0, none⟩) n c, .int .i64 g] w (ITold w b (canonT (foxI g x))) := iFoxSum_any _ _ _ x g b w hx hb
theorem sFoxOf_law {s : ByteArray} {g : Int} {b : Bool} {w : World} (hs : s.size ≤ maxLen) (hb : foxOfB s g = b) :
    Calls Try.prog 82 #[.string s, .int .i64 g] w (STold w b (canonT (foxL g 1 s.data.toList))) := sFoxOf_any s g b w hs hb
theorem iFoxOf_law {s : ByteArray} {g : Int} {b : Bool} {w : World} (hs : s.size ≤ maxLen) (hb : foxOfB s g = b) :
    Calls Try.prog 22 #[.string s, .int .i64 g] w (ITold w b (canonT (foxL g 1 s.data.toList))) := iFoxOf_any s g b w hs hb

end Go.Proofs.Ytebgcebjlbhjjab

/- The contracts of both 'FoxBack'. -/

namespace Go.Proofs.Ytebgcebjlbhjjab
open Go.RowKit Go.Shelf

def genS (g : Nat) : ByteArray := bstr [UInt8.ofNat (97 + g)]
/-- A generator less 1. -/
def lessT (g : Nat) : List Tm := [⟨-1, { data := #[] }⟩, ⟨1, genS g⟩]
theorem less_sum (g : Nat) (h : g < 4) : sumB (lessT g) = true := by
  have : g = 0 ∨ g = 1 ∨ g = 2 ∨ g = 3 := by omega
  rcases this with rfl | rfl | rfl | rfl <;> decide +kernel
theorem isTerms_less (w : World) (g : Nat) : IsTerms (w.alloc (.cells #[.int .i64 (-1), .string { data := #[] }, .int .i64 1, .string (genS g)] 54)) (some ⟨w.heap.size, 0, none⟩) 2 (lessT g) :=
  ⟨rfl, by unfold maxLen; omega, fun _ => ⟨_, rfl, by simp, fun i hi => by
    have ha : ∀ j, (⟨w.heap.size, 0, none⟩ : Addr).add j = ⟨w.heap.size, j, none⟩ := fun j => by unfold Addr.add; split <;> simp_all
    rw [ha, ha]
    match i, hi with
    | 0, _ => exact ⟨(World.cell?_alloc_at _ _ _ _ (by simp)).trans rfl, (World.cell?_alloc_at _ _ _ _ (by simp)).trans rfl⟩
    | 1, _ => exact ⟨(World.cell?_alloc_at _ _ _ _ (by simp)).trans rfl, (World.cell?_alloc_at _ _ _ _ (by simp)).trans rfl⟩⟩,
    fun t ht => by
      rcases List.mem_cons.1 ht with rfl | ht
      · exact ⟨Nat.zero_le _, by show (-9223372036854775808 : Int) ≤ -1; omega, by show (-1 : Int) ≤ 9223372036854775807; omega⟩
      · obtain rfl := List.mem_singleton.1 ht
        exact ⟨by show (genS g).size ≤ _; unfold genS maxLen; rw [bstr_size]; simp, by show (-9223372036854775808 : Int) ≤ 1; omega, by show (1 : Int) ≤ 9223372036854775807; omega⟩⟩

def backRow (rows : List (List Tm)) (g : Nat) : List Tm := canonT (pairsT (rows.getD g []) (lessT g))
def backN (rows : List (List Tm)) (k : Nat) : List Tm := (List.range k).flatMap (backRow rows)
theorem backN_succ (rows : List (List Tm)) (k : Nat) : backN rows (k + 1) = backN rows k ++ backRow rows k := by
  unfold backN; rw [List.range_succ, List.flatMap_append]; simp
def prodAt (rows : List (List Tm)) (g : Nat) : Bool := prodB (rows.getD g []) (lessT g)
/-- What FoxBack answers. -/
def backB (rows : List (List Tm)) : Bool := decide (rows.length = 4) && ((List.range 4).all (prodAt rows) && twB (canonT (backN rows 4)))
theorem back_false {rows : List (List Tm)} {k : Nat} (hk : k < 4) (h : prodAt rows k = false) : (List.range 4).all (prodAt rows) = false := List.all_eq_false.2 ⟨k, List.mem_range.2 hk, by simp [h]⟩
theorem back_true {rows : List (List Tm)} (h : ∀ g, g < 4 → prodAt rows g = true) : (List.range 4).all (prodAt rows) = true := List.all_eq_true.2 fun g hg => h g (List.mem_range.1 hg)
theorem back_row {rows : List (List Tm)} {g : Nat} (h : prodAt rows g = true) : (backRow rows g).length ≤ 300 ∧ ∀ t ∈ backRow rows g, termB t = true := canon_len_words (prodB_tw h rfl)
theorem back_sizes {rows : List (List Tm)} : ∀ {k : Nat}, (∀ g, g < k → prodAt rows g = true) → (backN rows k).length ≤ 300 * k ∧ ∀ t ∈ backN rows k, termB t = true
  | 0, _ => ⟨by simp [backN], fun t h => by simp [backN] at h⟩
  | k + 1, h => by
    obtain ⟨h1, h2⟩ := back_sizes (k := k) fun g hg => h g (by omega)
    obtain ⟨h3, h4⟩ := back_row (h k (by omega))
    rw [backN_succ]
    refine ⟨by rw [List.length_append]; omega, fun t ht => ?_⟩
    rcases List.mem_append.1 ht with ht | ht
    · exact h2 t ht
    · exact h4 t ht

theorem iSumTimes_any (a1 a2 : Option Addr) (c1 c2 n m : Nat) (x y : List Tm) (b : Bool) (w : World) (hx : IsTerms w a1 n x) (hy : IsTerms w a2 m y) (hb : prodB x y = b) :
    Calls Try.prog 24 #[.slice a1 n c1, .slice a2 m c2] w (ITold w b (canonT (pairsT x y))) := by
  unfold prodB at hb
  cases hbx : sumB x with
  | false => rw [hbx] at hb; subst hb; exact iSumTimes_no _ _ _ _ _ _ x y w hx hy (.inl hbx)
  | true =>
    cases hby : sumB y with
    | false => rw [hbx, hby] at hb; subst hb; exact iSumTimes_no _ _ _ _ _ _ x y w hx hy (.inr hby)
    | true => rw [hbx, hby] at hb; exact iSumTimes_yes _ _ _ _ _ _ x y b w hx hy hbx hby hb
theorem sSumTimes_any (a1 a2 : Option Addr) (c1 c2 n m : Nat) (x y : List Tm) (b : Bool) (w : World) (hx : IsTerms w a1 n x) (hy : IsTerms w a2 m y) (hb : prodB x y = b) :
    Calls Try.prog 61 #[.slice a1 n c1, .slice a2 m c2] w (STold w b (canonT (pairsT x y))) := by
  unfold prodB at hb
  cases hbx : sumB x with
  | false => rw [hbx] at hb; subst hb; exact sSumTimes_no _ _ _ _ _ _ x y w hx hy (.inl hbx)
  | true =>
    cases hby : sumB y with
    | false => rw [hbx, hby] at hb; subst hb; exact sSumTimes_no _ _ _ _ _ _ x y w hx hy (.inr hby)
    | true => rw [hbx, hby] at hb; exact sSumTimes_yes _ _ _ _ _ _ x y b w hx hy hbx hby hb

theorem gen_nat (g : Nat) (h : g < 4) : ((UInt8.ofNat (97 + g)).toNat : Int) = 97 + (g : Int) := by
  rw [UInt8.toNat_ofNat', Nat.mod_eq_of_lt (by omega)]; omega

set_option maxRecDepth 100000 in
set_option maxHeartbeats 2000000 in
theorem lessOne_any (g : Nat) (w : World) (hg : g < 4) :
    Calls Try.prog 59 #[.int .i64 g] w fun e w' => (∃ B, e = .returned (.slice (some ⟨B, 0, none⟩) 2 2) ∧ IsTerms w' (some ⟨B, 0, none⟩) 2 (lessT g)) ∧ Below w.heap.size w w' := by
  have hr0 : 0 ≤ 97 + (g : Int) := by omega
  have hr1 : 97 + (g : Int) ≤ 255 := by omega
  have hlt : Letters w.heap.size 0 [UInt8.ofNat (97 + g)] (w.alloc (.cells #[.int .u8 (97 + (g : Int))] 96)) :=
    ⟨by simp, fun j hj => by
      have hj0 : j = 0 := by simp at hj; exact hj
      subst hj0
      rw [Nat.zero_add, World.cell?_alloc_at _ _ _ _ (by simp), List.getElem_cons_zero, gen_nat g hg]; rfl⟩
  have HT : Hid (Calls Try.prog 111 #[.slice (some ⟨w.heap.size, 0, none⟩) 1 1] (w.alloc (.cells #[.int .u8 (97 + (g : Int))] 96)) fun e w' => e = .returned (.string (genS g)) ∧ Below (w.alloc (.cells #[.int .u8 (97 + (g : Int))] 96)).heap.size (w.alloc (.cells #[.int .u8 (97 + (g : Int))] 96)) w') :=
    Lib.hid (text_letters w.heap.size 0 1 1 _ _ rfl (by omega) hlt)
  clear hlt
  go_enter Try.func59, Try.ntmps59
  go_wp2_with fail
  refine HT.out.mono ?_
  rintro e w1 ⟨rfl, hb1⟩
  have HB1 : Hid (Below w.heap.size w w1) := Lib.hid (((Below.refl w.heap.size w).alloc (Nat.le_refl _) _).trans (hb1.mono (by simp)))
  clear hb1
  go_wp2
  go_ret
  exact ⟨⟨_, rfl, isTerms_less w1 g⟩, HB1.out.alloc HB1.out.size _⟩

set_option maxRecDepth 100000 in
theorem iFoxBack_not4 (a : Option Addr) (cap n : Nat) (rows : List (List Tm)) (w : World) (hs : IsTT w a n rows) (h : n ≠ 4) :
    Calls Try.prog 14 #[.slice a n cap] w (ITold w false []) := by
  have hm := hs.max
  unfold maxLen at hm
  have hd : decide ((n : Int) = 4) = false := decide_eq_false (by omega)
  have hn : ¬ (n : Int) = 4 := by omega
  clear hs
  go_enter Try.func14, Try.ntmps14
  go_wp2
  go_ret2
  exact ⟨⟨_, rfl, ownNil _ _⟩, Below.refl _ _⟩

set_option maxRecDepth 100000 in
set_option maxHeartbeats 4000000 in
theorem iFoxBack_four (a : Option Addr) (cap : Nat) (rows : List (List Tm)) (b : Bool) (w : World) (hs : IsTT w a 4 rows) (hb : ((List.range 4).all (prodAt rows) && twB (canonT (backN rows 4))) = b) :
    Calls Try.prog 14 #[.slice a 4 cap] w (ITold w b (canonT (backN rows 4))) := by
  have HS := Lib.hid hs
  have HBB := Lib.hid hb
  clear hs hb
  go_enter Try.func14, Try.ntmps14
  go_wp2
  go_loopw [4, 14] (fun v i wr => ∃ k : Nat, k ≤ 4 ∧ i = .int .i64 k ∧ Hid ((∀ g, g < k → prodAt rows g = true) ∧ OwnT w.heap.size wr v (backN rows k)) ∧ Below w.heap.size w wr) (fun _ i _ => 4 - (intOf i).toNat)
  case atStart => exact ⟨0, Nat.zero_le _, rfl, Lib.hid ⟨fun g h => absurd h (Nat.not_lt_zero _), rfl, .inl ⟨rfl, rfl⟩⟩, Below.refl _ _⟩
  case round =>
    obtain ⟨k, hk, rfl, HO, hB⟩ := hrel
    by_cases hlt : k < 4
    · have hkr : k < rows.length := by rw [HS.out.len]; exact hlt
      obtain ⟨x, rfl, hxb, hx⟩ := HS.out.at_ (by omega)
      obtain ⟨ai, ci, hc, hI⟩ := hx k hkr
      have hc0 := (hB.cell (p := x.add k) (by rw [addr_add_block]; exact hxb)).trans hc
      have hgd : rows.getD k [] = rows[k] := by rw [List.getD_eq_getElem?_getD, List.getElem?_eq_getElem hkr]; rfl
      obtain ⟨bp, hbp⟩ : ∃ bp, prodAt rows k = bp := ⟨_, rfl⟩
      obtain ⟨r, hr⟩ : ∃ r, rows[k].length = r := ⟨_, rfl⟩
      have HBP := Lib.hid hbp
      unfold prodAt at hbp
      rw [hgd] at hbp
      have hbr : backRow rows k = canonT (pairsT rows[k] (lessT k)) := by unfold backRow; rw [hgd]
      have HBR := Lib.hid hbr
      have HI := Lib.hid (hI.below hB)
      rw [hr] at hc0 HI
      have HP := Lib.hid hbp
      have hbs := hB.size
      clear hx hc hI hgd hbp hbr hr
      go_wp2_with fail
      refine (lessOne_any k _ hlt).mono ?_
      rintro e w2 ⟨⟨B, rfl, hl2⟩, hb2⟩
      have HL2 := Lib.hid hl2
      have HI2 := Lib.hid (HI.out.below hb2)
      have HB2 := Lib.hid hb2
      clear hl2 hb2
      go_wp2_with fail
      refine (iSumTimes_any ai _ ci _ r 2 rows[k] (lessT k) bp _ HI2.out HL2.out HP.out).mono ?_
      rw [← HBR.out]
      rintro e w3 ⟨⟨vp, rfl, hop⟩, hb3⟩
      have HOP := Lib.hid hop
      have HB3 := Lib.hid (HB2.out.trans (hb3.mono HB2.out.size))
      clear hop hb3
      cases bp with
      | false =>
        have hbf : b = false := by rw [← HBB.out, back_false hlt HBP.out]; rfl
        subst hbf
        go_wp2
        go_ret2
        exact ⟨⟨_, rfl, ownNil _ _⟩, hB.trans (HB3.out.mono hB.size)⟩
      | true =>
        have hall : ∀ g, g < k + 1 → prodAt rows g = true := fun g hg => by
          by_cases e : g = k
          · subst e; exact HBP.out
          · exact HO.out.1 g (by omega)
        have HA := Lib.hid hall
        have hlen := (back_sizes hall).1
        rw [backN_succ, List.length_append] at hlen
        have HLE := Lib.hid hlen
        have HO3 := Lib.hid (HO.out.2.below HB3.out)
        have HOP2 : Hid (OwnT w2.heap.size w3 vp (backRow rows k)) := Lib.hid HOP.out
        have hB3 : Below w.heap.size w w3 := hB.trans (HB3.out.mono hB.size)
        have hs3 := hB3.size
        clear hall hlen
        go_wp2_with (at_builtin; refine wpList_append_terms rfl _ _ rfl w.heap.size w2.heap.size _ _ _ _ rfl rfl HO3.out HOP2.out (by have := HLE.out; omega) hs3 ?_; intro v' w5 ho5 hg5)
        have hB5 : Below w.heap.size w w5 := hB3.trans ((Below.refl w.heap.size w3).grown hg5 hs3 (ownsRow_low HO3.out))
        have HO5 := Lib.hid ho5
        clear ho5 hg5
        go_wp2
        go_roundw
        case rel => exact ⟨k + 1, by omega, by go_num, Lib.hid ⟨HA.out, by rw [backN_succ]; exact HO5.out⟩, hB5⟩
        case measure => simp [intOf]; omega
    · obtain rfl : k = 4 := by omega
      obtain ⟨hall, hown⟩ := HO.out
      obtain ⟨hlen, hterm⟩ := back_sizes hall
      have hcf : ∀ t ∈ backN rows 4, t.s.size ≤ 60 ∧ -1000000 ≤ t.c ∧ t.c ≤ 1000000 := fun t ht => termB_iff (hterm t ht)
      have hsm : SmallT (backN rows 4) := ⟨by unfold maxLen; omega, fun t ht => by have := hcf t ht; unfold maxLen; omega⟩
      obtain ⟨av, cv, rfl, hI⟩ := hown.isTerms hsm
      obtain ⟨N, hN⟩ : ∃ N, (backN rows 4).length = N := ⟨_, rfl⟩
      rw [hN] at hI hlen ⊢
      have hbb : twB (canonT (backN rows 4)) = b := by rw [← HBB.out, back_true hall, Bool.true_and]
      have htold := toldSum_any av cv N (backN rows 4) b wr hI (by omega) (fun t ht => by have := hcf t ht; omega) hbb
      have HTo := Lib.hid htold
      have HBr := Lib.hid hB
      clear hown hcf hsm hI hN htold hbb hall hterm
      go_wp2_with fail
      refine HTo.out.mono ?_
      rintro e w5 ⟨⟨v', rfl, ho⟩, hb5⟩
      have HO' := Lib.hid ho
      have HB5 := Lib.hid (HBr.out.trans (hb5.mono HBr.out.size))
      have hs5 := HBr.out.size
      clear ho hb5
      go_wp2
      go_ret2
      exact ⟨⟨_, rfl, HO'.out.mono hs5⟩, HB5.out⟩

set_option maxRecDepth 100000 in
theorem sFoxBack_not4 (a : Option Addr) (cap n : Nat) (rows : List (List Tm)) (w : World) (hs : IsTT w a n rows) (h : n ≠ 4) :
    Calls Try.prog 15 #[.slice a n cap] w (STold w false []) := by
  have hm := hs.max
  unfold maxLen at hm
  have hd : decide ((n : Int) = 4) = false := decide_eq_false (by omega)
  have hn : ¬ (n : Int) = 4 := by omega
  clear hs
  go_enter Try.func15, Try.ntmps15
  go_wp2
  go_ret2
  exact ⟨⟨_, rfl, ownEmpty _⟩, (Below.refl _ _).alloc (Nat.le_refl _) _⟩

set_option maxRecDepth 100000 in
set_option maxHeartbeats 4000000 in
theorem sFoxBack_four (a : Option Addr) (cap : Nat) (rows : List (List Tm)) (b : Bool) (w : World) (hs : IsTT w a 4 rows) (hb : ((List.range 4).all (prodAt rows) && twB (canonT (backN rows 4))) = b) :
    Calls Try.prog 15 #[.slice a 4 cap] w (STold w b (canonT (backN rows 4))) := by
  have HS := Lib.hid hs
  have HBB := Lib.hid hb
  have hmx : Try.prog.follows .mixedOrders = true := by kernel_rfl
  clear hs hb
  go_enter Try.func15, Try.ntmps15
  go_wp2
  go_loopw [4, 5] (fun v i wr => ∃ k : Nat, k ≤ 4 ∧ i = .int .i64 k ∧ Hid ((∀ g, g < k → prodAt rows g = true) ∧ Acc w.heap.size wr v ((backN rows k).foldl addT []) (300 * k) (300000000 * k)) ∧ Below w.heap.size w wr) (fun _ i _ => 4 - (intOf i).toNat)
  case atStart => exact ⟨0, Nat.zero_le _, rfl, Lib.hid ⟨fun g h => absurd h (Nat.not_lt_zero _), acc_zero w⟩, (Below.refl _ _).alloc (Nat.le_refl _) _⟩
  case round =>
    obtain ⟨k, hk, rfl, HA, hB⟩ := hrel
    by_cases hlt : k < 4
    · have hkr : k < rows.length := by rw [HS.out.len]; exact hlt
      obtain ⟨x, rfl, hxb, hx⟩ := HS.out.at_ (by omega)
      obtain ⟨ai, ci, hc, hI⟩ := hx k hkr
      have hgd : rows.getD k [] = rows[k] := by rw [List.getD_eq_getElem?_getD, List.getElem?_eq_getElem hkr]; rfl
      obtain ⟨bp, hbp⟩ : ∃ bp, prodAt rows k = bp := ⟨_, rfl⟩
      obtain ⟨r, hr⟩ : ∃ r, rows[k].length = r := ⟨_, rfl⟩
      have HBP := Lib.hid hbp
      unfold prodAt at hbp
      rw [hgd] at hbp
      have hbr : backRow rows k = canonT (pairsT rows[k] (lessT k)) := by unfold backRow; rw [hgd]
      have HBR := Lib.hid hbr
      have HP := Lib.hid hbp
      have hr0 : 0 ≤ 97 + (k : Int) := by omega
      have hr1 : 97 + (k : Int) ≤ 255 := by omega
      have hconv : (convert 22 9 (.slice (some ⟨wr.heap.size, 0, none⟩) 1 1)).run Try.prog (wr.alloc (.cells #[.int .u8 (97 + (k : Int))] 5)) = .ok (.string (genS k)) (wr.alloc (.cells #[.int .u8 (97 + (k : Int))] 5)) := by
        have := run_convert_bytes_back (P := Try.prog) (wr.alloc (.cells #[.int .u8 (97 + (k : Int))] 5)) 22 9 5 ⟨wr.heap.size, 0, none⟩ 1 [UInt8.ofNat (97 + k)] Try.underlying22 Try.underlying5 Try.underlying9 (fun j hj => by
          have hj0 : j = 0 := by simp at hj; exact hj
          subst hj0
          show (wr.alloc _).cell? ((⟨wr.heap.size, 0, none⟩ : Addr).add 0) = some (.int .u8 ((UInt8.ofNat (97 + k)).toNat : Int))
          rw [gen_nat k hlt]
          exact cell_one_new _ _ _ 0 _ rfl)
        exact this
      obtain ⟨gs, hgs⟩ : ∃ gs, genS k = gs := ⟨_, rfl⟩
      have hless := isTerms_less (wr.alloc (.cells #[.int .u8 (97 + (k : Int))] 5)) k
      rw [hgs] at hconv hless
      rw [World.size_alloc] at hless
      have hbw : Below wr.heap.size wr ((wr.alloc (.cells #[.int .u8 (97 + (k : Int))] 5)).alloc (.cells #[.int .i64 (-1), .string { data := #[] }, .int .i64 1, .string gs] 54)) := ((Below.refl _ wr).alloc (Nat.le_refl _) _).alloc (by simp) _
      have hc0 := (hbw.cell (p := x.add k) (by rw [addr_add_block]; exact Nat.lt_of_lt_of_le hxb hB.size)).trans ((hB.cell (p := x.add k) (by rw [addr_add_block]; exact hxb)).trans hc)
      have HI := Lib.hid ((hI.below hB).below hbw)
      rw [hr] at hc0 HI
      have HL2 := Lib.hid hless
      have HBW := Lib.hid hbw
      clear hx hc hI hgd hbp hbr hr hless hgs hbw
      go_wp2_with fail
      refine (sSumTimes_any ai _ ci _ r 2 rows[k] (lessT k) bp _ HI.out HL2.out HP.out).mono ?_
      rw [← HBR.out]
      rintro e w3 ⟨⟨vp, rfl, hop⟩, hb3⟩
      have HOP := Lib.hid hop
      have HB3 := Lib.hid (HBW.out.trans (hb3.mono HBW.out.size))
      clear hop hb3
      cases bp with
      | false =>
        have hbf : b = false := by rw [← HBB.out, back_false hlt HBP.out]; rfl
        subst hbf
        have hB3 : Below w.heap.size w w3 := hB.trans (HB3.out.mono hB.size)
        go_wp2
        go_ret2
        exact ⟨⟨_, rfl, (ownEmpty w3).mono hB3.size⟩, hB3.alloc hB3.size _⟩
      | true =>
        have hall : ∀ g, g < k + 1 → prodAt rows g = true := fun g hg => by
          by_cases e : g = k
          · subst e; exact HBP.out
          · exact HA.out.1 g (by omega)
        obtain ⟨hrl, hrt⟩ := back_row HBP.out
        have HAll := Lib.hid hall
        have HRT := Lib.hid hrt
        obtain ⟨gd, capd, rfl, hd1, hd2, hd3, hd4⟩ := (show OwnTerms _ w3 vp (backRow rows k) from HOP.out).form
        obtain ⟨zd, hzd⟩ : ∃ zd : Addr, (⟨gd, 0, none⟩ : Addr) = zd := ⟨_, rfl⟩
        rw [hzd] at hd1 ⊢
        have HD1 := Lib.hid hd1
        have HA3 := Lib.hid (HA.out.2.below HB3.out)
        have hB3 : Below w.heap.size w w3 := hB.trans (HB3.out.mono hB.size)
        obtain ⟨m, hm⟩ : ∃ m, (backRow rows k).length = m := ⟨_, rfl⟩
        rw [hm] at hrl hd2 ⊢
        have HMm := Lib.hid hm
        clear hzd hd1 hm hall hrt
        go_wp2_with fail
        go_loopw [4, 9] (fun v i wr2 => ∃ j : Nat, j ≤ m ∧ i = .int .i64 j ∧ Hid (Acc w.heap.size wr2 v (((backRow rows k).take j).foldl addT ((backN rows k).foldl addT [])) (300 * k + j) (300000000 * k + 1000000 * j)) ∧ Below w3.heap.size w3 wr2) (fun _ i _ => m - (intOf i).toNat)
        case atStart => exact ⟨0, Nat.zero_le _, rfl, Lib.hid (by simpa using HA3.out), Below.refl _ _⟩
        case round =>
          obtain ⟨j, hj, rfl, HAj, hBj⟩ := hrel
          by_cases hltj : j < m
          · have hjd : j < (backRow rows k).length := by rw [HMm.out]; exact hltj
            obtain ⟨u, hu⟩ : ∃ u, (backRow rows k)[j] = u := ⟨_, rfl⟩
            have hzdw := HD1.out.below hBj
            have hcd := hzdw.2 j hjd
            have hbzd := hzdw.1
            rw [hu, addr_next] at hcd
            obtain ⟨e0, f1⟩ := hcd
            have hut := termB_iff (HRT.out _ (List.getElem_mem hjd))
            rw [hu] at hut
            have HUT := Lib.hid hut
            have HU := Lib.hid hu
            have hBw : Below w.heap.size w wr := hB3.trans (hBj.mono hB3.size)
            clear hu hzdw hut
            go_wp2
            go_still_tail 11, hmx
            change wpList _ _ _ _ _ wr.drew
            go_wp2_with fail
            refine (step_any w.heap.size u4 _ _ _ 1000000 u.c u.s wr.drew (HAj.out.below (Below.refl _ _).drew) (by omega) (by omega) (by omega) (by omega) HUT.out.2 HUT.out.1 hBw.size).mono ?_
            rintro e w4 ⟨⟨v', rfl, ho⟩, hb4⟩
            have hB4 : Below w3.heap.size w3 w4 := hBj.trans (((Below.refl _ _).drew.trans hb4).mono hBj.size)
            have HO := Lib.hid ho
            clear ho hb4
            go_wp2
            go_roundw
            case rel =>
              refine ⟨j + 1, by omega, by go_num, Lib.hid ?_, hB4⟩
              rw [fold_succ2 _ (backRow rows k) j hjd, HU.out]
              exact HO.out.more (by omega) (by omega)
            case measure => simp [intOf]; omega
          · obtain rfl : j = m := by omega
            go_wp2
            go_roundw
            case rel =>
              refine ⟨k + 1, by omega, by go_num, Lib.hid ⟨HAll.out, ?_⟩, hB3.trans (hBj.mono hB3.size)⟩
              have h := HAj.out
              rw [show (backRow rows k).take j = backRow rows k from List.take_of_length_le (by rw [HMm.out]; exact Nat.le_refl _)] at h
              rw [backN_succ, List.foldl_append]
              exact h.more (by omega) (by omega)
            case measure => simp [intOf]; omega
    · obtain rfl : k = 4 := by omega
      obtain ⟨hall, hacc⟩ := HA.out
      change Acc _ _ _ (canonT (backN rows 4)) _ _ at hacc
      have HAcc := Lib.hid hacc
      have HSb : Hid (sumB (canonT (backN rows 4)) = b) := Lib.hid (by rw [sumB_canon (canon_of _), ← HBB.out, back_true hall, Bool.true_and])
      clear hacc hall
      go_wp2_with fail
      refine (sDone_any w.heap.size u4 (canonT (backN rows 4)) b wr HAcc.out.own (HAcc.out.small (by omega) (by omega)) hB.size HSb.out).mono ?_
      rintro e w2 ⟨⟨v', rfl, ho⟩, hb2⟩
      have HO := Lib.hid ho
      clear ho
      go_wp2
      go_ret2
      exact ⟨⟨_, rfl, HO.out⟩, hB.trans (hb2.mono hB.size)⟩

/-! ### As a law wants them -/
theorem backB_tw {rows : List (List Tm)} {b : Bool} (h : backB rows = b) : b = true → twB (canonT (backN rows 4)) = true := by
  intro hb
  subst hb
  unfold backB at h
  simp only [Bool.and_eq_true] at h
  exact h.2.2
theorem sFoxBack_any (a : Option Addr) (cap n : Nat) (rows : List (List Tm)) (b : Bool) (w : World) (hs : IsTT w a n rows) (hb : backB rows = b) :
    Calls Try.prog 15 #[.slice a n cap] w (STold w b (canonT (backN rows 4))) := by
  unfold backB at hb
  by_cases h4 : n = 4
  · subst h4
    rw [decide_eq_true hs.len, Bool.true_and] at hb
    exact sFoxBack_four a cap rows b w hs hb
  · rw [decide_eq_false (by rw [hs.len]; exact h4), Bool.false_and] at hb
    subst hb
    exact sFoxBack_not4 a cap n rows w hs h4
theorem iFoxBack_any (a : Option Addr) (cap n : Nat) (rows : List (List Tm)) (b : Bool) (w : World) (hs : IsTT w a n rows) (hb : backB rows = b) :
    Calls Try.prog 14 #[.slice a n cap] w (ITold w b (canonT (backN rows 4))) := by
  unfold backB at hb
  by_cases h4 : n = 4
  · subst h4
    rw [decide_eq_true hs.len, Bool.true_and] at hb
    exact iFoxBack_four a cap rows b w hs hb
  · rw [decide_eq_false (by rw [hs.len]; exact h4), Bool.false_and] at hb
    subst hb
    exact iFoxBack_not4 a cap n rows w hs h4

end Go.Proofs.Ytebgcebjlbhjjab

/- The contract of the laws' own 'sameSum'. -/

namespace Go.Proofs.Ytebgcebjlbhjjab
open Go.RowKit Go.Shelf

set_option maxRecDepth 100000 in
set_option maxHeartbeats 4000000 in
theorem sameSum_yes (a1 a2 : Option Addr) (c1 c2 n : Nat) (ts : List Tm) (w : World) (h1 : IsTerms w a1 n ts) (h2 : IsTerms w a2 n ts) :
    Calls Try.prog 16 #[.slice a1 n c1, .slice a2 n c2] w fun e w' => e = .returned (.bool true) ∧ Below w.heap.size w w' := by
  have H1 := Lib.hid h1
  have H2 := Lib.hid h2
  have HN := Lib.hid h1.len
  have hm := h1.max
  unfold maxLen at hm
  clear h1 h2
  go_enter Try.func16, Try.ntmps16
  go_wp2
  go_loopw [5] (fun i wr => ∃ k : Nat, k ≤ n ∧ i = .int .i64 k ∧ Below w.heap.size w wr) (fun i _ => n - (intOf i).toNat)
  case atStart => exact ⟨0, Nat.zero_le _, rfl, Below.refl _ _⟩
  case round =>
    obtain ⟨k, hk, rfl, hB⟩ := hrel
    by_cases hlt : k < n
    · have hkz : k < ts.length := by rw [HN.out]; exact hlt
      obtain ⟨x, rfl, hx⟩ := H1.out.at_ (by omega)
      obtain ⟨y, rfl, hy⟩ := H2.out.at_ (by omega)
      obtain ⟨t, ht⟩ : ∃ t, ts[k] = t := ⟨_, rfl⟩
      have hc := (hx.below hB).2 k hkz
      have hd := (hy.below hB).2 k hkz
      rw [ht, addr_next] at hc hd
      obtain ⟨c0, c1'⟩ := hc
      obtain ⟨d0, d1'⟩ := hd
      have HB := Lib.hid hB
      have hki : (k : Int) < (n : Int) := by omega
      clear hx hy ht hB
      go_wp2
      go_quiet (fail)
      go_wp2
      go_roundw
      case rel => exact ⟨k + 1, by omega, by go_num, ⟨HB.out.os, HB.out.tape, HB.out.output, HB.out.size, HB.out.block⟩⟩
      case measure => simp [intOf]; omega
    · obtain rfl : k = n := by omega
      go_wp2
      go_ret
      exact ⟨rfl, hB⟩

end Go.Proofs.Ytebgcebjlbhjjab

/- The contracts of both sides' functions on sums, the answer under a name of its own. -/

namespace Go.Proofs.Ytebgcebjlbhjjab
open Go.RowKit Go.Shelf

/-- A slice of terms, nil or not. -/
structure TermsIn (w : World) (a : Option Addr) (n c : Nat) (ts : List Tm) : Prop where
  is : IsTerms w a n ts
  part : PartT w (.slice a n c) ts
theorem TermsIn.below {w w' : World} {a : Option Addr} {n c : Nat} {ts : List Tm} (h : TermsIn w a n c ts) (hb : Below w.heap.size w w') : TermsIn w' a n c ts := ⟨h.is.below hb, h.part.below hb⟩
theorem TermsIn.len {w : World} {a : Option Addr} {n c : Nat} {ts : List Tm} (h : TermsIn w a n c ts) : ts.length = n := h.is.len
theorem termsIn_some {w : World} {ad : Addr} {n c : Nat} {ts : List Tm} (h : IsTerms w (some ad) n ts) : TermsIn w (some ad) n c ts := ⟨h, partT_of h⟩
theorem OwnT.termsIn {base : Nat} {w : World} {v : Value} {ts : List Tm} (h : OwnT base w v ts) (hs : SmallT ts) : ∃ a c, v = .slice a ts.length c ∧ TermsIn w a ts.length c ts := by
  obtain ⟨a, c, rfl, hi⟩ := h.isTerms hs
  exact ⟨a, c, rfl, hi, partT_own h⟩
/-- What a function that tells a sum comes to. -/
def TermsT (W : World) (b : Bool) (n : Nat) (us : List Tm) (e : Ending) (w' : World) : Prop := (∃ a c, e = .returned (.tuple #[.slice a n c, .bool b]) ∧ TermsIn w' a n c us) ∧ Below W.heap.size W w'
theorem ITold.terms {W w' : World} {b : Bool} {L us : List Tm} {n : Nat} {e : Ending} (h : ITold W b L e w') (hs : SmallT us) (hu : cond b L [] = us) (hn : us.length = n) : TermsT W b n us e w' := by
  subst hn hu
  obtain ⟨⟨v, rfl, ho⟩, hb⟩ := h
  obtain ⟨a, c, rfl, hi⟩ := ho.termsIn hs
  exact ⟨⟨a, c, rfl, hi⟩, hb⟩
theorem STold.terms {W w' : World} {b : Bool} {L us : List Tm} {n : Nat} {e : Ending} (h : STold W b L e w') (hs : SmallT us) (hu : cond b L [] = us) (hn : us.length = n) : TermsT W b n us e w' := by
  obtain ⟨⟨v, rfl, ho⟩, hb⟩ := h
  exact ITold.terms ⟨⟨v, rfl, ho.own⟩, hb⟩ hs hu hn
theorem ofB_tw {x : List Tm} {b : Bool} (h : ofB x = b) : b = true → twB (canonT x) = true := by
  intro hb
  subst hb
  unfold ofB at h
  simp only [Bool.and_eq_true] at h
  exact (sumB_parts h.2).1

section
variable {W : World} {a a2 : Option Addr} {n c m c2 k : Nat} {x y us : List Tm} {b : Bool}
theorem iSumIn_t (h : TermsIn W a n c x) (hb : sumB x = b) : Calls Try.prog 64 #[.slice a n c] W fun e w' => e = .returned (.bool b) ∧ Below W.heap.size W w' := iSumIn_is _ _ _ x b W h.is hb
theorem sSumIn_t (h : TermsIn W a n c x) (hb : sumB x = b) : Calls Try.prog 117 #[.slice a n c] W fun e w' => e = .returned (.bool b) ∧ Below W.heap.size W w' := sSumIn_is _ _ _ x b W h.is hb
theorem sSumOf_t (h : TermsIn W a n c x) (hb : ofB x = b) (hu : cond b (canonT x) [] = us) (hk : us.length = k) : Calls Try.prog 110 #[.slice a n c] W (TermsT W b k us) :=
  (sSumOf_any a c n x b W h.is hb).mono fun _ _ hh => hh.terms (told_small (ofB_tw hb) hu).1 hu hk
theorem iSumAdd_t (h : TermsIn W a n c x) (h2 : TermsIn W a2 m c2 y) (hb : addB x y = b) (hu : cond b (canonT (x ++ y)) [] = us) (hk : us.length = k) :
    Calls Try.prog 25 #[.slice a n c, .slice a2 m c2] W (TermsT W b k us) := by
  have hs := (told_small (addB_tw hb) hu).1
  unfold addB at hb
  cases hx : sumB x with
  | false =>
    rw [hx] at hb
    obtain rfl : false = b := hb
    exact (iSumAdd_no _ _ _ _ _ _ x y W h.is h2.is (.inl hx)).mono fun _ _ hh => ITold.terms (b := false) (L := []) hh hs (by rw [← hu]; rfl) hk
  | true =>
    cases hy : sumB y with
    | false =>
      rw [hx, hy] at hb
      obtain rfl : false = b := hb
      exact (iSumAdd_no _ _ _ _ _ _ x y W h.is h2.is (.inr hy)).mono fun _ _ hh => ITold.terms (b := false) (L := []) hh hs (by rw [← hu]; rfl) hk
    | true =>
      rw [hx, hy] at hb
      exact (iSumAdd_yes _ _ _ _ _ _ x y b W h.is h2.is h.part h2.part hx hy hb).mono fun _ _ hh => hh.terms hs hu hk
theorem iSumTimes_t (h : TermsIn W a n c x) (h2 : TermsIn W a2 m c2 y) (hb : prodB x y = b) (hu : cond b (canonT (pairsT x y)) [] = us) (hk : us.length = k) :
    Calls Try.prog 24 #[.slice a n c, .slice a2 m c2] W (TermsT W b k us) :=
  (iSumTimes_any a a2 c c2 n m x y b W h.is h2.is hb).mono fun _ _ hh => hh.terms (told_small (prodB_tw hb) hu).1 hu hk
theorem sSumTimes_t (h : TermsIn W a n c x) (h2 : TermsIn W a2 m c2 y) (hb : prodB x y = b) (hu : cond b (canonT (pairsT x y)) [] = us) (hk : us.length = k) :
    Calls Try.prog 61 #[.slice a n c, .slice a2 m c2] W (TermsT W b k us) :=
  (sSumTimes_any a a2 c c2 n m x y b W h.is h2.is hb).mono fun _ _ hh => hh.terms (told_small (prodB_tw hb) hu).1 hu hk
theorem iSumPlain_t {z : Int} (h : TermsIn W a n c x) (hb : sumB x = b) (hz : cond b (plainZ x) 0 = z) :
    Calls Try.prog 17 #[.slice a n c] W fun e w' => e = .returned (.tuple #[.int .i64 z, .bool b]) ∧ Below W.heap.size W w' := by
  subst hz
  cases b with
  | false => exact iSumPlain_no a c n x W h.is hb
  | true => exact iSumPlain_yes a c n x W h.is hb
theorem sSumPlain_t {z : Int} (h : TermsIn W a n c x) (hb : sumB x = b) (hz : cond b (plainZ x) 0 = z) :
    Calls Try.prog 84 #[.slice a n c] W fun e w' => e = .returned (.tuple #[.int .i64 z, .bool b]) ∧ Below W.heap.size W w' := by
  subst hz
  cases b with
  | false => exact sSumPlain_no a c n x W h.is hb
  | true => exact sSumPlain_yes a c n x W h.is hb
theorem iSumPut_t {g1 g2 : Nat} {zs : List ByteArray} (h : TermsIn W (some ⟨g1, 0, none⟩) n c x) (hm : m ≤ maxLen) (hs : StrsIn W (some ⟨g2, 0, none⟩) g2 m zs) (hb : sumPutB x zs = b) (hu : cond b (canonT (x.map (mapT (putF zs)))) [] = us) (hk : us.length = k) :
    Calls Try.prog 23 #[.slice (some ⟨g1, 0, none⟩) n c, .slice (some ⟨g2, 0, none⟩) m c2] W (TermsT W b k us) :=
  (iSumPut_law h.is hm hs hb).mono fun _ _ hh => hh.terms (told_small (sumPutB_tw hb) hu).1 hu hk
end

theorem termsIn_lit (w : World) (c : Int) (s : ByteArray) (hs : s.size ≤ maxLen) (hc : -9223372036854775808 ≤ c ∧ c ≤ 9223372036854775807) :
    TermsIn (w.alloc (.cells #[.int .i64 c, .string s] TI)) (some ⟨w.heap.size, 0, none⟩) 1 1 [⟨c, s⟩] :=
  termsIn_some ⟨rfl, by unfold maxLen; omega, fun _ => ⟨_, rfl, by simp, fun i hi => by
    have hi0 : i = 0 := by simp at hi; exact hi
    subst hi0
    have ha : ∀ j, (⟨w.heap.size, 0, none⟩ : Addr).add j = ⟨w.heap.size, j, none⟩ := fun j => by unfold Addr.add; split <;> simp_all
    rw [ha, ha]
    exact ⟨(World.cell?_alloc_at _ _ _ _ (by simp)).trans rfl, (World.cell?_alloc_at _ _ _ _ (by simp)).trans rfl⟩⟩,
    fun t ht => by rw [List.mem_singleton.1 ht]; exact ⟨hs, hc⟩⟩
theorem termsIn_one (w : World) (s : ByteArray) (hs : s.size ≤ maxLen) : TermsIn (w.alloc (.cells #[.int .i64 1, .string s] TI)) (some ⟨w.heap.size, 0, none⟩) 1 1 (oneS s) := termsIn_lit w 1 s hs (by omega)
theorem one_any (s : ByteArray) (W : World) : Calls Try.prog 34 #[.string s] W fun e w' => e = .returned (.slice (some ⟨W.heap.size, 0, none⟩) 1 1) ∧ Below W.heap.size W w' ∧ (s.size ≤ maxLen → TermsIn w' (some ⟨W.heap.size, 0, none⟩) 1 1 (oneS s)) := by
  go_enter Try.func34, Try.ntmps34
  go_wp2
  go_ret
  exact ⟨rfl, (Below.refl _ W).alloc (Nat.le_refl _) _, fun hs => termsIn_one W s hs⟩
theorem sameSum_t {w : World} {a1 a2 : Option Addr} {c1 c2 n : Nat} {ts : List Tm} (h1 : TermsIn w a1 n c1 ts) (h2 : TermsIn w a2 n c2 ts) :
    Calls Try.prog 16 #[.slice a1 n c1, .slice a2 n c2] w fun e w' => e = .returned (.bool true) ∧ Below w.heap.size w w' := sameSum_yes a1 a2 c1 c2 n ts w h1.is h2.is
/-- A sum that was drawn. -/
def SumV (base : Nat) (w' : World) (v : Value) : Prop := ∃ g c n ts, v = .slice (some ⟨g, 0, none⟩) n c ∧ base ≤ g ∧ TermsIn w' (some ⟨g, 0, none⟩) n c ts ∧ n ≤ 4 ∧ ∀ t ∈ ts, t.s.size ≤ 6 ∧ -20 ≤ t.c ∧ t.c ≤ 20

/-! ### What sums are told -/
theorem ofB_sum {x : List Tm} (h : sumB x = true) : ofB x = true := by
  unfold ofB
  rw [(sumB_parts h).1, sum_id h, h]; rfl
theorem twB_one : twB [] = true := rfl
theorem fit_of_words {x : List Tm} (h : WordsT x) : fitB x = true := List.all_eq_true.2 fun t ht => by
  have := ((wordB_iff _).1 (h t ht)).1
  have e : t.s.data.toList.length = t.s.size := by simp
  exact decide_eq_true (by omega)
theorem sum_oneS {s : ByteArray} (h : wordB s.data.toList = true) : sumB (oneS s) = true := by
  rw [sumB_canon ⟨by simp [oneS], fun t ht => by rw [List.mem_singleton.1 ht]; exact Int.one_ne_zero⟩]
  unfold twB termB inR oneS
  simp [h]
theorem addB_iff {x y : List Tm} : addB x y = true ↔ sumB x = true ∧ sumB y = true ∧ twB (canonT (x ++ y)) = true := by
  unfold addB; simp only [Bool.and_eq_true]
theorem prodB_iff {x y : List Tm} : prodB x y = true ↔ sumB x = true ∧ sumB y = true ∧ fitB (pairsT x y) = true ∧ twB (canonT (pairsT x y)) = true := by
  unfold prodB; simp only [Bool.and_eq_true]
theorem turnedB_iff {x : List Tm} : turnedB x = true ↔ sumB x = true ∧ twB (canonT (x.map (mapT backL))) = true := by
  unfold turnedB; simp only [Bool.and_eq_true]
theorem sumPutB_iff {x : List Tm} {zs : List ByteArray} : sumPutB x zs = true ↔ sumB x = true ∧ fourB zs = true ∧ fitB (x.map (mapT (putF zs))) = true ∧ twB (canonT (x.map (mapT (putF zs)))) = true := by
  unfold sumPutB; simp only [Bool.and_eq_true]
theorem coef_range {x : List Tm} (h : sumB x = true) (q : ByteArray) : -1000000 ≤ coefAt q x ∧ coefAt q x ≤ 1000000 := by
  by_cases hq : ∃ t ∈ x, t.s = q
  · obtain ⟨t, ht, rfl⟩ := hq
    rw [coefAt_get (canon_of_sum h) ht]
    exact ((sumB_small h).2.1 t ht).2
  · rw [coefAt_none fun t ht e => hq ⟨t, ht, e⟩]; omega
/-- A sum turned is a sum. -/
theorem turned_sum {x : List Tm} (h : sumB x = true) : turnedB x = true := by
  refine turnedB_iff.2 ⟨h, ?_⟩
  have hw := words_of_sum h
  obtain ⟨h3, _, _⟩ := sumB_small h
  have hlen : (canonT (x.map (mapT backL))).length ≤ 300 := by
    have := fold_len (x.map (mapT backL)) []
    rw [List.length_map] at this
    unfold canonT
    simp only [List.length_nil] at this
    omega
  refine twB_of hlen fun j hj => ?_
  have hm := List.getElem_mem hj
  obtain ⟨v, hv, e⟩ := canon_words hm
  obtain ⟨t, ht, rfl⟩ := List.mem_map.1 hv
  have hwt := hw t ht
  have hwb : wordB (canonT (x.map (mapT backL)))[j].s.data.toList = true := by
    rw [← e]
    show wordB (bstr (backL t.s.data.toList)).data.toList = true
    rw [bstr_toList]; exact word_back hwt
  have hc : (canonT (x.map (mapT backL)))[j].c = coefAt (bstr (backL (canonT (x.map (mapT backL)))[j].s.data.toList)) x := by
    rw [← coefAt_get (canonT_spec _).1 hm, (canonT_spec _).2, coef_lin, lin_map, coef_lin]
    refine linT_congr fun u hu => ?_
    have hlu := ((wordB_iff _).1 (hw u hu)).2.1
    have hlj := ((wordB_iff _).1 hwb).2.1
    unfold hitB
    by_cases hh : bstr (backL u.s.data.toList) = (canonT (x.map (mapT backL)))[j].s
    · rw [if_pos hh, if_pos (by rw [← hh, bstr_toList, back_back _ hlu, bstr_of])]
    · rw [if_neg hh, if_neg (fun e2 => hh (by rw [e2, bstr_toList, back_back _ hlj, bstr_of]))]
  have hr := coef_range h (bstr (backL (canonT (x.map (mapT backL)))[j].s.data.toList))
  unfold termB
  rw [hwb, Bool.true_and, hc]
  unfold inR
  simp only [Bool.and_eq_true, decide_eq_true_eq]
  exact hr
theorem plain_bnd {x : List Tm} (h : sumB x = true) : -300000000 ≤ plainZ x ∧ plainZ x ≤ 300000000 := by
  obtain ⟨h1, h2, _⟩ := sumB_small h
  have key : ∀ l : List Tm, (∀ t ∈ l, t.s.size ≤ 60 ∧ -1000000 ≤ t.c ∧ t.c ≤ 1000000) → -(1000000 * l.length : Int) ≤ plainZ l ∧ plainZ l ≤ 1000000 * l.length := fun l => by
    induction l with
    | nil => intro _; simp [plainZ]
    | cons t r ih =>
      intro hh
      have h3 := ih fun u hu => hh u (by simp [hu])
      have h4 := hh t (by simp)
      unfold plainZ at *
      rw [List.map_cons, List.sum_cons, List.length_cons]; omega
  have := key x h2
  omega

end Go.Proofs.Ytebgcebjlbhjjab

/- Series as functions of texts: products, inverses, reduced words; the depth of a commutator. -/

namespace Go.Proofs.Ytebgcebjlbhjjab
open Go.RowKit

abbrev Fs := List UInt8 → Int
/-- The product of two series, at a text. -/
def conv : Fs → Fs → Fs
  | f, g, [] => f [] * g []
  | f, g, c :: r => f [] * g (c :: r) + conv (fun u => f (c :: u)) g r
def oneF : Fs := fun l => if l = [] then 1 else 0
theorem conv_congr : ∀ (w : List UInt8) {f f' g g' : Fs}, (∀ l, l.length ≤ w.length → f l = f' l) → (∀ l, l.length ≤ w.length → g l = g' l) → conv f g w = conv f' g' w
  | [], f, f', g, g', h1, h2 => by rw [conv, conv, h1 [] (by simp), h2 [] (by simp)]
  | c :: r, f, f', g, g', h1, h2 => by
    rw [conv, conv, h1 [] (by simp), h2 (c :: r) (Nat.le_refl _), conv_congr r (fun l hl => h1 (c :: l) (by simp; omega)) (fun l hl => h2 l (by simp; omega))]
theorem conv_add1 : ∀ (w : List UInt8) (f f' g : Fs), conv (fun l => f l + f' l) g w = conv f g w + conv f' g w
  | [], f, f', g => by rw [conv, conv, conv, Int.add_mul]
  | c :: r, f, f', g => by rw [conv, conv, conv, conv_add1 r, Int.add_mul]; omega
theorem conv_add2 : ∀ (w : List UInt8) (f g g' : Fs), conv f (fun l => g l + g' l) w = conv f g w + conv f g' w
  | [], f, g, g' => by rw [conv, conv, conv, Int.mul_add]
  | c :: r, f, g, g' => by rw [conv, conv, conv, conv_add2 r, Int.mul_add]; omega
theorem conv_sub1 : ∀ (w : List UInt8) (f f' g : Fs), conv (fun l => f l - f' l) g w = conv f g w - conv f' g w
  | [], f, f', g => by rw [conv, conv, conv, Int.sub_mul]
  | c :: r, f, f', g => by rw [conv, conv, conv, conv_sub1 r, Int.sub_mul]; omega
theorem conv_mul1 (k : Int) : ∀ (w : List UInt8) (f g : Fs), conv (fun l => k * f l) g w = k * conv f g w
  | [], f, g => by rw [conv, conv, Int.mul_assoc]
  | c :: r, f, g => by rw [conv, conv, conv_mul1 k r, Int.mul_add, Int.mul_assoc]
theorem conv_zero1 : ∀ (w : List UInt8) (g : Fs), conv (fun _ => 0) g w = 0
  | [], g => by rw [conv, Int.zero_mul]
  | c :: r, g => by rw [conv, conv_zero1 r, Int.zero_mul]; rfl
theorem conv_zero2 : ∀ (w : List UInt8) (f : Fs), conv f (fun _ => 0) w = 0
  | [], g => by rw [conv, Int.mul_zero]
  | c :: r, g => by rw [conv, conv_zero2 r, Int.mul_zero]; rfl
theorem conv_assoc : ∀ (w : List UInt8) (f g h : Fs), conv (conv f g) h w = conv f (conv g h) w
  | [], f, g, h => by rw [conv, conv, conv, conv, Int.mul_assoc]
  | c :: r, f, g, h => by
    have e : (fun u => conv f g (c :: u)) = fun u => f [] * g (c :: u) + conv (fun v => f (c :: v)) g u := by funext u; rw [conv]
    have h1 := conv_assoc r (fun v => f (c :: v)) g h
    rw [conv, e, conv_add1 r (fun u => f [] * g (c :: u)) (conv (fun v => f (c :: v)) g) h, conv_mul1, h1, conv, conv, conv, Int.mul_add, Int.mul_assoc]
    omega
theorem conv_one1 (w : List UInt8) (g : Fs) : conv oneF g w = g w := by
  cases w with
  | nil => rw [conv]; simp [oneF]
  | cons c r =>
    have e : (fun u => oneF (c :: u)) = fun _ => 0 := by funext u; simp [oneF]
    rw [conv, e, conv_zero1]; simp [oneF]
theorem conv_one2 : ∀ (w : List UInt8) (f : Fs), conv f oneF w = f w
  | [], f => by rw [conv]; simp [oneF]
  | c :: r, f => by rw [conv, conv_one2 r]; simp [oneF]
/-- Products of what is 0 below two degrees are 0 below their sum. -/
theorem conv_low : ∀ (w : List UInt8) (f g : Fs) (p q : Nat), (∀ l, l.length < p → f l = 0) → (∀ l, l.length < q → g l = 0) → w.length < p + q → conv f g w = 0
  | [], f, g, p, q, hf, hg, hw => by
    rw [conv]
    simp only [List.length_nil] at hw
    by_cases hp : 0 < p
    · rw [hf [] hp, Int.zero_mul]
    · rw [hg [] (by simp; omega), Int.mul_zero]
  | c :: r, f, g, p, q, hf, hg, hw => by
    rw [conv]
    simp only [List.length_cons] at hw
    have h1 : conv (fun u => f (c :: u)) g r = 0 := conv_low r _ g (p - 1) q (fun l hl => hf (c :: l) (by simp; omega)) hg (by omega)
    rw [h1]
    by_cases hp : 0 < p
    · rw [hf [] hp, Int.zero_mul]; rfl
    · rw [hg (c :: r) (by simp; omega), Int.mul_zero]; rfl

/-! ### Lists of terms as functions -/
def cf (x : List Tm) : Fs := fun l => coefAt (bstr l) x
def dl (a : List UInt8) (c : Int) : Fs := fun l => if a = l then c else 0
theorem conv_dl : ∀ (a : List UInt8) (c : Int) (b : List UInt8) (d : Int) (w : List UInt8), conv (dl a c) (dl b d) w = if a ++ b = w then c * d else 0
  | [], c, b, d, w => by
    cases w with
    | nil => rw [conv]; simp only [dl, List.nil_append]; by_cases h : b = [] <;> simp [h]
    | cons x r =>
      have e : (fun u => dl [] c (x :: u)) = fun _ => 0 := by funext u; simp [dl]
      rw [conv, e, conv_zero1]
      simp only [dl, List.nil_append]
      by_cases h : b = x :: r <;> simp [h]
  | y :: a, c, b, d, w => by
    cases w with
    | nil => rw [conv]; simp [dl]
    | cons x r =>
      have e0 : dl (y :: a) c [] = 0 := by simp [dl]
      rw [conv, e0, Int.zero_mul, Int.zero_add]
      by_cases h : y = x
      · subst h
        have e : (fun u => dl (y :: a) c (y :: u)) = dl a c := by funext u; simp [dl]
        rw [e, conv_dl a c b d r]
        simp
      · have e : (fun u => dl (y :: a) c (x :: u)) = fun _ => 0 := by funext u; simp [dl, h]
        rw [e, conv_zero1]
        simp [h]
theorem cf_nil : cf [] = fun _ => 0 := rfl
theorem bstr_eq {s : ByteArray} {l : List UInt8} : s = bstr l ↔ s.data.toList = l := ⟨fun h => by rw [h, bstr_toList], fun h => by rw [← h]; exact bytes_ext (by rw [bstr_toList])⟩
theorem cf_cons (t : Tm) (x : List Tm) : cf (t :: x) = fun l => dl t.s.data.toList t.c l + cf x l := by
  funext l
  unfold cf dl
  rw [coefAt]
  by_cases h : t.s.data.toList = l
  · rw [if_pos (bstr_eq.2 h), if_pos h]
  · rw [if_neg (fun e => h (bstr_eq.1 e)), if_neg h]
theorem conv_row (t : Tm) : ∀ (y : List Tm) (w : List UInt8), w.length ≤ 4 → cf (rowS t y) w = conv (dl t.s.data.toList t.c) (cf y) w
  | [], w, _ => by
    have e : cf (rowS t []) w = 0 := rfl
    rw [e, cf_nil, conv_zero2]
  | u :: r, w, hw => by
    have ih := conv_row t r w hw
    have e1 : cf ([pairS t u].filter short) w = if t.s.data.toList ++ u.s.data.toList = w then t.c * u.c else 0 := by
      rw [List.filter_cons, List.filter_nil]
      have hlen : (t.s ++ u.s).size = (t.s.data.toList ++ u.s.data.toList).length := by rw [append_size, List.length_append]; simp
      have hdat : (t.s ++ u.s).data.toList = t.s.data.toList ++ u.s.data.toList := by simp
      by_cases hs : (t.s ++ u.s).size ≤ 4
      · rw [if_pos (show short (pairS t u) = true from decide_eq_true hs), cf_cons, cf_nil]
        show dl (t.s ++ u.s).data.toList (t.c * u.c) w + 0 = _
        rw [hdat]; unfold dl; omega
      · rw [if_neg (show ¬ short (pairS t u) = true by unfold short pairS; simpa using hs), if_neg (fun e => hs (by rw [hlen, e]; exact hw))]; rfl
    have e2 : cf (rowS t (u :: r)) w = cf ([pairS t u].filter short) w + cf (rowS t r) w := by
      unfold cf; rw [rowS_cons, coefAt_append]
    rw [e2, e1, ih, cf_cons, conv_add2, conv_dl]
theorem conv_pairs : ∀ (x y : List Tm) (w : List UInt8), w.length ≤ 4 → cf (pairsS x y) w = conv (cf x) (cf y) w
  | [], y, w, _ => by rw [cf_nil, conv_zero1]; rfl
  | t :: r, y, w, hw => by
    have e : pairsS (t :: r) y = rowS t y ++ pairsS r y := by unfold pairsS rowS; rw [List.flatMap_cons]
    have e2 : cf (pairsS (t :: r) y) w = cf (rowS t y) w + cf (pairsS r y) w := by unfold cf; rw [e, coefAt_append]
    rw [e2, conv_row t y w hw, conv_pairs r y w hw, cf_cons, conv_add1]

/-! ### Words -/
def Eq4 (f g : Fs) : Prop := ∀ w, w.length ≤ 4 → f w = g w
theorem Eq4.refl (f : Fs) : Eq4 f f := fun _ _ => rfl
theorem Eq4.symm {f g : Fs} (h : Eq4 f g) : Eq4 g f := fun w hw => (h w hw).symm
theorem Eq4.trans {f g h : Fs} (h1 : Eq4 f g) (h2 : Eq4 g h) : Eq4 f h := fun w hw => (h1 w hw).trans (h2 w hw)
theorem Eq4.mul {f f' g g' : Fs} (h1 : Eq4 f f') (h2 : Eq4 g g') : Eq4 (conv f g) (conv f' g') := fun w hw => conv_congr w (fun l hl => h1 l (by omega)) (fun l hl => h2 l (by omega))
theorem eq4_assoc (f g h : Fs) : Eq4 (conv (conv f g) h) (conv f (conv g h)) := fun w _ => conv_assoc w f g h
theorem eq4_one1 (g : Fs) : Eq4 (conv oneF g) g := fun w _ => conv_one1 w g
theorem eq4_one2 (f : Fs) : Eq4 (conv f oneF) f := fun w _ => conv_one2 w f
def cs (l : List UInt8) : Fs := cf (serW l)
theorem cf_one : Eq4 (cf oneT) oneF := fun w _ => by
  unfold oneT
  rw [cf_cons, cf_nil]
  show dl [] 1 w + 0 = _
  unfold dl oneF
  by_cases h : w = []
  · simp [h]
  · rw [if_neg (Ne.symm h), if_neg h]; rfl
theorem cs_nil : Eq4 (cs []) oneF := cf_one
theorem cs_snoc (l : List UInt8) (c : UInt8) : Eq4 (cs (l ++ [c])) (conv (cs l) (cf (letS c))) := fun w hw => by
  unfold cs
  rw [← conv_pairs _ _ w hw, serW_snoc]
  exact (canonT_spec _).2 _
theorem cs_append (a b : List UInt8) : Eq4 (cs (a ++ b)) (conv (cs a) (cs b)) := by
  generalize hn : b.length = n
  induction n generalizing b with
  | zero =>
    rw [List.length_eq_zero_iff.1 hn, List.append_nil]
    exact ((Eq4.refl _).mul cs_nil |>.trans (eq4_one2 _)).symm
  | succ n ih =>
    obtain ⟨p, c, rfl⟩ := last_split b (by omega)
    have hp : p.length = n := by rw [List.length_append] at hn; simp at hn; exact hn
    rw [← List.append_assoc]
    refine (cs_snoc (a ++ p) c).trans ?_
    refine ((ih p hp).mul (Eq4.refl _)).trans ?_
    refine (eq4_assoc _ _ _).trans ?_
    exact (Eq4.refl _).mul (cs_snoc p c).symm
theorem cs_one (c : UInt8) : Eq4 (cs [c]) (cf (letS c)) := (cs_snoc [] c).trans ((cs_nil.mul (Eq4.refl _)).trans (eq4_one1 _))
instance : DecidableEq Tm := fun a b => if h : a.c = b.c ∧ a.s = b.s then isTrue (by cases a; cases b; simp at h; rw [h.1, h.2]) else isFalse (fun e => h (by rw [e]; exact ⟨rfl, rfl⟩))
theorem turn_facts : ∀ n : Fin 8, canonT (pairsS (letS (UInt8.ofNat (if n.val < 4 then 97 + n.val else 61 + n.val))) (letS (turnB (UInt8.ofNat (if n.val < 4 then 97 + n.val else 61 + n.val))))) = oneT := by decide +kernel
theorem turn_one {c : UInt8} (hc : letB c = true) : Eq4 (conv (cf (letS c)) (cf (letS (turnB c)))) oneF := fun w hw => by
  have h := let_cases (P := fun c => canonT (pairsS (letS c) (letS (turnB c))) = oneT) turn_facts hc
  rw [← conv_pairs _ _ w hw, ← cf_one w hw, ← h]
  exact ((canonT_spec _).2 _).symm
theorem turn_one2 {c : UInt8} (hc : letB c = true) : Eq4 (conv (cf (letS (turnB c))) (cf (letS c))) oneF := by
  obtain ⟨h1, h2⟩ := turn_turn c hc
  have := turn_one h2
  rwa [h1] at this
/-- A word and its inverse. -/
theorem cs_back (a : List UInt8) (ha : letL a = true) : Eq4 (conv (cs a) (cs (backL a))) oneF := by
  generalize hn : a.length = n
  induction n generalizing a with
  | zero =>
    rw [List.length_eq_zero_iff.1 hn]
    exact (cs_nil.mul cs_nil).trans (eq4_one1 _)
  | succ n ih =>
    obtain ⟨p, c, rfl⟩ := last_split a (by omega)
    have hp : p.length = n := by rw [List.length_append] at hn; simp at hn; exact hn
    rw [letL_append, Bool.and_eq_true] at ha
    have hc : letB c = true := by have := ha.2; simp [letL] at this; exact this
    have e : backL (p ++ [c]) = [turnB c] ++ backL p := by rw [backL_append]; rfl
    rw [e]
    refine ((cs_snoc p c).mul ((cs_append _ _).trans ((cs_one _).mul (Eq4.refl _)))).trans ?_
    refine (eq4_assoc _ _ _).trans ?_
    refine ((Eq4.refl _).mul ?_).trans (ih p ha.1 hp)
    refine (eq4_assoc _ _ _).symm.trans ?_
    exact ((turn_one hc).mul (Eq4.refl _)).trans (eq4_one1 _)
/-- Reducing changes nothing. -/
theorem cs_red : ∀ (s acc : List UInt8), letL s = true → Eq4 (cs (redL acc s)) (cs (acc ++ s))
  | [], acc, _ => by rw [redL_nil, List.append_nil]; exact Eq4.refl _
  | c :: s, acc, h => by
    rw [letL_cons, Bool.and_eq_true] at h
    have e : redL acc (c :: s) = redL (redStep acc c) s := rfl
    rw [e]
    refine (cs_red s (redStep acc c) h.2).trans ?_
    by_cases hl : acc.getLast? = some (turnB c)
    · obtain ⟨p, x, rfl⟩ := last_split acc (by cases acc with | nil => simp at hl | cons a l => simp)
      have hx : x = turnB c := by simpa using hl
      subst hx
      rw [redStep_pop p (turnB c) c rfl]
      have e2 : p ++ [turnB c] ++ c :: s = p ++ ([turnB c] ++ ([c] ++ s)) := by simp
      rw [e2]
      refine (cs_append p s).trans ?_
      refine Eq4.trans ?_ (cs_append p _).symm
      refine (Eq4.refl _).mul ?_
      refine Eq4.trans ?_ ((cs_append _ _).trans ((cs_one _).mul ((cs_append _ _).trans ((cs_one _).mul (Eq4.refl _))))).symm
      refine Eq4.trans ?_ (eq4_assoc _ _ _)
      exact (((turn_one2 h.1).mul (Eq4.refl _)).trans (eq4_one1 _)).symm
    · have e2 : redStep acc c = acc ++ [c] := by unfold redStep; rw [if_neg hl]
      rw [e2, List.append_assoc]
      exact Eq4.refl _
/-- What the series of a commutator lacks to 1 begins as late as those of its two words together. -/
theorem comm_low {a b : List UInt8} (ha : letL a = true) (hb : letL b = true) {p q : Nat} (hA0 : cs a [] = 1) (hB0 : cs b [] = 1) (hA : ∀ l, 0 < l.length → l.length < p → cs a l = 0) (hB : ∀ l, 0 < l.length → l.length < q → cs b l = 0)
    (w : List UInt8) (hw4 : w.length ≤ 4) (hw : w.length < p + q) : cs (a ++ b ++ backL a ++ backL b) w = oneF w := by
  obtain ⟨u, hu⟩ : ∃ u : Fs, u = fun l => cs a l - oneF l := ⟨_, rfl⟩
  obtain ⟨v, hv⟩ : ∃ v : Fs, v = fun l => cs b l - oneF l := ⟨_, rfl⟩
  have hu0 : ∀ l, l.length < p → u l = 0 := fun l hl => by
    rw [hu]
    cases l with
    | nil => simp [oneF, hA0]
    | cons c r => simp only [hA (c :: r) (by simp) hl]; simp [oneF]
  have hv0 : ∀ l, l.length < q → v l = 0 := fun l hl => by
    rw [hv]
    cases l with
    | nil => simp [oneF, hB0]
    | cons c r => simp only [hB (c :: r) (by simp) hl]; simp [oneF]
  have ea : cs a = fun l => oneF l + u l := by funext l; rw [hu]; show _ = oneF l + (cs a l - oneF l); omega
  have eb : cs b = fun l => oneF l + v l := by funext l; rw [hv]; show _ = oneF l + (cs b l - oneF l); omega
  have hR : ∀ l, l.length < p + q → conv (cs a) (cs b) l - conv (cs b) (cs a) l = 0 := fun l hl => by
    have h1 : conv (cs a) (cs b) l = oneF l + v l + (u l + conv u v l) := by
      rw [ea, conv_add1 l oneF u, conv_one1]
      rw [eb, conv_add2 l u oneF v, conv_one2]
    have h2 : conv (cs b) (cs a) l = oneF l + u l + (v l + conv v u l) := by
      rw [eb, conv_add1 l oneF v, conv_one1]
      rw [ea, conv_add2 l v oneF u, conv_one2]
    rw [h1, h2, conv_low l u v p q hu0 hv0 hl, conv_low l v u q p hv0 hu0 (by omega)]
    omega
  have hZ : Eq4 (cs (backL a ++ backL b)) (conv (cs (backL a)) (cs (backL b))) := cs_append _ _
  have h1 : cs (a ++ b ++ backL a ++ backL b) w = conv (conv (cs a) (cs b)) (conv (cs (backL a)) (cs (backL b))) w := by
    rw [List.append_assoc (a ++ b)]
    exact (((cs_append _ _).trans ((cs_append a b).mul hZ)) w hw4)
  have h2 : conv (conv (cs b) (cs a)) (conv (cs (backL a)) (cs (backL b))) w = oneF w := by
    have : Eq4 (conv (conv (cs b) (cs a)) (conv (cs (backL a)) (cs (backL b)))) oneF := by
      refine (eq4_assoc _ _ _).trans ?_
      refine ((Eq4.refl _).mul ((eq4_assoc _ _ _).symm.trans (((cs_back a ha).mul (Eq4.refl _)).trans (eq4_one1 _)))).trans ?_
      exact cs_back b hb
    exact this w hw4
  have h3 : conv (fun l => conv (cs a) (cs b) l - conv (cs b) (cs a) l) (conv (cs (backL a)) (cs (backL b))) w = 0 := conv_low w _ _ (p + q) 0 hR (fun l hl => absurd hl (Nat.not_lt_zero _)) (by omega)
  rw [conv_sub1 w (conv (cs a) (cs b)) (conv (cs b) (cs a))] at h3
  rw [h1]
  omega

theorem letL_redL : ∀ (s acc : List UInt8), letL s = true → letL acc = true → letL (redL acc s) = true
  | [], _, _, h => h
  | c :: s, acc, h, ha => by
    rw [letL_cons, Bool.and_eq_true] at h
    refine letL_redL s (redStep acc c) h.2 ?_
    unfold redStep
    split
    · exact List.all_eq_true.2 fun x hx => List.all_eq_true.1 ha x (List.dropLast_subset _ hx)
    · rw [letL_append, ha, letL_cons, h.1]; rfl

/-! ### Depths -/
theorem depth_below {ts : List Tm} (hc : Canon ts) (h1 : coefAt noS ts = 1) {q : ByteArray} (h0 : 0 < q.size) (hq : q.size < depthT ts) : coefAt q ts = 0 := by
  obtain ⟨u, r, rfl, hu, _, hr⟩ := canon_first hc h1
  obtain ⟨h2, h3⟩ := List.pairwise_cons.1 hc.1
  cases r with
  | nil =>
    rw [depthT, if_pos (no_iff.1 hu)] at hq
    exact absurd hq (Nat.not_lt_zero _)
  | cons t r =>
    rw [depthT, if_pos (no_iff.1 hu), depthT, if_neg (hr t (by simp))] at hq
    obtain ⟨h4, h5⟩ := List.pairwise_cons.1 h3
    refine coefAt_none fun v hv e => ?_
    rcases List.mem_cons.1 hv with rfl | hv
    · rw [hu] at e; rw [← e] at h0; exact absurd h0 (Nat.not_lt_zero _)
    · rcases List.mem_cons.1 hv with rfl | hv
      · rw [e] at hq; omega
      · have := h4 v hv
        rw [e] at this
        unfold lessW at this
        split at this
        · omega
        · have := of_decide_eq_true this; omega
theorem depth_at {ts : List Tm} (hc : Canon ts) (h1 : coefAt noS ts = 1) (hd : depthT ts ≠ 0) : ∃ t ∈ ts, t.s.size = depthT ts ∧ coefAt t.s ts ≠ 0 := by
  obtain ⟨u, r, rfl, hu, _, hr⟩ := canon_first hc h1
  cases r with
  | nil =>
    rw [depthT, if_pos (no_iff.1 hu)] at hd
    exact absurd rfl hd
  | cons t r =>
    refine ⟨t, by simp, ?_, ?_⟩
    · rw [depthT, if_pos (no_iff.1 hu), depthT, if_neg (hr t (by simp))]
    · rw [coefAt_get hc (by simp)]; exact hc.2 t (by simp)
theorem cs_at (l : List UInt8) (q : ByteArray) : cs l q.data.toList = coefAt q (serW l) := by
  unfold cs cf
  rw [show bstr q.data.toList = q from (bstr_eq.2 rfl).symm]
/-- The depth of a commutator is not less than those of its two words together. -/
theorem depth_comm {a b : List UInt8} (ha : letL a = true) (hb : letL b = true) (hn : depthT (serW (redL [] (commL a b))) ≠ 0) (hp : depthT (serW a) ≠ 0) (hq : depthT (serW b) ≠ 0) (hl : letL (redL [] (commL a b)) = true) :
    depthT (serW a) + depthT (serW b) ≤ depthT (serW (redL [] (commL a b))) := by
  have hlc : letL (commL a b) = true := by unfold commL; rw [letL_append, letL_append, letL_append, ha, hb, letL_back a ha, letL_back b hb]; rfl
  have hok := serW_ok _ hl
  obtain ⟨t, ht, hts, htc⟩ := depth_at hok.canon (serW_no _ hl) hn
  by_cases hlt : depthT (serW a) + depthT (serW b) ≤ depthT (serW (redL [] (commL a b)))
  · exact hlt
  · exfalso
    apply htc
    have h4 : t.s.size ≤ 4 := mono_size (hok.mono t ht)
    have hlen : t.s.data.toList.length = t.s.size := by simp
    have h1 := cs_red (commL a b) [] hlc t.s.data.toList (by omega)
    rw [List.nil_append] at h1
    have h2 := comm_low ha hb (p := depthT (serW a)) (q := depthT (serW b)) (by have := serW_no a ha; exact this) (by have := serW_no b hb; exact this)
      (fun l h0 h5 => by
        have := depth_below (serW_ok a ha).canon (serW_no a ha) (q := bstr l) (by have : (bstr l).data.toList.length = l.length := by rw [bstr_toList]
                                                                                  have e : (bstr l).size = (bstr l).data.toList.length := by simp
                                                                                  omega) (by
          have : (bstr l).data.toList.length = l.length := by rw [bstr_toList]
          have e : (bstr l).size = (bstr l).data.toList.length := by simp
          omega)
        exact this)
      (fun l h0 h5 => by
        have := depth_below (serW_ok b hb).canon (serW_no b hb) (q := bstr l) (by have : (bstr l).data.toList.length = l.length := by rw [bstr_toList]
                                                                                  have e : (bstr l).size = (bstr l).data.toList.length := by simp
                                                                                  omega) (by
          have : (bstr l).data.toList.length = l.length := by rw [bstr_toList]
          have e : (bstr l).size = (bstr l).data.toList.length := by simp
          omega)
        exact this) t.s.data.toList (by omega) (by omega)
    rw [← cs_at, h1]
    have h3 : cs (commL a b) t.s.data.toList = oneF t.s.data.toList := h2
    rw [h3]
    unfold oneF
    rw [if_neg (fun e => by rw [e] at hlen; simp at hlen; omega)]

end Go.Proofs.Ytebgcebjlbhjjab

/- Coefficients of two letters are sums of letters ahead of letters: what derivatives in turn come to. -/

namespace Go.Proofs.Ytebgcebjlbhjjab
open Go.RowKit

def sigB (h : Nat) (c : UInt8) : Int := if idxB c = h then sgnB c else 0
def sigL (h : Nat) : List UInt8 → Int
  | [] => 0
  | c :: r => sigB h c + sigL h r
theorem sigL_append (h : Nat) : ∀ a b : List UInt8, sigL h (a ++ b) = sigL h a + sigL h b
  | [], b => by simp [sigL]
  | c :: r, b => by rw [List.cons_append, sigL, sigL, sigL_append h r b]; omega
/-! ### Derivatives -/
theorem foxN_snoc (g c : Int) (l : List UInt8) (x : UInt8) : ∀ k, k ≤ l.length → foxN g c (l ++ [x]) k = foxN g c l k
  | 0, _ => rfl
  | k + 1, hk => by
    rw [foxN_succ g c (l ++ [x]) k (by simp; omega), foxN_succ g c l k (by omega), foxN_snoc g c l x k (by omega), List.take_append_of_le_length (by omega)]
    rw [List.getElem_append_left]
theorem foxL_snoc (g c : Int) (l : List UInt8) (x : UInt8) : foxL g c (l ++ [x]) = foxL g c l ++ foxT g c l x := by
  unfold foxL
  rw [List.length_append, List.length_singleton, foxN_succ g c (l ++ [x]) l.length (by simp), foxN_snoc g c l x _ (Nat.le_refl _)]
  simp
theorem plain_lin : ∀ ts : List Tm, plainZ ts = linT (fun _ => 1) ts
  | [] => rfl
  | t :: r => by
    have := plain_lin r
    unfold plainZ at *
    rw [List.map_cons, List.sum_cons, linT, this]; omega
theorem linT_scale (f : ByteArray → Int) (c : Int) : ∀ ts, linT f (scaleT c ts) = c * linT f ts
  | [] => by simp [scaleT, linT]
  | t :: r => by
    have ih := linT_scale f c r
    unfold scaleT at *
    rw [List.map_cons, linT, linT, ih, Int.mul_add, Int.mul_assoc]
theorem fox_sig (h : Nat) (l : List UInt8) : linT (fun _ => 1) (foxL h 1 l) = sigL h l := by
  generalize hn : l.length = n
  induction n generalizing l with
  | zero => rw [List.length_eq_zero_iff.1 hn]; rfl
  | succ n ih =>
    obtain ⟨p, c, rfl⟩ := last_split l (by omega)
    have hp : p.length = n := by rw [List.length_append] at hn; simp at hn; exact hn
    rw [foxL_snoc, linT_append, ih p hp, sigL_append]
    have e : linT (fun _ => 1) (foxT h 1 p c) = sigB h c := by
      unfold foxT sigB
      by_cases hi : idxB c = h
      · rw [if_pos (by omega), if_pos hi, linT, linT]; show 1 * sgnB c * 1 + 0 = _; omega
      · rw [if_neg (by omega), if_neg hi, linT]
    rw [e, sigL, sigL]; omega
def twoL (h g : Nat) (l : List UInt8) : Int := linT (fun s => sigL h s.data.toList) (foxL g 1 l)
def twoB (h g : Nat) (c : UInt8) : Int := if idxB c = h ∧ idxB c = g ∧ ¬ 97 ≤ c.toNat then 1 else 0
theorem two_snoc (h g : Nat) (l : List UInt8) (c : UInt8) : twoL h g (l ++ [c]) = twoL h g l + sigL h l * sigB g c + twoB h g c := by
  unfold twoL
  rw [foxL_snoc, linT_append]
  have e : linT (fun s => sigL h s.data.toList) (foxT g 1 l c) = sigL h l * sigB g c + twoB h g c := by
    unfold foxT sigB twoB
    by_cases hi : idxB c = g
    · rw [if_pos (by omega), if_pos hi, linT, linT]
      show 1 * sgnB c * sigL h (bstr _).data.toList + 0 = _
      rw [bstr_toList]
      by_cases hx : 97 ≤ c.toNat
      · rw [if_pos hx, if_neg (fun e => e.2.2 hx), Int.one_mul, Int.mul_comm]
      · rw [if_neg hx, sigL_append, sigL, sigL]
        have hs : sgnB c = -1 := by unfold sgnB; rw [if_neg hx]
        unfold sigB
        rw [hs]
        by_cases hh : idxB c = h
        · rw [if_pos hh, if_pos ⟨hh, hi, hx⟩]; omega
        · rw [if_neg hh, if_neg (fun e => hh e.1)]; omega
    · rw [if_neg (by omega), if_neg hi, if_neg (fun e => hi e.2.1), linT]; omega
  rw [e]; omega
/-- What derivatives in turn come to. -/
theorem twice_two (h g : Nat) (l : List UInt8) : plainZ (canonT (foxI h (canonT (foxL g 1 l)))) = twoL h g l := by
  rw [plain_lin, linT_canon]
  have e : ∀ a : List Tm, linT (fun _ => 1) (foxI h a) = linT (fun s => sigL h s.data.toList) a := fun a => by
    induction a with
    | nil => rfl
    | cons t r ih =>
      unfold foxI at *
      rw [List.flatMap_cons, linT_append, ih, foxL_scale, linT_scale, fox_sig, linT]
  rw [e, linT_canon]; rfl

/-! ### Series -/
def xB (h : Nat) : UInt8 := UInt8.ofNat (97 + h)
theorem let_coefs : ∀ n : Fin 8, ∀ h g : Fin 4, cf (letS (UInt8.ofNat (if n.val < 4 then 97 + n.val else 61 + n.val))) [] = 1 ∧
    cf (letS (UInt8.ofNat (if n.val < 4 then 97 + n.val else 61 + n.val))) [xB h.val] = sigB h.val (UInt8.ofNat (if n.val < 4 then 97 + n.val else 61 + n.val)) ∧
    cf (letS (UInt8.ofNat (if n.val < 4 then 97 + n.val else 61 + n.val))) [xB h.val, xB g.val] = twoB h.val g.val (UInt8.ofNat (if n.val < 4 then 97 + n.val else 61 + n.val)) := by
  unfold cf sigB twoB
  decide +kernel
theorem let_coef {c : UInt8} (hc : letB c = true) {h g : Nat} (hh : h < 4) (hg : g < 4) :
    cf (letS c) [] = 1 ∧ cf (letS c) [xB h] = sigB h c ∧ cf (letS c) [xB h, xB g] = twoB h g c :=
  let_cases (P := fun c => cf (letS c) [] = 1 ∧ cf (letS c) [xB h] = sigB h c ∧ cf (letS c) [xB h, xB g] = twoB h g c) (fun n => let_coefs n ⟨h, hh⟩ ⟨g, hg⟩) hc
theorem cs_two {h g : Nat} (hh : h < 4) (hg : g < 4) (l : List UInt8) (hl : letL l = true) : cs l [] = 1 ∧ cs l [xB h] = sigL h l ∧ cs l [xB h, xB g] = twoL h g l := by
  generalize hn : l.length = n
  induction n generalizing l with
  | zero =>
    rw [List.length_eq_zero_iff.1 hn, cs_nil [] (by simp), cs_nil [xB h] (by simp), cs_nil [xB h, xB g] (by simp)]
    exact ⟨rfl, rfl, rfl⟩
  | succ n ih =>
    obtain ⟨p, c, rfl⟩ := last_split l (by omega)
    have hp : p.length = n := by rw [List.length_append] at hn; simp at hn; exact hn
    rw [letL_append, Bool.and_eq_true] at hl
    have hc : letB c = true := by have := hl.2; simp [letL] at this; exact this
    obtain ⟨h0, h1, h2⟩ := ih p hl.1 hp
    obtain ⟨k0, k1, k2⟩ := let_coef hc hh hg
    obtain ⟨_, k3, _⟩ := let_coef hc hg hg
    refine ⟨?_, ?_, ?_⟩
    · rw [cs_snoc p c [] (by simp), conv, h0, k0]; rfl
    · rw [cs_snoc p c [xB h] (by simp), conv, conv, h0, h1, k0, k1, sigL_append, sigL, sigL]; omega
    · rw [cs_snoc p c [xB h, xB g] (by simp), conv, conv, conv, h0, h1, h2, k0, k2, k3, two_snoc]; omega
/-- Coefficients are derivatives, derived in turn. -/
theorem coef_fox {h g : Nat} (hh : h < 4) (hg : g < 4) (l : List UInt8) (hl : letL l = true) : coefAt (bstr [xB h, xB g]) (serW l) = plainZ (canonT (foxI h (canonT (foxL g 1 l)))) := by
  rw [twice_two]; exact (cs_two hh hg l hl).2.2

end Go.Proofs.Ytebgcebjlbhjjab

/- Derivatives in the free group's ring: of products, inverses, reduced words, sums; the fundamental identity; derivatives in turn. -/

namespace Go.Proofs.Ytebgcebjlbhjjab
open Go.RowKit

/-- The derivative of letters, its words reduced. -/
def rdL (g : Int) (l : List UInt8) : List Tm := (foxL g 1 l).map (mapT (redL []))
def frontL (a : List UInt8) (x : List Tm) : List Tm := x.map (mapT fun r => redL [] (a ++ r))
theorem foxT_shift (g c : Int) (a p : List UInt8) (x : UInt8) : foxT g c (a ++ p) x = (foxT g c p x).map (mapT fun r => a ++ r) := by
  unfold foxT
  by_cases h : (idxB x : Int) = g
  · rw [if_pos h, if_pos h]
    show [_] = [_]
    unfold mapT
    show [(⟨c * sgnB x, _⟩ : Tm)] = [⟨c * sgnB x, bstr (a ++ (bstr _).data.toList)⟩]
    rw [bstr_toList]
    by_cases h2 : 97 ≤ x.toNat
    · rw [if_pos h2, if_pos h2]
    · rw [if_neg h2, if_neg h2, List.append_assoc]
  · rw [if_neg h, if_neg h]; rfl
theorem foxL_append (g c : Int) (a b : List UInt8) : foxL g c (a ++ b) = foxL g c a ++ (foxL g c b).map (mapT fun r => a ++ r) := by
  generalize hn : b.length = n
  induction n generalizing b with
  | zero => rw [List.length_eq_zero_iff.1 hn, List.append_nil]; show _ = _ ++ []; rw [List.append_nil]
  | succ n ih =>
    obtain ⟨p, x, rfl⟩ := last_split b (by omega)
    have hp : p.length = n := by rw [List.length_append] at hn; simp at hn; exact hn
    rw [← List.append_assoc, foxL_snoc, ih p hp, foxL_snoc, List.map_append, foxT_shift, List.append_assoc]
theorem fox_letters {g : Int} {l : List UInt8} (hl : letL l = true) : ∀ t ∈ foxL g 1 l, letL t.s.data.toList = true := fun t ht => by
  obtain ⟨_, j, _, e⟩ := foxN_mem (C := 1) (by omega) (Nat.le_refl _) ht
  rw [e, bstr_toList]
  exact letL_of_mem l _ hl fun _ h => List.mem_of_mem_take h
theorem map_map (x : List Tm) (g k : List UInt8 → List UInt8) : (x.map (mapT g)).map (mapT k) = x.map (mapT fun l => k (g l)) := by
  rw [List.map_map]
  refine List.map_congr_left fun t _ => ?_
  show (⟨t.c, bstr (k (bstr (g t.s.data.toList)).data.toList)⟩ : Tm) = ⟨t.c, bstr (k (g t.s.data.toList))⟩
  rw [bstr_toList]
theorem map_congr {x : List Tm} {g k : List UInt8 → List UInt8} (h : ∀ t ∈ x, g t.s.data.toList = k t.s.data.toList) : x.map (mapT g) = x.map (mapT k) :=
  List.map_congr_left fun t ht => by unfold mapT; rw [h t ht]
/-- The product rule. -/
theorem rd_append (g : Int) (a b : List UInt8) (hb : letL b = true) : rdL g (a ++ b) = rdL g a ++ frontL a (rdL g b) := by
  unfold rdL frontL
  rw [foxL_append, List.map_append, map_map, map_map]
  congr 1
  exact map_congr fun _ ht => (red_right (fox_letters hb _ ht)).symm
theorem front_same {x y : List Tm} (h : Same x y) (a : List UInt8) : Same (frontL a x) (frontL a y) := h.map _
theorem front_red (a : List UInt8) (x : List Tm) : frontL (redL [] a) x = frontL a x := map_congr fun _ _ => red_append a _
theorem rd_word {g : Int} {l : List UInt8} (h : wordB l = true) : rdL g l = foxL g 1 l := by
  unfold rdL
  refine map_id_same fun t ht => ?_
  obtain ⟨_, j, _, e⟩ := foxN_mem (C := 1) (by omega) (Nat.le_refl _) ht
  rw [e, bstr_toList]
  exact ((wordB_iff _).1 (word_take h j)).2.2
theorem rd_nil (g : Int) : rdL g [] = [] := rfl
theorem rd_one (g : Int) (c : UInt8) : rdL g [c] = if (idxB c : Int) = g then [⟨sgnB c, bstr (if 97 ≤ c.toNat then [] else [c])⟩] else [] := by
  unfold rdL
  have e : foxL g 1 [c] = foxT g 1 [] c := by
    have := foxL_snoc g 1 [] c
    rw [List.nil_append] at this
    rw [this]; rfl
  rw [e]
  unfold foxT
  by_cases h : (idxB c : Int) = g
  · rw [if_pos h, if_pos h]
    show [mapT (redL []) ⟨1 * sgnB c, _⟩] = _
    unfold mapT
    rw [bstr_toList, Int.one_mul]
    by_cases h2 : 97 ≤ c.toNat
    · rw [if_pos h2, if_pos h2]; rfl
    · rw [if_neg h2, if_neg h2]; show [(⟨_, bstr (redL [] ([] ++ [c]))⟩ : Tm)] = _; rw [List.nil_append]; rfl
  · rw [if_neg h, if_neg h]; rfl
/-- A letter and its inverse have no derivative. -/
theorem rd_pair (g : Int) {c : UInt8} (hc : letB c = true) : Same (rdL g [turnB c, c]) [] := fun f => by
  obtain ⟨h1, h2⟩ := sg_turn hc
  obtain ⟨h3, h4⟩ := turn_turn c hc
  have e := rd_append g [turnB c] [c] (by simp [letL, hc])
  rw [show [turnB c, c] = [turnB c] ++ [c] from rfl, e, linT_append, rd_one, rd_one, h1, h2]
  unfold frontL
  by_cases hg : (idxB c : Int) = g
  · rw [if_pos hg, if_pos hg]
    have hl := (letB_iff c).1 hc
    rw [lin_map]
    simp only [linT]
    rcases hl with h | h
    · have := turnB_hi c h.1
      rw [if_neg (by omega), if_pos (by omega), bstr_toList, List.append_nil]
      have e2 : redL [] [turnB c] = [turnB c] := rfl
      rw [e2, Int.neg_mul]; omega
    · have := turnB_lo c (by omega)
      rw [if_pos (by omega), if_neg (by omega), bstr_toList]
      have e2 : redL [] ([turnB c] ++ [c]) = [] := by
        show redStep (redStep [] (turnB c)) c = []
        have := step_cancel noC_nil h4
        rwa [h3] at this
      rw [e2, Int.neg_mul]; omega
  · rw [if_neg hg, if_neg hg]; rfl
/-- Reducing changes no derivative. -/
theorem rd_red (g : Int) : ∀ (s acc : List UInt8), letL s = true → letL acc = true → Same (rdL g (redL acc s)) (rdL g (acc ++ s))
  | [], acc, _, _ => by rw [redL_nil, List.append_nil]; exact Same.refl _
  | c :: s, acc, h, ha => by
    rw [letL_cons, Bool.and_eq_true] at h
    have e : redL acc (c :: s) = redL (redStep acc c) s := rfl
    rw [e]
    refine (rd_red g s (redStep acc c) h.2 (letL_step ha h.1)).trans ?_
    have hs : letL s = true := h.2
    have hcs : letL (c :: s) = true := by rw [letL_cons, h.1, hs]; rfl
    by_cases hl : acc.getLast? = some (turnB c)
    · obtain ⟨p, x, rfl⟩ := last_split acc (by cases acc with | nil => simp at hl | cons a l => simp)
      have hx : x = turnB c := by simpa using hl
      subst hx
      rw [redStep_pop p (turnB c) c rfl]
      have e2 : p ++ [turnB c] ++ c :: s = p ++ [turnB c, c] ++ s := by simp
      have h2 : letL [turnB c, c] = true := by simp [letL, h.1, (turn_turn c h.1).2]
      rw [e2, rd_append g p s hs, rd_append g (p ++ [turnB c, c]) s hs, rd_append g p _ h2]
      refine Same.append ?_ ?_
      · have h3 := (front_same (rd_pair g h.1) p)
        have h4 : Same (rdL g p ++ frontL p (rdL g [turnB c, c])) (rdL g p ++ frontL p []) := (Same.refl _).append h3
        have h5 : rdL g p ++ frontL p [] = rdL g p := by show _ ++ [] = _; rw [List.append_nil]
        rw [h5] at h4
        exact h4.symm
      · have e3 : frontL (p ++ [turnB c, c]) (rdL g s) = frontL p (rdL g s) := map_congr fun t _ => by
          have h5 : redL [] (p ++ [turnB c, c]) = redL [] p := by
            rw [show p ++ [turnB c, c] = p ++ [turnB c] ++ [c] by simp, redL_snoc, redL_snoc]
            have := step_cancel (noC_red p [] noC_nil) (turn_turn c h.1).2
            rwa [(turn_turn c h.1).1] at this
          rw [redL_append [] (p ++ [turnB c, c]), h5, ← redL_append]
        rw [e3]; exact Same.refl _
    · have e2 : redStep acc c = acc ++ [c] := by unfold redStep; rw [if_neg hl]
      rw [e2, List.append_assoc]
      exact Same.refl _
/-- Derivatives of words that come of products. -/
theorem fox_times {g : Int} {a b : List UInt8} (ha : wordB a = true) (hb : wordB b = true) (hw : wordB (redL [] (a ++ b)) = true) :
    Same (foxL g 1 (redL [] (a ++ b))) (foxL g 1 a ++ frontL a (foxL g 1 b)) := by
  have hla := ((wordB_iff _).1 ha).2.1
  have hlb := ((wordB_iff _).1 hb).2.1
  rw [← rd_word hw, ← rd_word ha, ← rd_word hb, ← rd_append g a b hlb]
  exact rd_red g (a ++ b) [] (by rw [letL_append, hla, hlb]; rfl) rfl
theorem front_pairs (s : ByteArray) (c : Int) (x : List Tm) : Same (pairsT [⟨c, s⟩] x) (scaleT c (frontL s.data.toList x)) := fun f => by
  unfold frontL
  rw [lin_pairs, linT_scl, lin_map]
  simp only [linT]
  show c * linT (fun r => f (mulB s r)) x + 0 = _
  rw [Int.add_zero]; rfl
/-- The rule of inverses. -/
theorem fox_back {g : Int} {a : List UInt8} (ha : wordB a = true) : Same (foxL g 1 (backL a)) (scaleT (-1) (frontL (backL a) (foxL g 1 a))) := fun f => by
  have hla := ((wordB_iff _).1 ha).2.1
  have hwb := word_back ha
  have h1 := rd_append g (backL a) a hla
  have h2 := rd_red g (backL a ++ a) [] (by rw [letL_append, letL_back a hla, hla]; rfl) rfl f
  have e0 : redL [] (backL a ++ a) = [] := by have := red_inv2 hla []; rwa [List.nil_append] at this
  rw [List.nil_append, e0, rd_nil, h1, linT_append, rd_word hwb, rd_word ha] at h2
  rw [linT_scl]
  simp only [linT] at h2
  omega
/-! ### Sums -/
theorem lin_fox (g : Int) (f : ByteArray → Int) : ∀ a : List Tm, linT f (foxI g a) = linT (fun s => linT f (foxL g 1 s.data.toList)) a
  | [] => rfl
  | t :: r => by
    have ih := lin_fox g f r
    unfold foxI at *
    rw [List.flatMap_cons, linT_append, ih, foxL_scale, linT_scl, linT]
theorem Same.fox {x y : List Tm} (h : Same x y) (g : Int) : Same (foxI g x) (foxI g y) := fun f => by rw [lin_fox, lin_fox]; exact h _
theorem fox_add (g : Int) (x y : List Tm) : foxI g (x ++ y) = foxI g x ++ foxI g y := by unfold foxI; rw [List.flatMap_append]
theorem fox_noS (g : Int) : foxI g (oneS noS) = [] := rfl
/-! ### The fundamental identity -/
theorem lin_less (g : Nat) (f : ByteArray → Int) (s : ByteArray) : linT (fun r => f (mulB s r)) (lessT g) = f (bstr (redL [] (s.data.toList ++ [UInt8.ofNat (97 + g)]))) - f (bstr (redL [] s.data.toList)) := by
  unfold lessT
  simp only [linT]
  unfold mulB genS
  have h0 : ({ data := #[] } : ByteArray).data.toList = [] := rfl
  rw [h0, List.append_nil]
  simp only [bstr_toList]
  omega
def sumF (f : Nat → Int) : Int := f 0 + f 1 + f 2 + f 3
theorem lin_back (f : ByteArray → Int) (rows : List (List Tm)) : linT f (backN rows 4) = sumF fun g => linT f (backRow rows g) := by
  have e : backN rows 4 = backRow rows 0 ++ backRow rows 1 ++ backRow rows 2 ++ backRow rows 3 := by
    rw [backN_succ, backN_succ, backN_succ, backN_succ]; rfl
  rw [e, linT_append, linT_append, linT_append]; rfl
theorem fund_step (f : ByteArray → Int) (g : Nat) (l : List UInt8) {c : UInt8} (hc : letB c = true) (hg : idxB c = g) :
    linT (fun s => linT (fun r => f (mulB s r)) (lessT g)) ((foxT g 1 l c).map (mapT (redL []))) = f (bstr (redL [] (l ++ [c]))) - f (bstr (redL [] l)) := by
  have hx : (idxB c : Int) = (g : Int) := by omega
  have hL := (letB_iff c).1 hc
  unfold foxT
  rw [if_pos hx, lin_map]
  simp only [linT, lin_less, bstr_toList, red_red]
  rcases hL with h | h
  · have hs : sgnB c = 1 := by unfold sgnB; rw [if_pos (by omega)]
    have e : UInt8.ofNat (97 + g) = c := by
      rw [← hg]; unfold idxB
      rw [if_pos (by omega), show 97 + (c.toNat - 97) = c.toNat by omega]; simp
    rw [if_pos (by omega), hs, e, red_append]; omega
  · have hs : sgnB c = -1 := by unfold sgnB; rw [if_neg (by omega)]
    have e : UInt8.ofNat (97 + g) = turnB c := by
      rw [← hg]; unfold idxB turnB
      rw [if_neg (by omega), if_neg (by omega)]
      apply UInt8.toNat_inj.1
      rw [UInt8.toNat_add, UInt8.toNat_ofNat']
      have : (32 : UInt8).toNat = 32 := rfl
      omega
    rw [if_neg (by omega), hs, e, red_append]
    have e2 : redL [] (l ++ [c] ++ [turnB c]) = redL [] l := by
      have := red_inv (s := [c]) (by simp [letL, hc]) l
      have e3 : backL [c] = [turnB c] := rfl
      rwa [e3] at this
    rw [e2]; omega
theorem fundamental (f : ByteArray → Int) (l : List UInt8) (hl : letL l = true) :
    (sumF fun g => linT (fun s => linT (fun r => f (mulB s r)) (lessT g)) (rdL g l)) = f (bstr (redL [] l)) - f (bstr []) := by
  generalize hn : l.length = n
  induction n generalizing l with
  | zero => rw [List.length_eq_zero_iff.1 hn]; unfold sumF; simp only [rd_nil, linT, redL_nil]; omega
  | succ n ih =>
    obtain ⟨p, c, rfl⟩ := last_split l (by omega)
    have hp : p.length = n := by rw [List.length_append] at hn; simp at hn; exact hn
    rw [letL_append, Bool.and_eq_true] at hl
    have hc : letB c = true := by have := hl.2; simp [letL] at this; exact this
    have h1 := ih p hl.1 hp
    have hi := idxB_lt c hc
    have hs := fund_step f (idxB c) p hc rfl
    have e : ∀ g : Nat, rdL g (p ++ [c]) = rdL g p ++ (foxT g 1 p c).map (mapT (redL [])) := fun g => by unfold rdL; rw [foxL_snoc, List.map_append]
    have hz : ∀ g : Nat, idxB c ≠ g → linT (fun s => linT (fun r => f (mulB s r)) (lessT g)) ((foxT g 1 p c).map (mapT (redL []))) = 0 := fun g hg => by
      rw [foxT_no (by omega)]; rfl
    unfold sumF at *
    dsimp only at h1
    simp only [e, linT_append]
    rcases (show idxB c = 0 ∨ idxB c = 1 ∨ idxB c = 2 ∨ idxB c = 3 by omega) with h | h | h | h
    · rw [h] at hs; rw [hs, hz 1 (by omega), hz 2 (by omega), hz 3 (by omega)]; omega
    · rw [h] at hs; rw [hs, hz 0 (by omega), hz 2 (by omega), hz 3 (by omega)]; omega
    · rw [h] at hs; rw [hs, hz 0 (by omega), hz 1 (by omega), hz 3 (by omega)]; omega
    · rw [h] at hs; rw [hs, hz 0 (by omega), hz 1 (by omega), hz 2 (by omega)]; omega
/-! ### Derivatives in turn -/
theorem two_both {g h : Nat} (hgh : g ≠ h) (l : List UInt8) : twoL h g l + twoL g h l = sigL g l * sigL h l := by
  generalize hn : l.length = n
  induction n generalizing l with
  | zero => rw [List.length_eq_zero_iff.1 hn]; rfl
  | succ n ih =>
    obtain ⟨p, c, rfl⟩ := last_split l (by omega)
    have hp : p.length = n := by rw [List.length_append] at hn; simp at hn; exact hn
    have h1 := ih p hp
    rw [two_snoc, two_snoc, sigL_append, sigL_append]
    have e1 : twoB h g c = 0 := by unfold twoB; rw [if_neg (fun e => hgh (e.2.1.symm.trans e.1))]
    have e2 : twoB g h c = 0 := by unfold twoB; rw [if_neg (fun e => hgh (e.1.symm.trans e.2.1))]
    have e3 : sigB g c * sigB h c = 0 := by
      unfold sigB
      by_cases hc : idxB c = g
      · rw [if_neg (fun e => hgh (hc.symm.trans e)), Int.mul_zero]
      · rw [if_neg hc, Int.zero_mul]
    simp only [sigL, e1, e2, Int.add_zero]
    rw [Int.add_mul, Int.mul_add, Int.mul_add, e3, ← h1, Int.mul_comm (sigB g c) (sigL h p)]
    omega

end Go.Proofs.Ytebgcebjlbhjjab

/- The contract of the laws' own 'sameInts'; slices of ints that lie somewhere; sums of letters as such. -/

namespace Go.Proofs.Ytebgcebjlbhjjab
open Go.RowKit

structure IntsAt (w : World) (a : Option Addr) (n : Nat) (zs : List Int) : Prop where
  len : zs.length = n
  max : n ≤ maxLen
  at_ : 0 < n → ∃ g, a = some ⟨g, 0, none⟩ ∧ g < w.heap.size ∧ ∀ j (h : j < zs.length), w.cell? ⟨g, j, none⟩ = some (.int .i64 zs[j])
theorem IntsAt.below {w w' : World} {a : Option Addr} {n : Nat} {zs : List Int} (h : IntsAt w a n zs) (hb : Below w.heap.size w w') : IntsAt w' a n zs :=
  ⟨h.len, h.max, fun h0 => by
    obtain ⟨g, e, hg, hc⟩ := h.at_ h0
    exact ⟨g, e, Nat.lt_of_lt_of_le hg hb.size, fun j hj => (hb.cell (p := ⟨g, j, none⟩) hg).trans (hc j hj)⟩⟩
theorem IntRow.ints {base : Nat} {w : World} {v : Value} {zs : List Int} (h : IntRow base w v zs) : ∃ a cap, v = .slice a zs.length cap ∧ IntsAt w a zs.length zs := by
  obtain ⟨a, g, cap, rfl, h1, h2, h3⟩ := h.shape
  exact ⟨a, cap, rfl, rfl, h2, fun h0 => ⟨g, (h1 h0).1, (h1 h0).2.2, fun j hj => (h3 j hj).1⟩⟩
theorem intsAt_four (w : World) : IntsAt (w.alloc (.cells #[.int .i64 0, .int .i64 0, .int .i64 0, .int .i64 0] 3)) (some ⟨w.heap.size, 0, none⟩) 4 [0, 0, 0, 0] :=
  ⟨rfl, by unfold maxLen; omega, fun _ => ⟨_, rfl, by simp, fun j hj => by
    have hj4 : j < 4 := hj
    rcases (show j = 0 ∨ j = 1 ∨ j = 2 ∨ j = 3 by omega) with rfl | rfl | rfl | rfl <;> exact (World.cell?_alloc_at _ _ _ _ (by simp)).trans rfl⟩⟩

set_option maxRecDepth 100000 in
set_option maxHeartbeats 1000000 in
theorem sameInts_yes (a1 a2 : Option Addr) (c1 c2 n : Nat) (zs : List Int) (w : World) (h1 : IntsAt w a1 n zs) (h2 : IntsAt w a2 n zs) :
    Calls Try.prog 53 #[.slice a1 n c1, .slice a2 n c2] w fun e w' => e = .returned (.bool true) ∧ Below w.heap.size w w' := by
  have hm := h1.max
  unfold maxLen at hm
  have H1 := Lib.hid h1
  have H2 := Lib.hid h2
  clear h1 h2
  go_enter Try.func53, Try.ntmps53
  go_wp2
  go_loopw [5] (fun i wr => ∃ k : Nat, k ≤ n ∧ i = .int .i64 k ∧ Below w.heap.size w wr) (fun i _ => n - (intOf i).toNat)
  case atStart => exact ⟨0, Nat.zero_le _, rfl, Below.refl _ _⟩
  case round =>
    obtain ⟨k, hk, rfl, hB⟩ := hrel
    by_cases hlt : k < n
    · obtain ⟨g1, rfl, hg1, hc1⟩ := H1.out.at_ (by omega)
      obtain ⟨g2, rfl, hg2, hc2⟩ := H2.out.at_ (by omega)
      have hkz : k < zs.length := by rw [H1.out.len]; exact hlt
      obtain ⟨z, hz⟩ : ∃ z, zs[k] = z := ⟨_, rfl⟩
      have d1 : wr.cell? ⟨g1, k, none⟩ = some (.int .i64 z) := by rw [← hz]; exact (hB.cell (p := ⟨g1, k, none⟩) hg1).trans (hc1 k hkz)
      have d2 : wr.cell? ⟨g2, k, none⟩ = some (.int .i64 z) := by rw [← hz]; exact (hB.cell (p := ⟨g2, k, none⟩) hg2).trans (hc2 k hkz)
      clear hz hkz hc1 hc2
      go_wp2
      go_quiet (fail)
      go_wp2
      go_roundw
      case rel => exact ⟨k + 1, by omega, by go_num, below_drewN hB _⟩
      case measure => simp [intOf]; omega
    · go_wp2
      go_ret
      exact ⟨rfl, hB⟩

/-- What WordSums answers. -/
def SumsT (W : World) (b : Bool) (n : Nat) (zs : List Int) (e : Ending) (w' : World) : Prop := (∃ a c, e = .returned (.tuple #[.slice a n c, .bool b]) ∧ IntsAt w' a n zs) ∧ Below W.heap.size W w'
theorem iSums_t {s : ByteArray} (h : wordB s.data.toList = true) (W : World) :
    Calls Try.prog 29 #[.string s] W (SumsT W true 4 (sumsL s.data.toList)) :=
  (iWordSums_yes s W h).mono fun e w' ⟨v, he, hr, hb⟩ => by
    have h4 := (sumsL_inv _ ((wordB_iff _).1 h).2.1).1
    obtain ⟨a, c, rfl, hi⟩ := hr.ints
    rw [h4] at he hi
    exact ⟨⟨a, c, he, hi⟩, hb⟩
theorem iSums_f {s : ByteArray} (hs : s.size ≤ maxLen) (h : wordB s.data.toList = false) (W : World) :
    Calls Try.prog 29 #[.string s] W (SumsT W false 0 []) :=
  (iWordSums_no s W hs h).mono fun e w' ⟨v, he, hr, hb⟩ => by
    obtain ⟨a, c, rfl, hi⟩ := hr.ints
    exact ⟨⟨a, c, he, hi⟩, hb⟩
/-- The cells of the sums of a word's letters. -/
theorem IntsAt.four {w : World} {a : Option Addr} {zs : List Int} (h : IntsAt w a 4 zs) : ∃ g, a = some ⟨g, 0, none⟩ ∧ g < w.heap.size ∧ ∀ i, i < 4 → w.cell? ⟨g, i, none⟩ = some (.int .i64 (zs.getD i 0)) := by
  obtain ⟨g, e, hg, hc⟩ := h.at_ (by omega)
  refine ⟨g, e, hg, fun i hi => ?_⟩
  have hl := h.len
  rw [List.getD_eq_getElem?_getD, List.getElem?_eq_getElem (by omega)]
  exact hc i (by omega)
theorem sums_getD {s : List UInt8} (hl : letL s = true) (i : Nat) (hi : i < 4) : (sumsL s).getD i 0 = sgL i s := by
  have h4 := (sumsL_inv s hl).1
  rw [List.getD_eq_getElem?_getD, List.getElem?_eq_getElem (by omega)]
  exact sums_get s hl i (by omega)
theorem sgL_bnd (i : Nat) : ∀ s : List UInt8, -(s.length : Int) ≤ sgL i s ∧ sgL i s ≤ s.length
  | [] => by simp [sgL]
  | c :: r => by
    have h := sgL_bnd i r
    have h2 := sgnB_bnd2 c
    rw [sgL, List.length_cons]
    split <;> omega

end Go.Proofs.Ytebgcebjlbhjjab

/- The contract of the program's 'WordCore'. -/

namespace Go.Proofs.Ytebgcebjlbhjjab
open Go.RowKit Go.Shelf

theorem letters_core {g off : Nat} {l : List UInt8} {w : World} (h : Letters g off l w) : Letters g (off + 1) (l.tail.dropLast) w :=
  ⟨h.1, fun j hj => by
    have := h.2 (j + 1) (by simp at hj; omega)
    rw [core_get l j hj, show off + 1 + j = off + (j + 1) by omega]
    exact this⟩

end Go.Proofs.Ytebgcebjlbhjjab

/- The contracts of both sides' functions on words, the answer under a name of its own. -/

namespace Go.Proofs.Ytebgcebjlbhjjab
open Go.RowKit Go.Shelf

/-- A text that is a row of letters. -/
def Is (x : ByteArray) (l : List UInt8) : Prop := x.data.toList = l
theorem Is.eq {x : ByteArray} {l : List UInt8} (h : Is x l) : bstr l = x := by unfold Is at h; rw [← h]; exact bstr_of x
theorem is_of (l : List UInt8) : ∃ x, Is x l := ⟨bstr l, bstr_toList l⟩
theorem Is.size {x : ByteArray} {l : List UInt8} (h : Is x l) : x.size = l.length := by unfold Is at h; rw [← h]; simp
theorem Is.same {x y : ByteArray} {l : List UInt8} (h : Is x l) (h2 : Is y l) : x = y := by rw [← h.eq, h2.eq]
def OutT (x : ByteArray) (W : World) (e : Ending) (w' : World) : Prop := e = .returned (.tuple #[.string x, .bool true]) ∧ Below W.heap.size W w'
theorem toldV_is {x : ByteArray} {l : List UInt8} (h : Is x l) (hx : x.size ≤ 60) : toldV l = .tuple #[.string x, .bool true] := by
  rw [toldV_yes (by have := h.size; omega), h.eq]

theorem iTimes_t {a b x : ByteArray} (ha : wordB a.data.toList = true) (hb : wordB b.data.toList = true) (h : Is x (redL [] (a.data.toList ++ b.data.toList))) (h60 : x.size ≤ 60) (W : World) :
    Calls Try.prog 40 #[.string a, .string b] W fun e w' => e = .returned (.tuple #[.string x, .bool true]) ∧ Below W.heap.size W w' := by
  rw [← toldV_is h h60]; exact iTimes_yes a b W ha hb
theorem sTimes_t {a b x : ByteArray} (ha : wordB a.data.toList = true) (hb : wordB b.data.toList = true) (h : Is x (redL [] (a.data.toList ++ b.data.toList))) (h60 : x.size ≤ 60) (W : World) :
    Calls Try.prog 41 #[.string a, .string b] W fun e w' => e = .returned (.tuple #[.string x, .bool true]) ∧ Below W.heap.size W w' := by
  rw [← toldV_is h h60]; exact sTimes_yes a b W ha hb
theorem iComm_t {a b x : ByteArray} (ha : wordB a.data.toList = true) (hb : wordB b.data.toList = true) (h : Is x (redL [] (commL a.data.toList b.data.toList))) (h60 : x.size ≤ 60) (W : World) :
    Calls Try.prog 48 #[.string a, .string b] W fun e w' => e = .returned (.tuple #[.string x, .bool true]) ∧ Below W.heap.size W w' := by
  rw [← toldV_is h h60]; exact iComm_yes a b W ha hb
theorem sComm_t {a b x : ByteArray} (ha : wordB a.data.toList = true) (hb : wordB b.data.toList = true) (h : Is x (redL [] (commL a.data.toList b.data.toList))) (h60 : x.size ≤ 60) (W : World) :
    Calls Try.prog 49 #[.string a, .string b] W fun e w' => e = .returned (.tuple #[.string x, .bool true]) ∧ Below W.heap.size W w' := by
  rw [← toldV_is h h60]; exact sComm_yes a b W ha hb
theorem iTurned_t {s x : ByteArray} (hs : wordB s.data.toList = true) (h : Is x (backL s.data.toList)) (W : World) :
    Calls Try.prog 38 #[.string s] W fun e w' => e = .returned (.tuple #[.string x, .bool true]) ∧ Below W.heap.size W w' := by
  rw [← h.eq]; exact iWordTurned_yes s W hs
theorem sWordIn_t {s : ByteArray} {b : Bool} (hs : s.size ≤ maxLen) (h : wordB s.data.toList = b) (W : World) :
    Calls Try.prog 72 #[.string s] W fun e w' => e = .returned (.bool b) ∧ Below W.heap.size W w' := by
  rw [← h]; exact sWordIn_any s W hs
theorem iTimes_f {a b : ByteArray} (ha : wordB a.data.toList = true) (hb : wordB b.data.toList = true) (h : ¬ (redL [] (a.data.toList ++ b.data.toList)).length ≤ 60) (W : World) :
    Calls Try.prog 40 #[.string a, .string b] W fun e w' => e = .returned (.tuple #[.string ByteArray.empty, .bool false]) ∧ Below W.heap.size W w' := by
  rw [← toldV_no h]; exact iTimes_yes a b W ha hb
/-- Sizes of what words come to. -/
theorem word_of_is {x : ByteArray} {l : List UInt8} (hl : letL l = true) (h : Is x (redL [] l)) (h60 : x.size ≤ 60) : wordB x.data.toList = true := by
  have hsz := h.size
  unfold Is at h
  rw [h]; exact word_of_red hl (by omega)
theorem is_red_size {x : ByteArray} {l : List UInt8} (h : Is x (redL [] l)) : x.size ≤ l.length := by
  have := redL_len l []
  rw [h.size]; simpa using this

end Go.Proofs.Ytebgcebjlbhjjab

/- The contracts of both sides' functions of derivatives, the answer under a name of its own. -/

namespace Go.Proofs.Ytebgcebjlbhjjab
open Go.RowKit Go.Shelf

section
variable {W : World} {a : Option Addr} {n c k : Nat} {x us : List Tm} {s : ByteArray} {g : Int} {b : Bool}
theorem iFoxOf_t (hs : s.size ≤ maxLen) (hb : foxOfB s g = b) (hu : cond b (canonT (foxL g 1 s.data.toList)) [] = us) (hk : us.length = k) :
    Calls Try.prog 22 #[.string s, .int .i64 g] W (TermsT W b k us) :=
  (iFoxOf_any s g b W hs hb).mono fun _ _ hh => hh.terms (told_small (foxOfB_tw hb) hu).1 hu hk
theorem sFoxOf_t (hs : s.size ≤ maxLen) (hb : foxOfB s g = b) (hu : cond b (canonT (foxL g 1 s.data.toList)) [] = us) (hk : us.length = k) :
    Calls Try.prog 82 #[.string s, .int .i64 g] W (TermsT W b k us) :=
  (sFoxOf_any s g b W hs hb).mono fun _ _ hh => hh.terms (told_small (foxOfB_tw hb) hu).1 hu hk
theorem iFoxSum_t (h : TermsIn W a n c x) (hb : foxSumB x g = b) (hu : cond b (canonT (foxI g x)) [] = us) (hk : us.length = k) :
    Calls Try.prog 18 #[.slice a n c, .int .i64 g] W (TermsT W b k us) :=
  (iFoxSum_any a c n x g b W h.is hb).mono fun _ _ hh => hh.terms (told_small (foxSumB_tw hb) hu).1 hu hk
theorem sFoxSum_t (h : TermsIn W a n c x) (hb : foxSumB x g = b) (hu : cond b (canonT (foxI g x)) [] = us) (hk : us.length = k) :
    Calls Try.prog 83 #[.slice a n c, .int .i64 g] W (TermsT W b k us) :=
  (sFoxSum_any a c n x g b W h.is hb).mono fun _ _ hh => hh.terms (told_small (foxSumB_tw hb) hu).1 hu hk
end
theorem foxOfB_iff {s : ByteArray} {g : Int} : foxOfB s g = true ↔ wordB s.data.toList = true ∧ 0 ≤ g ∧ g ≤ 3 := by
  unfold foxOfB inR; simp only [Bool.and_eq_true, decide_eq_true_eq]
theorem foxSumB_iff {x : List Tm} {g : Int} : foxSumB x g = true ↔ sumB x = true ∧ (0 ≤ g ∧ g ≤ 3) ∧ twB (canonT (foxI g x)) = true := by
  unfold foxSumB inR; simp only [Bool.and_eq_true, decide_eq_true_eq]
theorem foxOf_sumB {s : ByteArray} {g : Int} (h : foxOfB s g = true) : sumB (canonT (foxL g 1 s.data.toList)) = true := sum_of_tw (fox_tw (foxOfB_iff.1 h).1)
theorem sgL_sig (i : Nat) : ∀ l : List UInt8, sgL i l = sigL i l
  | [] => rfl
  | c :: r => by rw [sgL, sigL, sgL_sig i r]; rfl
theorem plain_fox (h : Nat) (l : List UInt8) : plainZ (canonT (foxL h 1 l)) = sgL h l := by rw [plain_canon, plain_is, fox_sig, sgL_sig]
/-- A word alone, times a sum. -/
theorem one_pairs (s : ByteArray) (x : List Tm) : Same (pairsT (oneS s) x) (frontL s.data.toList x) := fun f => by
  have := front_pairs s 1 x f
  rw [linT_scl, Int.one_mul] at this
  exact this
/-- The derivative of a small sum is told. -/
theorem foxI_tw {g : Int} {x : List Tm} (hw : WordsT x) (hl : x.length ≤ 10) (hs : ∀ t ∈ x, t.s.size ≤ 10 ∧ -100 ≤ t.c ∧ t.c ≤ 100) : twB (canonT (foxI g x)) = true := by
  have hlen : ∀ y : List Tm, (∀ t ∈ y, t.s.size ≤ 10) → (foxI g y).length ≤ 10 * y.length := fun y => by
    induction y with
    | nil => intro _; simp [foxI]
    | cons t r ih =>
      intro h
      have h1 := ih fun u hu => h u (by simp [hu])
      have h2 := foxN_len g t.c t.s.data.toList t.s.data.toList.length
      have h3 := h t (by simp)
      have h4 := toList_size t.s
      unfold foxI foxL at *
      rw [List.flatMap_cons, List.length_append, List.length_cons]; omega
  have h1 := hlen x fun t ht => (hs t ht).1
  have h2 := fold_len (foxI g x) []
  have hmem : ∀ u ∈ foxI g x, (-100 ≤ u.c ∧ u.c ≤ 100) ∧ wordB u.s.data.toList = true := fun u hu => by
    obtain ⟨t, ht, hu⟩ := List.mem_flatMap.1 hu
    obtain ⟨h3, j, _, e⟩ := foxN_mem (C := 100) (hs t ht).2 (Nat.le_refl _) hu
    refine ⟨h3, ?_⟩
    rw [e, bstr_toList]; exact word_take (hw t ht) j
  have hlc : (canonT (foxI g x)).length ≤ 300 := by unfold canonT; simp only [List.length_nil] at h2; omega
  refine twB_of hlc fun j hj => ?_
  have hm := List.getElem_mem hj
  have hb := fold_bound (C := 100) (by omega) (foxI g x) [] 0 (by omega) (fun t ht => (hmem t ht).1) (fun u hu => by cases hu) _ hm
  obtain ⟨v, hv, e⟩ := canon_words hm
  unfold termB
  rw [← e, (hmem v hv).2, Bool.true_and]
  unfold inR
  simp only [Bool.and_eq_true, decide_eq_true_eq]
  unfold canonT at *
  omega
/-- What is known of the derivative of a short word. -/
theorem fox_few {g : Int} {l : List UInt8} (hl : l.length ≤ 10) : (canonT (foxL g 1 l)).length ≤ 10 ∧ ∀ t ∈ canonT (foxL g 1 l), t.s.size ≤ 10 ∧ -100 ≤ t.c ∧ t.c ≤ 100 := by
  have h1 := foxN_len g 1 l l.length
  have h2 := fold_len (foxL g 1 l) []
  refine ⟨by unfold canonT foxL at *; simp only [List.length_nil] at h2; omega, fun t ht => ?_⟩
  have hb := fold_bound (C := 1) (by omega) (foxL g 1 l) [] 0 (by omega) (fun t ht => (foxN_mem (C := 1) (by omega) (Nat.le_refl _) ht).1) (fun u hu => by cases hu) t ht
  have h3 : (foxL g 1 l).length ≤ 10 := by unfold foxL; omega
  obtain ⟨v, hv, e⟩ := canon_words ht
  obtain ⟨_, j, _, e2⟩ := foxN_mem (C := 1) (by omega) (Nat.le_refl _) hv
  refine ⟨by rw [← e, e2, bstr_size, List.length_take]; omega, by omega, by omega⟩
theorem mul_bnd9 {p q : Int} (hp : -9 ≤ p ∧ p ≤ 9) (hq : -9 ≤ q ∧ q ≤ 9) : -81 ≤ p * q ∧ p * q ≤ 81 := by
  obtain ⟨a, rfl⟩ : ∃ a : Fin 19, p = (a.val : Int) - 9 := ⟨⟨(p + 9).toNat, by omega⟩, by show p = ((p + 9).toNat : Int) - 9; omega⟩
  obtain ⟨b, rfl⟩ : ∃ b : Fin 19, q = (b.val : Int) - 9 := ⟨⟨(q + 9).toNat, by omega⟩, by show q = ((q + 9).toNat : Int) - 9; omega⟩
  have : ∀ a b : Fin 19, -81 ≤ ((a.val : Int) - 9) * ((b.val : Int) - 9) ∧ ((a.val : Int) - 9) * ((b.val : Int) - 9) ≤ 81 := by decide
  exact this a b
def abS : ByteArray := { data := #[97, 98] }
theorem abS_word : wordB abS.data.toList = true := by decide +kernel

end Go.Proofs.Ytebgcebjlbhjjab

/- The contracts of the model's reader of drawn inputs: 'l6Open', 'pick', 'of'. -/

namespace Go.Proofs.Ytebgcebjlbhjjab
open Go.RowKit Go.Shelf

theorem i64_xor (a b : Nat) (ha : a < 2 ^ 63) (hb : b < 2 ^ 63) : bits .xor .i64 (a : Int) (b : Int) = ((a ^^^ b : Nat) : Int) := by
  show IntKind.i64.wrap ((BitVec.ofInt 64 (a : Int) ^^^ BitVec.ofInt 64 (b : Int)).toNat : Int) = _
  rw [BitVec.toNat_xor, ofInt_u64 a (by omega), ofInt_u64 b (by omega)]
  have : a ^^^ b < 2 ^ 63 := Nat.xor_lt_two_pow ha hb
  exact IntWalk.i64_in _ (by omega)

abbrev RdT : TypeId := 121
/-- A slice of bytes, as numbers, in a block below base. -/
structure BsAt (base : Nat) (w : World) (a : Option Addr) (n cap : Nat) (zs : List Int) : Prop where
  len : zs.length = n
  fit : n ≤ cap ∧ cap ≤ maxLen
  at_ : 0 < n → ∃ x, a = some x ∧ x.block < base ∧ ∀ j (h : j < zs.length), w.cell? (x.add j) = some (.int .u8 zs[j])
  byte : ∀ z ∈ zs, 0 ≤ z ∧ z ≤ 255
theorem BsAt.below {base : Nat} {w w' : World} {a : Option Addr} {n cap : Nat} {zs : List Int} (h : BsAt base w a n cap zs) (hb : Below base w w') : BsAt base w' a n cap zs :=
  ⟨h.len, h.fit, fun h0 => by obtain ⟨x, e, hx, hc⟩ := h.at_ h0; exact ⟨x, e, hx, fun j hj => (hb.cell (p := x.add j) (by show (x.add j).block < _; rw [addr_add_block]; exact hx)).trans (hc j hj)⟩, h.byte⟩
theorem bs_of {H : Type} {enc : TypeId × Value → H} {W : World} {base : Nat} {spare : Nat → Bool} {held : Bool} {fuel : Nat} {a : Option Addr} {len cap : Nat} {x : DataW H × List MemPlace}
    (h : DataW.trod enc Try.prog W base spare held fuel 22 [.slice a len cap] = some x) : ∃ zs, BsAt W.heap.size W a len cap zs := by
  rcases Go.ChangeShapes.open_ints Try.underlying22 Try.underlying5 (by kernel_rfl) h with ⟨hcs, _⟩ | ⟨y, l, c, zs, hcs, hb, hl, hm, hz, _, hx, hwf⟩
  · simp at hcs
    obtain ⟨rfl, rfl, rfl⟩ := hcs
    exact ⟨[], rfl, ⟨Nat.le_refl _, Nat.zero_le _⟩, fun h => absurd h (Nat.lt_irrefl _), fun z h => by cases h⟩
  · simp at hcs
    obtain ⟨rfl, rfl, rfl⟩ := hcs
    have hlz : len ≤ zs.length := by rw [hz]; split <;> omega
    refine ⟨zs.take len, by rw [List.length_take]; omega, ⟨hl, hm⟩, fun h0 => ⟨y, rfl, ?_, fun j hj => ?_⟩, fun z hzm => ?_⟩
    · have := World.block_lt_of_cell? _ _ (hx 0 (by omega))
      rwa [addr_add_block] at this
    · rw [List.length_take] at hj
      rw [hx j (by omega), List.getD_eq_getElem?_getD, List.getElem?_eq_getElem (by omega), List.getElem_take]; rfl
    · have h2 := hwf z (List.mem_of_mem_take hzm)
      simp only [Lit.wf, Bool.and_eq_true, decide_eq_true_eq] at h2
      have e1 : IntKind.u8.min = 0 := by decide
      have e2 : IntKind.u8.max = 255 := by decide
      omega
/-- A reader and how far it is. -/
structure Rd (base : Nat) (w : World) (rb : Nat) (a : Option Addr) (n cap : Nat) (zs : List Int) (p : Nat) : Prop where
  lo : base ≤ rb
  box : w.heap[rb]? = some (.cells #[.slice a n cap, .int .i64 p] RdT (0, 0))
  data : BsAt base w a n cap zs
  short : n ≤ 2000
theorem Rd.lt {base : Nat} {w : World} {rb : Nat} {a : Option Addr} {n cap : Nat} {zs : List Int} {p : Nat} (h : Rd base w rb a n cap zs p) : rb < w.heap.size := (Array.getElem?_eq_some_iff.1 h.box).1
theorem Rd.c0 {base : Nat} {w : World} {rb : Nat} {a : Option Addr} {n cap : Nat} {zs : List Int} {p : Nat} (h : Rd base w rb a n cap zs p) : w.cell? ⟨rb, 0, none⟩ = some (.slice a n cap) := by simp [World.cell?, h.box]
theorem Rd.c1 {base : Nat} {w : World} {rb : Nat} {a : Option Addr} {n cap : Nat} {zs : List Int} {p : Nat} (h : Rd base w rb a n cap zs p) : w.cell? ⟨rb, 1, none⟩ = some (.int .i64 p) := by simp [World.cell?, h.box]
theorem Rd.fr {base : Nat} {w : World} {rb : Nat} {a : Option Addr} {n cap : Nat} {zs : List Int} {p : Nat} (h : Rd base w rb a n cap zs p) : w.frozen? ⟨rb, 1, none⟩ = false := by simp [World.frozen?, h.box]
theorem Rd.below {base : Nat} {w w' : World} {rb : Nat} {a : Option Addr} {n cap : Nat} {zs : List Int} {p : Nat} (h : Rd base w rb a n cap zs p) (hb : Below w.heap.size w w') : Rd base w' rb a n cap zs p :=
  ⟨h.lo, (hb.block rb h.lt).trans h.box, h.data.below (hb.mono (Nat.le_of_lt (Nat.lt_of_le_of_lt h.lo h.lt))), h.short⟩
theorem Rd.set {base : Nat} {w : World} {rb : Nat} {a : Option Addr} {n cap : Nat} {zs : List Int} {p : Nat} (h : Rd base w rb a n cap zs p) (q : Nat) : Rd base (w.setCell ⟨rb, 1, none⟩ (.int .i64 q)) rb a n cap zs q := by
  refine ⟨h.lo, ?_, h.data.below ((Below.refl _ w).setCell (p := ⟨rb, 1, none⟩) h.lo _), h.short⟩
  obtain ⟨hlt, hk⟩ := Array.getElem?_eq_some_iff.1 h.box
  show (w.heap.modify rb _)[rb]? = _
  rw [Array.getElem?_eq_getElem (by rw [Array.size_modify]; exact hlt), Array.getElem_modify_self, hk]
  rfl

theorem grown_set (w : World) (a : Addr) (v : Value) : w.grownBy (w.setCell a v) (some a.block) :=
  ⟨rfl, rfl, rfl, by show _ ≤ (w.heap.modify a.block _).size; rw [Array.size_modify]; exact Nat.le_refl _, fun k hk hne => by
    show (w.heap.modify a.block _)[k]? = _
    rw [Array.getElem?_modify, if_neg (fun e => hne (by rw [e]))]⟩

set_option maxRecDepth 100000 in
set_option maxHeartbeats 4000000 in
theorem pick_any (base rb : Nat) (a : Option Addr) (n cap : Nat) (zs : List Int) (p m : Nat) (w : World) (h : Rd base w rb a n cap zs p) (hp : p ≤ 100000) (hm : 1 ≤ m) (hm2 : m ≤ 1000) :
    Calls Try.prog 57 #[.pointer (some ⟨rb, 0, none⟩), .int .i64 m] w fun e w' => (∃ z : Nat, e = .returned (.int .i64 z) ∧ z < m) ∧ Rd base w' rb a n cap zs (p + 1) ∧ Below base w w' ∧ w.grownBy w' (some rb) := by
  have hlt := h.lt
  have hc0 := h.c0
  have hc1 := h.c1
  have hfr := h.fr
  have hsh := h.short
  have hw1 : IntKind.i64.wrap ((p : Int) + 1) = (p : Int) + 1 := IntWalk.i64_in _ (by omega)
  have ep : ((p + 1 : Nat) : Int) = (p : Int) + 1 := by push_cast; rfl
  have hR := h.set (p + 1)
  rw [ep] at hR
  have hB : Below base w (w.setCell ⟨rb, 1, none⟩ (.int .i64 ((p : Int) + 1))) := (Below.refl _ w).setCell (p := ⟨rb, 1, none⟩) h.lo _
  have hG := grown_set w ⟨rb, 1, none⟩ (.int .i64 ((p : Int) + 1))
  obtain ⟨V, hV⟩ : ∃ V, w.setCell ⟨rb, 1, none⟩ (.int .i64 ((p : Int) + 1)) = V := ⟨_, rfl⟩
  have HV := Lib.hid hV
  rw [hV] at hR hB hG
  have HG := Lib.hid hG
  have hd0 := hR.c0
  have hd1 := hR.c1
  rw [ep] at hd1
  have hml : decide ((m : Int) < 1) = false := decide_eq_false (by omega)
  have hml2 : ¬ (m : Int) < 1 := by omega
  have HR := Lib.hid hR
  have HB := Lib.hid hB
  have hmz : ¬ (m : Int) = 0 := by omega
  have HD := Lib.hid hR.data
  have hw2 : IntKind.i64.wrap ((p : Int) + 1 - 1) = (p : Int) := by rw [IntWalk.i64_in _ (by omega)]; omega
  have hrem : ∀ z : Int, 0 ≤ z → ∃ r : Nat, z.tmod (m : Int) = (r : Int) ∧ r < m := fun z hz => ⟨z.toNat % m, by
    rw [Int.tmod_eq_emod_of_nonneg hz, Int.natCast_emod, Int.toNat_of_nonneg hz], Nat.mod_lt _ (by omega)⟩
  have HREM := Lib.hid hrem
  clear h hR hB hV hrem hG
  by_cases hn : n = 0
  · subst hn
    go_enter Try.func57, Try.ntmps57
    go_wp2
    go_ret
    rw [HV.out]
    exact ⟨⟨0, rfl, by omega⟩, HR.out, HB.out, HG.out⟩
  · have hn0 : ¬ (n : Int) = 0 := by omega
    have hne : ((n : Int) == 0) = false := by simpa using hn0
    obtain ⟨x, rfl, hxb, hcx⟩ := HD.out.at_ (by omega)
    have hzl := HD.out.len
    by_cases hpn : p < n
    · have hpz : p < zs.length := by omega
      obtain ⟨z, hz⟩ : ∃ z, zs[p] = z := ⟨_, rfl⟩
      have hcp := hcx p hpz
      rw [hz, ← HV.out] at hcp
      have hzb := HD.out.byte z (by rw [← hz]; exact List.getElem_mem hpz)
      obtain ⟨r, hr, hrm⟩ := HREM.out z hzb.1
      have hwz : IntKind.i64.wrap z = z := IntWalk.i64_in _ (by omega)
      have hwr : IntKind.i64.wrap (r : Int) = (r : Int) := IntWalk.i64_in _ (by omega)
      have hpi : (p : Int) < (n : Int) := by omega
      go_enter Try.func57, Try.ntmps57
      go_wp2_with fail
      go_ret
      rw [HV.out]
      exact ⟨⟨r, rfl, hrm⟩, HR.out, HB.out, HG.out⟩
    · have hpi : ¬ (p : Int) < (n : Int) := by omega
      have hn1 : 0 < n := by omega
      obtain ⟨k1, hk1⟩ : ∃ k, p % n = k := ⟨_, rfl⟩
      obtain ⟨k2, hk2⟩ : ∃ k, (p * 7 + 3) % n = k := ⟨_, rfl⟩
      obtain ⟨d, hd⟩ : ∃ d, p / n = d := ⟨_, rfl⟩
      have hk1n : k1 < n := by rw [← hk1]; exact Nat.mod_lt _ hn1
      have hk2n : k2 < n := by rw [← hk2]; exact Nat.mod_lt _ hn1
      have hdp : d ≤ p := by rw [← hd]; exact Nat.div_le_self _ _
      have ht1 : (p : Int).tmod (n : Int) = (k1 : Int) := by rw [Int.tmod_eq_emod_of_nonneg (by omega), ← hk1]; rfl
      have ht2 : ((p : Int) * 7 + 3).tmod (n : Int) = (k2 : Int) := by rw [Int.tmod_eq_emod_of_nonneg (by omega), ← hk2]; push_cast; rfl
      have ht3 : (p : Int).tdiv (n : Int) = (d : Int) := by rw [Int.tdiv_eq_ediv_of_nonneg (by omega), ← hd]; rfl
      have hz1 : k1 < zs.length := by omega
      have hz2 : k2 < zs.length := by omega
      obtain ⟨q1, hq1⟩ : ∃ z, zs[k1] = z := ⟨_, rfl⟩
      obtain ⟨q2, hq2⟩ : ∃ z, zs[k2] = z := ⟨_, rfl⟩
      have hcp1 := hcx k1 hz1
      have hcp2 := hcx k2 hz2
      rw [hq1, ← HV.out] at hcp1
      rw [hq2, ← HV.out] at hcp2
      have hb1 := HD.out.byte q1 (by rw [← hq1]; exact List.getElem_mem hz1)
      have hb2 := HD.out.byte q2 (by rw [← hq2]; exact List.getElem_mem hz2)
      have hk1i : (k1 : Int) < (n : Int) := by omega
      have hk2i : (k2 : Int) < (n : Int) := by omega
      have a1 : IntKind.i64.wrap (k1 : Int) = (k1 : Int) := IntWalk.i64_in _ (by omega)
      have a2 : IntKind.i64.wrap (k2 : Int) = (k2 : Int) := IntWalk.i64_in _ (by omega)
      have a3 : IntKind.i64.wrap (d : Int) = (d : Int) := IntWalk.i64_in _ (by omega)
      have a4 : IntKind.i64.wrap q1 = q1 := IntWalk.i64_in _ (by omega)
      have a5 : IntKind.i64.wrap q2 = q2 := IntWalk.i64_in _ (by omega)
      have a6 : IntKind.i64.wrap (q1 * 131) = q1 * 131 := IntWalk.i64_in _ (by omega)
      have a7 : IntKind.i64.wrap (q2 * 1117) = q2 * 1117 := IntWalk.i64_in _ (by omega)
      have a8 : IntKind.i64.wrap ((p : Int) * 7) = (p : Int) * 7 := IntWalk.i64_in _ (by omega)
      have a9 : IntKind.i64.wrap ((p : Int) * 7 + 3) = (p : Int) * 7 + 3 := IntWalk.i64_in _ (by omega)
      have b1 : IntKind.i64.wrap (q1 * 131 + q2 * 1117) = q1 * 131 + q2 * 1117 := IntWalk.i64_in _ (by omega)
      have b2 : IntKind.i64.wrap ((p : Int) * 29) = (p : Int) * 29 := IntWalk.i64_in _ (by omega)
      have b3 : IntKind.i64.wrap (q1 * 131 + q2 * 1117 + (p : Int) * 29) = q1 * 131 + q2 * 1117 + (p : Int) * 29 := IntWalk.i64_in _ (by omega)
      have b4 : IntKind.i64.wrap ((d : Int) * 53) = (d : Int) * 53 := IntWalk.i64_in _ (by omega)
      obtain ⟨X, hX⟩ : ∃ X : Nat, q1 * 131 + q2 * 1117 + (p : Int) * 29 + (d : Int) * 53 = (X : Int) := ⟨(q1 * 131 + q2 * 1117 + (p : Int) * 29 + (d : Int) * 53).toNat, by omega⟩
      have hXb : X ≤ 10000000 := by omega
      have b5 : IntKind.i64.wrap (X : Int) = (X : Int) := IntWalk.i64_in _ (by omega)
      have ht4 : (X : Int).tdiv 64 = ((X / 64 : Nat) : Int) := by rw [Int.tdiv_eq_ediv_of_nonneg (by omega)]; rfl
      have hY : X / 64 ≤ X := Nat.div_le_self _ _
      obtain ⟨Y, hYe⟩ : ∃ Y, X / 64 = Y := ⟨_, rfl⟩
      rw [hYe] at ht4 hY
      have b6 : IntKind.i64.wrap (Y : Int) = (Y : Int) := IntWalk.i64_in _ (by omega)
      have hxor := i64_xor X Y (by omega) (by omega)
      obtain ⟨Z, hZ⟩ : ∃ Z, X ^^^ Y = Z := ⟨_, rfl⟩
      rw [hZ] at hxor
      obtain ⟨r, hr, hrm⟩ := HREM.out (Z : Int) (by omega)
      have b7 : IntKind.i64.wrap (r : Int) = (r : Int) := IntWalk.i64_in _ (by omega)
      have HRM := Lib.hid hrm
      clear hk1 hk2 hd hq1 hq2 hb1 hb2 hdp hXb hY hYe hZ hcx hrm hzl hz1 hz2
      go_enter Try.func57, Try.ntmps57
      go_wp2
      go_quiet (fail)
      go_wp2
      go_ret
      rw [HV.out]
      exact ⟨⟨r, rfl, HRM.out⟩, ⟨HR.out.lo, HR.out.box, ⟨HR.out.data.len, HR.out.data.fit, HR.out.data.at_, HR.out.data.byte⟩, HR.out.short⟩, ⟨HB.out.os, HB.out.tape, HB.out.output, HB.out.size, HB.out.block⟩, ⟨HG.out.os, HG.out.tape, HG.out.output, HG.out.size, HG.out.block⟩⟩

set_option maxHeartbeats 1000000 in
theorem open_any (a : Option Addr) (n cap : Nat) (zs : List Int) (w : World) (h : BsAt w.heap.size w a n cap zs) :
    Calls Try.prog 54 #[.slice a n cap] w fun e w' => ∃ n' zs', e = .returned (.pointer (some ⟨w.heap.size, 0, none⟩)) ∧ Rd w.heap.size w' w.heap.size a n' cap zs' 0 ∧ Below w.heap.size w w' := by
  have hf := h.fit
  have hl := h.len
  unfold maxLen at hf
  have hB : ∀ m : Nat, Below w.heap.size w (w.alloc (.cells #[.slice a m cap, .int .i64 0] RdT)) := fun m => (Below.refl _ w).alloc (Nat.le_refl _) _
  have hRd : ∀ (m : Nat) (ys : List Int), m ≤ 2000 → BsAt w.heap.size w a m cap ys → Rd w.heap.size (w.alloc (.cells #[.slice a m cap, .int .i64 0] RdT)) w.heap.size a m cap ys 0 := fun m ys hm hd => ⟨Nat.le_refl _, World.alloc_heap_new w _, hd.below (hB m), hm⟩
  have HRD := Lib.hid hRd
  have HBD := Lib.hid hB
  have H := Lib.hid h
  clear h hRd hB
  by_cases hn : n ≤ 2000
  · have hd : decide ((2000 : Int) < (n : Int)) = false := decide_eq_false (by omega)
    go_enter Try.func54, Try.ntmps54
    go_wp2
    go_ret
    exact ⟨n, zs, rfl, HRD.out n zs hn H.out, HBD.out n⟩
  · have hd : decide ((2000 : Int) < (n : Int)) = true := decide_eq_true (by omega)
    obtain ⟨x, rfl, hxb, hc⟩ := H.out.at_ (by omega)
    have hcap : (2000 : Int) ≤ (cap : Int) := by omega
    have hcap2 : 2000 ≤ cap := by omega
    have H2 : Hid (BsAt w.heap.size w (some x) 2000 cap (zs.take 2000)) := Lib.hid ⟨by rw [List.length_take]; omega, ⟨hcap2, H.out.fit.2⟩, fun _ => ⟨x, rfl, hxb, fun j hj => by rw [List.getElem_take]; exact hc j (by rw [List.length_take] at hj; omega)⟩, fun z hz => H.out.byte z (List.mem_of_mem_take hz)⟩
    clear hc
    go_enter Try.func54, Try.ntmps54
    go_wp2
    go_ret
    exact ⟨2000, zs.take 2000, rfl, HRD.out 2000 _ (Nat.le_refl _) H2.out, HBD.out 2000⟩

end Go.Proofs.Ytebgcebjlbhjjab

/- The contracts of the model's 'of', 'l91Mono' and 'DrawSeriesShuffle'. -/

namespace Go.Proofs.Ytebgcebjlbhjjab
open Go.RowKit Go.Shelf

set_option maxHeartbeats 1000000 in
theorem of_any (base rb : Nat) (a : Option Addr) (n cap : Nat) (zs : List Int) (p g m c2 : Nat) (ss : List ByteArray) (w : World) (h : Rd base w rb a n cap zs p) (hp : p ≤ 100000) (hl : ss.length = m) (hm : 1 ≤ m) (hm2 : m ≤ 1000) (hg : g ≠ rb) (hgl : g < w.heap.size)
    (hc : ∀ i (h : i < ss.length), w.cell? ⟨g, i, none⟩ = some (.string ss[i])) :
    Calls Try.prog 137 #[.pointer (some ⟨rb, 0, none⟩), .slice (some ⟨g, 0, none⟩) m c2] w fun e w' => (∃ s ∈ ss, e = .returned (.string s)) ∧ Rd base w' rb a n cap zs (p + 1) ∧ Below base w w' := by
  have HP := Lib.hid (pick_any base rb a n cap zs p m w h hp hm hm2)
  have HC := Lib.hid hc
  clear h hc
  go_enter Try.func137, Try.ntmps137
  go_wp2_with fail
  refine HP.out.mono ?_
  rintro e w1 ⟨⟨z, rfl, hz⟩, hR, hB, hG⟩
  have hzl : z < ss.length := by omega
  have hzi : (z : Int) < (m : Int) := by omega
  obtain ⟨s, hs⟩ : ∃ s, ss[z] = s := ⟨_, rfl⟩
  have hcz : w1.cell? ⟨g, z, none⟩ = some (.string s) := by
    rw [← hs, ← HC.out z hzl]
    unfold World.cell?
    rw [hG.block g hgl (fun e => hg (by cases e; rfl))]
  have HS : Hid (s ∈ ss) := Lib.hid (by rw [← hs]; exact List.getElem_mem hzl)
  have HR := Lib.hid hR
  have HB := Lib.hid hB
  clear hs hR hB hG
  go_wp2_with fail
  go_ret
  exact ⟨⟨s, HS.out, rfl⟩, HR.out, HB.out⟩

def abL : List ByteArray := [{ data := #[97] }, { data := #[98] }]
theorem abL_size : ∀ s ∈ abL, s.size = 1 := by decide

set_option maxRecDepth 100000 in
set_option maxHeartbeats 4000000 in
theorem l91Mono_any (base rb : Nat) (a : Option Addr) (n cap : Nat) (zs : List Int) (p most : Nat) (w : World) (h : Rd base w rb a n cap zs p) (hp : p ≤ 90000) (hm : most ≤ 10) :
    Calls Try.prog 105 #[.pointer (some ⟨rb, 0, none⟩), .int .i64 most] w fun e w' => (∃ s : ByteArray, e = .returned (.string s) ∧ s.size ≤ most + 1) ∧ (∃ p', p' ≤ p + 20 ∧ Rd base w' rb a n cap zs p') ∧ Below base w w' := by
  have hw1 : IntKind.i64.wrap ((most : Int) + 1) = ((most + 1 : Nat) : Int) := by rw [IntWalk.i64_in _ (by omega)]; push_cast; rfl
  have hlo := h.lo
  have hrl := h.lt
  have HP := Lib.hid (pick_any base rb a n cap zs p (most + 1) w h (by omega) (by omega) (by omega))
  clear h
  go_enter Try.func105, Try.ntmps105
  go_wp2_with fail
  refine HP.out.mono ?_
  rintro e w1 ⟨⟨N, rfl, hN⟩, hR1, hB1, _⟩
  have HR1 := Lib.hid hR1
  have HB1 := Lib.hid hB1
  clear hR1 hB1
  go_wp2_with fail
  go_loopw [5, 7] (fun v i wr => ∃ (k : Nat) (s : ByteArray), k ≤ N ∧ v = .string s ∧ i = .int .i64 k ∧ s.size ≤ k ∧ Rd base wr rb a n cap zs (p + 1 + k) ∧ Below base w wr) (fun _ i _ => N - (intOf i).toNat)
  case atStart => exact ⟨0, _, Nat.zero_le _, rfl, rfl, Nat.le_refl _, HR1.out, HB1.out⟩
  case round =>
    obtain ⟨k, s, hk, rfl, rfl, hsz, hR, hB⟩ := hrel
    have HR := Lib.hid hR
    have HB := Lib.hid hB
    have hbl := hR.lt
    clear hR hB
    by_cases hlt : k < N
    · have hli : (k : Int) < (N : Int) := by omega
      have hb2 : Below wr.heap.size wr (wr.alloc (.cells #[.string { data := #[97] }, .string { data := #[98] }] 9)) := (Below.refl _ wr).alloc (Nat.le_refl _) _
      have HR2 := Lib.hid (HR.out.below hb2)
      have HOF := Lib.hid (of_any base rb a n cap zs (p + 1 + k) wr.heap.size 2 2 abL _ HR2.out (by omega) rfl (by omega) (by omega) (by omega) (by simp) (fun i hi => by
        have h2 : i = 0 ∨ i = 1 := by
          have : i < 2 := hi
          omega
        rcases h2 with rfl | rfl
        · exact (World.cell?_alloc_at _ _ _ _ (by simp)).trans rfl
        · exact (World.cell?_alloc_at _ _ _ _ (by simp)).trans rfl))
      go_wp2_with fail
      refine HOF.out.mono ?_
      rintro e w5 ⟨⟨t, ht, rfl⟩, hR5, hB5⟩
      have ht1 := abL_size t ht
      have hnot : ¬ 9223372036854775807 < s.size + t.size := by omega
      have HR5 := Lib.hid hR5
      have HB5 := Lib.hid (HB.out.trans ((hb2.mono (by omega)).trans hB5))
      clear ht hR5 hB5
      go_wp2
      go_roundw
      case rel => exact ⟨k + 1, _, by omega, rfl, by go_num, by rw [ByteArray.size_append]; omega, HR5.out, HB5.out⟩
      case measure => simp [intOf]; omega
    · obtain rfl : k = N := by omega
      have HP2 := Lib.hid (pick_any base rb a n cap zs (p + 1 + k) 24 wr HR.out (by omega) (by omega) (by omega))
      go_wp2_with fail
      refine HP2.out.mono ?_
      rintro e w6 ⟨⟨z, rfl, hz⟩, hR6, hB6, _⟩
      have HR6 := Lib.hid hR6
      have HB6 := Lib.hid (HB.out.trans hB6)
      have hnot : ¬ 9223372036854775807 < s.size + 1 := by omega
      clear hR6 hB6
      by_cases hz0 : z = 0
      · subst hz0
        go_wp2
        go_ret
        exact ⟨⟨_, rfl, by rw [ByteArray.size_append]; show s.size + 1 ≤ _; omega⟩, ⟨_, by omega, HR6.out⟩, HB6.out⟩
      · have hzi : ((z : Int) == 0) = false := by simpa using hz0
        have hzn : ¬ (z : Int) = 0 := by omega
        go_wp2
        go_ret
        exact ⟨⟨_, rfl, by omega⟩, ⟨_, by omega, HR6.out⟩, HB6.out⟩

end Go.Proofs.Ytebgcebjlbhjjab

/- The contracts of the model's 'l91Word', 'l91Two' and 'DrawWordComm'. -/

namespace Go.Proofs.Ytebgcebjlbhjjab
open Go.RowKit Go.Shelf

theorem conv_byte (c : UInt8) (v : Int) (hv : (c.toNat : Int) = v) (V : World) : (convert 22 9 (.slice (some ⟨V.heap.size, 0, none⟩) 1 1)).run Try.prog (V.alloc (.cells #[.int .u8 v] 5)) = .ok (.string (bstr [c])) (V.alloc (.cells #[.int .u8 v] 5)) := by
  have := run_convert_bytes_back (P := Try.prog) (V.alloc (.cells #[.int .u8 v] 5)) 22 9 5 ⟨V.heap.size, 0, none⟩ 1 [c] Try.underlying22 Try.underlying5 Try.underlying9 (fun j hj => by
    have hj0 : j = 0 := by simp at hj; exact hj
    subst hj0
    show (V.alloc _).cell? ((⟨V.heap.size, 0, none⟩ : Addr).add 0) = some (.int .u8 (c.toNat : Int))
    rw [hv]
    exact cell_one_new _ _ _ 0 _ rfl)
  exact this

theorem grownAny_of_below {w w' : World} (hb : Below w.heap.size w w') (row : Option Nat) : w.grownBy w' row := ⟨hb.os, hb.tape, hb.output, hb.size, fun j hj _ => hb.block j hj⟩

set_option maxRecDepth 100000 in
set_option maxHeartbeats 2000000 in
theorem l91Word_grown (base rb : Nat) (a : Option Addr) (n cap : Nat) (zs : List Int) (p most gens : Nat) (w : World) (h : Rd base w rb a n cap zs p) (hp : p ≤ 90000) (hm : most ≤ 20) (hg1 : 1 ≤ gens) (hg2 : gens ≤ 4) :
    Calls Try.prog 56 #[.pointer (some ⟨rb, 0, none⟩), .int .i64 most, .int .i64 gens] w fun e w' => (∃ s : ByteArray, e = .returned (.string s) ∧ s.size ≤ most + 1) ∧ (∃ p', p' ≤ p + 60 ∧ Rd base w' rb a n cap zs p') ∧ Below base w w' ∧ w.grownBy w' (some rb) := by
  have hw1 : IntKind.i64.wrap ((most : Int) + 1) = ((most + 1 : Nat) : Int) := by rw [IntWalk.i64_in _ (by omega)]; push_cast; rfl
  have hlo := h.lo
  have hrl := h.lt
  have HP := Lib.hid (pick_any base rb a n cap zs p (most + 1) w h (by omega) (by omega) (by omega))
  clear h
  go_enter Try.func56, Try.ntmps56
  go_wp2_with fail
  refine HP.out.mono ?_
  rintro e w1 ⟨⟨N, rfl, hN⟩, hR1, hB1, hG1⟩
  have HR1 := Lib.hid hR1
  have HB1 := Lib.hid hB1
  have HG1 := Lib.hid hG1
  clear hR1 hB1 hG1
  go_wp2_with fail
  go_loopw [7, 9] (fun v i wr => ∃ (k : Nat) (s : ByteArray), k ≤ N ∧ v = .string s ∧ i = .int .i64 k ∧ s.size ≤ k ∧ Rd base wr rb a n cap zs (p + 1 + 2 * k) ∧ Below base w wr ∧ w.grownBy wr (some rb)) (fun _ i _ => N - (intOf i).toNat)
  case atStart => exact ⟨0, _, Nat.zero_le _, rfl, rfl, Nat.le_refl _, HR1.out, HB1.out, HG1.out⟩
  case round =>
    obtain ⟨k, s, hk, rfl, rfl, hsz, hR, hB, hG⟩ := hrel
    have HR := Lib.hid hR
    have HB := Lib.hid hB
    have HG := Lib.hid hG
    have hbl := hR.lt
    clear hR hB hG
    by_cases hlt : k < N
    · have hli : (k : Int) < (N : Int) := by omega
      have HP2 := Lib.hid (pick_any base rb a n cap zs (p + 1 + 2 * k) gens wr HR.out (by omega) hg1 (by omega))
      go_wp2_with fail
      refine HP2.out.mono ?_
      rintro e w5 ⟨⟨z, rfl, hz⟩, hR5, hB5, hG5⟩
      have HP3 := Lib.hid (pick_any base rb a n cap zs (p + 1 + 2 * k + 1) 2 w5 hR5 (by omega) (by omega) (by omega))
      have HB5 := Lib.hid (HB.out.trans hB5)
      have HG5 := Lib.hid (HG.out.trans hG5)
      have hwz : IntKind.i64.wrap (97 + (z : Int)) = 97 + (z : Int) := IntWalk.i64_in _ (by omega)
      have hwu : IntKind.u8.wrap (97 + (z : Int)) = 97 + (z : Int) := IntWalk.u8_in _ (by omega)
      clear hR5 hB5 hG5
      go_wp2_with fail
      refine HP3.out.mono ?_
      rintro e w6 ⟨⟨y, rfl, hy⟩, hR6, hB6, hG6⟩
      have HB6 := Lib.hid (HB5.out.trans hB6)
      have HG6 := Lib.hid (HG5.out.trans hG6)
      have hb6l := hR6.lt
      have hnot : ¬ 9223372036854775807 < s.size + 1 := by omega
      have HR6 := Lib.hid hR6
      clear hR6 hB6 hG6
      by_cases hy0 : y = 0
      · subst hy0
        have hws : IntKind.u8.wrap (97 + (z : Int) - 32) = 65 + (z : Int) := by rw [show (97 : Int) + (z : Int) - 32 = 65 + (z : Int) by omega]; exact IntWalk.u8_in _ (by omega)
        obtain ⟨t, ht⟩ : ∃ t, bstr [UInt8.ofNat (65 + z)] = t := ⟨_, rfl⟩
        have hts : t.size = 1 := by rw [← ht]; rfl
        have hcv := conv_byte (UInt8.ofNat (65 + z)) (65 + (z : Int)) (by rw [UInt8.toNat_ofNat', Nat.mod_eq_of_lt (by omega)]; push_cast; rfl) w6
        rw [ht] at hcv
        have hnot2 : ¬ 9223372036854775807 < s.size + t.size := by omega
        have HR7 := Lib.hid (HR6.out.below ((Below.refl _ w6).alloc (Nat.le_refl _) (.cells #[.int .u8 (65 + (z : Int))] 5)))
        have HB7 := Lib.hid (HB6.out.alloc (by omega) (.cells #[.int .u8 (65 + (z : Int))] 5))
        have HG7 := Lib.hid (HG6.out.trans (World.grownBy_alloc w6 (.cells #[.int .u8 (65 + (z : Int))] 5) _))
        clear ht
        go_wp2
        go_roundw
        case rel => exact ⟨k + 1, _, by omega, rfl, by go_num, by rw [ByteArray.size_append]; omega, (show p + 1 + 2 * (k + 1) = p + 1 + 2 * k + 1 + 1 by omega) ▸ HR7.out, HB7.out, HG7.out⟩
        case measure => simp [intOf]; omega
      · have hyi : ((y : Int) == 0) = false := by simpa using hy0
        have hyn : ¬ (y : Int) = 0 := by omega
        obtain ⟨t, ht⟩ : ∃ t, bstr [UInt8.ofNat (97 + z)] = t := ⟨_, rfl⟩
        have hts : t.size = 1 := by rw [← ht]; rfl
        have hcv := conv_byte (UInt8.ofNat (97 + z)) (97 + (z : Int)) (by rw [UInt8.toNat_ofNat', Nat.mod_eq_of_lt (by omega)]; push_cast; rfl) w6
        rw [ht] at hcv
        have hnot2 : ¬ 9223372036854775807 < s.size + t.size := by omega
        have HR7 := Lib.hid (HR6.out.below ((Below.refl _ w6).alloc (Nat.le_refl _) (.cells #[.int .u8 (97 + (z : Int))] 5)))
        have HB7 := Lib.hid (HB6.out.alloc (by omega) (.cells #[.int .u8 (97 + (z : Int))] 5))
        have HG7 := Lib.hid (HG6.out.trans (World.grownBy_alloc w6 (.cells #[.int .u8 (97 + (z : Int))] 5) _))
        clear ht
        go_wp2
        go_roundw
        case rel => exact ⟨k + 1, _, by omega, rfl, by go_num, by rw [ByteArray.size_append]; omega, (show p + 1 + 2 * (k + 1) = p + 1 + 2 * k + 1 + 1 by omega) ▸ HR7.out, HB7.out, HG7.out⟩
        case measure => simp [intOf]; omega
    · obtain rfl : N = k := by omega
      have HP2 := Lib.hid (pick_any base rb a n cap zs (p + 1 + 2 * N) 30 wr HR.out (by omega) (by omega) (by omega))
      go_wp2_with fail
      refine HP2.out.mono ?_
      rintro e w6 ⟨⟨z, rfl, hz⟩, hR6, hB6, hG6⟩
      have hb6l := hR6.lt
      have HR6 := Lib.hid hR6
      have HB6 := Lib.hid (HB.out.trans hB6)
      have HG6 := Lib.hid (HG.out.trans hG6)
      have hnot : ¬ 9223372036854775807 < s.size + 1 := by omega
      clear hR6 hB6 hG6
      by_cases hz0 : z = 0
      · subst hz0
        go_wp2
        go_ret
        exact ⟨⟨_, rfl, by rw [ByteArray.size_append]; show s.size + 1 ≤ _; omega⟩, ⟨_, by omega, HR6.out⟩, HB6.out, HG6.out⟩
      · have hzi : ((z : Int) == 0) = false := by simpa using hz0
        have hzn : ¬ (z : Int) = 0 := by omega
        have hrl2 := redL_len s.data.toList []
        obtain ⟨q, hq⟩ : ∃ q, bstr (redL [] s.data.toList) = q := ⟨_, rfl⟩
        have hqs : q.size ≤ s.size := by
          have e1 : q.size = (redL [] s.data.toList).length := by rw [← hq]; have : (bstr (redL [] s.data.toList)).size = (bstr (redL [] s.data.toList)).data.toList.length := by simp
                                                                  rw [this, bstr_toList]
          have e2 : s.data.toList.length = s.size := by simp
          simp only [List.length_nil] at hrl2
          omega
        have HRe := Lib.hid (reduce_is s q w6 (by omega) hq)
        clear hq hrl2
        go_wp2_with fail
        refine HRe.out.mono ?_
        rintro e w7 ⟨rfl, hb7⟩
        have HR7 := Lib.hid (HR6.out.below hb7)
        have HB7 := Lib.hid (HB6.out.trans (hb7.mono (by omega)))
        have HG7 := Lib.hid (HG6.out.trans (grownAny_of_below hb7 _))
        clear hb7
        go_wp2
        go_ret
        exact ⟨⟨_, rfl, by omega⟩, ⟨_, by omega, HR7.out⟩, HB7.out, HG7.out⟩

theorem l91Word_any (base rb : Nat) (a : Option Addr) (n cap : Nat) (zs : List Int) (p most gens : Nat) (w : World) (h : Rd base w rb a n cap zs p) (hp : p ≤ 90000) (hm : most ≤ 20) (hg1 : 1 ≤ gens) (hg2 : gens ≤ 4) :
    Calls Try.prog 56 #[.pointer (some ⟨rb, 0, none⟩), .int .i64 most, .int .i64 gens] w fun e w' => (∃ s : ByteArray, e = .returned (.string s) ∧ s.size ≤ most + 1) ∧ (∃ p', p' ≤ p + 60 ∧ Rd base w' rb a n cap zs p') ∧ Below base w w' := 
  (l91Word_grown base rb a n cap zs p most gens w h hp hm hg1 hg2).mono fun _ _ ⟨h1, h2, h3, _⟩ => ⟨h1, h2, h3⟩

set_option maxHeartbeats 1000000 in
theorem l91Two_any (a : Option Addr) (n cap : Nat) (zs : List Int) (w : World) (h : BsAt w.heap.size w a n cap zs) :
    Calls Try.prog 102 #[.slice a n cap] w fun e w' => (∃ s t : ByteArray, e = .returned (.tuple #[.string s, .string t]) ∧ s.size ≤ 8 ∧ t.size ≤ 8) ∧ Below w.heap.size w w' := by
  have HO := Lib.hid (open_any a n cap zs w h)
  clear h
  go_enter Try.func102, Try.ntmps102
  go_wp2_with fail
  refine HO.out.mono ?_
  rintro e w1 ⟨n', zs', rfl, hR1, hB1⟩
  have HR1 := Lib.hid hR1
  have HB1 := Lib.hid hB1
  clear hR1 hB1
  go_wp2_with fail
  refine (l91Word_any w.heap.size w.heap.size a n' cap zs' 0 7 3 w1 HR1.out (by omega) (by omega) (by omega) (by omega)).mono ?_
  rintro e w2 ⟨⟨s, rfl, hs⟩, ⟨p2, hp2, hR2⟩, hB2⟩
  have HR2 := Lib.hid hR2
  have HB2 := Lib.hid (HB1.out.trans hB2)
  clear hR2 hB2
  go_wp2_with fail
  refine (l91Word_any w.heap.size w.heap.size a n' cap zs' p2 7 3 w2 HR2.out (by omega) (by omega) (by omega) (by omega)).mono ?_
  rintro e w3 ⟨⟨t, rfl, ht⟩, _, hB3⟩
  have HB3 := Lib.hid (HB2.out.trans hB3)
  clear hB3
  go_wp2
  go_ret2
  exact ⟨⟨s, t, rfl, by omega, by omega⟩, HB3.out⟩

theorem drawComm_any (a : Option Addr) (n cap : Nat) (zs : List Int) (w : World) (h : BsAt w.heap.size w a n cap zs) :
    Calls Try.prog 47 #[.slice a n cap] w fun e w' => (∃ s t : ByteArray, e = .returned (.tuple #[.string s, .string t]) ∧ s.size ≤ 8 ∧ t.size ≤ 8) ∧ Below w.heap.size w w' := by
  have HO := Lib.hid (l91Two_any a n cap zs w h)
  clear h
  go_enter Try.func47, Try.ntmps47
  go_wp2_with fail
  refine HO.out.mono ?_
  rintro e w1 ⟨⟨s, t, rfl, hs, ht⟩, hB1⟩
  go_wp2
  go_ret2
  exact ⟨⟨s, t, rfl, hs, ht⟩, hB1⟩

end Go.Proofs.Ytebgcebjlbhjjab

/- The contracts of the program's 'SumAdd'; both SumAdds as a law wants them. -/
import Derived.Test.YtidmlppbmcphbaaUa
import Derived.Test.YtidmlppbmcphbaaUb
import Derived.Test.YtidmlppbmcphbaaTx
namespace Go.Proofs.Ytidmlppbmcphbaa
open Go.RowKit Go.Shelf

theorem sumB_small {x : List Tm} (h : sumB x = true) : x.length ≤ 300 ∧ (∀ t ∈ x, t.s.size ≤ 60 ∧ -1000000 ≤ t.c ∧ t.c ≤ 1000000) ∧ SmallT x := by
  obtain ⟨h1, h2⟩ := canon_len_words (sumB_parts h).1
  have h3 : ∀ t ∈ x, t.s.size ≤ 60 ∧ -1000000 ≤ t.c ∧ t.c ≤ 1000000 := fun t ht => termB_iff (h2 t ht)
  exact ⟨h1, h3, by unfold maxLen; omega, fun t ht => by have := h3 t ht; unfold maxLen; omega⟩
theorem told_small {b : Bool} {L us : List Tm} (h : b = true → twB L = true) (hus : cond b L [] = us) : SmallT us ∧ us.length ≤ 300 := by
  cases b with
  | false => subst hus; exact ⟨⟨Nat.zero_le _, fun t h => by cases h⟩, Nat.zero_le _⟩
  | true =>
    have hus : L = us := hus
    subst hus
    obtain ⟨h1, h2⟩ := canon_len_words (h rfl)
    exact ⟨⟨by unfold maxLen; omega, fun t ht => by have := termB_iff (h2 t ht); unfold maxLen; omega⟩, h1⟩

set_option maxRecDepth 100000 in
set_option maxHeartbeats 4000000 in
theorem iSumAdd_no (a1 a2 : Option Addr) (c1 c2 n m : Nat) (x y : List Tm) (w : World) (hx : IsTerms w a1 n x) (hy : IsTerms w a2 m y) (hb : sumB x = false ∨ sumB y = false) :
    Calls Try.prog 25 #[.slice a1 n c1, .slice a2 m c2] w (ITold w false []) := by
  have HX := Lib.hid hx
  have HY := Lib.hid hy
  clear hx hy
  cases hbx : sumB x with
  | false =>
    have HBX := Lib.hid hbx
    clear hbx hb
    go_enter Try.func25, Try.ntmps25
    go_wp2_with fail
    refine (iSumIn_is a1 c1 n x false _ HX.out HBX.out).mono ?_
    rintro e w1 ⟨rfl, hb1⟩
    have HB1 := Lib.hid hb1
    clear hb1
    go_wp2
    go_ret2
    exact ⟨⟨_, rfl, ownNil _ _⟩, HB1.out⟩
  | true =>
    have hby : sumB y = false := by rcases hb with h | h; · rw [h] at hbx; cases hbx
                                    · exact h
    have HBX := Lib.hid hbx
    have HBY := Lib.hid hby
    clear hbx hby hb
    go_enter Try.func25, Try.ntmps25
    go_wp2_with fail
    refine (iSumIn_is a1 c1 n x true _ HX.out HBX.out).mono ?_
    rintro e w1 ⟨rfl, hb1⟩
    have HB1 := Lib.hid hb1
    clear hb1
    go_wp2_with fail
    refine (iSumIn_is a2 c2 m y false _ (HY.out.below HB1.out) HBY.out).mono ?_
    rintro e w2 ⟨rfl, hb2⟩
    have HB2 := Lib.hid (HB1.out.trans (hb2.mono HB1.out.size))
    clear hb2
    go_wp2
    go_ret2
    exact ⟨⟨_, rfl, ownNil _ _⟩, HB2.out⟩

theorem two_cells (w : World) (u v : Value) (x y : List Tm) (t : TypeId) : ∀ i (h : i < [(u, x), (v, y)].length), (w.alloc (.cells #[u, v] t)).cell? ⟨w.heap.size, i, none⟩ = some [(u, x), (v, y)][i].1 := fun i h => by
  rw [World.cell?_alloc_at _ _ _ _ rfl]
  match i, h with
  | 0, _ => rfl
  | 1, _ => rfl
theorem concat_two (u v : Value) (x y : List Tm) (w : World) (hx : PartT w u x) (hy : PartT w v y) (hs : x.length + y.length ≤ 200000) :
    Calls Try.prog 65 #[.slice (some ⟨w.heap.size, 0, none⟩) 2 2] (w.alloc (.cells #[u, v] 25)) fun e w' => (∃ r, e = .returned r ∧ OwnT w.heap.size w' r (x ++ y)) ∧ Below w.heap.size w w' := by
  have hba : Below w.heap.size w (w.alloc (.cells #[u, v] 25)) := (Below.refl _ _).alloc (Nat.le_refl _) _
  refine (concat_any w.heap.size 2 2 [(u, x), (v, y)] _ rfl (by omega) (by simp) (two_cells w u v x y _) (fun p hp => by
    simp only [List.mem_cons, List.not_mem_nil, or_false] at hp
    rcases hp with rfl | rfl
    · exact hx.below hba
    · exact hy.below hba) (by unfold lens; simp; omega)).mono ?_
  rintro e w4 ⟨⟨r, rfl, ho⟩, hb4⟩
  have hfl : flatT [(u, x), (v, y)] = x ++ y := by unfold flatT; simp
  rw [hfl] at ho
  exact ⟨⟨_, rfl, ho.mono (by simp)⟩, hba.trans (hb4.mono (by simp))⟩

set_option maxRecDepth 100000 in
set_option maxHeartbeats 4000000 in
theorem iSumAdd_yes (a1 a2 : Option Addr) (c1 c2 n m : Nat) (x y : List Tm) (b : Bool) (w : World) (hx : IsTerms w a1 n x) (hy : IsTerms w a2 m y) (px : PartT w (.slice a1 n c1) x) (py : PartT w (.slice a2 m c2) y)
    (hbx : sumB x = true) (hby : sumB y = true) (hb : twB (canonT (x ++ y)) = b) :
    Calls Try.prog 25 #[.slice a1 n c1, .slice a2 m c2] w (ITold w b (canonT (x ++ y))) := by
  obtain ⟨hlx, hwx, hsx⟩ := sumB_small hbx
  obtain ⟨hly, hwy, hsy⟩ := sumB_small hby
  have hsm : SmallT (x ++ y) := ⟨by rw [List.length_append]; unfold maxLen; omega, fun t ht => by
    rcases List.mem_append.1 ht with h | h
    · exact hsx.2 t h
    · exact hsy.2 t h⟩
  have hcf : ∀ t ∈ x ++ y, -1000000000000 ≤ t.c ∧ t.c ≤ 1000000000000 := fun t ht => by
    rcases List.mem_append.1 ht with h | h
    · have := hwx t h; omega
    · have := hwy t h; omega
  have hln : (x ++ y).length ≤ 100000 := by rw [List.length_append]; omega
  have HX := Lib.hid hx
  have HY := Lib.hid hy
  have HPX := Lib.hid px
  have HPY := Lib.hid py
  have HBX := Lib.hid hbx
  have HBY := Lib.hid hby
  have HBB := Lib.hid hb
  have HSM := Lib.hid hsm
  have HCF := Lib.hid hcf
  have HLN := Lib.hid hln
  have HLS : Hid (x.length + y.length ≤ 200000) := Lib.hid (by omega)
  clear hx hy px py hbx hby hb hlx hwx hsx hly hwy hsy hsm hcf hln
  go_enter Try.func25, Try.ntmps25
  go_wp2_with fail
  refine (iSumIn_is a1 c1 n x true _ HX.out HBX.out).mono ?_
  rintro e w1 ⟨rfl, hb1⟩
  have HB1 := Lib.hid hb1
  clear hb1
  go_wp2_with fail
  refine (iSumIn_is a2 c2 m y true _ (HY.out.below HB1.out) HBY.out).mono ?_
  rintro e w2 ⟨rfl, hb2⟩
  have HB2 := Lib.hid (HB1.out.trans (hb2.mono HB1.out.size))
  clear hb2
  go_wp2_with fail
  with_reducible refine (concat_two (.slice a1 n c1) (.slice a2 m c2) x y w2 (HPX.out.below HB2.out) (HPY.out.below HB2.out) HLS.out).mono ?_
  rintro e w4 ⟨⟨v, rfl, ho⟩, hb4⟩
  obtain ⟨av, cv, rfl, hI⟩ := ho.isTerms HSM.out
  obtain ⟨N, hN⟩ : ∃ N, (x ++ y).length = N := ⟨_, rfl⟩
  have hln := HLN.out
  rw [hN] at hI hln ⊢
  have HB4 := Lib.hid (HB2.out.trans (hb4.mono HB2.out.size))
  have htold := toldSum_any av cv N (x ++ y) b w4 hI hln HCF.out HBB.out
  have HT := Lib.hid htold
  clear ho hI hb4 htold hN
  go_wp2_with fail
  with_reducible refine HT.out.mono ?_
  rintro e w5 ⟨⟨v', rfl, ho⟩, hb5⟩
  have HO := Lib.hid ho
  have HB5 := Lib.hid hb5
  clear ho hb5
  go_wp2
  go_ret2
  exact ⟨⟨_, rfl, HO.out.mono HB4.out.size⟩, HB4.out.trans (HB5.out.mono HB4.out.size)⟩

/-! ### As a law wants them -/
theorem addB_tw {x y : List Tm} {b : Bool} (h : addB x y = b) : b = true → twB (canonT (x ++ y)) = true := by
  intro hb
  subst hb
  unfold addB at h
  simp only [Bool.and_eq_true] at h
  exact h.2.2
theorem sSumAdd_law {g1 g2 c1 c2 n m : Nat} {x y : List Tm} {b : Bool} {w : World} (hx : IsTerms w (some ⟨g1, 0, none⟩) n x) (hy : IsTerms w (some ⟨g2, 0, none⟩) m y) (hb : addB x y = b) :
    Calls Try.prog 24 #[.slice (some ⟨g1, 0, none⟩) n c1, .slice (some ⟨g2, 0, none⟩) m c2] w (STold w b (canonT (x ++ y))) := by
  unfold addB at hb
  cases hbx : sumB x with
  | false => rw [hbx] at hb; subst hb; exact sSumAdd_no _ _ _ _ _ _ x y w hx hy (.inl hbx)
  | true =>
    cases hby : sumB y with
    | false => rw [hbx, hby] at hb; subst hb; exact sSumAdd_no _ _ _ _ _ _ x y w hx hy (.inr hby)
    | true => rw [hbx, hby] at hb; exact sSumAdd_yes _ _ _ _ _ _ x y b w hx hy hbx hby hb
theorem iSumAdd_law {g1 g2 c1 c2 n m : Nat} {x y : List Tm} {b : Bool} {w : World} (hx : IsTerms w (some ⟨g1, 0, none⟩) n x) (hy : IsTerms w (some ⟨g2, 0, none⟩) m y) (hb : addB x y = b) :
    Calls Try.prog 25 #[.slice (some ⟨g1, 0, none⟩) n c1, .slice (some ⟨g2, 0, none⟩) m c2] w (ITold w b (canonT (x ++ y))) := by
  unfold addB at hb
  cases hbx : sumB x with
  | false => rw [hbx] at hb; subst hb; exact iSumAdd_no _ _ _ _ _ _ x y w hx hy (.inl hbx)
  | true =>
    cases hby : sumB y with
    | false => rw [hbx, hby] at hb; subst hb; exact iSumAdd_no _ _ _ _ _ _ x y w hx hy (.inr hby)
    | true => rw [hbx, hby] at hb; exact iSumAdd_yes _ _ _ _ _ _ x y b w hx hy (partT_of hx) (partT_of hy) hbx hby hb

end Go.Proofs.Ytidmlppbmcphbaa

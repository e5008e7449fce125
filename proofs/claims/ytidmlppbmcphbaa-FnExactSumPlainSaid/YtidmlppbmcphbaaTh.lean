/- The contracts of the program's 'sumWords' and 'SumIn'. -/
import Derived.Test.YtidmlppbmcphbaaTg
import Derived.Laws.EntriesVeiled
namespace Go.Proofs.Ytidmlppbmcphbaa
open Go.RowKit Go.Shelf

theorem sumB_eq (ts : List Tm) : sumB ts = (twB ts && !hasZero ts && ascB ts) := by
  have hg : ∀ j (h : j < ts.length), ts.getD j default = ts[j] := fun j h => by rw [List.getD_eq_getElem?_getD, List.getElem?_eq_getElem h]; rfl
  rw [Bool.eq_iff_iff]
  unfold sumB twB hasZero ascB allGood
  simp only [Bool.and_eq_true, List.all_eq_true, List.mem_range, decide_eq_true_eq, Bool.not_eq_true', List.any_eq_false]
  constructor
  · rintro ⟨h1, h2⟩
    refine ⟨⟨⟨h2, fun t ht => ?_⟩, fun t ht => ?_⟩, fun j hj => ?_⟩
    · obtain ⟨j, hj, rfl⟩ := List.getElem_of_mem ht
      have := h1 j hj
      unfold goodAt at this
      simp only [hg j hj, Bool.and_eq_true] at this
      unfold termB
      rw [this.1.2, this.1.1.2]; rfl
    · obtain ⟨j, hj, rfl⟩ := List.getElem_of_mem ht
      have := h1 j hj
      unfold goodAt at this
      simp only [hg j hj, Bool.and_eq_true] at this
      simpa using this.1.1.1
    · have := h1 j hj
      unfold goodAt at this
      simp only [Bool.and_eq_true] at this
      exact this.2
  · rintro ⟨⟨⟨h1, h2⟩, h3⟩, h4⟩
    refine ⟨fun j hj => ?_, h1⟩
    have a2 := h2 _ (List.getElem_mem hj)
    have a3 := h3 _ (List.getElem_mem hj)
    unfold termB at a2
    simp only [Bool.and_eq_true] at a2
    unfold goodAt
    simp only [hg j hj, Bool.and_eq_true]
    exact ⟨⟨⟨by simpa using a3, a2.2⟩, a2.1⟩, by have := h4 j hj; rw [hg j hj] at this; exact this⟩

set_option maxRecDepth 100000 in
set_option maxHeartbeats 2000000 in
theorem sumWords_any (a : Option Addr) (cap n : Nat) (ts : List Tm) (w : World) (hs : IsTerms w a n ts) :
    Calls Try.prog 58 #[.slice a n cap] w fun e w' =>
      ((e = .returned (.tuple #[.slice none 0 0, .bool false]) ∧ sumB ts = false) ∨
       (∃ g vals, e = .returned (.tuple #[.slice (some ⟨g, 0, none⟩) n n, .bool true]) ∧ sumB ts = true ∧ w'.ownsRow w.heap.size WT 1 (.slice (some ⟨g, 0, none⟩) n n) n vals ∧
        ∀ j (h : j < ts.length) v, vals[j]? = some v → WordAt w.heap.size w' v ts[j].s.data.toList)) ∧ Below w.heap.size w w' := by
  have HS := Lib.hid hs
  have HE := Lib.hid (sumB_eq ts)
  clear hs
  cases h1 : twB ts with
  | false =>
    have H1 := Lib.hid h1
    clear h1
    go_enter Try.func58, Try.ntmps58
    go_wp2_with fail
    refine (termWords_any a cap n ts _ HS.out).mono ?_
    rintro e w1 ⟨⟨rfl, _⟩ | ⟨_, _, _, h, _⟩, hb1⟩
    · go_wp2
      go_ret2
      exact ⟨.inl ⟨rfl, by rw [HE.out, H1.out]; rfl⟩, hb1.trans (((Below.refl _ _).alloc (Nat.le_refl _) _).mono hb1.size)⟩
    · rw [H1.out] at h; cases h
  | true =>
    have H1 := Lib.hid h1
    clear h1
    cases h2 : hasZero ts with
    | true =>
      have H2 := Lib.hid h2
      clear h2
      go_enter Try.func58, Try.ntmps58
      go_wp2_with fail
      refine (termWords_any a cap n ts _ HS.out).mono ?_
      rintro e w1 ⟨⟨rfl, h⟩ | ⟨g, vals, rfl, _, hrow, hv⟩, hb1⟩
      · rw [H1.out] at h; cases h
      · have HR := Lib.hid hrow
        have HV := Lib.hid hv
        clear hrow hv
        go_wp2_with fail
        have hb2 : Below w.heap.size w (w1.alloc (.cells #[.slice a n cap, .func (.func 83) #[] #[]] 95)) := hb1.alloc hb1.size _
        have HS2 := Lib.hid (HS.out.below hb2)
        refine (containsZero_is a cap n ts true _ HS2.out H2.out).mono ?_
        rintro e w3 ⟨rfl, hb3⟩
        go_wp2
        go_ret2
        exact ⟨.inl ⟨rfl, by rw [HE.out, H2.out, Bool.not_true, Bool.and_false]; rfl⟩, hb2.trans (hb3.mono hb2.size)⟩
    | false =>
      have H2 := Lib.hid h2
      clear h2
      cases h3 : ascB ts with
      | false =>
        have H3 := Lib.hid h3
        clear h3
        go_enter Try.func58, Try.ntmps58
        go_wp2_with fail
        refine (termWords_any a cap n ts _ HS.out).mono ?_
        rintro e w1 ⟨⟨rfl, h⟩ | ⟨g, vals, rfl, _, hrow, hv⟩, hb1⟩
        · rw [H1.out] at h; cases h
        · have HR := Lib.hid hrow
          have HV := Lib.hid hv
          clear hrow hv
          go_wp2_with fail
          have hb2 : Below w.heap.size w (w1.alloc (.cells #[.slice a n cap, .func (.func 83) #[] #[]] 95)) := hb1.alloc hb1.size _
          have HS2 := Lib.hid (HS.out.below hb2)
          have hn0 : w1.heap.size < (w1.alloc (.cells #[.slice a n cap, .func (.func 83) #[] #[]] 95)).heap.size := by simp
          refine (containsZero_is a cap n ts false _ HS2.out H2.out).mono ?_
          rintro e w3 ⟨rfl, hb3⟩
          have d0 : w3.cell? ⟨w1.heap.size, 0, none⟩ = some (.slice a n cap) := (hb3.cell (p := ⟨w1.heap.size, 0, none⟩) hn0).trans ((World.cell?_alloc_at _ _ _ _ (by simp)).trans rfl)
          have d1 : w3.cell? ⟨w1.heap.size, 1, none⟩ = some (.func (.func 83) #[] #[]) := (hb3.cell (p := ⟨w1.heap.size, 1, none⟩) hn0).trans ((World.cell?_alloc_at _ _ _ _ (by simp)).trans rfl)
          have HS3 := Lib.hid (HS2.out.below hb3)
          have hb3' : Below w.heap.size w w3 := hb2.trans (hb3.mono hb2.size)
          have hlt3 : w1.heap.size < w3.heap.size := Nat.lt_of_lt_of_le hn0 hb3.size
          clear hn0 hb2
          go_wp2_with fail
          refine (ascends_any w1.heap.size a cap n ts _ HS3.out hlt3 d0 d1).mono ?_
          rintro e w4 ⟨rfl, hb4⟩
          have H3' := H3.out
          rw [H3']
          clear H3'
          go_wp2
          go_ret2
          exact ⟨.inl ⟨rfl, by rw [HE.out, H3.out, Bool.and_false]⟩, hb3'.trans (hb4.mono hb3'.size)⟩
      | true =>
        have H3 := Lib.hid h3
        clear h3
        go_enter Try.func58, Try.ntmps58
        go_wp2_with fail
        refine (termWords_any a cap n ts _ HS.out).mono ?_
        rintro e w1 ⟨⟨rfl, h⟩ | ⟨g, vals, rfl, _, hrow, hv⟩, hb1⟩
        · rw [H1.out] at h; cases h
        · have HR := Lib.hid hrow
          have HV := Lib.hid hv
          clear hrow hv
          go_wp2_with fail
          have hb2 : Below w.heap.size w (w1.alloc (.cells #[.slice a n cap, .func (.func 83) #[] #[]] 95)) := hb1.alloc hb1.size _
          have hb12 : Below w1.heap.size w1 (w1.alloc (.cells #[.slice a n cap, .func (.func 83) #[] #[]] 95)) := (Below.refl _ _).alloc (Nat.le_refl _) _
          have HS2 := Lib.hid (HS.out.below hb2)
          have hn0 : w1.heap.size < (w1.alloc (.cells #[.slice a n cap, .func (.func 83) #[] #[]] 95)).heap.size := by simp
          refine (containsZero_is a cap n ts false _ HS2.out H2.out).mono ?_
          rintro e w3 ⟨rfl, hb3⟩
          have d0 : w3.cell? ⟨w1.heap.size, 0, none⟩ = some (.slice a n cap) := (hb3.cell (p := ⟨w1.heap.size, 0, none⟩) hn0).trans ((World.cell?_alloc_at _ _ _ _ (by simp)).trans rfl)
          have d1 : w3.cell? ⟨w1.heap.size, 1, none⟩ = some (.func (.func 83) #[] #[]) := (hb3.cell (p := ⟨w1.heap.size, 1, none⟩) hn0).trans ((World.cell?_alloc_at _ _ _ _ (by simp)).trans rfl)
          have HS3 := Lib.hid (HS2.out.below hb3)
          have hb3' : Below w.heap.size w w3 := hb2.trans (hb3.mono hb2.size)
          have hb13 : Below w1.heap.size w1 w3 := hb12.trans (hb3.mono hb12.size)
          have hlt3 : w1.heap.size < w3.heap.size := Nat.lt_of_lt_of_le hn0 hb3.size
          clear hn0 hb2 hb12
          go_wp2_with fail
          refine (ascends_any w1.heap.size a cap n ts _ HS3.out hlt3 d0 d1).mono ?_
          rintro e w4 ⟨rfl, hb4⟩
          have H3' := H3.out
          rw [H3']
          clear H3'
          have hb14 := Lib.hid (hb13.trans (hb4.mono hb13.size))
          go_wp2
          go_ret2
          refine ⟨.inr ⟨g, vals, rfl, by rw [HE.out, H1.out, H2.out, H3.out]; rfl, ?_, fun j hj v hv => (HV.out j hj v hv).below hb14.out⟩, hb3'.trans (hb4.mono hb3'.size)⟩
          exact HR.out.kept ⟨hb14.out.os, hb14.out.tape, hb14.out.output, hb14.out.size, fun j hj _ => hb14.out.block j hj⟩ (row := none) (.inr (by simp [Value.ownBlock]))

theorem iSumIn_any (a : Option Addr) (cap n : Nat) (ts : List Tm) (w : World) (hs : IsTerms w a n ts) :
    Calls Try.prog 18 #[.slice a n cap] w fun e w' => e = .returned (.bool (sumB ts)) ∧ Below w.heap.size w w' := by
  have HS := Lib.hid hs
  clear hs
  go_enter Try.func18, Try.ntmps18
  go_wp2_with fail
  refine (sumWords_any a cap n ts _ HS.out).mono ?_
  rintro e w1 ⟨⟨rfl, h⟩ | ⟨g, vals, rfl, h, _, _⟩, hb1⟩
  · have H := Lib.hid h
    clear h
    go_wp2
    go_ret
    exact ⟨ret_bool H.out.symm, hb1⟩
  · have H := Lib.hid h
    clear h
    go_wp2
    go_ret
    exact ⟨ret_bool H.out.symm, hb1⟩

end Go.Proofs.Ytidmlppbmcphbaa

/- The draws of braids. -/
import Derived.Test.YtaaeiogdhmiaaaaCi
import Derived.Test.YtaaeiogdhmiaaaaDa
namespace Go.Proofs.Ytaaeiogdhmiaaaa
open Go.RowKit Go.Shelf

theorem grownB_of_below {w w' : World} (hb : Below w.heap.size w w') (row : Option Nat) : w.grownBy w' row := ⟨hb.os, hb.tape, hb.output, hb.size, fun j hj _ => hb.block j hj⟩
/-- The answer's box, behind what the reader wrote. -/
theorem boxGrown {W X : World} {k rb : Nat} {x y : Value} {t : TypeId} (hk : W.heap[k]? = some (.cells #[x, y] t (0, 0))) (hg : W.grownBy X (some rb)) (hne : k ≠ rb) :
    (X.cell? ⟨k, 0, none⟩ = some x ∧ X.cell? ⟨k, 1, none⟩ = some y) ∧ X.frozen? ⟨k, 0, none⟩ = false ∧ X.frozen? ⟨k, 1, none⟩ = false := by
  have e := (hg.block k (Array.getElem?_eq_some_iff.1 hk).1 (fun e => hne (Option.some.inj e))).trans hk
  refine ⟨⟨?_, ?_⟩, ?_, ?_⟩ <;> simp [World.cell?, World.frozen?, e]
theorem Rd.two {base rb : Nat} {w : World} {a : Option Addr} {n cap : Nat} {zs : List Int} {p k : Nat} (h : Rd base w rb a n cap zs p) (hk : k ≠ rb) (hb : base ≤ k) (x y : Value) : Rd base ((w.setCell ⟨k, 0, none⟩ x).setCell ⟨k, 1, none⟩ y) rb a n cap zs p :=
  ⟨h.lo, by rw [Below.heap_setCell _ _ _ _ (by show rb ≠ k; exact fun e => hk e.symm), Below.heap_setCell _ _ _ _ (by show rb ≠ k; exact fun e => hk e.symm)]; exact h.box, h.data.below (((Below.refl base w).setCell (p := ⟨k, 0, none⟩) hb x).setCell (p := ⟨k, 1, none⟩) hb y), h.short⟩

set_option maxRecDepth 100000 in
set_option maxHeartbeats 4000000 in
theorem l92Braid_grown (base rb : Nat) (a : Option Addr) (n cap : Nat) (zs : List Int) (p : Nat) (w : World) (h : Rd base w rb a n cap zs p) (hp : p ≤ 90000) (hbs : base ≤ w.heap.size) :
    Calls Try.prog 98 #[.pointer (some ⟨rb, 0, none⟩)] w fun e w' => (∃ (m : Int) (s : ByteArray), e = .returned (brV m s) ∧ (2 ≤ m ∧ m ≤ 4) ∧ s.size ≤ 5) ∧ (∃ p', p' ≤ p + 60 ∧ Rd base w' rb a n cap zs p') ∧ Below base w w' ∧ ∀ k, k < w.heap.size → k ≠ rb → w'.heap[k]? = w.heap[k]? := by
  obtain ⟨W, hW⟩ : ∃ W, w.alloc (.cells #[.int .i64 0, .string { data := #[] }] 26) = W := ⟨_, rfl⟩
  have hX := oneBox hW
  have HX := Lib.hid hX
  have HR0 := Lib.hid (h.below hX.1)
  have hlt := h.lt
  have hlo := h.lo
  have HKW : Hid (∀ k, k < w.heap.size → W.heap[k]? = w.heap[k]?) := Lib.hid fun k hk => hX.1.block k hk
  have HW := Lib.hid hW
  clear hX h hW
  have HP0 := Lib.hid (pick_any base rb a n cap zs p 3 W HR0.out (by omega) (by omega) (by omega))
  go_enter Try.func98, Try.ntmps98
  go_wp2_with fail
  rw [HW.out]
  refine HP0.out.mono ?_
  rintro e w1 ⟨⟨z, rfl, hz⟩, hR1, hB1, hG1⟩
  have HP1 := Lib.hid (pick_any base rb a n cap zs (p + 1) 5 w1 hR1 (by omega) (by omega) (by omega))
  have HB1 := Lib.hid hB1
  have HG1 := Lib.hid hG1
  clear hR1 hB1 hG1
  go_wp2_with fail
  refine HP1.out.mono ?_
  rintro e w2 ⟨⟨N, rfl, hN⟩, hR2, hB2, hG2⟩
  have HR2 := Lib.hid hR2
  have HB2 := Lib.hid (HB1.out.trans hB2)
  have HG2 := Lib.hid (HG1.out.trans hG2)
  clear hR2 hB2 hG2
  go_wp2_with fail
  go_loopw [4, 6, 7] (fun v i c wr => ∃ (k : Nat) (s : ByteArray) (u : Value), k ≤ N ∧ v = .string s ∧ i = .int .i64 k ∧ c = u ∧ s.size ≤ k ∧ Rd base wr rb a n cap zs (p + 2 + 2 * k) ∧ Below base W wr ∧ W.grownBy wr (some rb)) (fun _ i _ _ => N - (intOf i).toNat)
  case atStart => exact ⟨0, _, _, Nat.zero_le _, rfl, rfl, rfl, Nat.le_refl _, HR2.out, HB2.out, HG2.out⟩
  case round =>
    obtain ⟨k, s, u, hk, rfl, rfl, rfl, hsz, hR, hB, hG⟩ := hrel
    have HR := Lib.hid hR
    have HB := Lib.hid hB
    have HG := Lib.hid hG
    have hbl := hR.lt
    clear hR hB hG
    by_cases hltk : k < N
    · have hli : (k : Int) < (N : Int) := by omega
      have hp2 := pick_any base rb a n cap zs (p + 2 + 2 * k) (z + 1) wr HR.out (by omega) (by omega) (by omega)
      rw [show ((z + 1 : Nat) : Int) = 2 + (z : Int) - 1 by omega] at hp2
      have HP2 := Lib.hid hp2
      clear hp2
      go_wp2_with fail
      refine HP2.out.mono ?_
      rintro e w5 ⟨⟨y, rfl, hy⟩, hR5, hB5, hG5⟩
      have HP3 := Lib.hid (pick_any base rb a n cap zs (p + 2 + 2 * k + 1) 3 w5 hR5 (by omega) (by omega) (by omega))
      have HB5 := Lib.hid (HB.out.trans hB5)
      have HG5 := Lib.hid (HG.out.trans hG5)
      have hwz : IntKind.i64.wrap (120 + (y : Int)) = 120 + (y : Int) := IntWalk.i64_in _ (by omega)
      have hwu : IntKind.u8.wrap (120 + (y : Int)) = 120 + (y : Int) := IntWalk.u8_in _ (by omega)
      clear hR5 hB5 hG5
      go_wp2_with fail
      refine HP3.out.mono ?_
      rintro e w6 ⟨⟨x, rfl, hx⟩, hR6, hB6, hG6⟩
      have HB6 := Lib.hid (HB5.out.trans hB6)
      have HG6 := Lib.hid (HG5.out.trans hG6)
      have hb6l := hR6.lt
      have hnot : ¬ 9223372036854775807 < s.size + 1 := by omega
      have HR6 := Lib.hid hR6
      clear hR6 hB6 hG6
      by_cases hy0 : x = 0
      · subst hy0
        have hws : IntKind.u8.wrap (120 + (y : Int) - 32) = 88 + (y : Int) := by rw [show (120 : Int) + (y : Int) - 32 = 88 + (y : Int) by omega]; exact IntWalk.u8_in _ (by omega)
        obtain ⟨t, ht⟩ : ∃ t, bstr [UInt8.ofNat (88 + y)] = t := ⟨_, rfl⟩
        have hts : t.size = 1 := by rw [← ht]; rfl
        have hcv := conv_byte (UInt8.ofNat (88 + y)) (88 + (y : Int)) (by rw [UInt8.toNat_ofNat', Nat.mod_eq_of_lt (by omega)]; push_cast; rfl) w6
        rw [ht] at hcv
        have hnot2 : ¬ 9223372036854775807 < s.size + t.size := by omega
        have HR7 := Lib.hid (HR6.out.below ((Below.refl _ w6).alloc (Nat.le_refl _) (.cells #[.int .u8 (88 + (y : Int))] 5)))
        have HB7 := Lib.hid (HB6.out.alloc (by omega) (.cells #[.int .u8 (88 + (y : Int))] 5))
        have HG7 := Lib.hid (HG6.out.trans (World.grownBy_alloc w6 (.cells #[.int .u8 (88 + (y : Int))] 5) _))
        clear ht
        go_wp2
        go_roundw
        case rel => exact ⟨k + 1, _, _, by omega, rfl, by go_num, rfl, by rw [ByteArray.size_append]; omega, (show p + 2 + 2 * (k + 1) = p + 2 + 2 * k + 1 + 1 by omega) ▸ HR7.out, HB7.out, HG7.out⟩
        case measure => simp [intOf]; omega
      · have hyi : ((x : Int) == 0) = false := by simpa using hy0
        have hyn : ¬ (x : Int) = 0 := by omega
        obtain ⟨t, ht⟩ : ∃ t, bstr [UInt8.ofNat (120 + y)] = t := ⟨_, rfl⟩
        have hts : t.size = 1 := by rw [← ht]; rfl
        have hcv := conv_byte (UInt8.ofNat (120 + y)) (120 + (y : Int)) (by rw [UInt8.toNat_ofNat', Nat.mod_eq_of_lt (by omega)]; push_cast; rfl) w6
        rw [ht] at hcv
        have hnot2 : ¬ 9223372036854775807 < s.size + t.size := by omega
        have HR7 := Lib.hid (HR6.out.below ((Below.refl _ w6).alloc (Nat.le_refl _) (.cells #[.int .u8 (120 + (y : Int))] 5)))
        have HB7 := Lib.hid (HB6.out.alloc (by omega) (.cells #[.int .u8 (120 + (y : Int))] 5))
        have HG7 := Lib.hid (HG6.out.trans (World.grownBy_alloc w6 (.cells #[.int .u8 (120 + (y : Int))] 5) _))
        clear ht
        go_wp2
        go_roundw
        case rel => exact ⟨k + 1, _, _, by omega, rfl, by go_num, rfl, by rw [ByteArray.size_append]; omega, (show p + 2 + 2 * (k + 1) = p + 2 + 2 * k + 1 + 1 by omega) ▸ HR7.out, HB7.out, HG7.out⟩
        case measure => simp [intOf]; omega
    · obtain rfl : N = k := by omega
      have HP2 := Lib.hid (pick_any base rb a n cap zs (p + 2 + 2 * N) 30 wr HR.out (by omega) (by omega) (by omega))
      go_wp2_with fail
      refine HP2.out.mono ?_
      rintro e w6 ⟨⟨x, rfl, hx⟩, hR6, hB6, hG6⟩
      have hb6l := hR6.lt
      have HR6 := Lib.hid hR6
      have HB6 := Lib.hid (HB.out.trans hB6)
      have HG6 := Lib.hid (HG.out.trans hG6)
      have hnot : ¬ 9223372036854775807 < s.size + 1 := by omega
      clear hR6 hB6 hG6
      obtain ⟨⟨d0, d1⟩, f0, f1⟩ := boxGrown HX.out.2.2 HG6.out (by omega)
      have hwl : w.heap.size < w6.heap.size := by have h1 := HX.out.2.1; have h2 := HG6.out.size; omega
      have HFIN : Hid (∀ u v, Below base w ((w6.setCell ⟨w.heap.size, 0, none⟩ u).setCell ⟨w.heap.size, 1, none⟩ v) ∧ ∀ k, k < w.heap.size → k ≠ rb → ((w6.setCell ⟨w.heap.size, 0, none⟩ u).setCell ⟨w.heap.size, 1, none⟩ v).heap[k]? = w.heap[k]?) := Lib.hid fun u v => by
        have hbW : Below base w W := HX.out.1.mono hbs
        refine ⟨((hbW.trans HB6.out).setCell (p := ⟨w.heap.size, 0, none⟩) hbs _).setCell (p := ⟨w.heap.size, 1, none⟩) hbs _, fun k hk hkr => ?_⟩
        rw [Below.heap_setCell _ _ _ _ (by show k ≠ w.heap.size; omega), Below.heap_setCell _ _ _ _ (by show k ≠ w.heap.size; omega)]
        exact (HG6.out.block k (by have h1 := HX.out.2.1; omega) (fun e => hkr (Option.some.inj e))).trans (HKW.out k hk)
      by_cases hz0 : x = 0
      · subst hz0
        go_wp2
        obtain ⟨q1, q2⟩ := HFIN.out (.int .i64 2) (.string (s ++ { data := #[122] }))
        refine bodyPost_ret (v := brV 2 (s ++ { data := #[122] })) ?_ rfl ⟨⟨2, _, rfl, by omega, by rw [ByteArray.size_append]; show s.size + 1 ≤ 5; omega⟩, ⟨_, by omega, HR6.out.two (by omega) hbs _ _⟩, q1, q2⟩
        simp [results, Try.results98, go_sem, d0, d1]
      · have hzi : ((x : Int) == 0) = false := by simpa using hz0
        have hzn : ¬ (x : Int) = 0 := by omega
        go_wp2
        obtain ⟨q1, q2⟩ := HFIN.out (.int .i64 (2 + (z : Int))) (.string s)
        refine bodyPost_ret (v := brV (2 + (z : Int)) s) ?_ rfl ⟨⟨_, _, rfl, by omega, by omega⟩, ⟨_, by omega, HR6.out.two (by omega) hbs _ _⟩, q1, q2⟩
        simp [results, Try.results98, go_sem, d0, d1]

end Go.Proofs.Ytaaeiogdhmiaaaa

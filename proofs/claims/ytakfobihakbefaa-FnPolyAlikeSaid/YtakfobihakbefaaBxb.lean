/- What the laws' proofs stand on, part 2 of 3. -/
import Derived.Shelf.RegionOpenPlain
import Derived.StillTailTactics
import Derived.Deep.DeepCutAuto
import Derived.StillTail
import Derived.Deep.AppendLies
import Derived.Deep.RegionHeld3
import Derived.Test.YtakfobihakbefaaBxa

/- The program's apart and told. -/

namespace Go.Proofs.Ytakfobihakbefaa
open Go.RowKit

abbrev ZT : TypeId := 118
abbrev PT : TypeId := 71
/-- What a polynomial is told apart as. -/
def Apart (w : World) (v : Value) (lw : Int) (q : Pl) : Prop :=
  (q.cs.length = 0 ∧ v = .iface ZT (.agg #[])) ∨ (0 < q.cs.length ∧ ∃ a cap, v = .iface PT (plV lw (.slice a q.cs.length cap)) ∧ q.cs.length ≤ cap ∧ Ints w a q.cs.length q.cs)
theorem tidy_zero {low : Int} {zs : List Int} (h : zfrom zs = zs.length) : tidyP low zs = ⟨0, []⟩ := tidy_all low h

set_option maxRecDepth 100000 in
set_option maxHeartbeats 4000000 in
theorem apart_zero (low : Int) (zs : List Int) (a : Option Addr) (cap n : Nat) (w : World) (hs : Ints w a n zs) (hz : zfrom zs = zs.length) :
    Calls Try.prog 71 #[plV low (.slice a n cap)] w fun e w' => e = .returned (.iface ZT (.agg #[])) ∧ Below w.heap.size w w' := by
  have hbW : Below w.heap.size w (w.alloc (.cells #[.int .i64 low, .slice a n cap] 25)) := (Below.refl _ w).alloc (Nat.le_refl _) _
  have HB := Lib.hid hbW
  have HI := Lib.hid (indexI_any NZF _ nz_ok a cap n zs _ (hs.below hbW))
  have HZ := Lib.hid hz
  clear hs hbW hz
  go_enter Try.func71, Try.ntmps71
  go_wp2_with fail
  refine HI.out.mono ?_
  rintro e w1 ⟨⟨r, rfl, hr⟩, rfl⟩
  obtain rfl : r = -1 := by
    rcases firstI_zfrom hr with ⟨h, _⟩ | ⟨_, h⟩
    · exact h
    · rw [HZ.out] at h; omega
  clear hr
  go_wp2
  go_ret
  exact ⟨rfl, HB.out⟩

theorem Ints.part {w : World} {x : Addr} {n f m : Nat} {zs : List Int} (h : Ints w (some x) n zs) (h0 : 0 < n) (hf : f + m ≤ n) : Ints w (some (x.add f)) m ((zs.drop f).take m) := by
  have hl := h.len
  obtain ⟨y, hy, hb, hc⟩ := h.at_ h0
  obtain rfl : x = y := by simpa using hy
  refine ⟨by rw [List.length_take, List.length_drop]; omega, by have := h.max; omega, fun _ => ⟨_, rfl, by rw [addr_add_block]; exact hb, fun j hj => ?_⟩, fun z hz => h.wf z (List.mem_of_mem_drop (List.mem_of_mem_take hz))⟩
  rw [List.length_take, List.length_drop] at hj
  rw [Addr.add_add, hc (f + j) (by omega), List.getElem_take, List.getElem_drop]

set_option maxRecDepth 100000 in
set_option maxHeartbeats 4000000 in
theorem apart_some (low : Int) (zs : List Int) (a : Option Addr) (cap n f : Nat) (w : World) (hs : Ints w a n zs) (hcap : n ≤ cap) (hz : zfrom zs = f) (hf : f < n) :
    Calls Try.prog 71 #[plV low (.slice a n cap)] w fun e w' => (∃ v, e = .returned v ∧ Apart w' v (wrap64 (tidyP low zs).low) (tidyP low zs)) ∧ Below w.heap.size w w' := by
  have hm := hs.max
  unfold maxLen at hm
  obtain ⟨x, rfl, hxb, hxc⟩ := hs.at_ (by omega)
  obtain ⟨W, hW⟩ : ∃ W, w.alloc (.cells #[.int .i64 low, .slice (some x) n cap] 25) = W := ⟨_, rfl⟩
  have hsz : W.heap.size = w.heap.size + 1 := by rw [← hW]; simp
  have hbW : Below w.heap.size w W := by rw [← hW]; exact (Below.refl _ w).alloc (Nat.le_refl _) _
  obtain ⟨c0, c1⟩ := boxCells (w := w) (w1 := W) (x := .int .i64 low) (y := .slice (some x) n cap) rfl (by rw [hW, ← hsz]; exact Below.refl _ _)
  have HX : Hid (∀ k (h : k < n) z, zs.getD k 0 = z → W.cell? (x.add k) = some (.int .i64 z)) := Lib.hid fun k h z e => by
    have hl := hs.len
    rw [← e, List.getD_eq_getElem?_getD, List.getElem?_eq_getElem (by omega)]
    exact (hbW.cell (p := x.add k) (by rw [addr_add_block]; exact hxb)).trans (hxc k (by omega))
  have HB := Lib.hid hbW
  have HI := Lib.hid (indexI_any NZF _ nz_ok (some x) cap n zs _ (hs.below hbW))
  have HS := Lib.hid (hs.below hbW)
  have HZ := Lib.hid hz
  have HL := Lib.hid hs.len
  have HW := Lib.hid hW
  clear hs hbW hz hxc hW hsz
  go_enter Try.func71, Try.ntmps71
  go_wp2_with fail
  rw [HW.out]
  refine HI.out.mono ?_
  rintro e w1 ⟨⟨r, rfl, hr⟩, rfl⟩
  obtain rfl : r = (f : Int) := by
    rcases firstI_zfrom hr with ⟨_, h⟩ | ⟨h, _⟩
    · rw [HZ.out, HL.out] at h; omega
    · rw [HZ.out] at h; exact h
  clear hr
  have hfi : ¬ (f : Int) < 0 := by omega
  have hfd : decide ((f : Int) < 0) = false := decide_eq_false hfi
  obtain ⟨z, hzf⟩ : ∃ z, zs.getD f 0 = z := ⟨_, rfl⟩
  have hzn : ¬ z = 0 := by rw [← hzf, ← HZ.out]; exact zfrom_head zs (by rw [HZ.out, HL.out]; exact hf)
  have HHZ := Lib.hid hzf
  have HZN := Lib.hid hzn
  clear hzf hzn
  go_wp2
  go_loopw [4] (fun i wr => ∃ t : Nat, f < t ∧ t ≤ n ∧ i = .int .i64 (t : Int) ∧ Hid (∀ i, t ≤ i → zs.getD i 0 = 0) ∧ W = wr) (fun i _ => (intOf i).toNat)
  case atStart => exact ⟨n, by omega, Nat.le_refl _, rfl, Lib.hid fun i h => getD_far (by rw [HL.out]; exact h), rfl⟩
  case round =>
    obtain ⟨t, ht1, ht2, rfl, HT, rfl⟩ := hrel
    obtain ⟨m, hm⟩ : ∃ m, t = m + 1 := ⟨t - 1, by omega⟩
    subst hm
    have hwr : IntKind.i64.wrap (((m + 1 : Nat) : Int) - 1) = (m : Int) := by rw [IntWalk.i64_in _ (by omega)]; omega
    obtain ⟨y, hy⟩ : ∃ y, zs.getD m 0 = y := ⟨_, rfl⟩
    have hcy := HX.out m (by omega) y hy
    have hmn : m < n := by omega
    have hmi : (0 : Int) ≤ (m : Int) := by omega
    have hmni : (m : Int) < (n : Int) := by omega
    by_cases hy0 : y = 0
    · subst hy0
      have hmk : f ≠ m := fun e => HZN.out (by rw [← HHZ.out, e, hy])
      have HY := Lib.hid hy
      clear hy
      go_wp2
      go_roundw
      case rel => exact ⟨m, by omega, by omega, by go_num, Lib.hid fun i h => by
        by_cases e : i = m
        · rw [e]; exact HY.out
        · exact HT.out i (by omega), by first | trivial | rfl⟩
      case measure => simp [intOf]
    · have hyb : (y == 0) = false := by simpa using hy0
      have HCUT := Lib.hid (tidy_cut low HZ.out ht1 (by rw [HL.out]; exact ht2) HT.out (by show zs.getD m 0 ≠ 0; rw [hy]; exact hy0))
      have hlen : ((zs.drop f).take (m + 1 - f)).length = m + 1 - f := by rw [List.length_take, List.length_drop, HL.out]; omega
      have HPART := Lib.hid (HS.out.part (f := f) (m := m + 1 - f) (by omega) (by omega))
      have HLEN := Lib.hid hlen
      have hfm : (f : Int) ≤ ((m + 1 : Nat) : Int) := by omega
      have hmc : ((m + 1 : Nat) : Int) ≤ (cap : Int) := by omega
      have hmcn : m + 1 ≤ cap := by omega
      have hf0 : (0 : Int) ≤ (f : Int) := by omega
      clear hy HT hlen
      go_wp2
      go_quiet (fail)
      go_wp2
      go_ret
      refine ⟨⟨_, rfl, ?_⟩, below_drewN HB.out _⟩
      rw [HCUT.out]
      refine .inr ⟨by show 0 < ((zs.drop f).take (m + 1 - f)).length; rw [HLEN.out]; omega, some (x.add f), cap - f, ?_, ?_, ?_⟩
      · rw [HLEN.out]
        rfl
      · show ((zs.drop f).take (m + 1 - f)).length ≤ _
        rw [HLEN.out]; omega
      · show Ints _ _ ((zs.drop f).take (m + 1 - f)).length ((zs.drop f).take (m + 1 - f))
        rw [HLEN.out]
        exact HPART.out.below (below_drewN (Below.refl _ _) _)

theorem apart_any (low : Int) (zs : List Int) (a : Option Addr) (cap n : Nat) (w : World) (hs : Ints w a n zs) (hcap : n ≤ cap) :
    Calls Try.prog 71 #[plV low (.slice a n cap)] w fun e w' => (∃ v, e = .returned v ∧ Apart w' v (wrap64 (tidyP low zs).low) (tidyP low zs)) ∧ Below w.heap.size w w' := by
  have hl := hs.len
  by_cases hz : zfrom zs = zs.length
  · refine (apart_zero low zs a cap n w hs hz).mono ?_
    rintro e w1 ⟨rfl, hb⟩
    exact ⟨⟨_, rfl, .inl ⟨by rw [tidy_zero hz]; rfl, rfl⟩⟩, hb⟩
  · exact apart_some low zs a cap n _ w hs hcap rfl (by have := zfrom_le zs; omega)

theorem apart_in (low : Int) (zs : List Int) (a : Option Addr) (cap n : Nat) (w : World) (hs : Ints w a n zs) (hcap : n ≤ cap) (h1 : -1000000000 ≤ low) (h2 : low ≤ 1000000000) (hn : n ≤ 1048576) :
    Calls Try.prog 71 #[plV low (.slice a n cap)] w fun e w' => (∃ v, e = .returned v ∧ Apart w' v (tidyP low zs).low (tidyP low zs)) ∧ Below w.heap.size w w' := by
  have e : wrap64 (tidyP low zs).low = (tidyP low zs).low := by
    have hz := zfrom_le zs
    rw [hs.len] at hz
    refine IntWalk.wrap64_in _ ?_
    unfold tidyP
    split
    · show -9223372036854775808 ≤ (0 : Int) ∧ (0 : Int) ≤ 9223372036854775807; omega
    · show -9223372036854775808 ≤ low + (zfrom zs : Int) ∧ low + (zfrom zs : Int) ≤ 9223372036854775807; omega
  have h := apart_any low zs a cap n w hs hcap
  rwa [e] at h

end Go.Proofs.Ytakfobihakbefaa

/- The program's told, PolyIn. -/

namespace Go.Proofs.Ytakfobihakbefaa
open Go.RowKit

/-- A polynomial that was laid in a box, and the answer's cells behind it. -/
theorem boxT {w w1 W : World} {t : TypeId} {x y : Value} (hW : (w.alloc (.cells #[x, y] t)).alloc (.cells #[.int .i64 0, .slice none 0 0] 25) = W) (hg : Below W.heap.size W w1) :
    w1.cell? ⟨w.heap.size, 0, none⟩ = some x ∧ w1.cell? ⟨w.heap.size, 1, none⟩ = some y ∧ w1.cell? ⟨w.heap.size + 1, 0, none⟩ = some (.int .i64 0) ∧ w1.cell? ⟨w.heap.size + 1, 1, none⟩ = some (.slice none 0 0) ∧ w1.frozen? ⟨w.heap.size + 1, 0, none⟩ = false ∧ w1.frozen? ⟨w.heap.size + 1, 1, none⟩ = false := by
  have hsz : W.heap.size = w.heap.size + 2 := by rw [← hW]; simp
  have e0 := hg.block w.heap.size (by omega)
  have e1 : W.heap[w.heap.size]? = some (.cells #[x, y] t (0, 0)) := by
    rw [← hW, Below.heap_alloc _ _ _ (by simp)]
    exact World.alloc_heap_new w _
  rw [e1] at e0
  obtain ⟨d0, d1, f0, f1⟩ := resCells (w := w.alloc (.cells #[x, y] t)) (w1 := w1) (r := w.heap.size + 1) (by simp) (by rw [hW, show w.heap.size + 1 + 1 = W.heap.size by omega]; exact hg)
  exact ⟨by simp [World.cell?, e0], by simp [World.cell?, e0], d0, d1, f0, f1⟩
theorem boxTBelow {w W : World} {t : TypeId} {x y : Value} (hW : (w.alloc (.cells #[x, y] t)).alloc (.cells #[.int .i64 0, .slice none 0 0] 25) = W) : Below w.heap.size w W ∧ W.heap.size = w.heap.size + 2 := by
  subst hW
  exact ⟨((Below.refl _ w).alloc (Nat.le_refl _) _).alloc (by simp) _, by simp⟩
theorem oneBox {w w1 W : World} {t : TypeId} {x y : Value} (hW : w.alloc (.cells #[x, y] t) = W) (hg : Below W.heap.size W w1) :
    w1.cell? ⟨w.heap.size, 0, none⟩ = some x ∧ w1.cell? ⟨w.heap.size, 1, none⟩ = some y := by
  have hsz : W.heap.size = w.heap.size + 1 := by rw [← hW]; simp
  have e0 := hg.block w.heap.size (by omega)
  rw [← hW, World.alloc_heap_new] at e0
  exact ⟨by simp [World.cell?, e0], by simp [World.cell?, e0]⟩

set_option maxRecDepth 100000 in
set_option maxHeartbeats 4000000 in
theorem toldZ_any (w : World) :
    Calls Try.prog 149 #[.agg #[]] w fun e w' => (∃ v, e = .returned (.tuple #[plV 0 v, .bool true]) ∧ IntRow w.heap.size w' v []) ∧ Below w.heap.size w w' := by
  go_enter Try.func149, Try.ntmps149
  go_wp2
  refine bodyPost_ret (v := .tuple #[plV 0 (.slice none 0 0), .bool true]) ?_ rfl ⟨⟨_, rfl, intNil _ _⟩, ?_⟩
  · simp [results, Try.results149, go_sem, plV]
  · first
    | exact ((Below.refl _ w).alloc (Nat.le_refl _) _).alloc (by simp) _
    | exact ((((Below.refl _ w).alloc (Nat.le_refl _) _).alloc (by simp) _).setCell (by simp) _).setCell (by simp) _

set_option maxRecDepth 100000 in
set_option maxHeartbeats 4000000 in
theorem toldP_any (low : Int) (zs : List Int) (a : Option Addr) (cap n : Nat) (b : Bool) (w : World) (hs : Ints w a n zs) (hb : fitsB low zs = b) :
    Calls Try.prog 73 #[plV low (.slice a n cap)] w fun e w' => (∃ v, e = .returned (.tuple #[plV (doneP b ⟨low, zs⟩).low v, .bool b]) ∧ IntRow w.heap.size w' v (doneP b ⟨low, zs⟩).cs) ∧ Below w.heap.size w w' := by
  obtain ⟨W, hW⟩ : ∃ W, (w.alloc (.cells #[.int .i64 low, .slice a n cap] PT)).alloc (.cells #[.int .i64 0, .slice none 0 0] 25) = W := ⟨_, rfl⟩
  obtain ⟨hbW, hsz⟩ := boxTBelow hW
  have HC : Hid (∀ w1, Below W.heap.size W w1 → _) := Lib.hid fun w1 (hg : Below W.heap.size W w1) => boxT hW hg
  have HF := Lib.hid (fits_any low zs a cap n b W (hs.below hbW) hb)
  have HS := Lib.hid (hs.below hbW)
  have HB := Lib.hid hb
  have HBW := Lib.hid hbW
  have HW := Lib.hid hW
  clear hW hbW hs hb
  go_enter Try.func73, Try.ntmps73
  go_wp2_with fail
  rw [HW.out]
  refine HF.out.mono ?_
  rintro e w1 ⟨rfl, hb1⟩
  obtain ⟨q0, q1, d0, d1, f0, f1⟩ := HC.out w1 hb1
  have hs1 := hb1.size
  have HB1 := Lib.hid hb1
  clear hb1
  cases b with
  | false =>
    go_wp2
    refine bodyPost_ret (v := .tuple #[plV 0 (.slice none 0 0), .bool false]) ?_ rfl ⟨⟨_, rfl, intNil _ _⟩, resBelow1 (.int .i64 0) (.slice none 0 0) (HBW.out.trans (HB1.out.mono HBW.out.size))⟩
    simp [results, Try.results73, go_sem, d0, d1, plV]
  | true =>
    have hn : n ≤ 1048576 := by
      have h := HB.out
      unfold fitsB at h
      simp only [Bool.and_eq_true, decide_eq_true_eq] at h
      have := HS.out.len
      omega
    have HCL : Hid (∀ w2, Below W.heap.size W w2 → _) := Lib.hid fun w2 (hg : Below W.heap.size W w2) => cloneI_any a cap n zs w2 (HS.out.below hg) hn
    go_wp2
    go_region_held3 (fun w' : World => w'.cell? ⟨w.heap.size, 0, none⟩ = some (.int .i64 low) ∧ w'.cell? ⟨w.heap.size, 1, none⟩ = some (.slice a n cap)) (first | go_keep | exact ⟨k0, k1⟩)
      (first
        | (go_at_call 125
           refine (HCL.out _ HB1.out.drew).mono ?_
           rintro e w2 ⟨⟨v, rfl, hr⟩, hb2⟩
           have HR := Lib.hid hr
           have HB2 := Lib.hid (HB1.out.drew.trans (hb2.mono hs1))
           obtain ⟨k0, k1, d0, d1, f0, f1⟩ := HC.out w2 HB2.out
           obtain ⟨g1, gg, cap1, rfl, _⟩ := hr.shape
           clear hr hb2))
    go_wp2
    have hR : IntRow (w.heap.size + 2) w2 (.slice g1 zs.length cap1) zs := HR.out.mono (by show w.heap.size + 2 ≤ w1.heap.size; omega)
    refine bodyPost_ret (v := .tuple #[plV low (.slice g1 zs.length cap1), .bool true]) ?_ rfl ⟨⟨_, rfl, resRow1 (.int .i64 low) (.slice g1 zs.length cap1) hR (by omega)⟩, resBelow1 (.int .i64 low) (.slice g1 zs.length cap1) (HBW.out.trans (HB2.out.mono HBW.out.size))⟩
    simp [results, Try.results73, go_sem, d0, d1, plV]

end Go.Proofs.Ytakfobihakbefaa

/- The program's PolyIn. -/

namespace Go.Proofs.Ytakfobihakbefaa
open Go.RowKit

theorem tidy_self {p : Pl} (h : Trim p) : tidyP p.low p.cs = p := trim_unique (tidy_trim _ _) h fun k => tidy_pat p.low p.cs k
theorem fits_polyB {p : Pl} (h : Trim p) (h0 : 0 < p.cs.length) : fitsB p.low p.cs = polyB p := by
  rcases h with ⟨h, _⟩ | ⟨_, h1, h2⟩
  · rw [h] at h0; exact absurd h0 (Nat.lt_irrefl _)
  · unfold fitsB polyB
    rw [if_neg (by omega), decide_eq_false h1, decide_eq_false h2]
    cases p.cs.all coefIn <;> cases decide (p.cs.length ≤ 200) <;> cases inR (-300) 300 p.low <;> rfl
theorem polyB_nil : polyB ⟨0, []⟩ = true := rfl
/-- Whether a polynomial is one, by what it is told apart as. -/
theorem polyB_apart (low : Int) (zs : List Int) : polyB ⟨low, zs⟩ = if (tidyP low zs).cs.length = 0 then decide (low = 0) && decide (zs.length = 0) else fitsB low zs && decide ((tidyP low zs).cs.length = zs.length) := by
  by_cases hT : Trim ⟨low, zs⟩
  · have e := tidy_self hT
    have e : tidyP low zs = ⟨low, zs⟩ := e
    rw [e]
    show _ = if zs.length = 0 then _ else _
    by_cases h0 : zs.length = 0
    · rw [if_pos h0]
      obtain rfl : zs = [] := List.length_eq_zero_iff.1 h0
      show (true && (if ([] : List Int).length = 0 then decide (low = 0) else _)) = (decide (low = 0) && true)
      simp
    · rw [if_neg h0, ← fits_polyB hT (by show 0 < zs.length; omega)]
      simp
  · have hP : polyB ⟨low, zs⟩ = false := by
      cases h : polyB ⟨low, zs⟩ with
      | false => rfl
      | true => exact absurd (polyB_trim h).1 hT
    rw [hP]
    split
    · rename_i h
      by_cases h0 : zs.length = 0
      · obtain rfl : zs = [] := List.length_eq_zero_iff.1 h0
        by_cases hl : low = 0
        · exact absurd (.inl ⟨rfl, hl⟩) hT
        · rw [decide_eq_false hl]; rfl
      · rw [decide_eq_false h0, Bool.and_false]
    · rename_i h
      by_cases hl : (tidyP low zs).cs.length = zs.length
      · exfalso
        apply hT
        have hc : (tidyP low zs).cs = ztrim (zs.drop (zfrom zs)) := by
          unfold tidyP at h ⊢
          split
          · rename_i h2; rw [if_pos h2] at h; exact absurd rfl h
          · rfl
        have hz := ztrim_len (zs.drop (zfrom zs))
        rw [← hc, hl, List.length_drop] at hz
        have hzf := zfrom_le zs
        have h0 : zfrom zs = 0 := by
          rw [hl] at h
          omega
        rw [h0, List.drop_zero] at hc
        have he : zs = ztrim zs := eq_getD (by rw [← hc, hl]) fun i _ => (ztrim_get zs i).symm
        have h1 : zs ≠ [] := fun e => h (by rw [hl, e]; rfl)
        refine .inr ⟨h1, ?_, ?_⟩
        · have := zfrom_head zs (by rw [h0]; exact List.length_pos_iff.2 h1)
          rwa [h0] at this
        · rcases ztrim_last zs with h2 | h2
          · rw [← he] at h2; exact absurd h2 h1
          · rw [← he] at h2; exact h2
      · rw [decide_eq_false hl, Bool.and_false]

theorem assert_yes (v : Value) (w : World) : (Instr.typeAssert (.iface PT v) 69 PT true).run Try.prog w = .ok (.tuple #[v, .bool true]) w := by kernel_rfl
theorem assert_no (v : Value) (w : World) : (Instr.typeAssert (.iface ZT v) 69 PT true).run Try.prog w = .ok (.tuple #[plV 0 (.slice none 0 0), .bool false]) w := by kernel_rfl

set_option maxRecDepth 100000 in
set_option maxHeartbeats 4000000 in
theorem iPolyIn_any (low : Int) (zs : List Int) (a : Option Addr) (cap n : Nat) (b : Bool) (w : World) (hs : Ints w a n zs) (hcap : n ≤ cap) (hb : polyB ⟨low, zs⟩ = b) :
    Calls Try.prog 70 #[plV low (.slice a n cap)] w fun e w' => e = .returned (.bool b) ∧ Below w.heap.size w w' := by
  have hm := hs.max
  unfold maxLen at hm
  have hY := assert_yes
  have hN := assert_no
  obtain ⟨W, hW⟩ : ∃ W, w.alloc (.cells #[.int .i64 low, .slice a n cap] 25) = W := ⟨_, rfl⟩
  have hsz : W.heap.size = w.heap.size + 1 := by rw [← hW]; simp
  have hbW : Below w.heap.size w W := by rw [← hW]; exact (Below.refl _ w).alloc (Nat.le_refl _) _
  have HC : Hid (∀ w1, Below W.heap.size W w1 → _) := Lib.hid fun w1 (hg : Below W.heap.size W w1) => oneBox hW hg
  have HA := Lib.hid (apart_any low zs a cap n W (hs.below hbW) hcap)
  have HS := Lib.hid (hs.below hbW)
  have HL := Lib.hid hs.len
  have HBW := Lib.hid hbW
  have HW := Lib.hid hW
  rw [polyB_apart, hs.len] at hb
  clear hW hbW hs
  go_enter Try.func70, Try.ntmps70
  go_wp2_with fail
  rw [HW.out]
  refine HA.out.mono ?_
  rintro e w1 ⟨⟨v, rfl, hA⟩, hb1⟩
  have hs1 := hb1.size
  have HB1 := Lib.hid hb1
  obtain ⟨q0, q1⟩ := HC.out w1 hb1
  clear hb1
  rcases hA with ⟨hq, rfl⟩ | ⟨hq, a1, cap1, rfl, hc1, hi1⟩
  · rw [if_pos hq] at hb
    have hni : ((n : Int) = 0) ↔ n = 0 := by omega
    have HBE := Lib.hid hb
    clear hq hb
    by_cases hl0 : low = 0
    · subst hl0
      go_wp2
      go_ret
      refine ⟨ret_bool ?_, HBW.out.trans (HB1.out.mono HBW.out.size)⟩
      rw [← HBE.out]
      by_cases h0 : n = 0
      · simp [h0]
      · have : ¬ (n : Int) = 0 := by omega
        simp [h0]
    · have hlb : (low == 0) = false := by simpa using hl0
      go_wp2
      go_ret
      refine ⟨ret_bool ?_, HBW.out.trans (HB1.out.mono HBW.out.size)⟩
      rw [← HBE.out, decide_eq_false hl0]
      rfl
  · rw [if_neg (by omega)] at hb
    obtain ⟨m, hm⟩ : ∃ m, (tidyP low zs).cs.length = m := ⟨_, rfl⟩
    rw [hm] at hb hq ⊢
    obtain ⟨V, hV⟩ : ∃ V, w1.alloc (.cells #[.int .i64 (wrap64 (tidyP low zs).low), .slice a1 m cap1] PT) = V := ⟨_, rfl⟩
    have hbV : Below w1.heap.size w1 V := by rw [← hV]; exact (Below.refl _ _).alloc (Nat.le_refl _) _
    have HD : Hid (∀ w2, Below V.heap.size V w2 → _) := Lib.hid fun w2 (hg : Below V.heap.size V w2) => oneBox hV hg
    have HBV := Lib.hid (HB1.out.trans (hbV.mono hs1))
    obtain ⟨c, hc⟩ : ∃ c, fitsB low zs = c := ⟨_, rfl⟩
    rw [hc] at hb
    have HF := Lib.hid (fits_any low zs a cap n c V (HS.out.below HBV.out) hc)
    have HV := Lib.hid hV
    have hp := HC.out V HBV.out
    rw [← hV] at hp
    obtain ⟨p0, p1⟩ := hp
    have HBE := Lib.hid hb
    clear hV hbV hi1 hm hc hb
    go_wp2_with fail
    rw [HV.out]
    refine HF.out.mono ?_
    rintro e w2 ⟨rfl, hb2⟩
    obtain ⟨q0, q1⟩ := HC.out w2 (HBV.out.trans (hb2.mono HBV.out.size))
    obtain ⟨d0, d1⟩ := HD.out w2 hb2
    have HB2 := Lib.hid (HBW.out.trans ((HBV.out.trans (hb2.mono HBV.out.size)).mono HBW.out.size))
    clear hb2
    cases c with
    | false =>
      go_wp2
      go_ret
      exact ⟨ret_bool (by rw [← HBE.out]; rfl), HB2.out⟩
    | true =>
      have hmn : ((m : Int) = (n : Int)) ↔ m = n := by omega
      go_wp2
      go_ret
      refine ⟨ret_bool ?_, HB2.out⟩
      rw [← HBE.out]
      by_cases h : m = n
      · simp [h]
      · have h2 : ¬ (m : Int) = (n : Int) := by omega
        simp [h, h2]

end Go.Proofs.Ytakfobihakbefaa

/- The program's PolyOf. -/

namespace Go.Proofs.Ytakfobihakbefaa
open Go.RowKit

theorem told_zm (w : World) : (Go.method 242 118 (.agg #[]) "loop.example/foxcalculus/impl.told").run Try.prog w = .ok (149, .agg #[]) w := by kernel_rfl
theorem told_zn (w : World) : (Go.nilAhead 242 118 (.agg #[]) "loop.example/foxcalculus/impl.told").run Try.prog w = .ok (some false) w := by kernel_rfl
theorem told_pm (x y : Value) (w : World) : (Go.method 242 71 (.agg #[x, y]) "loop.example/foxcalculus/impl.told").run Try.prog w = .ok (73, .agg #[x, y]) w := by kernel_rfl
theorem told_pn (x y : Value) (w : World) : (Go.nilAhead 242 71 (.agg #[x, y]) "loop.example/foxcalculus/impl.told").run Try.prog w = .ok (some false) w := by kernel_rfl
/-- What the program tells of what was told apart. -/
theorem told_zero {q : Pl} {c : Bool} (hT : Trim q) (h0 : q.cs.length = 0) (hc : polyB q = c) : c = true ∧ q = ⟨0, []⟩ := by
  obtain ⟨l, cs⟩ := q
  obtain rfl : cs = [] := List.length_eq_zero_iff.1 h0
  rcases hT with ⟨_, h⟩ | ⟨h, _⟩
  · obtain rfl : l = 0 := h
    exact ⟨hc.symm, rfl⟩
  · exact absurd rfl h
theorem polyOfB_fits (low : Int) (zs : List Int) : polyOfB low zs = (fitsB low zs && polyB (tidyP low zs)) := by
  unfold polyOfB fitsB
  cases h : zs.all coefIn with
  | true => cases inR (-300) 300 low <;> cases decide (zs.length ≤ 200) <;> rfl
  | false =>
    obtain ⟨z, hz, hc⟩ := List.all_eq_false.1 h
    obtain ⟨i, hi, rfl⟩ := List.mem_iff_getElem.1 hz
    have hb : polyB (tidyP low zs) = false := tidy_bad (i := i) (by rw [List.getD_eq_getElem?_getD, List.getElem?_eq_getElem hi]; simpa using hc)
    rw [hb]
    cases inR (-300) 300 low <;> cases decide (zs.length ≤ 200) <;> rfl
/-- The answer's cells, laid first, and a polynomial in a box behind them. -/
theorem resBox {w w1 W : World} {t : TypeId} {x y : Value} (hW : (w.alloc (.cells #[.int .i64 0, .slice none 0 0] 25)).alloc (.cells #[x, y] t) = W) (hg : Below W.heap.size W w1) :
    w1.cell? ⟨w.heap.size + 1, 0, none⟩ = some x ∧ w1.cell? ⟨w.heap.size + 1, 1, none⟩ = some y ∧ w1.cell? ⟨w.heap.size, 0, none⟩ = some (.int .i64 0) ∧ w1.cell? ⟨w.heap.size, 1, none⟩ = some (.slice none 0 0) ∧ w1.frozen? ⟨w.heap.size, 0, none⟩ = false ∧ w1.frozen? ⟨w.heap.size, 1, none⟩ = false := by
  have hsz : W.heap.size = w.heap.size + 2 := by rw [← hW]; simp
  obtain ⟨c0, c1⟩ := oneBox hW hg
  obtain ⟨d0, d1, f0, f1⟩ := resCells (w := w) (w1 := w1) (r := w.heap.size) rfl (by
    have h : Below (w.heap.size + 1) (w.alloc (.cells #[.int .i64 0, .slice none 0 0] 25)) W := by rw [← hW]; exact (Below.refl _ _).alloc (by simp) _
    exact h.trans (hg.mono (by omega)))
  rw [World.size_alloc] at c0 c1
  exact ⟨c0, c1, d0, d1, f0, f1⟩
theorem resBoxBelow {w W : World} {t : TypeId} {x y : Value} (hW : (w.alloc (.cells #[.int .i64 0, .slice none 0 0] 25)).alloc (.cells #[x, y] t) = W) : Below w.heap.size w W ∧ W.heap.size = w.heap.size + 2 := by
  subst hW
  exact ⟨((Below.refl _ w).alloc (Nat.le_refl _) _).alloc (by simp) _, by simp⟩

end Go.Proofs.Ytakfobihakbefaa

/- The laws' own helpers for ints and polynomials: szIntS, szPoly, toIntS, toPoly, eqPoly, markPoly, heldPoly. -/

namespace Go.Proofs.Ytakfobihakbefaa
open Go.RowKit

set_option maxHeartbeats 1000000 in
theorem szIntS_any (a : Option Addr) (cap n left : Nat) (w : World) (hm : n ≤ maxLen) (hl : left ≤ 1048576) :
    Calls Try.prog 111 #[.slice a n cap, .int .i64 left] w fun e w' => (∃ k : Int, e = .returned (.int .i64 k) ∧ (k < 0 ∨ (n ≤ left ∧ k = ((left - n : Nat) : Int)))) ∧ w' = w := by
  unfold maxLen at hm
  have hwr : IntKind.i64.wrap ((left : Int) - (n : Int)) = (left : Int) - (n : Int) := IntWalk.i64_in _ (by omega)
  by_cases h : n ≤ left
  · obtain ⟨q, hq⟩ : ∃ q : Nat, left - n = q := ⟨_, rfl⟩
    have hqi : (left : Int) - (n : Int) = (q : Int) := by omega
    rw [hqi] at hwr
    have hd : decide ((q : Int) < 0) = false := decide_eq_false (by omega)
    go_enter Try.func111, Try.ntmps111
    go_wp2
    go_ret
    exact ⟨⟨_, rfl, .inr ⟨h, by rw [hq]⟩⟩, rfl⟩
  · have hlt : (left : Int) - (n : Int) < 0 := by omega
    have hd : decide ((left : Int) - (n : Int) < 0) = true := decide_eq_true hlt
    go_enter Try.func111, Try.ntmps111
    go_wp2
    go_ret
    exact ⟨⟨_, rfl, .inl (by omega)⟩, rfl⟩

set_option maxHeartbeats 1000000 in
theorem szPoly_any (low : Int) (a : Option Addr) (cap n left : Nat) (w : World) (hm : n ≤ maxLen) (hl : left ≤ 1048576) :
    Calls Try.prog 58 #[plV low (.slice a n cap), .int .i64 left] w fun e w' => (∃ k : Int, e = .returned (.int .i64 k) ∧ (k < 0 ∨ (n ≤ left ∧ k = ((left - n : Nat) : Int)))) ∧ Below w.heap.size w w' := by
  go_enter Try.func58, Try.ntmps58
  go_wp2_with fail
  refine (szIntS_any a cap n left _ hm hl).mono ?_
  rintro e w1 ⟨⟨k, rfl, hk⟩, rfl⟩
  by_cases h0 : k < 0
  · have hd : decide (k < 0) = true := decide_eq_true h0
    clear hk
    go_wp2
    go_ret
    exact ⟨⟨_, rfl, .inl (by omega)⟩, (Below.refl _ w).alloc (Nat.le_refl _) _⟩
  · have hd : decide (k < 0) = false := decide_eq_false h0
    have HK := Lib.hid hk
    clear hk
    go_wp2
    go_ret
    exact ⟨⟨_, rfl, HK.out⟩, (Below.refl _ w).alloc (Nat.le_refl _) _⟩

theorem fillI_set (zs : List Int) (n k : Nat) (hl : zs.length = n) (hk : k < n) :
    (intsV (zs.take k ++ List.replicate (n - k) 0)).set k (.int .i64 (zs[k]'(by omega))) = intsV (zs.take (k + 1) ++ List.replicate (n - (k + 1)) 0) := by
  unfold intsV
  rw [List.map_append, List.set_append_right _ _ (by simp; omega), List.length_map, List.length_take, Nat.min_eq_left (by omega), Nat.sub_self, List.take_succ_eq_append_getElem (by omega : k < zs.length), show n - k = (n - (k + 1)) + 1 by omega, List.replicate_succ, List.map_cons, List.set_cons_zero, List.map_append, List.map_append, List.append_assoc]
  rfl

set_option maxRecDepth 100000 in
set_option maxHeartbeats 1000000 in
theorem toIntS_any (a : Option Addr) (cap n : Nat) (zs : List Int) (w : World) (hm : n ≤ 1048576) (hs : Ints w a n zs) :
    Calls Try.prog 112 #[.slice a n cap] w fun e w' =>
      e = .returned (.slice (some ⟨w.heap.size, 0, none⟩) n n) ∧ IntRow w.heap.size w' (.slice (some ⟨w.heap.size, 0, none⟩) n n) zs ∧ Below w.heap.size w w' := by
  obtain ⟨i0, hi, hz0, hz1, hz2⟩ := info_parts infoInt
  have HN := Lib.hid hs.len
  have HS := Lib.hid hs
  unfold IntRow
  rw [hs.len]
  clear hs
  go_enter Try.func112, Try.ntmps112
  go_wp2_with (at_make; refine wpList_make_full _ rfl _ _ 23 rfl w.heap.size 3 i0 (.int .i64 0) 1 Try.underlying23 hi hz0 hz1 .i64 .i64 _ _ n rfl rfl rfl rfl (by rw [hz2]; omega) (by unfold maxLen; omega) (Nat.le_refl _) ?_; intro w1 hrow hgrow)
  rw [show (madeCells (Value.cells (.int .i64 0)) (n * 1)).toList = intsV (zs.take 0 ++ List.replicate (n - 0) 0) by
    rw [show Value.cells (.int .i64 0) = #[.int .i64 0] from rfl, toList_madeCells_one]; simp [intsV]] at hrow
  have hB1 : Below w.heap.size w w1 := (Below.refl _ _).grown hgrow (Nat.le_refl _) (fun k e => by cases e)
  go_loopw [4] (fun i wr => ∃ k : Nat, k ≤ n ∧ i = .int .i64 k ∧ wr.ownsRow w.heap.size 3 1 (.slice (some ⟨w.heap.size, 0, none⟩) n n) n (intsV (zs.take k ++ List.replicate (n - k) 0)) ∧ Below w.heap.size w wr)
    (fun i _ => n - (intOf i).toNat)
  case atStart => exact ⟨0, Nat.zero_le _, rfl, hrow, hB1⟩
  case round =>
    obtain ⟨k, hk, rfl, hr, hB⟩ := hrel
    by_cases hlt : k < n
    · have hkz : k < zs.length := by rw [HN.out]; exact hlt
      obtain ⟨x, rfl, hb, hc⟩ := HS.out.at_ (by omega)
      obtain ⟨s, hs⟩ : ∃ s, zs[k] = s := ⟨_, rfl⟩
      have hsrc : wr.cell? (x.add k) = some (.int .i64 s) := by rw [← hs]; exact (hB.cell (p := x.add k) (by rw [addr_add_block]; exact hb)).trans (hc k hkz)
      have hfil := fillI_set zs n k HN.out hlt
      rw [hs] at hfil
      have hdst : wr.cell? ⟨w.heap.size, k, none⟩ = some (.int .i64 0) := by
        rw [hr.cellAt k (by omega)]
        simp only [intsV, List.getElem?_map]
        rw [List.getElem?_append_right (by simp; omega), List.getElem?_replicate]
        simp
        omega
      have hfr := hr.frozenAt k
      have HR := Lib.hid hr
      have HF := Lib.hid hfil
      have HE := Lib.hid hs
      clear hr hfil hs hc
      go_wp2
      go_roundw
      case rel =>
        have hst := HR.out.stored k (.int .i64 s)
        refine ⟨k + 1, by omega, by go_num, ?_, hB.setCell (p := ⟨w.heap.size, k, none⟩) (Nat.le_refl _) _⟩
        rw [← HF.out]
        exact hst.1
      case measure => simp [intOf]; omega
    · obtain rfl : k = n := by omega
      rw [Nat.sub_self, List.replicate_zero, List.append_nil, List.take_of_length_le (by rw [HN.out]; exact Nat.le_refl _)] at hr
      have HR := Lib.hid hr
      clear hr hrow
      go_wp2
      go_ret
      exact ⟨rfl, HR.out, hB⟩

set_option maxRecDepth 100000 in
set_option maxHeartbeats 2000000 in
theorem toPoly_any (low : Int) (a : Option Addr) (cap n : Nat) (zs : List Int) (w : World) (hm : n ≤ 1048576) (hs : Ints w a n zs) :
    Calls Try.prog 59 #[plV low (.slice a n cap)] w fun e w' => (∃ g, e = .returned (plV low (.slice (some ⟨g, 0, none⟩) n n)) ∧ w.heap.size ≤ g ∧ IntRow w.heap.size w' (.slice (some ⟨g, 0, none⟩) n n) zs) ∧ Below w.heap.size w w' := by
  obtain ⟨W, hW⟩ : ∃ W, ((w.alloc (.cells #[.int .i64 low, .slice a n cap] 50)).alloc (.cells #[.int .i64 0, .slice none 0 0] 25)).alloc (.cells #[.int .i64 low, .slice none 0 0] 25) = W := ⟨_, rfl⟩
  have hsz : W.heap.size = w.heap.size + 3 := by rw [← hW]; simp
  have hbW : Below w.heap.size w W := by rw [← hW]; exact (((Below.refl _ w).alloc (Nat.le_refl _) _).alloc (by simp) _).alloc (by simp; omega) _
  have hk2 : W.heap[w.heap.size + 1 + 1]? = some (.cells #[.int .i64 low, .slice none 0 0] 25 (0, 0)) := by
    have h := World.alloc_heap_new ((w.alloc (.cells #[.int .i64 low, .slice a n cap] 50)).alloc (.cells #[.int .i64 0, .slice none 0 0] 25)) (.cells #[.int .i64 low, .slice none 0 0] 25)
    rw [hW, World.size_alloc, World.size_alloc] at h
    exact h
  have hk1 : W.heap[w.heap.size + 1]? = some (.cells #[.int .i64 0, .slice none 0 0] 25 (0, 0)) := by
    have h := World.alloc_heap_new (w.alloc (.cells #[.int .i64 low, .slice a n cap] 50)) (.cells #[.int .i64 0, .slice none 0 0] 25)
    have g := World.grownBy_alloc ((w.alloc (.cells #[.int .i64 low, .slice a n cap] 50)).alloc (.cells #[.int .i64 0, .slice none 0 0] 25)) (.cells #[.int .i64 low, .slice none 0 0] 25) none
    rw [hW] at g
    rw [World.size_alloc] at h
    exact (g.block (w.heap.size + 1) (by simp) (by simp)).trans h
  have HT := Lib.hid (toIntS_any a cap n zs W hm (hs.below hbW))
  have HBW := Lib.hid hbW
  have HK1 := Lib.hid hk1
  have HK2 := Lib.hid hk2
  have HW := Lib.hid hW
  clear hs hbW hk1 hk2 hW
  go_enter Try.func59, Try.ntmps59
  go_wp2_with fail
  rw [HW.out]
  refine HT.out.mono ?_
  rintro e w1 ⟨rfl, hr1, hb1⟩
  have h1 := (hb1.block (w.heap.size + 1) (by omega)).trans HK1.out
  have h2 := (hb1.block (w.heap.size + 1 + 1) (by omega)).trans HK2.out
  have d0 : w1.cell? ⟨w.heap.size + 1 + 1, 0, none⟩ = some (.int .i64 low) := by simp [World.cell?, h2]
  have d1 : w1.cell? ⟨w.heap.size + 1 + 1, 1, none⟩ = some (.slice none 0 0) := by simp [World.cell?, h2]
  have f0 : w1.frozen? ⟨w.heap.size + 1 + 1, 0, none⟩ = false := by simp [World.frozen?, h2]
  have f1 : w1.frozen? ⟨w.heap.size + 1 + 1, 1, none⟩ = false := by simp [World.frozen?, h2]
  have e0 : w1.cell? ⟨w.heap.size + 1, 0, none⟩ = some (.int .i64 0) := by simp [World.cell?, h1]
  have e1 : w1.cell? ⟨w.heap.size + 1, 1, none⟩ = some (.slice none 0 0) := by simp [World.cell?, h1]
  have g0 : w1.frozen? ⟨w.heap.size + 1, 0, none⟩ = false := by simp [World.frozen?, h1]
  have g1 : w1.frozen? ⟨w.heap.size + 1, 1, none⟩ = false := by simp [World.frozen?, h1]
  have HR := Lib.hid hr1
  have HB1 := Lib.hid (HBW.out.trans (hb1.mono HBW.out.size))
  clear hr1 hb1 h1 h2
  go_wp2
  have q1 : w.heap.size + 1 < W.heap.size := by omega
  have q2 : w.heap.size + 1 + 1 < W.heap.size := by omega
  have r1 : w.heap.size ≤ w.heap.size + 1 := by omega
  have r2 : w.heap.size ≤ w.heap.size + 1 + 1 := by omega
  have hR3 := ownsRow_setCell_below (ownsRow_setCell_below (ownsRow_setCell_below HR.out (a := ⟨w.heap.size + 1 + 1, 1, none⟩) q2 (.slice (some ⟨w.heap.size + 3, 0, none⟩) n n)) (a := ⟨w.heap.size + 1, 0, none⟩) q1 (.int .i64 low)) (a := ⟨w.heap.size + 1, 1, none⟩) q1 (.slice (some ⟨w.heap.size + 3, 0, none⟩) n n)
  have hB3 := ((HB1.out.setCell (p := ⟨w.heap.size + 1 + 1, 1, none⟩) r2 (.slice (some ⟨w.heap.size + 3, 0, none⟩) n n)).setCell (p := ⟨w.heap.size + 1, 0, none⟩) r1 (.int .i64 low)).setCell (p := ⟨w.heap.size + 1, 1, none⟩) r1 (.slice (some ⟨w.heap.size + 3, 0, none⟩) n n)
  rw [hsz] at hR3
  refine bodyPost_ret (v := plV low (.slice (some ⟨w.heap.size + 3, 0, none⟩) n n)) ?_ rfl ⟨⟨w.heap.size + 3, rfl, by omega, IntRow.mono hR3 (by omega)⟩, hB3⟩
  simp [results, Try.results59, go_sem, e0, e1, plV]

set_option maxHeartbeats 2000000 in
theorem eqPoly_yes (b1 b2 : Nat) (low : Int) (v1 v2 : Value) (zs : List Int) (w : World) (h1 : IntRow b1 w v1 zs) (h2 : IntRow b2 w v2 zs) :
    Calls Try.prog 60 #[plV low v1, plV low v2] w fun e w' => e = .returned (.bool true) ∧ Below w.heap.size w w' := by
  have hb : Below w.heap.size w ((w.alloc (.cells #[.int .i64 low, v1] 25)).alloc (.cells #[.int .i64 low, v2] 25)) := ((Below.refl _ w).alloc (Nat.le_refl _) _).alloc (by simp) _
  have H1 := Lib.hid (h1.below hb)
  have H2 := Lib.hid (h2.below hb)
  have HB := Lib.hid hb
  clear h1 h2 hb
  go_enter Try.func60, Try.ntmps60
  go_wp2_with fail
  refine (eqIntS_yes b1 b2 v1 v2 zs _ H1.out H2.out).mono ?_
  rintro e w1 ⟨rfl, hb1⟩
  have HB1 := Lib.hid (HB.out.trans (hb1.mono HB.out.size))
  clear hb1
  go_wp2
  go_ret
  exact ⟨rfl, HB1.out⟩

end Go.Proofs.Ytakfobihakbefaa

/- How PolyOf and the model's answer, for the law; the program's PolyTurned. -/

namespace Go.Proofs.Ytakfobihakbefaa
open Go.RowKit

theorem toIntS_t (a : Option Addr) (cap n : Nat) (zs : List Int) (w : World) (hm : n ≤ 1048576) (hs : Ints w a n zs) :
    Calls Try.prog 112 #[.slice a n cap] w fun e w' => (∃ g, e = .returned (.slice (some ⟨g, 0, none⟩) n n) ∧ w.heap.size ≤ g ∧ IntRow w.heap.size w' (.slice (some ⟨g, 0, none⟩) n n) zs ∧ Ints w' (some ⟨g, 0, none⟩) n zs) ∧ Below w.heap.size w w' := by
  refine (toIntS_any a cap n zs w hm hs).mono ?_
  rintro e w1 ⟨rfl, hr, hb⟩
  obtain ⟨a1, cap1, hv, hi⟩ := hr.read hs.wf
  have hl := hs.len
  subst hl
  simp at hv
  obtain ⟨rfl, _⟩ := hv
  exact ⟨⟨_, rfl, Nat.le_refl _, hr, hi⟩, hb⟩

theorem polyB_len {p : Pl} (h : polyB p = true) : p.cs.length ≤ 200 := (polyB_trim h).2.1
theorem doneP_len {b : Bool} {p q : Pl} (hb : b = true → polyB p = true) (hq : doneP b p = q) : q.cs.length ≤ 200 := by
  subst hq
  cases b with
  | true => exact polyB_len (hb rfl)
  | false => exact Nat.zero_le _
theorem polyOf_fit {w : World} {low : Int} {zs : List Int} {a : Option Addr} {n : Nat} {b : Bool} {p : Pl} (_ : Ints w a n zs) (_ : polyOfB low zs = b) (hp : polyOfP low zs = p) : p.cs.length ≤ 200 := by
  unfold polyOfP at hp
  refine doneP_len (fun h => ?_) hp
  unfold polyOfB at h
  simp only [Bool.and_eq_true] at h
  exact h.2.2
end Go.Proofs.Ytakfobihakbefaa

/- Division, one step after the other (mathematics). -/

namespace Go.Proofs.Ytakfobihakbefaa
open Go.RowKit

/-- What comes out when so many have been found and so much is left. -/
def divFrom (bs qs : List Int) (n : Nat) (left : List Int) : Option (List Int × List Int) := (divGo bs n left).map fun p => (qs ++ p.1, p.2)
theorem divFrom_start (bs : List Int) (n : Nat) (left : List Int) : divFrom bs [] n left = divGo bs n left := by
  unfold divFrom
  cases divGo bs n left with
  | none => rfl
  | some p => rfl
theorem divFrom_step {bs qs left : List Int} {n : Nat} (h : stepB bs left = true) : divFrom bs qs (n + 1) left = divFrom bs (qs ++ [stepQ bs left]) n (subQ (stepQ bs left) bs left).tail := by
  unfold divFrom
  rw [divGo, if_pos h]
  cases divGo bs n (subQ (stepQ bs left) bs left).tail with
  | none => rfl
  | some p => simp
theorem divFrom_fail {bs qs left : List Int} {n : Nat} (h : stepB bs left = false) : divFrom bs qs (n + 1) left = none := by
  unfold divFrom
  rw [divGo, if_neg (by rw [h]; exact Bool.false_ne_true)]
  rfl
theorem divFrom_end (bs qs left : List Int) : divFrom bs qs 0 left = some (qs, left) := by
  unfold divFrom
  simp [divGo]

def LeftOK (left : List Int) : Prop := ∀ i, -4000000000000000000 ≤ left.getD i 0 ∧ left.getD i 0 ≤ 4000000000000000000
theorem step_parts {bs left : List Int} (h : stepB bs left = true) : (left.getD 0 0).tmod (bs.getD 0 0) = 0 ∧ coefIn (stepQ bs left) = true ∧ ∀ i, i < bs.length → leftIn (left.getD i 0 - stepQ bs left * bs.getD i 0) = true := by
  unfold stepB at h
  simp only [Bool.and_eq_true, decide_eq_true_eq, List.all_eq_true, List.mem_range] at h
  exact ⟨h.1, h.2.1, h.2.2⟩
theorem step_yes {bs left : List Int} (h1 : (left.getD 0 0).tmod (bs.getD 0 0) = 0) (h2 : coefIn (stepQ bs left) = true) (h3 : ∀ i, i < bs.length → leftIn (left.getD i 0 - stepQ bs left * bs.getD i 0) = true) : stepB bs left = true := by
  unfold stepB
  simp only [Bool.and_eq_true, decide_eq_true_eq, List.all_eq_true, List.mem_range]
  exact ⟨h1, h2, h3⟩
theorem step_no1 {bs left : List Int} (h1 : ¬ (left.getD 0 0).tmod (bs.getD 0 0) = 0) : stepB bs left = false := by
  cases h : stepB bs left with
  | false => rfl
  | true => exact absurd (step_parts h).1 h1
theorem step_no2 {bs left : List Int} (h2 : coefIn (stepQ bs left) = false) : stepB bs left = false := by
  cases h : stepB bs left with
  | false => rfl
  | true => rw [(step_parts h).2.1] at h2; exact absurd h2 (by decide)
theorem step_no3 {bs left : List Int} {i : Nat} (hi : i < bs.length) (h3 : leftIn (left.getD i 0 - stepQ bs left * bs.getD i 0) = false) : stepB bs left = false := by
  cases h : stepB bs left with
  | false => rfl
  | true => rw [(step_parts h).2.2 i hi] at h3; exact absurd h3 (by decide)
theorem leftIn_yes {z : Int} (h : leftIn z = true) : -4000000000000000000 ≤ z ∧ z ≤ 4000000000000000000 := by
  unfold leftIn inR at h
  simpa using h
theorem step_left {bs left : List Int} (hb : bs.length ≤ left.length) (h : stepB bs left = true) (hl : LeftOK left) : LeftOK (subQ (stepQ bs left) bs left).tail := fun i => by
  rw [tail_get, subQ_get _ _ _ _ hb]
  by_cases hi : i + 1 < bs.length
  · exact leftIn_yes ((step_parts h).2.2 (i + 1) hi)
  · rw [getD_far (l := bs) (by omega), Int.mul_zero, Int.sub_zero]
    exact hl _
theorem step_tail_len {bs left : List Int} (q : Int) {n : Nat} (h : left.length = n + 1) : (subQ q bs left).tail.length = n := by
  rw [List.length_tail, subQ_len, h]
  rfl
theorem step_head {bs left : List Int} (hb : bs.length ≤ left.length) (h : (left.getD 0 0).tmod (bs.getD 0 0) = 0) : (subQ (stepQ bs left) bs left).getD 0 0 = 0 := by
  rw [subQ_get _ _ _ _ hb]
  have e := Int.mul_tdiv_add_tmod (left.getD 0 0) (bs.getD 0 0)
  rw [h, Int.add_zero, Int.mul_comm] at e
  unfold stepQ
  omega
theorem tdiv_size {z b : Int} : -(z.natAbs : Int) ≤ z.tdiv b ∧ z.tdiv b ≤ (z.natAbs : Int) := by
  have h : (z.tdiv b).natAbs ≤ z.natAbs := by
    rw [Int.natAbs_tdiv]
    exact Nat.div_le_self _ _
  omega
theorem tmod_size {z b : Int} : -(z.natAbs : Int) ≤ z.tmod b ∧ z.tmod b ≤ (z.natAbs : Int) := by
  have h : (z.tmod b).natAbs ≤ z.natAbs := by
    rw [Int.natAbs_tmod]
    exact Nat.mod_le _ _
  omega

/-! ### The row in which what is left stands -/
def rowG (i : Nat) (left : List Int) (j : Nat) : Int := if j < i then 0 else left.getD (j - i) 0
def rowF (i k : Nat) (q : Int) (bs left : List Int) (j : Nat) : Int := if j < i then 0 else if j < i + k then left.getD (j - i) 0 - q * bs.getD (j - i) 0 else left.getD (j - i) 0
theorem rowG_zero (left : List Int) (n : Nat) (h : left.length = n) : listN (rowG 0 left) n = left := by
  subst h
  rw [listN_congr (g := fun i => left.getD i 0) (fun i _ => by unfold rowG; rw [if_neg (by omega), Nat.sub_zero]), listN_self]
theorem rowF_zero (i : Nat) (q : Int) (bs left : List Int) (n : Nat) : listN (rowF i 0 q bs left) n = listN (rowG i left) n :=
  listN_congr fun j _ => by
    unfold rowF rowG
    by_cases h : j < i
    · rw [if_pos h, if_pos h]
    · rw [if_neg h, if_neg h, if_neg (by omega)]
theorem rowF_next (i k : Nat) (q : Int) (bs left : List Int) (n : Nat) {x : Int} (hx : left.getD k 0 - q * bs.getD k 0 = x) : (intsV (listN (rowF i k q bs left) n)).set (i + k) (.int .i64 x) = intsV (listN (rowF i (k + 1) q bs left) n) :=
  listN_set (fun j hj => by
    unfold rowF
    by_cases h : j < i
    · rw [if_pos h, if_pos h]
    · rw [if_neg h, if_neg h]
      by_cases h2 : j < i + k
      · rw [if_pos h2, if_pos (by omega)]
      · rw [if_neg h2, if_neg (by omega)]) (by
    unfold rowF
    rw [if_neg (by omega), if_pos (by omega), show i + k - i = k by omega, hx])
theorem rowF_at (i k : Nat) (q : Int) (bs left : List Int) : rowF i k q bs left (i + k) = left.getD k 0 := by
  unfold rowF
  rw [if_neg (by omega), if_neg (by omega), show i + k - i = k by omega]
theorem rowG_at (i k : Nat) (left : List Int) : rowG i left (i + k) = left.getD k 0 := by
  unfold rowG
  rw [if_neg (by omega), show i + k - i = k by omega]
theorem rowF_done (i : Nat) (bs left : List Int) (n : Nat) (hb : bs.length ≤ left.length) (h : (left.getD 0 0).tmod (bs.getD 0 0) = 0) : listN (rowF i bs.length (stepQ bs left) bs left) n = listN (rowG (i + 1) (subQ (stepQ bs left) bs left).tail) n :=
  listN_congr fun j _ => by
    unfold rowF rowG
    by_cases h1 : j < i
    · rw [if_pos h1, if_pos (by omega)]
    · rw [if_neg h1]
      have e : (if j < i + bs.length then left.getD (j - i) 0 - stepQ bs left * bs.getD (j - i) 0 else left.getD (j - i) 0) = (subQ (stepQ bs left) bs left).getD (j - i) 0 := by
        rw [subQ_get _ _ _ _ hb]
        by_cases h2 : j < i + bs.length
        · rw [if_pos h2]
        · rw [if_neg h2, getD_far (l := bs) (by omega), Int.mul_zero, Int.sub_zero]
      rw [e]
      by_cases h3 : j = i
      · subst h3
        rw [if_pos (by omega), Nat.sub_self, step_head hb h]
      · rw [if_neg (by omega), tail_get, show j - (i + 1) + 1 = j - i by omega]
theorem zeroL_yes {l : List Int} (h : ∀ i, i < l.length → l.getD i 0 = 0) : zeroL l = true := by
  unfold zeroL
  rw [List.all_eq_true]
  intro z hz
  obtain ⟨i, hi, rfl⟩ := List.mem_iff_getElem.1 hz
  have := h i hi
  rw [List.getD_eq_getElem?_getD, List.getElem?_eq_getElem hi] at this
  exact decide_eq_true this
theorem zeroL_no {l : List Int} {i : Nat} (h : l.getD i 0 ≠ 0) : zeroL l = false := by
  have hi := getD_lt h
  cases e : zeroL l with
  | false => rfl
  | true =>
    unfold zeroL at e
    rw [List.all_eq_true] at e
    have := e _ (List.getElem_mem hi)
    rw [List.getD_eq_getElem?_getD, List.getElem?_eq_getElem hi] at h
    exact absurd (of_decide_eq_true this) h

theorem trim_nonzero {a : Pl} (h : Trim a) (h0 : 0 < a.cs.length) : a.cs.getD 0 0 ≠ 0 ∧ a.cs.getD (a.cs.length - 1) 0 ≠ 0 := by
  rcases h with ⟨h, _⟩ | ⟨_, h1, h2⟩
  · rw [h] at h0; exact absurd h0 (Nat.lt_irrefl _)
  · exact ⟨h1, h2⟩

/-! ### The answer -/
def dividedB (a b : Pl) : Bool := polyB a && (polyB b && (decide (0 < b.cs.length) && overB a b))
def dividedP (a b : Pl) : Pl := doneP (dividedB a b) (overP a b)
/-- What the answer is when the division has gone through. -/
def outQ (low : Int) : Option (List Int × List Int) → Option Pl
  | some p => if zeroL p.2 then some (tidyP low p.1) else none
  | none => none
theorem overQ_some {a b : Pl} (h : 0 < a.cs.length) : overQ a b = outQ (a.low - b.low) (divGo b.cs (a.cs.length + 1 - b.cs.length) a.cs) := by
  unfold overQ outQ
  rw [if_neg (by omega)] <;> cases divGo b.cs (a.cs.length + 1 - b.cs.length) a.cs <;> rfl
theorem over_none {a b : Pl} (h : overQ a b = none) : overB a b = false ∧ overP a b = ⟨0, []⟩ := by
  unfold overB overP
  rw [h]
  exact ⟨rfl, rfl⟩
theorem over_some {a b p : Pl} (h : overQ a b = some p) : overB a b = polyB p ∧ overP a b = doneP (polyB p) p := by
  unfold overB overP
  rw [h]
  exact ⟨rfl, rfl⟩
theorem divided_fit {w : World} {l1 l2 : Int} {x y : List Int} {a1 a2 : Option Addr} {n1 n2 : Nat} {b : Bool} {p : Pl} (_ : Ints w a1 n1 x) (_ : Ints w a2 n2 y) (_ : dividedB ⟨l1, x⟩ ⟨l2, y⟩ = b) (hp : dividedP ⟨l1, x⟩ ⟨l2, y⟩ = p) : p.cs.length ≤ 200 := by
  unfold dividedP at hp
  refine doneP_len (fun h => ?_) hp
  unfold dividedB at h
  simp only [Bool.and_eq_true] at h
  have h := h.2.2.2
  unfold overB at h
  unfold overP
  cases e : overQ ⟨l1, x⟩ ⟨l2, y⟩ with
  | none => rw [e] at h; exact absurd h (by decide)
  | some q =>
    rw [e] at h
    have h : polyB q = true := h
    show polyB (doneP (polyB q) q) = true
    rw [h]
    exact h

end Go.Proofs.Ytakfobihakbefaa

/- Finite sums; the coefficients of products: they go both ways, share sums, and go in any brackets. -/

namespace Go.Proofs.Ytakfobihakbefaa
open Go.RowKit

def sumN (f : Nat → Int) : Nat → Int
  | 0 => 0
  | n + 1 => sumN f n + f n
theorem sumN_congr {f g : Nat → Int} : ∀ {n : Nat}, (∀ i, i < n → f i = g i) → sumN f n = sumN g n
  | 0, _ => rfl
  | n + 1, h => by rw [sumN, sumN, sumN_congr (fun i hi => h i (by omega)), h n (by omega)]
theorem sumN_zero (n : Nat) : sumN (fun _ => 0) n = 0 := by
  induction n with
  | zero => rfl
  | succ n ih => rw [sumN, ih]; rfl
theorem sumN_none {f : Nat → Int} {n : Nat} (h : ∀ i, i < n → f i = 0) : sumN f n = 0 := by rw [sumN_congr h, sumN_zero]
theorem sumN_add (f g : Nat → Int) (n : Nat) : sumN (fun i => f i + g i) n = sumN f n + sumN g n := by
  induction n with
  | zero => rfl
  | succ n ih => rw [sumN, sumN, sumN, ih]; omega
theorem sumN_mul (c : Int) (f : Nat → Int) (n : Nat) : sumN (fun i => c * f i) n = c * sumN f n := by
  induction n with
  | zero => rw [sumN, sumN, Int.mul_zero]
  | succ n ih => rw [sumN, sumN, ih, Int.mul_add]
theorem sumN_swap (f : Nat → Nat → Int) (m : Nat) : ∀ n, sumN (fun i => sumN (fun j => f i j) m) n = sumN (fun j => sumN (fun i => f i j) n) m
  | 0 => by rw [sumN]; exact (sumN_zero m).symm
  | n + 1 => by
    rw [sumN, sumN_swap f m n, ← sumN_add]
    exact sumN_congr fun j _ => by rw [sumN]
theorem sumN_one {f : Nat → Int} {n k : Nat} (hk : k < n) (h : ∀ i, i < n → i ≠ k → f i = 0) : sumN f n = f k := by
  induction n with
  | zero => omega
  | succ n ih =>
    rw [sumN]
    by_cases e : k = n
    · subst e
      rw [sumN_none (fun i hi => h i (by omega) (by omega))]; omega
    · rw [ih (by omega) (fun i hi hne => h i (by omega) hne), h n (by omega) (Ne.symm e)]; omega
theorem sumN_cut {f : Nat → Int} {m : Nat} : ∀ {n : Nat}, m ≤ n → (∀ i, m ≤ i → i < n → f i = 0) → sumN f n = sumN f m
  | 0, h, _ => by rw [Nat.le_zero.1 h]
  | n + 1, h, hz => by
    by_cases e : m = n + 1
    · rw [e]
    · rw [sumN, hz n (by omega) (by omega), sumN_cut (n := n) (by omega) (fun i h1 h2 => hz i h1 (by omega))]; omega

/-- A polynomial's coefficient as a sum. -/
theorem pat_sum (p : Pl) (k : Int) : pat p k = sumN (fun l => if p.low + (l : Int) = k then p.cs.getD l 0 else 0) p.cs.length := by
  by_cases h : p.low ≤ k ∧ k < p.low + p.cs.length
  · obtain ⟨l, hl⟩ : ∃ l : Nat, k = p.low + (l : Int) := ⟨(k - p.low).toNat, by omega⟩
    subst hl
    rw [pat_at, sumN_one (k := l) (by omega) (fun i _ hne => if_neg (by omega)), if_pos rfl]
  · rw [sumN_none fun i hi => if_neg (by omega)]
    by_cases h1 : k < p.low
    · exact pat_low p h1
    · exact pat_high p (by omega)
/-- The sum of the products of coefficients whose powers add up to k. -/
def mulF (a b : Pl) (k : Int) : Int := sumN (fun m => a.cs.getD m 0 * pat b (k - (a.low + (m : Int)))) a.cs.length
theorem mulF_two (a b : Pl) (k : Int) : mulF a b k = sumN (fun m => sumN (fun l => if a.low + (m : Int) + (b.low + (l : Int)) = k then a.cs.getD m 0 * b.cs.getD l 0 else 0) b.cs.length) a.cs.length := by
  unfold mulF
  refine sumN_congr fun m _ => ?_
  rw [pat_sum, ← sumN_mul]
  refine sumN_congr fun l _ => ?_
  by_cases h : b.low + (l : Int) = k - (a.low + (m : Int))
  · rw [if_pos h, if_pos (by omega)]
  · rw [if_neg h, if_neg (by omega), Int.mul_zero]
theorem mulF_comm (a b : Pl) (k : Int) : mulF a b k = mulF b a k := by
  rw [mulF_two, mulF_two, sumN_swap]
  refine sumN_congr fun l _ => sumN_congr fun m _ => ?_
  by_cases h : a.low + (m : Int) + (b.low + (l : Int)) = k
  · rw [if_pos h, if_pos (by omega), Int.mul_comm]
  · rw [if_neg h, if_neg (by omega)]
theorem mulF_congr {a b c : Pl} (h : ∀ k, pat b k = pat c k) (k : Int) : mulF a b k = mulF a c k := by
  unfold mulF
  exact sumN_congr fun m _ => by rw [h]
theorem mulF_congr1 {a b c : Pl} (h : ∀ k, pat a k = pat b k) (k : Int) : mulF a c k = mulF b c k := by
  rw [mulF_comm, mulF_congr h, mulF_comm]
/-- Products share sums. -/
theorem mulF_sum {a b c d : Pl} {n : Int} (h : ∀ k, pat d k = pat b k + n * pat c k) (k : Int) : mulF a d k = mulF a b k + n * mulF a c k := by
  unfold mulF
  rw [← sumN_mul, ← sumN_add]
  refine sumN_congr fun m _ => ?_
  rw [h, Int.mul_add, Int.mul_left_comm]

theorem convN_sum (x y : List Int) (i : Nat) : ∀ m, convN x y i m = sumN (fun j => if j ≤ i then x.getD j 0 * y.getD (i - j) 0 else 0) m
  | 0 => rfl
  | m + 1 => by rw [convN, sumN, convN_sum x y i m]
theorem prod_pat (a b : Pl) (k : Int) : pat (prodP a b) k = mulF a b k := by
  unfold prodP
  by_cases h0 : a.cs.length = 0 ∨ b.cs.length = 0
  · rw [if_pos h0, pat_nil]
    rcases h0 with h | h
    · unfold mulF; rw [h]; rfl
    · rw [mulF_comm]; unfold mulF; rw [h]; rfl
  · rw [if_neg h0, tidy_pat]
    by_cases h1 : k < a.low + b.low
    · rw [pat_low ⟨_, _⟩ h1]
      refine (sumN_none fun m _ => ?_).symm
      rw [pat_low b (by omega), Int.mul_zero]
    · by_cases h2 : a.low + b.low + ((a.cs.length + b.cs.length - 1 : Nat) : Int) ≤ k
      · rw [pat_high ⟨_, _⟩ (by show a.low + b.low + ((convL a.cs b.cs).length : Int) ≤ k; rw [convL_len]; exact h2)]
        refine (sumN_none fun m hm => ?_).symm
        rw [pat_high b (by omega), Int.mul_zero]
      · obtain ⟨i, hi⟩ : ∃ i : Nat, k = a.low + b.low + (i : Int) := ⟨(k - (a.low + b.low)).toNat, by omega⟩
        subst hi
        have e := pat_at ⟨a.low + b.low, convL a.cs b.cs⟩ i
        rw [show pat ⟨a.low + b.low, convL a.cs b.cs⟩ (a.low + b.low + (i : Int)) = (convL a.cs b.cs).getD i 0 from e, convL_get _ _ _ (by omega), convN_sum]
        unfold mulF
        refine sumN_congr fun m _ => ?_
        by_cases hm : m ≤ i
        · have e2 := pat_at b (i - m)
          rw [if_pos hm, show a.low + b.low + (i : Int) - (a.low + (m : Int)) = b.low + ((i - m : Nat) : Int) by omega, e2]
        · rw [if_neg hm, pat_low b (by omega), Int.mul_zero]
theorem prod_comm (a b : Pl) : prodP a b = prodP b a := trim_unique (prod_trim _ _) (prod_trim _ _) fun k => by rw [prod_pat, prod_pat, mulF_comm]
/-- A polynomial times 1 is itself. -/
theorem prod_one {a : Pl} (ha : Trim a) : prodP a ⟨0, [1]⟩ = a := trim_unique (prod_trim _ _) ha fun k => by
  rw [prod_pat, mulF_comm]
  unfold mulF
  show sumN (fun m => ([1] : List Int).getD m 0 * pat a (k - (0 + (m : Int)))) 1 = _
  rw [sumN, sumN]
  simp

end Go.Proofs.Ytakfobihakbefaa

/- slices.Reverse at ints; the program's end and PolyTurned. -/

namespace Go.Proofs.Ytakfobihakbefaa
open Go.RowKit Go.Shelf

theorem rowPast {w w' : World} {base : Nat} {e : TypeId} {size : Nat} {v : Value} {n : Nat} {xs : List Value} (h : w.ownsRow base e size v n xs) (hb : Below w.heap.size w w') : w'.ownsRow base e size v n xs :=
  h.kept ⟨hb.os, hb.tape, hb.output, hb.size, fun j hj _ => hb.block j hj⟩ (row := none) (by
    rcases h.2 with ⟨rfl, _⟩ | ⟨g, cap, cur, rfl, _⟩
    · exact .inl rfl
    · exact .inr (by simp [Value.ownBlock]))
theorem grownTrans {a b c : World} {row : Option Nat} (h : a.grownBy b row) (k : b.grownBy c row) : a.grownBy c row :=
  ⟨k.os.trans h.os, k.tape.trans h.tape, k.output.trans h.output, Nat.le_trans h.size k.size, fun i hi hne => (k.block i (Nat.lt_of_lt_of_le hi h.size) hne).trans (h.block i hi hne)⟩
theorem grownRefl (a : World) (row : Option Nat) : a.grownBy a row := ⟨rfl, rfl, rfl, Nat.le_refl _, fun _ _ _ => rfl⟩
theorem grownBelow {a b : World} (row : Option Nat) (h : Below a.heap.size a b) : a.grownBy b row := ⟨h.os, h.tape, h.output, h.size, fun i hi _ => h.block i hi⟩

/-- The list with its first i and last i texts exchanged. -/
def SwappedI (zs ys : List Int) (i : Nat) : Prop := ys.length = zs.length ∧ ∀ p, p < zs.length → ys[p]? = if p < i ∨ zs.length - 1 - p < i then zs[zs.length - 1 - p]? else zs[p]?
theorem SwappedI.all {zs ys : List Int} {i : Nat} (h : SwappedI zs ys i) (hi : zs.length ≤ 2 * i + 1) : ys = zs.reverse := by
  refine List.ext_getElem? fun p => ?_
  by_cases hp : p < zs.length
  · rw [h.2 p hp, List.getElem?_reverse hp]
    by_cases hc : p < i ∨ zs.length - 1 - p < i
    · rw [if_pos hc]
    · rw [if_neg hc, show zs.length - 1 - p = p by omega]
  · rw [List.getElem?_eq_none (by rw [h.1]; omega), List.getElem?_eq_none (by rw [List.length_reverse]; omega)]
theorem SwappedI.step {zs ys : List Int} {i j : Nat} (h : SwappedI zs ys i) (hj : j + i + 1 = zs.length) (hij : i < j) {a b : Int} (ha : ys[i]? = some a) (hb : ys[j]? = some b) : SwappedI zs ((ys.set i b).set j a) (i + 1) := by
  have h1 := h.2 i (by omega)
  have h2 := h.2 j (by omega)
  rw [if_neg (by omega)] at h1 h2
  rw [ha] at h1
  rw [hb] at h2
  refine ⟨by rw [List.length_set, List.length_set]; exact h.1, fun p hp => ?_⟩
  by_cases ej : p = j
  · subst ej
    rw [List.getElem?_set_self (by rw [List.length_set, h.1]; exact hp), if_pos (by omega), show zs.length - 1 - p = i by omega]
    exact h1
  · rw [List.getElem?_set_ne (Ne.symm ej)]
    by_cases ei : p = i
    · subst ei
      rw [List.getElem?_set_self (by rw [h.1]; exact hp), if_pos (by omega), show zs.length - 1 - p = j by omega]
      exact h2
    · rw [List.getElem?_set_ne (Ne.symm ei), h.2 p hp]
      by_cases hc : p < i ∨ zs.length - 1 - p < i
      · rw [if_pos hc, if_pos (by omega)]
      · rw [if_neg hc, if_neg (by omega)]

theorem end_any (low : Int) (a : Option Addr) (cap n : Nat) (w : World) (h1 : -1000000000 ≤ low) (h2 : low ≤ 1000000000) (hn : n ≤ 1048576) :
    Calls Try.prog 105 #[plV low (.slice a n cap)] w fun e w' => e = .returned (.int .i64 (low + (n : Int))) ∧ Below w.heap.size w w' := by
  have hwr : IntKind.i64.wrap (low + (n : Int)) = low + (n : Int) := IntWalk.i64_in _ (by omega)
  go_enter Try.func105, Try.ntmps105
  go_wp2
  go_ret
  exact ⟨rfl, (Below.refl _ w).alloc (Nat.le_refl _) _⟩

def turnedPB (p : Pl) : Bool := polyB p && polyB (turnP p)
def turnedP (p : Pl) : Pl := doneP (turnedPB p) (turnP p)

theorem turned_fit {w : World} {low : Int} {zs : List Int} {a : Option Addr} {n : Nat} {b : Bool} {p : Pl} (_ : Ints w a n zs) (_ : turnedPB ⟨low, zs⟩ = b) (hp : turnedP ⟨low, zs⟩ = p) : p.cs.length ≤ 200 := by
  unfold turnedP at hp
  refine doneP_len (fun h => ?_) hp
  unfold turnedPB at h
  simp only [Bool.and_eq_true] at h
  exact h.2
end Go.Proofs.Ytakfobihakbefaa

/- The program's opposite and plain. -/

namespace Go.Proofs.Ytakfobihakbefaa
open Go.RowKit

theorem getD_map {f : Int → Int} (hf : f 0 = 0) (l : List Int) (i : Nat) : (l.map f).getD i 0 = f (l.getD i 0) := by
  rw [List.getD_eq_getElem?_getD, List.getD_eq_getElem?_getD, List.getElem?_map]
  cases l[i]? with
  | none => exact hf.symm
  | some z => rfl
theorem polyB_yes {p : Pl} (h0 : 0 < p.cs.length) (hc : ∀ z ∈ p.cs, coefIn z = true) (hl : p.cs.length ≤ 200) (h1 : -300 ≤ p.low) (h2 : p.low ≤ 300) (hf : p.cs.getD 0 0 ≠ 0) (he : p.cs.getD (p.cs.length - 1) 0 ≠ 0) : polyB p = true := by
  unfold polyB inR
  rw [List.all_eq_true.2 hc, if_neg (by omega), decide_eq_true hl, decide_eq_true h1, decide_eq_true h2, decide_eq_false hf, decide_eq_false he]
  rfl
theorem polyB_coef {p : Pl} (h : polyB p = true) : ∀ z ∈ p.cs, coefIn z = true := by
  unfold polyB at h
  rw [Bool.and_eq_true] at h
  exact List.all_eq_true.1 h.1
theorem plain_polyB {p : Pl} (h : polyB p = true) : polyB (plainP p) = true := by
  obtain ⟨hT, hl, h1, h2, hc⟩ := polyB_trim h
  unfold plainP
  by_cases h0 : p.cs.length = 0
  · rw [if_pos h0]; exact h
  · rw [if_neg h0]
    rcases hT with ⟨h3, _⟩ | ⟨_, hf, he⟩
    · rw [h3] at h0; exact absurd rfl h0
    · refine polyB_yes (by show 0 < (List.map _ p.cs).length; rw [List.length_map]; omega) (fun z hz => ?_) (by show (List.map _ p.cs).length ≤ 200; rw [List.length_map]; exact hl) (by show (-300 : Int) ≤ 0; omega) (by show (0 : Int) ≤ 300; omega) ?_ ?_
      · obtain ⟨y, hy, rfl⟩ := List.mem_map.1 hz
        have := coefIn_yes (polyB_coef h y hy)
        unfold coefIn inR
        split <;> simp <;> omega
      · show (List.map _ p.cs).getD 0 0 ≠ 0
        rw [getD_map (by simp)]
        split <;> omega
      · show (List.map _ p.cs).getD ((List.map _ p.cs).length - 1) 0 ≠ 0
        rw [getD_map (by simp), List.length_map]
        split <;> omega
theorem listN_map (f : Int → Int) (zs : List Int) : listN (fun i => f (zs.getD i 0)) zs.length = zs.map f := by
  refine eq_getD (by rw [listN_len, List.length_map]) fun i hi => ?_
  rw [listN_len] at hi
  rw [listN_get hi, List.getD_eq_getElem?_getD, List.getD_eq_getElem?_getD, List.getElem?_map, List.getElem?_eq_getElem hi]
  rfl

/-- The coefficients turned to their opposites. -/
def oppL (zs : List Int) : List Int := zs.map fun z => -1 * z
theorem oppL_len (zs : List Int) : (oppL zs).length = zs.length := by simp [oppL]

set_option maxRecDepth 100000 in
set_option maxHeartbeats 4000000 in
theorem opposite_any (low : Int) (zs : List Int) (a : Option Addr) (cap n : Nat) (w : World) (hs : Ints w a n zs) (hn : n ≤ 1048576) (hcs : ∀ i, -1000000000 ≤ zs.getD i 0 ∧ zs.getD i 0 ≤ 1000000000) :
    Calls Try.prog 102 #[plV low (.slice a n cap)] w fun e w' => (∃ v, e = .returned (plV low v) ∧ IntRow w.heap.size w' v (oppL zs)) ∧ Below w.heap.size w w' := by
  obtain ⟨W, hW⟩ : ∃ W, (w.alloc (.cells #[.int .i64 low, .slice a n cap] 25)).alloc (.cells #[.int .i64 0, .slice none 0 0] 25) = W := ⟨_, rfl⟩
  obtain ⟨hbW, hsz⟩ := boxResBelow hW
  have HC : Hid (∀ w1, Below W.heap.size W w1 → _) := Lib.hid fun w1 (hg : Below W.heap.size W w1) => boxResCells hW hg
  have HCL := Lib.hid (cloneI_any a cap n zs W (hs.below hbW) hn)
  have HL := Lib.hid hs.len
  have HCS := Lib.hid hcs
  have HBW := Lib.hid hbW
  have HW := Lib.hid hW
  clear hW hbW hs hcs
  go_enter Try.func102, Try.ntmps102
  go_wp2_with fail
  rw [HW.out]
  refine HCL.out.mono ?_
  rintro e w1 ⟨⟨v, rfl, hr⟩, hb1⟩
  have hs1 := hb1.size
  have HB1 := Lib.hid hb1
  obtain ⟨a1, g1, cap1, rfl, _, _, _⟩ := hr.shape
  unfold IntRow at hr
  rw [HL.out] at hr
  rw [HL.out]
  have HR0 : Hid (w1.ownsRow W.heap.size 3 1 (.slice a1 n cap1) n (intsV (listN (fun i => if i < 0 then -zs.getD i 0 else zs.getD i 0) n))) := Lib.hid (by
    have e : listN (fun i => if i < 0 then -zs.getD i 0 else zs.getD i 0) n = zs := by
      rw [← HL.out]
      exact (listN_congr fun i _ => if_neg (Nat.not_lt_zero _)).trans (listN_self zs)
    rw [e]
    exact hr)
  clear hb1 hr
  go_wp2
  go_loopw [10] (fun i wr => ∃ k : Nat, k ≤ n ∧ i = .int .i64 (k : Int) ∧ Hid (wr.ownsRow W.heap.size 3 1 (.slice a1 n cap1) n (intsV (listN (fun i => if i < k then -zs.getD i 0 else zs.getD i 0) n))) ∧ Hid (Below W.heap.size W wr)) (fun i _ => n - (intOf i).toNat)
  case atStart => exact ⟨0, Nat.zero_le _, rfl, HR0, HB1⟩
  case round =>
    obtain ⟨k, hk, rfl, HR, HB⟩ := hrel
    by_cases hlt : k < n
    · obtain ⟨g, rfl, hg⟩ : ∃ g, a1 = some ⟨g, 0, none⟩ ∧ W.heap.size ≤ g := by
        rcases HR.out.2 with ⟨_, e1⟩ | ⟨g, cap1, cur, e0, hg, _⟩
        · omega
        · simp only [Value.slice.injEq] at e0; exact ⟨g, e0.1, hg⟩
      obtain ⟨z, hz⟩ : ∃ z, zs.getD k 0 = z := ⟨_, rfl⟩
      have hb := HCS.out k
      rw [hz] at hb
      obtain ⟨hb1, hb2⟩ := hb
      have hck : wr.cell? ⟨g, k, none⟩ = some (.int .i64 z) := by
        rw [HR.out.cellAt _ (by omega), listN_cell hlt, if_neg (Nat.lt_irrefl _), hz]
      have hfk := HR.out.frozenAt k
      have hwr : IntKind.i64.wrap (-z) = -z := IntWalk.i64_in _ (by omega)
      have HST : Hid ((intsV (listN (fun i => if i < k then -zs.getD i 0 else zs.getD i 0) n)).set k (.int .i64 (-z)) = intsV (listN (fun i => if i < k + 1 then -zs.getD i 0 else zs.getD i 0) n)) := Lib.hid (listN_set (fun i hi => by
        by_cases h : i < k
        · rw [if_pos h, if_pos (by omega)]
        · rw [if_neg h, if_neg (by omega)]) (by rw [if_pos (Nat.lt_succ_self k), hz]))
      clear hz
      go_wp2
      go_roundw
      case rel =>
        have h1 := HR.out.stored k (.int .i64 (-z))
        refine ⟨k + 1, by omega, by go_num, Lib.hid ?_, Lib.hid (HB.out.setCell (p := ⟨g, k, none⟩) hg _)⟩
        rw [← HST.out]
        exact h1.1
      case measure => simp [intOf]; omega
    · obtain rfl : k = n := by omega
      have hr := HR.out
      have HP : Hid (listN (fun i => if i < k then -zs.getD i 0 else zs.getD i 0) k = oppL zs) := Lib.hid (by
        unfold oppL
        rw [← listN_map, HL.out]
        exact listN_congr fun i hi => by rw [if_pos hi]; omega)
      have hR : IntRow W.heap.size wr (.slice a1 k cap1) (oppL zs) := by
        rw [HP.out] at hr
        exact rowI hr (by rw [oppL_len]; exact HL.out)
      have HRR := Lib.hid hR
      obtain ⟨q0, q1, d0, d1, f0, f1⟩ := HC.out _ HB.out
      clear hr hR
      go_wp2
      refine bodyPost_ret (v := plV low (.slice a1 k cap1)) ?_ rfl ⟨⟨_, rfl, ?_⟩, ?_⟩
      · simp [results, Try.results102, go_sem, d0, d1, plV]
      · exact resRow1 (.int .i64 low) (.slice a1 k cap1) HRR.out (by omega)
      · exact resBelow1 (.int .i64 low) (.slice a1 k cap1) (HBW.out.trans (HB.out.mono HBW.out.size))

set_option maxRecDepth 100000 in
set_option maxHeartbeats 4000000 in
theorem plain_any (low : Int) (zs : List Int) (a : Option Addr) (cap n : Nat) (w : World) (hs : Ints w a n zs) (hc : n ≤ cap) (h0 : 0 < n) (hn : n ≤ 1048576) (hcs : ∀ i, -1000000000 ≤ zs.getD i 0 ∧ zs.getD i 0 ≤ 1000000000) :
    Calls Try.prog 72 #[plV low (.slice a n cap)] w fun e w' => (∃ v, e = .returned (plV 0 v) ∧ Reads w' v (plainP ⟨low, zs⟩).cs) ∧ Below w.heap.size w w' := by
  obtain ⟨W, hW⟩ : ∃ W, ((w.alloc (.cells #[.int .i64 low, .slice a n cap] PT)).alloc (.cells #[.int .i64 0, .slice none 0 0] PT)).alloc (.cells #[.int .i64 0, .slice a n cap] 25) = W := ⟨_, rfl⟩
  have hsz : W.heap.size = w.heap.size + 3 := by rw [← hW]; simp
  have hbW : Below w.heap.size w W := by rw [← hW]; exact (((Below.refl _ w).alloc (Nat.le_refl _) _).alloc (by simp) _).alloc (by simp; omega) _
  have HC : Hid (∀ w1, Below W.heap.size W w1 → w1.cell? ⟨w.heap.size, 0, none⟩ = some (.int .i64 low) ∧ w1.cell? ⟨w.heap.size, 1, none⟩ = some (.slice a n cap) ∧ w1.cell? ⟨w.heap.size + 1, 0, none⟩ = some (.int .i64 0) ∧ w1.cell? ⟨w.heap.size + 1, 1, none⟩ = some (.slice none 0 0) ∧ w1.cell? ⟨w.heap.size + 1 + 1, 0, none⟩ = some (.int .i64 0) ∧ w1.cell? ⟨w.heap.size + 1 + 1, 1, none⟩ = some (.slice a n cap) ∧ w1.frozen? ⟨w.heap.size + 1, 0, none⟩ = false ∧ w1.frozen? ⟨w.heap.size + 1, 1, none⟩ = false ∧ w1.frozen? ⟨w.heap.size + 1 + 1, 0, none⟩ = false ∧ w1.frozen? ⟨w.heap.size + 1 + 1, 1, none⟩ = false) := Lib.hid fun w1 hg => by
    have e0 := hg.block w.heap.size (by omega)
    have e1 := hg.block (w.heap.size + 1) (by omega)
    have e2 := hg.block (w.heap.size + 1 + 1) (by omega)
    have k0 : W.heap[w.heap.size]? = some (.cells #[.int .i64 low, .slice a n cap] PT (0, 0)) := by
      rw [← hW, Below.heap_alloc _ _ _ (by simp; omega), Below.heap_alloc _ _ _ (by simp)]
      exact World.alloc_heap_new w _
    have k1 : W.heap[w.heap.size + 1]? = some (.cells #[.int .i64 0, .slice none 0 0] PT (0, 0)) := by
      rw [← hW, Below.heap_alloc _ _ _ (by simp)]
      have h := World.alloc_heap_new (w.alloc (.cells #[.int .i64 low, .slice a n cap] PT)) (.cells #[.int .i64 0, .slice none 0 0] PT)
      rwa [World.size_alloc] at h
    have k2 : W.heap[w.heap.size + 1 + 1]? = some (.cells #[.int .i64 0, .slice a n cap] 25 (0, 0)) := by
      rw [← hW]
      have h := World.alloc_heap_new ((w.alloc (.cells #[.int .i64 low, .slice a n cap] PT)).alloc (.cells #[.int .i64 0, .slice none 0 0] PT)) (.cells #[.int .i64 0, .slice a n cap] 25)
      rwa [World.size_alloc, World.size_alloc] at h
    rw [k0] at e0
    rw [k1] at e1
    rw [k2] at e2
    refine ⟨?_, ?_, ?_, ?_, ?_, ?_, ?_, ?_, ?_, ?_⟩ <;> simp [World.cell?, World.frozen?, e0, e1, e2]
  have HS := Lib.hid hs
  have HSW := Lib.hid (hs.below hbW)
  have HL := Lib.hid hs.len
  have HCS := Lib.hid hcs
  have HBW := Lib.hid hbW
  have HW := Lib.hid hW
  obtain ⟨x, rfl, hxb, hx⟩ := hs.at_ h0
  have hz0 := hx 0 (by rw [hs.len]; exact h0)
  have hz1 : W.cell? (x.add 0) = some (.int .i64 (zs[0]'(by rw [hs.len]; exact h0))) := (hbW.cell (p := x.add 0) (by rw [addr_add_block]; exact hxb)).trans hz0
  rw [show x.add 0 = x by simp [Addr.add]] at hz1
  obtain ⟨z0, hz⟩ : ∃ z, zs.getD 0 0 = z := ⟨_, rfl⟩
  have hzz : zs[0]'(by rw [hs.len]; exact h0) = z0 := by rw [← hz, List.getD_eq_getElem?_getD, List.getElem?_eq_getElem (by rw [hs.len]; exact h0)]; rfl
  rw [hzz] at hz1
  have HZ := Lib.hid hz
  have h0i : (0 : Int) < (n : Int) := by omega
  have hsW := hbW.size
  obtain ⟨q0, q1, r0, r1, d0, d1, f0, f1, g0, g1⟩ := HC.out W (Below.refl _ _)
  clear hW hbW hs hcs hx hxb hz0 hz hzz
  go_enter Try.func72, Try.ntmps72
  by_cases hneg : z0 < 0
  · have hnd : decide (z0 < 0) = true := decide_eq_true hneg
    go_wp2_with (first | rw [HW.out] | fail)
    refine (opposite_any 0 zs (some x) cap n W HSW.out hn HCS.out).mono ?_
    rintro e w1 ⟨⟨v, rfl, hr⟩, hb1⟩
    obtain ⟨q0, q1, r0, r1, d0, d1, f0, f1, g0, g1⟩ := HC.out w1 hb1
    have HP : Hid ((plainP ⟨low, zs⟩).cs = oppL zs) := Lib.hid (by
      unfold plainP oppL
      rw [if_neg (by show ¬ zs.length = 0; rw [HL.out]; omega)]
      show zs.map (fun z => (if zs.getD 0 0 < 0 then -1 else 1) * z) = _
      rw [if_pos (by rw [HZ.out]; exact hneg)])
    have hbd : ∀ z ∈ oppL zs, -9223372036854775808 ≤ z ∧ z ≤ 9223372036854775807 := fun z hz => by
      obtain ⟨y, hy, rfl⟩ := List.mem_map.1 hz
      obtain ⟨i, hi, rfl⟩ := List.getElem_of_mem hy
      have := HCS.out i
      rw [List.getD_eq_getElem?_getD, List.getElem?_eq_getElem hi, Option.getD_some] at this
      omega
    obtain ⟨a2, cap2, rfl, _, _⟩ := hr.readc hbd
    have HR := Lib.hid hr
    have HB1 := Lib.hid hb1
    have HBD := Lib.hid hbd
    obtain ⟨r, hr⟩ : ∃ r, (oppL zs).length = r := ⟨_, rfl⟩
    have HRL := Lib.hid hr
    rw [hr] at HR ⊢
    clear hb1 hbd hr
    go_wp2
    have hrow := ownsRow_setCell_below (ownsRow_setCell_below (ownsRow_setCell_below (ownsRow_setCell_below HR.out (a := ⟨w.heap.size + 1 + 1, 0, none⟩) (by show w.heap.size + 1 + 1 < W.heap.size; omega) (.int .i64 0)) (a := ⟨w.heap.size + 1 + 1, 1, none⟩) (by show w.heap.size + 1 + 1 < W.heap.size; omega) (.slice a2 r cap2)) (a := ⟨w.heap.size + 1, 0, none⟩) (by show w.heap.size + 1 < W.heap.size; omega) (.int .i64 0)) (a := ⟨w.heap.size + 1, 1, none⟩) (by show w.heap.size + 1 < W.heap.size; omega) (.slice a2 r cap2)
    have hbel := ((((HBW.out.trans (HB1.out.mono HBW.out.size)).setCell (p := ⟨w.heap.size + 1 + 1, 0, none⟩) (by show w.heap.size ≤ w.heap.size + 1 + 1; omega) (.int .i64 0)).setCell (p := ⟨w.heap.size + 1 + 1, 1, none⟩) (by show w.heap.size ≤ w.heap.size + 1 + 1; omega) (.slice a2 r cap2)).setCell (p := ⟨w.heap.size + 1, 0, none⟩) (by show w.heap.size ≤ w.heap.size + 1; omega) (.int .i64 0)).setCell (p := ⟨w.heap.size + 1, 1, none⟩) (by show w.heap.size ≤ w.heap.size + 1; omega) (.slice a2 r cap2)
    refine bodyPost_ret (v := plV 0 (.slice a2 r cap2)) ?_ rfl ⟨⟨_, rfl, ?_⟩, hbel⟩
    · simp [results, Try.results72, go_sem, r0, r1, plV]
    · rw [HP.out]
      exact IntRow.reads hrow HBD.out
  · have hnd : decide (z0 < 0) = false := decide_eq_false hneg
    have HP : Hid ((plainP ⟨low, zs⟩).cs = zs) := Lib.hid (by
      unfold plainP
      rw [if_neg (by show ¬ zs.length = 0; rw [HL.out]; omega)]
      show zs.map (fun z => (if zs.getD 0 0 < 0 then -1 else 1) * z) = _
      rw [if_neg (by rw [HZ.out]; exact hneg), ← listN_map]
      exact (listN_congr fun i _ => Int.one_mul _).trans (listN_self zs))
    go_wp2_with (first | rw [HW.out] | fail)
    have hbel := (HBW.out.setCell (p := ⟨w.heap.size + 1, 0, none⟩) (by show w.heap.size ≤ w.heap.size + 1; omega) (.int .i64 0)).setCell (p := ⟨w.heap.size + 1, 1, none⟩) (by show w.heap.size ≤ w.heap.size + 1; omega) (.slice (some x) n cap)
    refine bodyPost_ret (v := plV 0 (.slice (some x) n cap)) ?_ rfl ⟨⟨_, rfl, ?_⟩, hbel⟩
    · simp [results, Try.results72, go_sem, r0, r1, plV]
    · rw [HP.out]
      refine ⟨some x, cap, by rw [HL.out], by rw [HL.out]; exact hc, ?_⟩
      rw [HL.out]
      exact HS.out.below hbel

end Go.Proofs.Ytakfobihakbefaa

/- The program's PolyPlain and PolyOne. -/

namespace Go.Proofs.Ytakfobihakbefaa
open Go.RowKit

theorem plain_low {p : Pl} (h : 0 < p.cs.length) : (plainP p).low = 0 := by unfold plainP; rw [if_neg (by omega)]
theorem plain_len (p : Pl) : (plainP p).cs.length = p.cs.length := by
  unfold plainP
  split
  · rfl
  · exact List.length_map _

set_option maxRecDepth 100000 in
set_option maxHeartbeats 4000000 in
theorem iPolyPlain_any (low : Int) (zs : List Int) (a : Option Addr) (cap n : Nat) (b : Bool) (w : World) (hs : Ints w a n zs) (hcap : n ≤ cap) (hb : polyB ⟨low, zs⟩ = b) :
    Calls Try.prog 25 #[plV low (.slice a n cap)] w fun e w' => (∃ v, e = .returned (.tuple #[plV (doneP b (plainP ⟨low, zs⟩)).low v, .bool b]) ∧ IntRow w.heap.size w' v (doneP b (plainP ⟨low, zs⟩)).cs) ∧ Below w.heap.size w w' := by
  have hY := assert_yes
  have hN := assert_no
  obtain ⟨W, hW⟩ : ∃ W, (w.alloc (.cells #[.int .i64 low, .slice a n cap] 25)).alloc (.cells #[.int .i64 0, .slice none 0 0] 25) = W := ⟨_, rfl⟩
  obtain ⟨hbW, hsz⟩ := boxTBelow hW
  have HC : Hid (∀ w1, Below W.heap.size W w1 → _) := Lib.hid fun w1 (hg : Below W.heap.size W w1) => boxT hW hg
  have HP := Lib.hid (iPolyIn_any low zs a cap n b W (hs.below hbW) hcap hb)
  have HS := Lib.hid (hs.below hbW)
  have HL := Lib.hid hs.len
  have HB := Lib.hid hb
  have HBW := Lib.hid hbW
  have HW := Lib.hid hW
  clear hW hbW hs hb
  go_enter Try.func25, Try.ntmps25
  go_wp2_with fail
  rw [HW.out]
  refine HP.out.mono ?_
  rintro e w1 ⟨rfl, hb1⟩
  obtain ⟨q0, q1, d0, d1, f0, f1⟩ := HC.out w1 hb1
  have hs1 := hb1.size
  have HB1 := Lib.hid hb1
  clear hb1
  cases b with
  | false =>
    go_wp2
    refine bodyPost_ret (v := .tuple #[plV 0 (.slice none 0 0), .bool false]) ?_ rfl ⟨⟨_, rfl, intNil _ _⟩, resBelow1 (.int .i64 0) (.slice none 0 0) (HBW.out.trans (HB1.out.mono HBW.out.size))⟩
    simp [results, Try.results25, go_sem, d0, d1, plV]
  | true =>
    obtain ⟨hT, h200, hlo, hhi, hcs⟩ := polyB_trim HB.out
    have hn2 : n ≤ 200 := by rw [← HL.out]; exact h200
    have hlo1 : -300 ≤ low := hlo
    have hhi1 : low ≤ 300 := hhi
    have HSF : Hid (tidyP low zs = ⟨low, zs⟩) := Lib.hid (tidy_self hT)
    have HCS : Hid (∀ i, -1000000000 ≤ zs.getD i 0 ∧ zs.getD i 0 ≤ 1000000000) := Lib.hid hcs
    have HA := Lib.hid (apart_in low zs a cap n w1 (HS.out.below HB1.out) hcap (by omega) (by omega) (by omega))
    clear hcs h200 hlo hhi hT
    go_wp2_with fail
    refine HA.out.mono ?_
    rintro e w2 ⟨⟨v, rfl, hA⟩, hb2⟩
    rw [HSF.out] at hA
    have hs2 := hb2.size
    have HB2 := Lib.hid (HB1.out.trans (hb2.mono hs1))
    obtain ⟨_, _, d0, d1, f0, f1⟩ := HC.out w2 HB2.out
    clear hb2
    rcases hA with ⟨hq, rfl⟩ | ⟨hq, a1, cap1, rfl, hc1, hi1⟩
    · have hz : zs = [] := List.length_eq_zero_iff.1 hq
      have hl : low = 0 := by
        have hT := (polyB_trim HB.out).1
        rcases hT with ⟨_, h⟩ | ⟨h, _⟩
        · exact h
        · exact absurd hz h
      subst hl
      subst hz
      clear hq
      go_wp2
      refine bodyPost_ret (v := .tuple #[plV 0 (.slice none 0 0), .bool true]) ?_ rfl ⟨⟨_, rfl, intNil _ _⟩, resBelow1 (.int .i64 0) (.slice none 0 0) (HBW.out.trans (HB2.out.mono HBW.out.size))⟩
      simp [results, Try.results25, go_sem, d0, d1, plV]
    · have hq0 : 0 < zs.length := hq
      have hlz : zs.length = n := HL.out
      obtain ⟨V, hV⟩ : ∃ V, w2.alloc (.cells #[.int .i64 low, .slice a1 n cap1] PT) = V := ⟨_, rfl⟩
      have hbV : Below w2.heap.size w2 V := by rw [← hV]; exact (Below.refl _ _).alloc (Nat.le_refl _) _
      have hsV := hbV.size
      have HBV := Lib.hid (HB2.out.trans (hbV.mono (by omega)))
      have hi2 : Ints w2 a1 n zs := by have h : Ints w2 a1 zs.length zs := hi1; rwa [hlz] at h
      have HPL := Lib.hid (plain_any low zs a1 cap1 n V (hi2.below hbV) (Nat.le_trans (Nat.le_of_eq hlz.symm) (by assumption)) (by omega) (by omega) HCS.out)
      rw [show (⟨low, zs⟩ : Pl).cs.length = n from hlz]
      have HV := Lib.hid hV
      clear hV hbV hi1 hi2
      go_wp2_with fail
      rw [HV.out]
      refine HPL.out.mono ?_
      rintro e w3 ⟨⟨v, rfl, hr⟩, hb3⟩
      have hs3 := hb3.size
      have HB3 := Lib.hid (HBV.out.trans (hb3.mono (by omega)))
      have hPB : polyB (plainP ⟨low, zs⟩) = true := plain_polyB HB.out
      have hPL : (plainP ⟨low, zs⟩).low = 0 := plain_low hq0
      obtain ⟨a3, cap3, rfl, hc3, hi3⟩ := hr
      have hF : fitsB 0 (plainP ⟨low, zs⟩).cs = true := by
        have h := fits_polyB (polyB_trim hPB).1 (by rw [plain_len]; exact hq0)
        rwa [hPL, hPB] at h
      have HTO := Lib.hid (toldP_any 0 (plainP ⟨low, zs⟩).cs a3 cap3 _ true w3 hi3 hF)
      have HPLL := Lib.hid hPL
      clear hb3 hi3 hPB hPL hF
      go_wp2_with fail
      refine HTO.out.mono ?_
      rintro e w4 ⟨⟨v, rfl, hr⟩, hb4⟩
      have hr : IntRow w3.heap.size w4 v (plainP ⟨low, zs⟩).cs := hr
      obtain ⟨_, _, d0, d1, f0, f1⟩ := HC.out w4 (HB3.out.trans (hb4.mono (by omega)))
      have HR := Lib.hid hr
      have HB4 := Lib.hid (HBW.out.trans ((HB3.out.trans (hb4.mono (by omega))).mono HBW.out.size))
      obtain ⟨g4, gg, cap4, rfl, _⟩ := hr.shape
      clear hr hb4
      go_wp2
      refine bodyPost_ret (v := .tuple #[plV 0 (.slice g4 (plainP ⟨low, zs⟩).cs.length cap4), .bool true]) ?_ rfl ⟨⟨.slice g4 (plainP ⟨low, zs⟩).cs.length cap4, ?_, resRow1 (.int .i64 0) (.slice g4 (plainP ⟨low, zs⟩).cs.length cap4) HR.out (by omega)⟩, resBelow1 (.int .i64 0) (.slice g4 (plainP ⟨low, zs⟩).cs.length cap4) HB4.out⟩
      · simp [results, Try.results25, go_sem, d0, d1, plV, doneP]
      · show _ = Ending.returned (.tuple #[plV (plainP ⟨low, zs⟩).low _, .bool true])
        rw [HPLL.out]

def plainedP (p : Pl) : Pl := doneP (polyB p) (plainP p)
theorem plained_fit {w : World} {low : Int} {zs : List Int} {a : Option Addr} {n : Nat} {b : Bool} {p : Pl} (_ : Ints w a n zs) (_ : polyB ⟨low, zs⟩ = b) (hp : plainedP ⟨low, zs⟩ = p) : p.cs.length ≤ 200 :=
  doneP_len plain_polyB hp
theorem sPolyPlain_law {low : Int} {zs : List Int} {a : Option Addr} {n : Nat} {b : Bool} {pl : Int} {pc : List Int} {w : World} (hs : Ints w a n zs) (hb : polyB ⟨low, zs⟩ = b) (hp : plainedP ⟨low, zs⟩ = ⟨pl, pc⟩) :
    Calls Try.prog 26 #[plV low (.slice a n n)] w fun e w' => (∃ v, e = .returned (.tuple #[plV pl v, .bool b]) ∧ IntRow w.heap.size w' v pc) ∧ Below w.heap.size w w' := by
  have h := sPolyPlain_any low zs a n n b w hs hb
  unfold plainedP at hp
  rwa [← hb, hp, hb] at h
theorem iPolyPlain_law {low : Int} {zs : List Int} {a : Option Addr} {n : Nat} {b : Bool} {pl : Int} {pc : List Int} {w : World} (hs : Ints w a n zs) (hb : polyB ⟨low, zs⟩ = b) (hp : plainedP ⟨low, zs⟩ = ⟨pl, pc⟩) :
    Calls Try.prog 25 #[plV low (.slice a n n)] w fun e w' => (∃ v, e = .returned (.tuple #[plV pl v, .bool b]) ∧ IntRow w.heap.size w' v pc) ∧ Below w.heap.size w w' := by
  have h := iPolyPlain_any low zs a n n b w hs (Nat.le_refl _) hb
  unfold plainedP at hp
  rwa [← hb, hp, hb] at h

end Go.Proofs.Ytakfobihakbefaa

/- min and max of ints; the model's l6pSum. -/

namespace Go.Proofs.Ytakfobihakbefaa
open Go.RowKit

theorem min_int (x y : Int) (W : World) : (Builtin.min_ #[3, 3] 3 #[.int .i64 x, .int .i64 y]).run Try.prog W = .ok (.int .i64 (if x ≤ y then x else y)) W := by
  by_cases h : x ≤ y
  · rw [if_pos h]; simp [Builtin.min_, Builtin.min2, go_sem]; omega
  · rw [if_neg h]; simp [Builtin.min_, Builtin.min2, go_sem]; omega
theorem max_int (x y : Int) (W : World) : (Builtin.max_ #[3, 3] 3 #[.int .i64 x, .int .i64 y]).run Try.prog W = .ok (.int .i64 (if y ≤ x then x else y)) W := by
  by_cases h : y ≤ x
  · rw [if_pos h]; simp [Builtin.max_, Builtin.max2, go_sem]; omega
  · rw [if_neg h]; simp [Builtin.max_, Builtin.max2, go_sem]; omega

/-- Two boxes and the answer's cells behind them. -/
theorem boxes3 {w w1 W : World} {t1 t2 t3 : TypeId} {x y u v : Value} (hW : ((w.alloc (.cells #[x, y] t1)).alloc (.cells #[u, v] t2)).alloc (.cells #[.int .i64 0, .slice none 0 0] t3) = W) (hg : Below W.heap.size W w1) :
    (w1.cell? ⟨w.heap.size, 0, none⟩ = some x ∧ w1.cell? ⟨w.heap.size, 1, none⟩ = some y) ∧ (w1.cell? ⟨w.heap.size + 1, 0, none⟩ = some u ∧ w1.cell? ⟨w.heap.size + 1, 1, none⟩ = some v) ∧ (w1.cell? ⟨w.heap.size + 2, 0, none⟩ = some (.int .i64 0) ∧ w1.cell? ⟨w.heap.size + 2, 1, none⟩ = some (.slice none 0 0) ∧ w1.frozen? ⟨w.heap.size + 2, 0, none⟩ = false ∧ w1.frozen? ⟨w.heap.size + 2, 1, none⟩ = false) := by
  have hsz : W.heap.size = w.heap.size + 3 := by rw [← hW]; simp
  have e0 := hg.block w.heap.size (by omega)
  have e1 := hg.block (w.heap.size + 1) (by omega)
  have e2 := hg.block (w.heap.size + 2) (by omega)
  have c0 : W.heap[w.heap.size]? = some (.cells #[x, y] t1 (0, 0)) := by
    rw [← hW, Below.heap_alloc _ _ _ (by simp; omega), Below.heap_alloc _ _ _ (by simp)]
    exact World.alloc_heap_new w _
  have c1 : W.heap[w.heap.size + 1]? = some (.cells #[u, v] t2 (0, 0)) := by
    rw [← hW, Below.heap_alloc _ _ _ (by simp)]
    have h := World.alloc_heap_new (w.alloc (.cells #[x, y] t1)) (.cells #[u, v] t2)
    rwa [World.size_alloc] at h
  have c2 : W.heap[w.heap.size + 2]? = some (.cells #[.int .i64 0, .slice none 0 0] t3 (0, 0)) := by
    rw [← hW]
    have h := World.alloc_heap_new ((w.alloc (.cells #[x, y] t1)).alloc (.cells #[u, v] t2)) (.cells #[.int .i64 0, .slice none 0 0] t3)
    rwa [World.size_alloc, World.size_alloc] at h
  rw [c0] at e0
  rw [c1] at e1
  rw [c2] at e2
  refine ⟨⟨?_, ?_⟩, ⟨?_, ?_⟩, ?_, ?_, ?_, ?_⟩ <;> simp [World.cell?, World.frozen?, e0, e1, e2]
theorem boxes3Below {w W : World} {t1 t2 t3 : TypeId} {x y u v : Value} (hW : ((w.alloc (.cells #[x, y] t1)).alloc (.cells #[u, v] t2)).alloc (.cells #[.int .i64 0, .slice none 0 0] t3) = W) : Below w.heap.size w W ∧ W.heap.size = w.heap.size + 3 := by
  subst hW
  exact ⟨(((Below.refl _ w).alloc (Nat.le_refl _) _).alloc (by simp) _).alloc (by simp; omega) _, by simp⟩
theorem resRow2 {w2 : World} {r base : Nat} {v : Value} {zs : List Int} (x y : Value) (h : IntRow base w2 v zs) (hb : r + 2 < base) : IntRow r ((w2.setCell ⟨r + 2, 0, none⟩ x).setCell ⟨r + 2, 1, none⟩ y) v zs :=
  IntRow.mono (resRow (r := r + 2) x y h hb) (by omega)
theorem resBelow2 {w w2 : World} {r : Nat} (x y : Value) (h : Below r w w2) : Below r w ((w2.setCell ⟨r + 2, 0, none⟩ x).setCell ⟨r + 2, 1, none⟩ y) :=
  (h.setCell (p := ⟨r + 2, 0, none⟩) (Nat.le_add_right _ _) x).setCell (p := ⟨r + 2, 1, none⟩) (Nat.le_add_right _ _) y

set_option maxRecDepth 100000 in
set_option maxHeartbeats 8000000 in
theorem l6pSum_some (l1 l2 m : Int) (x y : List Int) (a1 a2 : Option Addr) (c1 c2 n1 n2 : Nat) (w : World) (h1 : Ints w a1 n1 x) (h2 : Ints w a2 n2 y) (h0 : 0 < n2)
    (hl1 : -100000 ≤ l1 ∧ l1 ≤ 100000) (hl2 : -100000 ≤ l2 ∧ l2 ≤ 100000) (hn1 : n1 ≤ 100000) (hn2 : n2 ≤ 100000)
    (hx : ∀ i, -4000000000000000000 ≤ x.getD i 0 ∧ x.getD i 0 ≤ 4000000000000000000) (hy : ∀ i, -4000000000000000000 ≤ m * y.getD i 0 ∧ m * y.getD i 0 ≤ 4000000000000000000) :
    Calls Try.prog 104 #[plV l1 (.slice a1 n1 c1), .int .i64 m, plV l2 (.slice a2 n2 c2)] w fun e w' => (∃ v, e = .returned (plV (sumP ⟨l1, x⟩ m ⟨l2, y⟩).low v) ∧ IntRow w.heap.size w' v (sumP ⟨l1, x⟩ m ⟨l2, y⟩).cs) ∧ Below w.heap.size w w' := by
  obtain ⟨i0, hi, hz0, hz1, hz2⟩ := info_parts infoInt
  have hmx : Try.prog.follows .mixedOrders = true := by kernel_rfl
  obtain ⟨W, hW⟩ : ∃ W, ((w.alloc (.cells #[.int .i64 l1, .slice a1 n1 c1] 25)).alloc (.cells #[.int .i64 l2, .slice a2 n2 c2] 25)).alloc (.cells #[.int .i64 0, .slice none 0 0] 25) = W := ⟨_, rfl⟩
  obtain ⟨hbW, hsz⟩ := boxes3Below hW
  have HC : Hid (∀ w1, Below W.heap.size W w1 → _) := Lib.hid fun w1 (hg : Below W.heap.size W w1) => boxes3 hW hg
  have hC := boxes3 hW (Below.refl _ _)
  rw [← hW] at hC
  obtain ⟨⟨p0, p1⟩, ⟨q0, q1⟩, _⟩ := hC
  obtain ⟨LO, hLO⟩ : ∃ LO, sumLow ⟨l1, x⟩ ⟨l2, y⟩ = LO := ⟨_, rfl⟩
  obtain ⟨HI, hHI⟩ : ∃ HI, sumHigh ⟨l1, x⟩ ⟨l2, y⟩ = HI := ⟨_, rfl⟩
  have hx1 := h1.len
  have hx2 := h2.len
  have hLO2 : LO = if n1 = 0 then l2 else (if l2 ≤ l1 then l2 else l1) := by rw [← hLO]; unfold sumLow; show (if x.length = 0 then _ else _) = _; rw [hx1]
  have hHI2 : HI = if n1 = 0 then l2 + n2 else (if l1 + n1 ≤ l2 + n2 then l2 + n2 else l1 + n1) := by rw [← hHI]; unfold sumHigh; show (if x.length = 0 then l2 + (y.length : Int) else if l1 + (x.length : Int) ≤ l2 + (y.length : Int) then l2 + (y.length : Int) else l1 + (x.length : Int)) = _; rw [hx1, hx2]
  have hLr : LO ≤ l2 ∧ (n1 = 0 ∨ LO ≤ l1) ∧ l2 + n2 ≤ HI ∧ (n1 = 0 ∨ l1 + n1 ≤ HI) ∧ -100000 ≤ LO ∧ HI ≤ 200000 := by
    rw [hLO2, hHI2]
    by_cases e : n1 = 0
    · rw [if_pos e, if_pos e]; omega
    · rw [if_neg e, if_neg e]
      refine ⟨?_, ?_, ?_, ?_, ?_, ?_⟩ <;> split <;> omega
  have HLO := Lib.hid hLO2
  have HHI := Lib.hid hHI2
  have HLO1 := Lib.hid hLO
  have HHI1 := Lib.hid hHI
  have H1 := Lib.hid (h1.below hbW)
  have H2 := Lib.hid (h2.below hbW)
  have HN1 := Lib.hid hx1
  have HN2 := Lib.hid hx2
  have HX := Lib.hid hx
  have HY := Lib.hid hy
  have HBW := Lib.hid hbW
  have HW := Lib.hid hW
  have h0i : ¬ (n2 : Int) = 0 := by omega
  have h0b : ((n2 : Int) == 0) = false := by simpa using h0i
  have hwe : IntKind.i64.wrap (l2 + (n2 : Int)) = l2 + (n2 : Int) := IntWalk.i64_in _ (by omega)
  have hwe1 : IntKind.i64.wrap (l1 + (n1 : Int)) = l1 + (n1 : Int) := IntWalk.i64_in _ (by omega)
  obtain ⟨hr1, hr2, hr3, hr4, hr5, hr6⟩ := hLr
  have hwN : IntKind.i64.wrap (HI - LO) = ((HI - LO).toNat : Int) := by rw [IntWalk.i64_in _ (by omega)]; omega
  obtain ⟨N, hN⟩ : ∃ N, (HI - LO).toNat = N := ⟨_, rfl⟩
  rw [hN] at hwN
  have hNb : N ≤ 300000 := by omega
  have hNI : (N : Int) = HI - LO := by omega
  have HNI := Lib.hid hNI
  have HNN := Lib.hid hN
  have HSZ := Lib.hid hsz
  clear hW hbW h1 h2 hx hy hLO hHI hLO2 hHI2 hx1 hx2 hN hNI hsz
  go_enter Try.func104, Try.ntmps104
  go_upto_if 28 with fail
  rw [HW.out]
  go_cut [7, 8] (fun s7 s8 wx => s7 = .int .i64 LO ∧ s8 = .int .i64 HI ∧ wx = W)
  case first =>
    obtain ⟨⟨p0, p1⟩, ⟨q0, q1⟩, _⟩ := HC.out W (Below.refl _ _)
    by_cases hn0 : n1 = 0
    · have hd : decide ((0 : Int) < (n1 : Int)) = false := decide_eq_false (by omega)
      go_wp2_with fail
      go_meet
      exact ⟨by rw [HLO.out, if_pos hn0], by rw [HHI.out, if_pos hn0], rfl⟩
    · have hd : decide ((0 : Int) < (n1 : Int)) = true := decide_eq_true (by omega)
      have hdi : (0 : Int) < (n1 : Int) := by omega
      have hmin : ∀ V : World, (Builtin.min_ #[3, 3] 3 #[.int .i64 l2, .int .i64 l1]).run Try.prog V = .ok (.int .i64 LO) V := fun V => by rw [min_int, HLO.out, if_neg hn0]
      have hmax : ∀ V : World, (Builtin.max_ #[3, 3] 3 #[.int .i64 (l2 + (n2 : Int)), .int .i64 (l1 + (n1 : Int))]).run Try.prog V = .ok (.int .i64 HI) V := fun V => by rw [max_int, HHI.out, if_neg hn0]
      go_wp2_with fail
      go_meet
      exact ⟨rfl, rfl, rfl⟩
  case rest =>
  obtain ⟨h7, h8, hw⟩ := hcut
  subst h7
  subst h8
  have hw := hw.symm
  subst hw
  clear HLO HHI hwe hwe1
  go_wp2_with (at_make; refine wpList_make_full _ rfl _ _ 23 rfl W.heap.size 3 i0 (.int .i64 0) 1 Try.underlying23 hi hz0 hz1 .i64 .i64 _ _ N rfl rfl rfl rfl (by rw [hz2]; omega) (by unfold maxLen; omega) (Nat.le_refl _) ?_; intro w1 hrow hgrow)
  rw [show (madeCells (Value.cells (.int .i64 0)) (N * 1)).toList = intsV (listP (upto (pat ⟨l1, x⟩) (l1 + (0 : Nat))) LO N) by
    rw [show Value.cells (.int .i64 0) = #[.int .i64 0] from rfl, toList_madeCells_one, listP_congr (g := fun _ => 0) (fun k _ _ => by rw [show l1 + ((0 : Nat) : Int) = l1 by omega]; exact upto_low ⟨l1, x⟩ k), listP_zero]; simp [intsV]] at hrow
  have HR1 := Lib.hid hrow
  have HB1 : Hid (Below W.heap.size W w1) := Lib.hid ((Below.refl _ _).grown hgrow (Nat.le_refl _) (fun k e => by cases e))
  clear hrow hgrow hwN
  go_loopw [10] (fun i wr => ∃ k : Nat, k ≤ n1 ∧ i = .int .i64 (k : Int) ∧ Hid (wr.ownsRow W.heap.size 3 1 (.slice (some ⟨W.heap.size, 0, none⟩) N N) N (intsV (listP (upto (pat ⟨l1, x⟩) (l1 + (k : Int))) LO N))) ∧ Hid (Below W.heap.size W wr)) (fun i _ => n1 - (intOf i).toNat)
  case atStart => exact ⟨0, Nat.zero_le _, rfl, HR1, HB1⟩
  case round =>
    obtain ⟨k, hk, rfl, HR, HB⟩ := hrel
    obtain ⟨⟨p0, p1⟩, ⟨q0, q1⟩, _⟩ := HC.out wr HB.out
    by_cases hlt : k < n1
    · obtain ⟨xa, rfl, hxb, hxc⟩ := H1.out.at_ (by omega)
      have hkx : k < x.length := by rw [HN1.out]; exact hlt
      obtain ⟨z, hz⟩ : ∃ z, x.getD k 0 = z := ⟨_, rfl⟩
      have hzz : x[k] = z := by rw [← hz, List.getD_eq_getElem?_getD, List.getElem?_eq_getElem hkx]; rfl
      have hcz : wr.cell? (xa.add k) = some (.int .i64 z) := by rw [← hzz]; exact (HB.out.cell (p := xa.add k) (by rw [addr_add_block]; exact hxb)).trans (hxc k hkx)
      obtain ⟨d, hd⟩ : ∃ d : Nat, l1 - LO = (d : Int) := ⟨(l1 - LO).toNat, by omega⟩
      obtain ⟨j, hj⟩ : ∃ j : Nat, d + k = j := ⟨_, rfl⟩
      have hNI := HNI.out
      have hjN : j < N := by omega
      have hjNi : (j : Int) < (N : Int) := by omega
      have hj0 : (0 : Int) ≤ (j : Int) := by omega
      have hki : (k : Int) < (n1 : Int) := by omega
      have hk0 : (0 : Int) ≤ (k : Int) := by omega
      have hw1 : IntKind.i64.wrap (l1 - LO) = (d : Int) := by rw [IntWalk.i64_in _ (by omega)]; exact hd
      have hw2 : IntKind.i64.wrap ((d : Int) + (k : Int)) = (j : Int) := by rw [IntWalk.i64_in _ (by omega)]; omega
      have hlj : LO + (j : Int) = l1 + (k : Int) := by omega
      have hck : wr.cell? ⟨W.heap.size, j, none⟩ = some (.int .i64 0) := by
        rw [HR.out.cellAt _ (by omega), listP_cell hjN, hlj, upto_here]
      have hfk := HR.out.frozenAt j
      have HST : Hid ((intsV (listP (upto (pat ⟨l1, x⟩) (l1 + (k : Int))) LO N)).set j (.int .i64 z) = intsV (listP (upto (pat ⟨l1, x⟩) (l1 + ((k + 1 : Nat) : Int))) LO N)) := Lib.hid (listP_set (fun q hq => by
          rw [show l1 + ((k + 1 : Nat) : Int) = l1 + (k : Int) + 1 by omega]
          exact upto_next (by omega)) (by
          rw [show l1 + ((k + 1 : Nat) : Int) = l1 + (k : Int) + 1 by omega, hlj, upto_at]
          exact (pat_at ⟨l1, x⟩ k).trans hz))
      clear hz hzz hxc hd hj hlj hNI
      go_wp2
      go_still_tail 13, hmx
      change wpList _ _ _ _ _ wr.drew
      obtain ⟨wd, hwd⟩ : ∃ wd, wr.drew = wd := ⟨_, rfl⟩
      have ec : wd.cell? ⟨W.heap.size, j, none⟩ = some (.int .i64 0) := by rw [← hwd]; exact hck
      have ef : wd.frozen? ⟨W.heap.size, j, none⟩ = false := by rw [← hwd]; exact hfk
      have HRd : Hid (wd.ownsRow W.heap.size 3 1 (.slice (some ⟨W.heap.size, 0, none⟩) N N) N (intsV (listP (upto (pat ⟨l1, x⟩) (l1 + (k : Int))) LO N))) := Lib.hid (by rw [← hwd]; exact HR.out.drew)
      have HBd : Hid (Below W.heap.size W wd) := Lib.hid (by rw [← hwd]; exact HB.out.drew)
      have ez : wd.cell? (xa.add k) = some (.int .i64 z) := by rw [← hwd]; exact hcz
      clear hck hfk hcz p0 p1 q0 q1
      obtain ⟨⟨p0, p1⟩, ⟨q0, q1⟩, _⟩ := HC.out wd HBd.out
      rw [hwd]
      clear hwd
      go_wp2
      go_roundw
      case rel =>
        have h1 := HRd.out.stored j (.int .i64 z)
        refine ⟨k + 1, by omega, by go_num, Lib.hid ?_, Lib.hid (HBd.out.setCell (p := ⟨W.heap.size, j, none⟩) (Nat.le_refl _) _)⟩
        rw [← HST.out]
        exact h1.1
      case measure => simp [intOf]; omega
    · obtain rfl : k = n1 := by omega
      have HR2 : Hid (wr.ownsRow W.heap.size 3 1 (.slice (some ⟨W.heap.size, 0, none⟩) N N) N (intsV (listP (fun z => pat ⟨l1, x⟩ z + upto (fun z => m * pat ⟨l2, y⟩ z) (l2 + ((0 : Nat) : Int)) z) LO N))) := Lib.hid (by
        have e : listP (upto (pat ⟨l1, x⟩) (l1 + (k : Int))) LO N = listP (fun z => pat ⟨l1, x⟩ z + upto (fun z => m * pat ⟨l2, y⟩ z) (l2 + ((0 : Nat) : Int)) z) LO N := listP_congr fun z _ _ => by
          have h1 := upto_high ⟨l1, x⟩ z
          rw [show (⟨l1, x⟩ : Pl).low + ((⟨l1, x⟩ : Pl).cs.length : Int) = l1 + (k : Int) by show l1 + (x.length : Int) = _; rw [HN1.out]] at h1
          rw [h1]
          unfold upto
          by_cases hz : z < l2 + ((0 : Nat) : Int)
          · rw [if_pos hz]
            show pat ⟨l1, x⟩ z = pat ⟨l1, x⟩ z + m * pat ⟨l2, y⟩ z
            rw [pat_low ⟨l2, y⟩ (by show z < l2; omega), Int.mul_zero, Int.add_zero]
          · rw [if_neg hz, Int.add_zero]
        rw [← e]
        exact HR.out)
      clear HR
      go_wp2
      go_loopw [11] (fun i wr => ∃ k : Nat, k ≤ n2 ∧ i = .int .i64 (k : Int) ∧ Hid (wr.ownsRow W.heap.size 3 1 (.slice (some ⟨W.heap.size, 0, none⟩) N N) N (intsV (listP (fun z => pat ⟨l1, x⟩ z + upto (fun z => m * pat ⟨l2, y⟩ z) (l2 + (k : Int)) z) LO N))) ∧ Hid (Below W.heap.size W wr)) (fun i _ => n2 - (intOf i).toNat)
      case atStart => exact ⟨0, Nat.zero_le _, rfl, HR2, HB⟩
      case round =>
        obtain ⟨k', hk', rfl, HR, HB⟩ := hrel
        obtain ⟨⟨p0, p1⟩, ⟨q0, q1⟩, _⟩ := HC.out wr HB.out
        by_cases hlt2 : k' < n2
        · obtain ⟨xa, rfl, hxb, hxc⟩ := H2.out.at_ (by omega)
          have hkx : k' < y.length := by rw [HN2.out]; exact hlt2
          obtain ⟨z, hz⟩ : ∃ z, y.getD k' 0 = z := ⟨_, rfl⟩
          have hzz : y[k'] = z := by rw [← hz, List.getD_eq_getElem?_getD, List.getElem?_eq_getElem hkx]; rfl
          have hcz : wr.cell? (xa.add k') = some (.int .i64 z) := by rw [← hzz]; exact (HB.out.cell (p := xa.add k') (by rw [addr_add_block]; exact hxb)).trans (hxc k' hkx)
          obtain ⟨u, hu⟩ : ∃ u, pat ⟨l1, x⟩ (l2 + (k' : Int)) = u := ⟨_, rfl⟩
          obtain ⟨q, hq⟩ : ∃ q, m * z = q := ⟨_, rfl⟩
          have hub : -4000000000000000000 ≤ u ∧ u ≤ 4000000000000000000 := by
            rw [← hu]
            unfold pat
            split
            · exact HX.out _
            · omega
          have hqb := HY.out k'
          rw [hz, hq] at hqb
          obtain ⟨hub1, hub2⟩ := hub
          obtain ⟨hqb1, hqb2⟩ := hqb
          obtain ⟨d, hd⟩ : ∃ d : Nat, l2 - LO = (d : Int) := ⟨(l2 - LO).toNat, by omega⟩
          obtain ⟨j, hj⟩ : ∃ j : Nat, d + k' = j := ⟨_, rfl⟩
          have hNI := HNI.out
          have hjN : j < N := by omega
          have hjNi : (j : Int) < (N : Int) := by omega
          have hj0 : (0 : Int) ≤ (j : Int) := by omega
          have hki : (k' : Int) < (n2 : Int) := by omega
          have hk0 : (0 : Int) ≤ (k' : Int) := by omega
          have hw1 : IntKind.i64.wrap (l2 - LO) = (d : Int) := by rw [IntWalk.i64_in _ (by omega)]; exact hd
          have hw2 : IntKind.i64.wrap ((d : Int) + (k' : Int)) = (j : Int) := by rw [IntWalk.i64_in _ (by omega)]; omega
          have hw3 : IntKind.i64.wrap (m * z) = q := by rw [hq]; exact IntWalk.i64_in _ (by omega)
          have hw4 : IntKind.i64.wrap (u + q) = u + q := IntWalk.i64_in _ (by omega)
          have hlj : LO + (j : Int) = l2 + (k' : Int) := by omega
          have hck : wr.cell? ⟨W.heap.size, j, none⟩ = some (.int .i64 u) := by
            rw [HR.out.cellAt _ (by omega), listP_cell hjN, hlj, upto_here, hu, Int.add_zero]
          have hfk := HR.out.frozenAt j
          have HST : Hid ((intsV (listP (fun z => pat ⟨l1, x⟩ z + upto (fun z => m * pat ⟨l2, y⟩ z) (l2 + (k' : Int)) z) LO N)).set j (.int .i64 (u + q)) = intsV (listP (fun z => pat ⟨l1, x⟩ z + upto (fun z => m * pat ⟨l2, y⟩ z) (l2 + ((k' + 1 : Nat) : Int)) z) LO N)) := Lib.hid (listP_set (fun p hp => by
              rw [show l2 + ((k' + 1 : Nat) : Int) = l2 + (k' : Int) + 1 by omega, upto_next (by omega)]) (by
              rw [show l2 + ((k' + 1 : Nat) : Int) = l2 + (k' : Int) + 1 by omega, hlj, upto_at, hu]
              show u + m * pat ⟨l2, y⟩ (l2 + (k' : Int)) = u + q
              rw [show pat ⟨l2, y⟩ (l2 + (k' : Int)) = z from (pat_at ⟨l2, y⟩ k').trans hz, hq]))
          clear hz hzz hxc hd hj hlj hNI hu hq
          go_wp2
          go_still_tail 25, hmx
          change wpList _ _ _ _ _ wr.drew
          obtain ⟨wd, hwd⟩ : ∃ wd, wr.drew = wd := ⟨_, rfl⟩
          have ec : wd.cell? ⟨W.heap.size, j, none⟩ = some (.int .i64 u) := by rw [← hwd]; exact hck
          have ef : wd.frozen? ⟨W.heap.size, j, none⟩ = false := by rw [← hwd]; exact hfk
          have HRd : Hid (wd.ownsRow W.heap.size 3 1 (.slice (some ⟨W.heap.size, 0, none⟩) N N) N (intsV (listP (fun z => pat ⟨l1, x⟩ z + upto (fun z => m * pat ⟨l2, y⟩ z) (l2 + (k' : Int)) z) LO N))) := Lib.hid (by rw [← hwd]; exact HR.out.drew)
          have HBd : Hid (Below W.heap.size W wd) := Lib.hid (by rw [← hwd]; exact HB.out.drew)
          have ez : wd.cell? (xa.add k') = some (.int .i64 z) := by rw [← hwd]; exact hcz
          clear hck hfk hcz p0 p1 q0 q1
          obtain ⟨⟨p0, p1⟩, ⟨q0, q1⟩, _⟩ := HC.out wd HBd.out
          rw [hwd]
          clear hwd
          go_wp2
          go_roundw
          case rel =>
            have h1 := HRd.out.stored j (.int .i64 (u + q))
            refine ⟨k' + 1, by omega, by go_num, Lib.hid ?_, Lib.hid (HBd.out.setCell (p := ⟨W.heap.size, j, none⟩) (Nat.le_refl _) _)⟩
            rw [← HST.out]
            exact h1.1
          case measure => simp [intOf]; omega
        · obtain rfl : k' = n2 := by omega
          have hpatb : ∀ z, -4000000000000000000 ≤ pat ⟨l1, x⟩ z ∧ pat ⟨l1, x⟩ z ≤ 4000000000000000000 := fun z => by
            unfold pat
            split
            · exact HX.out _
            · omega
          have hpatc : ∀ z, -4000000000000000000 ≤ m * pat ⟨l2, y⟩ z ∧ m * pat ⟨l2, y⟩ z ≤ 4000000000000000000 := fun z => by
            unfold pat
            split
            · exact HY.out _
            · rw [Int.mul_zero]; omega
          have e : listP (fun z => pat ⟨l1, x⟩ z + upto (fun z => m * pat ⟨l2, y⟩ z) (l2 + (k' : Int)) z) LO N = listP (sumF ⟨l1, x⟩ m ⟨l2, y⟩) LO N := listP_congr fun z _ _ => by
            unfold sumF upto
            by_cases hz : z < l2 + (k' : Int)
            · rw [if_pos hz]
            · rw [if_neg hz, pat_high ⟨l2, y⟩ (by show l2 + (y.length : Int) ≤ z; rw [HN2.out]; omega), Int.mul_zero]
          have hr : IntRow W.heap.size wr (.slice (some ⟨W.heap.size, 0, none⟩) N N) (listP (sumF ⟨l1, x⟩ m ⟨l2, y⟩) LO N) := by
            rw [← e]
            exact rowI HR.out (listP_len _ _ _)
          have hwf : ∀ z ∈ listP (sumF ⟨l1, x⟩ m ⟨l2, y⟩) LO N, -9223372036854775808 ≤ z ∧ z ≤ 9223372036854775807 := fun z hz => by
            unfold listP at hz
            obtain ⟨i, _, rfl⟩ := List.mem_map.1 hz
            have h1 := hpatb (LO + (i : Int))
            have h2 := hpatc (LO + (i : Int))
            unfold sumF
            omega
          obtain ⟨a3, c3, hv, hc3, hi3⟩ := hr.readc hwf
          have HWF := Lib.hid hwf
          rw [listP_len] at hv hi3 hc3
          simp at hv
          obtain ⟨rfl, rfl⟩ := hv
          have HSP : Hid (tidyP LO (listP (sumF ⟨l1, x⟩ m ⟨l2, y⟩) LO N) = sumP ⟨l1, x⟩ m ⟨l2, y⟩) := Lib.hid (by
            unfold sumP
            rw [if_neg (by show ¬ y.length = 0; rw [HN2.out]; omega), HLO1.out, HHI1.out, HNN.out])
          have HT := Lib.hid (l6pTidy_any LO (listP (sumF ⟨l1, x⟩ m ⟨l2, y⟩) LO N) (some ⟨W.heap.size, 0, none⟩) N N wr hi3 (Nat.le_refl _) (by omega) (by omega) (by omega))
          have hsr := HB.out.size
          clear hr hwf hi3 hc3 e hpatb hpatc HR
          go_wp2_with fail
          refine HT.out.mono ?_
          rintro e w3 ⟨⟨v, rfl, hr⟩, hb3⟩
          rw [HSP.out] at hr ⊢
          obtain ⟨_, _, d0, d1, f0, f1⟩ := HC.out w3 (HB.out.trans (hb3.mono hsr))
          have HR3 := Lib.hid hr
          have HB3 := Lib.hid (HBW.out.trans ((HB.out.trans (hb3.mono hsr)).mono HBW.out.size))
          obtain ⟨g2, gg, cap3, rfl, _⟩ := hr.shape
          clear hr hb3
          go_wp2
          have hss := HSZ.out
          refine bodyPost_ret (v := plV (sumP ⟨l1, x⟩ m ⟨l2, y⟩).low (.slice g2 (sumP ⟨l1, x⟩ m ⟨l2, y⟩).cs.length cap3)) ?_ rfl ⟨⟨_, rfl, resRow2 (.int .i64 (sumP ⟨l1, x⟩ m ⟨l2, y⟩).low) (.slice g2 (sumP ⟨l1, x⟩ m ⟨l2, y⟩).cs.length cap3) HR3.out (by omega)⟩, resBelow2 (.int .i64 (sumP ⟨l1, x⟩ m ⟨l2, y⟩).low) (.slice g2 (sumP ⟨l1, x⟩ m ⟨l2, y⟩).cs.length cap3) HB3.out⟩
          simp [results, Try.results104, go_sem, d0, d1, plV]

end Go.Proofs.Ytakfobihakbefaa

/- The model's l6pSum whatever comes in, and PolyAdd. -/

namespace Go.Proofs.Ytakfobihakbefaa
open Go.RowKit

set_option maxRecDepth 100000 in
set_option maxHeartbeats 4000000 in
theorem l6pSum_none (l1 l2 m : Int) (a1 a2 : Option Addr) (c1 c2 n1 : Nat) (w : World) :
    Calls Try.prog 104 #[plV l1 (.slice a1 n1 c1), .int .i64 m, plV l2 (.slice a2 0 c2)] w fun e w' => e = .returned (plV l1 (.slice a1 n1 c1)) ∧ Below w.heap.size w w' := by
  obtain ⟨W, hW⟩ : ∃ W, ((w.alloc (.cells #[.int .i64 l1, .slice a1 n1 c1] 25)).alloc (.cells #[.int .i64 l2, .slice a2 0 c2] 25)).alloc (.cells #[.int .i64 0, .slice none 0 0] 25) = W := ⟨_, rfl⟩
  obtain ⟨hbW, hsz⟩ := boxes3Below hW
  have hC := boxes3 hW (Below.refl _ _)
  have hD := boxes3 hW (Below.refl _ _)
  rw [← hW] at hC
  obtain ⟨⟨p0, p1⟩, ⟨q0, q1⟩, r0, r1, f0, f1⟩ := hC
  have HBW := Lib.hid hbW
  have HW := Lib.hid hW
  have HD := Lib.hid hD
  clear hW hbW hsz hD
  go_enter Try.func104, Try.ntmps104
  go_upto_if 15 with fail
  rw [HW.out]
  clear p0 p1 q0 q1 r0 r1 f0 f1
  obtain ⟨⟨p0, p1⟩, ⟨q0, q1⟩, r0, r1, f0, f1⟩ := HD.out
  go_wp2
  refine bodyPost_ret (v := plV l1 (.slice a1 n1 c1)) ?_ rfl ⟨rfl, resBelow2 (.int .i64 l1) (.slice a1 n1 c1) HBW.out⟩
  simp [results, Try.results104, go_sem, r0, r1, plV]

theorem sum_mem {a b : Pl} {m : Int} (hx : ∀ i, -4000000000000000000 ≤ a.cs.getD i 0 ∧ a.cs.getD i 0 ≤ 4000000000000000000) (hy : ∀ i, -4000000000000000000 ≤ m * b.cs.getD i 0 ∧ m * b.cs.getD i 0 ≤ 4000000000000000000) :
    ∀ z ∈ (sumP a m b).cs, -9223372036854775808 ≤ z ∧ z ≤ 9223372036854775807 := fun z hz => by
  unfold sumP at hz
  split at hz
  · obtain ⟨i, hi, rfl⟩ := List.mem_iff_getElem.1 hz
    have := hx i
    rw [List.getD_eq_getElem?_getD, List.getElem?_eq_getElem hi] at this
    have : -4000000000000000000 ≤ a.cs[i] ∧ a.cs[i] ≤ 4000000000000000000 := this
    omega
  · rcases tidy_mem hz with rfl | hz
    · omega
    · unfold listP at hz
      obtain ⟨i, _, rfl⟩ := List.mem_map.1 hz
      have h1 : -4000000000000000000 ≤ pat a (sumLow a b + (i : Int)) ∧ pat a (sumLow a b + (i : Int)) ≤ 4000000000000000000 := by
        unfold pat
        split
        · exact hx _
        · omega
      have h2 : -4000000000000000000 ≤ m * pat b (sumLow a b + (i : Int)) ∧ m * pat b (sumLow a b + (i : Int)) ≤ 4000000000000000000 := by
        unfold pat
        split
        · exact hy _
        · rw [Int.mul_zero]; omega
      unfold sumF
      omega
theorem sum_len {a b : Pl} {m : Int} (h1 : -100000 ≤ a.low ∧ a.low ≤ 100000) (h2 : -100000 ≤ b.low ∧ b.low ≤ 100000) (hn1 : a.cs.length ≤ 100000) (hn2 : b.cs.length ≤ 100000) : (sumP a m b).cs.length ≤ 300000 := by
  unfold sumP
  split
  · omega
  · refine Nat.le_trans (tidy_len _ _) ?_
    rw [listP_len]
    unfold sumHigh sumLow
    repeat' split
    all_goals omega

theorem l6pSum_any (l1 l2 m : Int) (x y : List Int) (a1 a2 : Option Addr) (c1 c2 n1 n2 : Nat) (w : World) (h1 : Ints w a1 n1 x) (h2 : Ints w a2 n2 y) (hc1 : n1 ≤ c1)
    (hl1 : -100000 ≤ l1 ∧ l1 ≤ 100000) (hl2 : -100000 ≤ l2 ∧ l2 ≤ 100000) (hn1 : n1 ≤ 100000) (hn2 : n2 ≤ 100000)
    (hx : ∀ i, -4000000000000000000 ≤ x.getD i 0 ∧ x.getD i 0 ≤ 4000000000000000000) (hy : ∀ i, -4000000000000000000 ≤ m * y.getD i 0 ∧ m * y.getD i 0 ≤ 4000000000000000000) :
    Calls Try.prog 104 #[plV l1 (.slice a1 n1 c1), .int .i64 m, plV l2 (.slice a2 n2 c2)] w fun e w' => (∃ v, e = .returned (plV (sumP ⟨l1, x⟩ m ⟨l2, y⟩).low v) ∧ Reads w' v (sumP ⟨l1, x⟩ m ⟨l2, y⟩).cs) ∧ Below w.heap.size w w' := by
  by_cases h0 : n2 = 0
  · subst h0
    have e : sumP ⟨l1, x⟩ m ⟨l2, y⟩ = ⟨l1, x⟩ := by unfold sumP; exact if_pos h2.len
    rw [e]
    refine (l6pSum_none l1 l2 m a1 a2 c1 c2 n1 w).mono ?_
    rintro e w1 ⟨rfl, hb⟩
    have hl := h1.len
    subst hl
    exact ⟨⟨_, rfl, a1, c1, rfl, hc1, h1.below hb⟩, hb⟩
  · refine (l6pSum_some l1 l2 m x y a1 a2 c1 c2 n1 n2 w h1 h2 (by omega) hl1 hl2 hn1 hn2 hx hy).mono ?_
    rintro e w1 ⟨⟨v, rfl, hr⟩, hb⟩
    exact ⟨⟨v, rfl, hr.reads (sum_mem (a := ⟨l1, x⟩) (b := ⟨l2, y⟩) hx hy)⟩, hb⟩

def addPB (a b : Pl) : Bool := polyB a && (polyB b && polyB (sumP a 1 b))
def addP (a b : Pl) : Pl := doneP (addPB a b) (sumP a 1 b)

set_option maxRecDepth 100000 in
set_option maxHeartbeats 4000000 in
theorem sPolyAdd_any (l1 l2 : Int) (x y : List Int) (a1 a2 : Option Addr) (c1 c2 n1 n2 : Nat) (ba bb t : Bool) (w : World) (h1 : Ints w a1 n1 x) (h2 : Ints w a2 n2 y) (hc1 : n1 ≤ c1)
    (hba : polyB ⟨l1, x⟩ = ba) (hbb : polyB ⟨l2, y⟩ = bb) (ht : (ba && (bb && polyB (sumP ⟨l1, x⟩ 1 ⟨l2, y⟩))) = t) :
    Calls Try.prog 110 #[plV l1 (.slice a1 n1 c1), plV l2 (.slice a2 n2 c2)] w fun e w' => (∃ v, e = .returned (.tuple #[plV (doneP t (sumP ⟨l1, x⟩ 1 ⟨l2, y⟩)).low v, .bool t]) ∧ IntRow w.heap.size w' v (doneP t (sumP ⟨l1, x⟩ 1 ⟨l2, y⟩)).cs) ∧ Below w.heap.size w w' := by
  obtain ⟨W, hW⟩ : ∃ W, ((w.alloc (.cells #[.int .i64 l1, .slice a1 n1 c1] 25)).alloc (.cells #[.int .i64 l2, .slice a2 n2 c2] 25)).alloc (.cells #[.int .i64 0, .slice none 0 0] 25) = W := ⟨_, rfl⟩
  obtain ⟨hbW, hsz⟩ := boxes3Below hW
  have HC : Hid (∀ w1, Below W.heap.size W w1 → _) := Lib.hid fun w1 (hg : Below W.heap.size W w1) => boxes3 hW hg
  have hC := boxes3 hW (Below.refl _ _)
  rw [← hW] at hC
  obtain ⟨⟨p0, p1⟩, ⟨q0, q1⟩, _⟩ := hC
  have H1 := Lib.hid (h1.below hbW)
  have H2 := Lib.hid (h2.below hbW)
  have HBA := Lib.hid hba
  have HBB := Lib.hid hbb
  have HN1 := Lib.hid h1.len
  have HN2 := Lib.hid h2.len
  have HBW := Lib.hid hbW
  have HW := Lib.hid hW
  have HSZ := Lib.hid hsz
  have HT := Lib.hid ht
  clear hW hbW h1 h2 hba hbb hsz ht
  go_enter Try.func110, Try.ntmps110
  go_wp2_with fail
  rw [HW.out]
  clear p0 p1 q0 q1
  refine (sPolyIn_any l1 x a1 c1 n1 ba W H1.out HBA.out).mono ?_
  rintro e w1 ⟨rfl, hb1⟩
  have HB1 := Lib.hid hb1
  obtain ⟨⟨p0, p1⟩, ⟨q0, q1⟩, d0, d1, f0, f1⟩ := HC.out w1 hb1
  have hs1 := hb1.size
  clear hb1
  cases ba with
  | false =>
    obtain rfl : t = false := by rw [← HT.out]; rfl
    go_wp2_with fail
    refine (l6pNone_any _).mono ?_
    rintro e w2 ⟨⟨v, rfl, hr⟩, hb2⟩
    obtain ⟨_, _, d0, d1, f0, f1⟩ := HC.out w2 (HB1.out.trans (hb2.mono hs1))
    have HR := Lib.hid hr
    have HB2 := Lib.hid (HBW.out.trans ((HB1.out.trans (hb2.mono hs1)).mono HBW.out.size))
    obtain ⟨g1, gg, cap1, rfl, _⟩ := hr.shape
    clear hr hb2
    go_wp2
    have hss := HSZ.out
    refine bodyPost_ret (v := .tuple #[plV 0 (.slice g1 0 cap1), .bool false]) ?_ rfl ⟨⟨_, rfl, resRow2 (.int .i64 0) (.slice g1 0 cap1) HR.out (by omega)⟩, resBelow2 (.int .i64 0) (.slice g1 0 cap1) HB2.out⟩
    simp [results, Try.results110, go_sem, d0, d1, plV]
  | true =>
    go_wp2_with fail
    refine (sPolyIn_any l2 y a2 c2 n2 bb w1 (H2.out.below HB1.out) HBB.out).mono ?_
    rintro e w2 ⟨rfl, hb2⟩
    have HB2 := Lib.hid (HB1.out.trans (hb2.mono hs1))
    have hs2 := HB2.out.size
    clear hb2 p0 p1 q0 q1 d0 d1 f0 f1
    obtain ⟨⟨p0, p1⟩, ⟨q0, q1⟩, d0, d1, f0, f1⟩ := HC.out w2 HB2.out
    cases bb with
    | false =>
      obtain rfl : t = false := by rw [← HT.out]; rfl
      go_wp2_with fail
      refine (l6pNone_any _).mono ?_
      rintro e w3 ⟨⟨v, rfl, hr⟩, hb3⟩
      clear d0 d1 f0 f1
      obtain ⟨_, _, d0, d1, f0, f1⟩ := HC.out w3 (HB2.out.trans (hb3.mono hs2))
      have HR := Lib.hid hr
      have HB3 := Lib.hid (HBW.out.trans ((HB2.out.trans (hb3.mono hs2)).mono HBW.out.size))
      obtain ⟨g1, gg, cap1, rfl, _⟩ := hr.shape
      clear hr hb3
      go_wp2
      have hss := HSZ.out
      refine bodyPost_ret (v := .tuple #[plV 0 (.slice g1 0 cap1), .bool false]) ?_ rfl ⟨⟨_, rfl, resRow2 (.int .i64 0) (.slice g1 0 cap1) HR.out (by omega)⟩, resBelow2 (.int .i64 0) (.slice g1 0 cap1) HB3.out⟩
      simp [results, Try.results110, go_sem, d0, d1, plV]
    | true =>
      obtain ⟨_, hx200, hxl1, hxl2, hxc⟩ := polyB_trim HBA.out
      obtain ⟨_, hy200, hyl1, hyl2, hyc⟩ := polyB_trim HBB.out
      have hx200 : x.length ≤ 200 := hx200
      have hy200 : y.length ≤ 200 := hy200
      have hxl1 : -300 ≤ l1 := hxl1
      have hxl2 : l1 ≤ 300 := hxl2
      have hyl1 : -300 ≤ l2 := hyl1
      have hyl2 : l2 ≤ 300 := hyl2
      have hxc : ∀ i, -1000000000 ≤ x.getD i 0 ∧ x.getD i 0 ≤ 1000000000 := hxc
      have hyc : ∀ i, -1000000000 ≤ y.getD i 0 ∧ y.getD i 0 ≤ 1000000000 := hyc
      have hx1 := HN1.out
      have hx2 := HN2.out
      have HS := Lib.hid (l6pSum_any l1 l2 1 x y a1 a2 c1 c2 n1 n2 w2 (H1.out.below HB2.out) (H2.out.below HB2.out) hc1 (by omega) (by omega) (by omega) (by omega) (fun i => by have := hxc i; omega) (fun i => by have := hyc i; omega))
      have hsl : (sumP ⟨l1, x⟩ 1 ⟨l2, y⟩).cs.length ≤ 300000 := sum_len (a := ⟨l1, x⟩) (b := ⟨l2, y⟩) (by show -100000 ≤ l1 ∧ l1 ≤ 100000; omega) (by show -100000 ≤ l2 ∧ l2 ≤ 100000; omega) (by show x.length ≤ 100000; omega) (by show y.length ≤ 100000; omega)
      clear hxc hyc hx1 hx2
      go_wp2_with fail
      refine HS.out.mono ?_
      rintro e w3 ⟨⟨v, rfl, hrd⟩, hb3⟩
      obtain ⟨a3, c3, rfl, hc3, hi3⟩ := hrd
      have HB3 := Lib.hid (HB2.out.trans (hb3.mono hs2))
      have hs3 := HB3.out.size
      have HD := Lib.hid (l6pDone_any (sumP ⟨l1, x⟩ 1 ⟨l2, y⟩).low (sumP ⟨l1, x⟩ 1 ⟨l2, y⟩).cs a3 c3 _ t w3 hi3 (by omega) (by have := HT.out; rwa [Bool.true_and, Bool.true_and] at this))
      clear hb3 hi3
      go_wp2_with fail
      refine HD.out.mono ?_
      rintro e w4 ⟨⟨v, rfl, hr⟩, hb4⟩
      clear d0 d1 f0 f1
      obtain ⟨_, _, d0, d1, f0, f1⟩ := HC.out w4 (HB3.out.trans (hb4.mono hs3))
      have HR := Lib.hid hr
      have HB4 := Lib.hid (HBW.out.trans ((HB3.out.trans (hb4.mono hs3)).mono HBW.out.size))
      obtain ⟨g1, gg, cap1, rfl, _⟩ := hr.shape
      clear hr hb4
      go_wp2
      have hss := HSZ.out
      refine bodyPost_ret (v := .tuple #[plV (doneP t (sumP ⟨l1, x⟩ 1 ⟨l2, y⟩)).low (.slice g1 (doneP t (sumP ⟨l1, x⟩ 1 ⟨l2, y⟩)).cs.length cap1), .bool t]) ?_ rfl ⟨⟨_, rfl, resRow2 (.int .i64 (doneP t (sumP ⟨l1, x⟩ 1 ⟨l2, y⟩)).low) (.slice g1 (doneP t (sumP ⟨l1, x⟩ 1 ⟨l2, y⟩)).cs.length cap1) HR.out (by omega)⟩, resBelow2 (.int .i64 (doneP t (sumP ⟨l1, x⟩ 1 ⟨l2, y⟩)).low) (.slice g1 (doneP t (sumP ⟨l1, x⟩ 1 ⟨l2, y⟩)).cs.length cap1) HB4.out⟩
      simp [results, Try.results110, go_sem, d0, d1, plV]

end Go.Proofs.Ytakfobihakbefaa

/- A drawn region whose head makes memory but has fixed values, and whose tail comes in one order only. -/

namespace Go.Proofs.Ytakfobihakbefaa
open Go.RowKit

section
variable {P : Program} {ops : Array Oper} {md : Region.Mode} {C : World → Prop}

/-- The head in whatever order, up to the place where L holds. -/
def headQ (P : Program) (md : Region.Mode) (ops : Array Oper) (C : World → Prop) (n : Nat) (L : Array Bool → Act → Prop) : Nat → Array Bool → Act → Prop
  | 0, listed, a => L listed a
  | f + 1, listed, a => Region.ready md ops listed ≠ [] ∧ ∀ i ∈ Region.ready md ops listed, i < n ∧ qOp P ops C i (headQ P md ops C n L f (listed.setIfInBounds i true)) a

theorem wpAny_headQ {n g : Nat} {L : Array Bool → Act → Prop} {Q' : Exit → Act → World → Prop} (hL : ∀ listed a w, C w → L listed a → wpAny P md ops Q' g listed a w) :
    ∀ (f : Nat) (listed : Array Bool) (a : Act) (w : World), C w → headQ P md ops C n L f listed a → wpAny P md ops Q' (f + g) listed a w
  | 0, _, _, _, hw, h => by rw [Nat.zero_add]; exact hL _ _ _ hw h
  | f + 1, listed, a, w, hw, h => by
    rw [Nat.succ_add]
    exact ⟨fun h0 => absurd h0 h.1, fun i hi => wpOp_of_qOp hw (fun a' w' hw' h' => wpAny_headQ hL f _ a' w' hw' h') (h.2 i hi).2⟩

theorem headQ_first {n i : Nat} {oi : Oper} {v : Value} {L : Array Bool → Act → Prop} (hi : ops[i]? = some oi) (hsel : ∀ (j : Nat) (o : Oper) cs b, ops[j]? = some o → o.op ≠ .select cs b)
    (hs : Region.sinkB md ops n = true) (hc : Region.chainB md ops n = true) (hn : n < ops.size) (hin : i < n) (hdone : ∀ listed a, L listed a → ∀ j ∈ Region.ready md ops listed, n ≤ j) :
    ∀ (f : Nat) (listed : Array Bool) (a : Act), HeadInv md ops n listed →
      (∀ j oj, ops[j]? = some oj → j ≠ i → listed.getD j true = false → (∀ e ∈ oj.after, Region.binds md e = true → e.on ≠ i) → oi.apart ops oj = true) →
      i ∈ Region.ready md ops listed → YieldsIn P ops C oi v a →
      headQ P md ops C n L f (listed.setIfInBounds i true) (a.put oi.dst v) → headQ P md ops C n L (f + 1) listed a := by
  intro f
  induction f with
  | zero =>
    intro listed a inv _ hr hy H
    refine ⟨fun h => (by rw [h] at hr; cases hr), fun j hj => ?_⟩
    have hjn : j < n := Nat.lt_of_not_le fun h => tail_waits hs hc hn inv _ i rfl hin (mem_ready.1 hr).1 j h hj
    refine ⟨hjn, ?_⟩
    by_cases hji : j = i
    · subst hji; exact hy.qOp hi H
    · exact absurd (hdone _ _ H j (ready_mono hj hji)) (by omega)
  | succ f ih =>
    intro listed a inv hfree hr hy H
    have hun := (mem_ready.1 hr).1
    refine ⟨fun h => (by rw [h] at hr; cases hr), fun j hj => ?_⟩
    have hjn : j < n := Nat.lt_of_not_le fun h => tail_waits hs hc hn inv _ i rfl hin hun j h hj
    refine ⟨hjn, ?_⟩
    by_cases hji : j = i
    · subst hji; exact hy.qOp hi H
    · obtain ⟨hjun, oj, hoj, hall⟩ := mem_ready.1 hj
      have hnot : ∀ e ∈ oj.after, Region.binds md e = true → e.on ≠ i := fun e he hb heq => by
        have h1 := hall e he hb
        rw [heq, getD_both hun] at h1
        cases h1
      have h2 := qOp_put hoj (hfree j oj hoj hji hjun hnot) (fun cs b => hsel i oi cs b hi) (fun cs b => hsel j oj cs b hoj) hy (H.2 j (ready_mono hj hji)).2
      refine qOp_mono (fun a' h3 => ih _ a' (inv.set hj hjn) (fun k ok hk hki hu hno => hfree k ok hk hki ?_ hno) (ready_mono hr (Ne.symm hji)) h3.1 ?_) h2
      · by_cases hjk : j = k
        · subst hjk; exact hjun
        · rw [getD_set_ne true hjk] at hu; exact hu
      · rw [Array.setIfInBounds_comm _ _ hji]
        exact h3.2

theorem headQ_lex {n g : Nat} {Lq : Act → Prop} (hsel : Region.noSelect ops = true) (hs : Region.sinkB md ops n = true) (hc : Region.chainB md ops n = true) (hn : n < ops.size) :
    ∀ (l : List Oper) (k : Nat) (listed : Array Bool) (a : Act), (∀ j, j < l.length → l[j]? = ops[k + j]?) → k + l.length = n → HeadInv md ops n listed →
    Region.lexHead md ops g l.length k listed = true → wpQuiet P ops C Lq l a → headQ P md ops C n (fun listed' a' => Region.seqB md ops g n listed' = true ∧ Lq a') l.length listed a
  | [], k, listed, a, _, hk, _, hB, h => by
    obtain rfl : k = n := by simpa using hk
    exact ⟨by simpa [Region.lexHead] using hB, h⟩
  | o :: l, k, listed, a, hl, hk, inv, hB, h => by
    have h0 : ops[k]? = some o := by simpa using (hl 0 (by simp)).symm
    simp only [List.length_cons, Region.lexHead, Bool.and_eq_true] at hB
    have hkn : k < n := by simp only [List.length_cons] at hk; omega
    have hr' : k ∈ Region.ready md ops listed := by simpa using hB.1.1
    have hst : qOp P ops C k (wpQuiet P ops C Lq l) a := by unfold qOp; simp only [h0]; exact h
    obtain ⟨v, hy, hK⟩ := yieldsIn_of_qOp h0 hst
    exact headQ_first h0 (Region.noSelect_spec hsel) hs hc hn hkn (fun listed' a' hL => seqB_ready hL.1) l.length listed a inv (Region.free_spec h0 hB.1.2) hr' hy
      (headQ_lex hsel hs hc hn l (k + 1) _ _ (fun j hj => by have := hl (j + 1) (by simp; omega); simpa [Nat.add_assoc, Nat.add_comm 1 j] using this) (by simp only [List.length_cons] at hk; omega) (inv.set hr' hkn) hB.2 hK)

/-- The head walked once, in every world of the class; then the tail. -/
theorem wp_region_quiet_tail {id : Nat} {Q : Exit → Act → World → Prop} {a : Act} {w : World} {l : List Oper} (n : Nat) (hm : P.follows .mixedOrders = true) (hB : Region.lexTailB .any l.toArray n = true) (hC : C { w with drawn := w.drawn + 1 })
    (h : wpQuiet P l.toArray C (fun a' => ∀ w', C w' → wpList P l.toArray Q (l.drop n) a' w') (l.take n) a) : (Code.region id l.toArray true).wp P Q a w := by
  simp only [Region.lexTailB, Bool.and_eq_true, decide_eq_true_eq] at hB
  obtain ⟨⟨⟨⟨hsel, hn⟩, hs⟩, hc⟩, hlex⟩ := hB
  have hn' : n < l.length := by simpa using hn
  have htl : (l.take n).length = n := by simp; omega
  have hdl : (l.drop n).length = l.toArray.size - n := by simp
  have inv0 : HeadInv .any l.toArray n (Array.replicate l.toArray.size false) :=
    ⟨by simp, fun j oj _ hl => (by rw [getD_replicate_false] at hl; cases hl), fun t _ ht => getD_in (by simpa using ht) (getD_replicate_false _ _)⟩
  have H := headQ_lex (md := .any) (g := l.toArray.size - n) hsel hs hc hn (l.take n) 0 _ a (fun j hj => by
    have hj' : j < n := by rw [htl] at hj; exact hj
    simp [hj']) (by simpa using htl) inv0 (by rw [htl]; exact hlex) h
  refine wp_region_any hm ?_
  have := wpAny_headQ (Q' := Q) (g := l.toArray.size - n) (fun listed a' w' hw' hL => by
    have := wpAny_of_seq (md := .any) (Q' := Q) (l.drop n) n listed a' w' (fun j => by simp [List.getElem?_drop]) (by rw [hdl]; exact hL.1) (hL.2 w' hw')
    rwa [hdl] at this) _ _ _ _ hC H
  rw [htl, show n + (l.toArray.size - n) = l.toArray.size by omega] at this
  exact this
/-- At the worlds behind w. -/
theorem wp_region_below_tail {id : Nat} {Q : Exit → Act → World → Prop} {a : Act} {w : World} {l : List Oper} (n : Nat) (hm : P.follows .mixedOrders = true) (hB : Region.lexTailB .any l.toArray n = true)
    (h : wpQuiet P l.toArray (fun w' => ∃ p : BelowBy w, w' = p.world) (fun a' => ∀ w', (∃ p : BelowBy w, w' = p.world) → wpList P l.toArray Q (l.drop n) a' w') (l.take n) a) : (Code.region id l.toArray true).wp P Q a w :=
  wp_region_quiet_tail n hm hB ⟨⟨w.drew, (Below.refl _ _).drew⟩, rfl⟩ h
end

end Go.Proofs.Ytakfobihakbefaa

/- The laws' own marks in polynomials: markPoly, heldPoly. -/

namespace Go.Proofs.Ytakfobihakbefaa
open Go.RowKit

set_option maxRecDepth 100000 in
set_option maxHeartbeats 2000000 in
theorem markPoly_any (base : Nat) (low : Int) (v : Value) (zs : List Int) (k : Nat) (w : World) (h : IntRow base w v zs) (hb : base ≤ w.heap.size) (hk : k ≤ 1000000000000) (hn2 : zs.length ≤ 1000000000000) :
    Calls Try.prog 61 #[plV low v, .int .i64 k] w fun e w' => e = .returned (.int .i64 ((k + zs.length : Nat) : Int)) ∧ IntRow base w' v (marks k zs.length) ∧ Below base w w' := by
  have hbW : Below w.heap.size w (w.alloc (.cells #[.int .i64 low, v] 25)) := (Below.refl _ w).alloc (Nat.le_refl _) _
  have HM := Lib.hid (markIntS_any base v zs k _ (h.below hbW) hk hn2)
  have HO : Hid (∀ j, v.ownBlock = some j → base ≤ j) := Lib.hid fun j e => by
    rcases h.2 with ⟨rfl, _⟩ | ⟨g, cap, cur, rfl, hg, _⟩
    · cases e
    · simp [Value.ownBlock] at e
      omega
  have HB := Lib.hid (hbW.mono hb)
  clear h hbW
  go_enter Try.func61, Try.ntmps61
  go_wp2_with fail
  refine HM.out.mono ?_
  rintro e w1 ⟨rfl, hr, hg⟩
  have HR := Lib.hid hr
  have HG := Lib.hid (HB.out.grown hg (by simp; omega) HO.out)
  clear hr hg
  go_wp2
  go_ret
  exact ⟨rfl, HR.out, HG.out⟩

set_option maxRecDepth 100000 in
set_option maxHeartbeats 2000000 in
theorem heldPoly_any (base : Nat) (low : Int) (v : Value) (n k : Nat) (w : World) (h : IntRow base w v (marks k n)) (hk : k ≤ 1000000000000) (hn2 : n ≤ 1000000000000) :
    Calls Try.prog 62 #[plV low v, .int .i64 k] w fun e w' => e = .returned (.int .i64 ((k + n : Nat) : Int)) ∧ Below w.heap.size w w' := by
  have hbW : Below w.heap.size w (w.alloc (.cells #[.int .i64 low, v] 25)) := (Below.refl _ w).alloc (Nat.le_refl _) _
  have HM := Lib.hid (heldIntS_any base v n k _ (h.below hbW) hk hn2)
  have HB := Lib.hid hbW
  have hlt : decide (((k + n : Nat) : Int) < 0) = false := decide_eq_false (by omega)
  obtain ⟨q, hq⟩ : ∃ q, k + n = q := ⟨_, rfl⟩
  rw [hq] at hlt HM ⊢
  clear h hbW
  go_enter Try.func62, Try.ntmps62
  go_wp2_with fail
  refine HM.out.mono ?_
  rintro e w1 ⟨rfl, rfl⟩
  go_wp2
  go_ret
  exact ⟨rfl, HB.out⟩

end Go.Proofs.Ytakfobihakbefaa

/- How the laws' own toPoly answers, for the laws. -/

namespace Go.Proofs.Ytakfobihakbefaa
open Go.RowKit

theorem toPoly_t (low : Int) (a : Option Addr) (cap n : Nat) (zs : List Int) (w : World) (hm : n ≤ 1048576) (hs : Ints w a n zs) :
    Calls Try.prog 59 #[plV low (.slice a n cap)] w fun e w' => (∃ g, e = .returned (plV low (.slice (some ⟨g, 0, none⟩) n n)) ∧ w.heap.size ≤ g ∧ IntRow w.heap.size w' (.slice (some ⟨g, 0, none⟩) n n) zs ∧ Ints w' (some ⟨g, 0, none⟩) n zs) ∧ Below w.heap.size w w' := by
  refine (toPoly_any low a cap n zs w hm hs).mono ?_
  rintro e w1 ⟨⟨g, rfl, hg, hr⟩, hb⟩
  obtain ⟨a1, cap1, hv, hi⟩ := hr.read hs.wf
  have hl := hs.len
  subst hl
  simp at hv
  obtain ⟨rfl, _⟩ := hv
  exact ⟨⟨g, rfl, hg, hr, hi⟩, hb⟩

end Go.Proofs.Ytakfobihakbefaa

/- Boxes of polynomials in a law's walk; marks of polynomials that change one block alone. -/

namespace Go.Proofs.Ytakfobihakbefaa
open Go.RowKit

/-- Block j holds a struct of two cells. -/
def BoxAt (w : World) (j : Nat) (x y : Value) : Prop := j < w.heap.size ∧ w.cell? ⟨j, 0, none⟩ = some x ∧ w.cell? ⟨j, 1, none⟩ = some y
theorem BoxAt.below {w w' : World} {j : Nat} {x y : Value} (h : BoxAt w j x y) (hb : Below w.heap.size w w') : BoxAt w' j x y :=
  ⟨Nat.lt_of_lt_of_le h.1 hb.size, (hb.cell (p := ⟨j, 0, none⟩) h.1).trans h.2.1, (hb.cell (p := ⟨j, 1, none⟩) h.1).trans h.2.2⟩
theorem BoxAt.grown {w w' : World} {j : Nat} {x y : Value} {row : Option Nat} (h : BoxAt w j x y) (hg : w.grownBy w' row) (hne : row ≠ some j) : BoxAt w' j x y := by
  have e := hg.block j h.1 (Ne.symm hne)
  refine ⟨Nat.lt_of_lt_of_le h.1 hg.size, ?_, ?_⟩
  · rw [← h.2.1]; simp [World.cell?, e]
  · rw [← h.2.2]; simp [World.cell?, e]
theorem boxNew {w W : World} {t : TypeId} {x y : Value} (hW : w.alloc (.cells #[x, y] t) = W) : BoxAt W w.heap.size x y := by
  subst hW
  have e := World.alloc_heap_new w (.cells #[x, y] t)
  refine ⟨by simp, ?_, ?_⟩
  · unfold World.cell?; rw [show (⟨w.heap.size, 0, none⟩ : Addr).block = w.heap.size from rfl, e]; rfl
  · unfold World.cell?; rw [show (⟨w.heap.size, 1, none⟩ : Addr).block = w.heap.size from rfl, e]; rfl
theorem own_lt {w : World} {base size : Nat} {e : TypeId} {v : Value} {n : Nat} {xs : List Value} (h : w.ownsRow base e size v n xs) : ∀ j, v.ownBlock = some j → j < w.heap.size := fun j e => by
  rcases h.2 with ⟨rfl, _⟩ | ⟨g, cap, cur, rfl, hb, hg, _⟩
  · cases e
  · simp [Value.ownBlock] at e
    subst e
    exact (Array.getElem?_eq_some_iff.1 hg).1
theorem IntRow.grown {base : Nat} {w w' : World} {v : Value} {zs : List Int} {row : Option Nat} (h : IntRow base w v zs) (hg : w.grownBy w' row) (hne : ∀ j, v.ownBlock = some j → row ≠ some j) : IntRow base w' v zs :=
  h.kept hg (by
    rcases h.2 with ⟨rfl, _⟩ | ⟨g, cap, cur, rfl, _⟩
    · exact .inl rfl
    · exact .inr fun e => hne g rfl e.symm)

set_option maxRecDepth 100000 in
set_option maxHeartbeats 2000000 in
theorem markPoly_g (base : Nat) (low : Int) (v : Value) (zs : List Int) (k : Nat) (w : World) (h : IntRow base w v zs) (hk : k ≤ 1000000000000) (hn2 : zs.length ≤ 1000000000000) :
    Calls Try.prog 61 #[plV low v, .int .i64 k] w fun e w' => e = .returned (.int .i64 ((k + zs.length : Nat) : Int)) ∧ IntRow base w' v (marks k zs.length) ∧ w.grownBy w' v.ownBlock := by
  have hbW : Below w.heap.size w (w.alloc (.cells #[.int .i64 low, v] 25)) := (Below.refl _ w).alloc (Nat.le_refl _) _
  have HM := Lib.hid (markIntS_any base v zs k _ (h.below hbW) hk hn2)
  have HG0 := Lib.hid (World.grownBy_alloc w (.cells #[.int .i64 low, v] 25) v.ownBlock)
  clear h hbW
  go_enter Try.func61, Try.ntmps61
  go_wp2_with fail
  refine HM.out.mono ?_
  rintro e w1 ⟨rfl, hr, hg⟩
  have HR := Lib.hid hr
  have HG := Lib.hid (HG0.out.trans hg)
  clear hr hg
  go_wp2
  go_ret
  exact ⟨rfl, HR.out, HG.out⟩

end Go.Proofs.Ytakfobihakbefaa

/- The program's add, and its PolyAdd. -/

namespace Go.Proofs.Ytakfobihakbefaa
open Go.RowKit

set_option maxRecDepth 100000 in
set_option maxHeartbeats 4000000 in
theorem add_any (base g N capN : Nat) (f : Int → Int) (la lb : Int) (y : List Int) (a2 : Option Addr) (c2 n2 : Nat) (w : World)
    (hr : w.ownsRow base 3 1 (.slice (some ⟨g, 0, none⟩) N capN) N (intsV (listP f la N))) (h2 : Ints w a2 n2 y)
    (hla : -100000 ≤ la ∧ la ≤ 100000) (hlb : -100000 ≤ lb ∧ lb ≤ 100000) (hN : N ≤ 300000) (hn2 : n2 ≤ 100000) (hin : n2 = 0 ∨ (la ≤ lb ∧ lb + n2 ≤ la + N)) (hne : n2 = 0 ∨ ∀ x, a2 = some x → x.block ≠ g)
    (hf : ∀ z, -4000000000000000000 ≤ f z ∧ f z ≤ 4000000000000000000) (hy : ∀ i, -4000000000000000000 ≤ y.getD i 0 ∧ y.getD i 0 ≤ 4000000000000000000) :
    Calls Try.prog 106 #[plV la (.slice (some ⟨g, 0, none⟩) N capN), plV lb (.slice a2 n2 c2)] w fun e w' => e = .returned (.tuple #[]) ∧ w'.ownsRow base 3 1 (.slice (some ⟨g, 0, none⟩) N capN) N (intsV (listP (fun z => f z + pat ⟨lb, y⟩ z) la N)) ∧ w.grownBy w' (some g) := by
  obtain ⟨W, hW⟩ : ∃ W, (w.alloc (.cells #[.int .i64 la, .slice (some ⟨g, 0, none⟩) N capN] 25)).alloc (.cells #[.int .i64 lb, .slice a2 n2 c2] 25) = W := ⟨_, rfl⟩
  have hsz : W.heap.size = w.heap.size + 2 := by rw [← hW]; simp
  have hbW : Below w.heap.size w W := by rw [← hW]; exact ((Below.refl _ w).alloc (Nat.le_refl _) _).alloc (by simp) _
  have hgl : g < w.heap.size := own_lt hr g rfl
  have HC : Hid (∀ w1, W.grownBy w1 (some g) → w1.cell? ⟨w.heap.size, 0, none⟩ = some (.int .i64 la) ∧ w1.cell? ⟨w.heap.size, 1, none⟩ = some (.slice (some ⟨g, 0, none⟩) N capN) ∧ w1.cell? ⟨w.heap.size + 1, 0, none⟩ = some (.int .i64 lb) ∧ w1.cell? ⟨w.heap.size + 1, 1, none⟩ = some (.slice a2 n2 c2)) := Lib.hid fun w1 hg => by
    have e0 := hg.block w.heap.size (by omega) (by simp; omega)
    have e1 := hg.block (w.heap.size + 1) (by omega) (by simp; omega)
    have d0 : W.heap[w.heap.size]? = some (.cells #[.int .i64 la, .slice (some ⟨g, 0, none⟩) N capN] 25 (0, 0)) := by
      rw [← hW, Below.heap_alloc _ _ _ (by simp)]
      exact World.alloc_heap_new w _
    have d1 : W.heap[w.heap.size + 1]? = some (.cells #[.int .i64 lb, .slice a2 n2 c2] 25 (0, 0)) := by
      rw [← hW]
      have h := World.alloc_heap_new (w.alloc (.cells #[.int .i64 la, .slice (some ⟨g, 0, none⟩) N capN] 25)) (.cells #[.int .i64 lb, .slice a2 n2 c2] 25)
      rwa [World.size_alloc] at h
    rw [d0] at e0
    rw [d1] at e1
    refine ⟨?_, ?_, ?_, ?_⟩ <;> simp [World.cell?, e0, e1]
  have hC := HC.out W (World.grownBy.refl _ _)
  rw [← hW] at hC
  obtain ⟨p0, p1, q0, q1⟩ := hC
  have HGW : Hid (w.grownBy W (some g)) := Lib.hid ⟨hbW.os, hbW.tape, hbW.output, hbW.size, fun i hi _ => hbW.block i hi⟩
  have HS2 : Hid (∀ w1, W.grownBy w1 (some g) → ∀ k, k < n2 → ∀ x, a2 = some x → ∀ z, y.getD k 0 = z → w1.cell? (x.add k) = some (.int .i64 z)) := Lib.hid fun w1 hg k hk x hx z hz => by
    obtain ⟨x', e, hb, hc⟩ := h2.at_ (by omega)
    obtain rfl : x = x' := by rw [hx] at e; simpa using e
    have hl := h2.len
    have hne' : (x.add k).block ≠ g := by rw [addr_add_block]; exact (hne.resolve_left (by omega)) x hx
    have hbk := hbW.cell (p := x.add k) (by rw [addr_add_block]; exact hb)
    have hbl : (x.add k).block < W.heap.size := by rw [addr_add_block]; omega
    have e1 := hg.block (x.add k).block hbl (by simp; exact hne')
    have e2 : w1.cell? (x.add k) = W.cell? (x.add k) := by unfold World.cell?; rw [e1]
    rw [e2, hbk, hc k (by omega), ← hz, List.getD_eq_getElem?_getD, List.getElem?_eq_getElem (by omega)]
    rfl
  have HAT : Hid (0 < n2 → ∃ x, a2 = some x) := Lib.hid fun h => by obtain ⟨x, e, _⟩ := h2.at_ h; exact ⟨x, e⟩
  have HR0 : Hid (W.ownsRow base 3 1 (.slice (some ⟨g, 0, none⟩) N capN) N (intsV (listP (fun z => f z + upto (pat ⟨lb, y⟩) (lb + ((0 : Nat) : Int)) z) la N))) := Lib.hid (by
    have e : listP (fun z => f z + upto (pat ⟨lb, y⟩) (lb + ((0 : Nat) : Int)) z) la N = listP f la N := listP_congr fun z _ _ => by
      rw [show lb + ((0 : Nat) : Int) = lb by omega]
      show f z + upto (pat ⟨lb, y⟩) (⟨lb, y⟩ : Pl).low z = f z
      rw [upto_low, Int.add_zero]
    rw [e]
    exact hr.kept ⟨hbW.os, hbW.tape, hbW.output, hbW.size, fun j hj _ => hbW.block j hj⟩ (row := none) (.inr (by simp [Value.ownBlock])))
  have HN2 := Lib.hid h2.len
  have HF := Lib.hid hf
  have HY := Lib.hid hy
  have HW := Lib.hid hW
  have HIN := Lib.hid hin
  clear hW hbW h2 hf hy hsz hne hr hin hgl
  go_enter Try.func106, Try.ntmps106
  go_wp2_with fail
  rw [HW.out]
  clear p0 p1 q0 q1
  go_loopw [4, 5, 9] (fun _ _ i wr => ∃ k : Nat, k ≤ n2 ∧ i = .int .i64 (k : Int) ∧ Hid (wr.ownsRow base 3 1 (.slice (some ⟨g, 0, none⟩) N capN) N (intsV (listP (fun z => f z + upto (pat ⟨lb, y⟩) (lb + (k : Int)) z) la N))) ∧ Hid (W.grownBy wr (some g))) (fun _ _ i _ => n2 - (intOf i).toNat)
  case atStart => exact ⟨0, Nat.zero_le _, rfl, HR0, Lib.hid (World.grownBy.refl _ _)⟩
  case round =>
    obtain ⟨k, hk, rfl, HR, HG⟩ := hrel
    obtain ⟨p0, p1, q0, q1⟩ := HC.out wr HG.out
    by_cases hlt : k < n2
    · obtain ⟨x, rfl⟩ := HAT.out (by omega)
      obtain ⟨z, hz⟩ : ∃ z, y.getD k 0 = z := ⟨_, rfl⟩
      have hcz := HS2.out wr HG.out k hlt x rfl z hz
      have hin := HIN.out.resolve_left (by omega)
      obtain ⟨hin1, hin2⟩ := hin
      obtain ⟨u, hu⟩ : ∃ u, f (lb + (k : Int)) = u := ⟨_, rfl⟩
      have hub := HF.out (lb + (k : Int))
      rw [hu] at hub
      have hzb := HY.out k
      rw [hz] at hzb
      obtain ⟨hub1, hub2⟩ := hub
      obtain ⟨hzb1, hzb2⟩ := hzb
      obtain ⟨d, hd⟩ : ∃ d : Nat, lb - la = (d : Int) := ⟨(lb - la).toNat, by omega⟩
      obtain ⟨j, hj⟩ : ∃ j : Nat, d + k = j := ⟨_, rfl⟩
      have hjN : j < N := by omega
      have hjNi : (j : Int) < (N : Int) := by omega
      have hj0 : (0 : Int) ≤ (j : Int) := by omega
      have hki : (k : Int) < (n2 : Int) := by omega
      have hk0 : (0 : Int) ≤ (k : Int) := by omega
      have hw1 : IntKind.i64.wrap (lb - la) = (d : Int) := by rw [IntWalk.i64_in _ (by omega)]; exact hd
      have hw2 : IntKind.i64.wrap ((d : Int) + (k : Int)) = (j : Int) := by rw [IntWalk.i64_in _ (by omega)]; omega
      have hw4 : IntKind.i64.wrap (u + z) = u + z := IntWalk.i64_in _ (by omega)
      have hlj : la + (j : Int) = lb + (k : Int) := by omega
      have hck : wr.cell? ⟨g, j, none⟩ = some (.int .i64 u) := by
        rw [HR.out.cellAt _ (by omega), listP_cell hjN, hlj, upto_here, hu, Int.add_zero]
      have hfk := HR.out.frozenAt j
      have HST : Hid ((intsV (listP (fun z => f z + upto (pat ⟨lb, y⟩) (lb + (k : Int)) z) la N)).set j (.int .i64 (u + z)) = intsV (listP (fun z => f z + upto (pat ⟨lb, y⟩) (lb + ((k + 1 : Nat) : Int)) z) la N)) := Lib.hid (listP_set (fun p hp => by
          rw [show lb + ((k + 1 : Nat) : Int) = lb + (k : Int) + 1 by omega, upto_next (by omega)]) (by
          rw [show lb + ((k + 1 : Nat) : Int) = lb + (k : Int) + 1 by omega, hlj, upto_at, hu]
          rw [show pat ⟨lb, y⟩ (lb + (k : Int)) = z from (pat_at ⟨lb, y⟩ k).trans hz]))
      clear hz hd hj hlj hu
      go_wp2
      go_roundw
      case rel =>
        have h1 := HR.out.stored j (.int .i64 (u + z))
        refine ⟨k + 1, by omega, by go_num, Lib.hid ?_, Lib.hid (HG.out.trans h1.2)⟩
        rw [← HST.out]
        exact h1.1
      case measure => simp [intOf]; omega
    · obtain rfl : k = n2 := by omega
      have e : listP (fun z => f z + upto (pat ⟨lb, y⟩) (lb + (k : Int)) z) la N = listP (fun z => f z + pat ⟨lb, y⟩ z) la N := listP_congr fun z _ _ => by
        have h1 := upto_high ⟨lb, y⟩ z
        rw [show (⟨lb, y⟩ : Pl).low + ((⟨lb, y⟩ : Pl).cs.length : Int) = lb + (k : Int) by show lb + (y.length : Int) = _; rw [HN2.out]] at h1
        rw [h1]
      have hr := HR.out
      rw [e] at hr
      have HRR := Lib.hid hr
      clear hr e HR
      go_wp2
      go_end0
      exact ⟨rfl, HRR.out, HGW.out.trans HG.out⟩

end Go.Proofs.Ytakfobihakbefaa

/- Regions that draw their order, make memory and lay a box: the law of make at a step; a box that was laid somewhere on the way. -/

namespace Go.Proofs.Ytakfobihakbefaa
open Go.RowKit

theorem step_make {P : Program} {w : World} {ops : Array Oper} {o : Oper} {a : Act} {K : Act → World → Prop} {Q : Exit → Act → World → Prop} {E : Prop} (hgd : o.guard = none) (l c : Operand) (t : TypeId)
    (ho : o.op = .makeSlice t l c) (base : Nat) (e : TypeId) (i : TypeInfo) (z : Value) (size : Nat) (h1 : P.underlying t = some (.slice e)) (h2 : P.info? e = some i) (h3 : i.zero = some z) (h4 : i.size = size)
    (n : Nat) (hl : a.eval l = .int .i64 (n : Int)) (hc : a.eval c = .int .i64 (n : Int)) (b2 : i.bytes * n ≤ 281474976710656) (b3 : n ≤ maxLen) (b4 : base ≤ w.heap.size)
    (h : ∀ g w', w.heap.size ≤ g → w'.ownsRow base e size (.slice (some ⟨g, 0, none⟩) n n) n (madeCells z.cells (n * size)).toList → w.grownBy w' none → K (a.put o.dst (.slice (some ⟨g, 0, none⟩) n n)) w') :
    if Region.wanted o (yielded ops a.tmps) = true then Oper.wp P o a w K Q else E := by
  have hw : Region.wanted o (yielded ops a.tmps) = true := by simp [Region.wanted, hgd]
  rw [if_pos hw]
  obtain ⟨w', hrun, r1, r2⟩ := run_make_full (P := P) (w := w) base t e i z size h1 h2 h3 h4 .i64 .i64 n b2 b3 b4
  unfold Oper.wp
  simp [execOp, ho, hl, hc, hrun, Result.andThen]
  exact h _ w' (Nat.le_refl _) r1 r2

/-- A box of a polynomial that still holds zeros. -/
def BoxZ (w : World) (j : Nat) : Prop := j < w.heap.size ∧ w.cell? ⟨j, 0, none⟩ = some (.int .i64 0) ∧ w.cell? ⟨j, 1, none⟩ = some (.slice none 0 0) ∧ w.frozen? ⟨j, 0, none⟩ = false ∧ w.frozen? ⟨j, 1, none⟩ = false
theorem BoxZ.below {w w' : World} {j : Nat} (h : BoxZ w j) (hb : Below w.heap.size w w') : BoxZ w' j := by
  have e := hb.block j h.1
  refine ⟨Nat.lt_of_lt_of_le h.1 hb.size, ?_, ?_, ?_, ?_⟩
  · rw [← h.2.1]; simp [World.cell?, e]
  · rw [← h.2.2.1]; simp [World.cell?, e]
  · rw [← h.2.2.2.1]; simp [World.frozen?, e]
  · rw [← h.2.2.2.2]; simp [World.frozen?, e]
theorem BoxZ.new (w : World) : BoxZ (w.alloc (.cells #[.int .i64 0, .slice none 0 0] 25)) w.heap.size := by
  obtain ⟨d0, d1, f0, f1⟩ := resCells (w := w) (w1 := w.alloc (.cells #[.int .i64 0, .slice none 0 0] 25)) (r := w.heap.size) rfl ((Below.refl _ _))
  exact ⟨by simp, d0, d1, f0, f1⟩
/-- It was laid just now. -/
theorem BoxZ.of {w w' : World} (hb : Below (w.alloc (.cells #[.int .i64 0, .slice none 0 0] 25)).heap.size (w.alloc (.cells #[.int .i64 0, .slice none 0 0] 25)) w') : BoxZ w' w.heap.size := (BoxZ.new w).below hb
theorem BoxZ.ofd {w w' : World} (hb : Below (w.alloc (.cells #[.int .i64 0, .slice none 0 0] 25)).drew.heap.size (w.alloc (.cells #[.int .i64 0, .slice none 0 0] 25)).drew w') : BoxZ w' w.heap.size :=
  (BoxZ.new w).below (Below.trans (Below.refl _ _).drew hb)
theorem BoxZ.lt {w w' : World} {o : Obj} (_ : Below (w.alloc o).heap.size (w.alloc o) w') : w.heap.size < (w.alloc o).heap.size := by rw [World.size_alloc]; omega
theorem below_alloc {b : Nat} {w w1 w2 : World} {o : Obj} (h : Below b w w1) (hs : b ≤ w1.heap.size) (hb : Below (w1.alloc o).heap.size (w1.alloc o) w2) : Below b w w2 :=
  (h.alloc hs o).trans (hb.mono (by rw [World.size_alloc]; omega))
theorem below_of_grown {w w' : World} (h : w.grownBy w' none) : Below w.heap.size w w' := (Below.refl _ _).grown h (Nat.le_refl _) (fun j e => by cases e)
/-- The box is filled. -/
theorem BoxZ.fill {w : World} {j : Nat} {x y : Value} (h : BoxZ w j) : BoxAt ((w.setCell ⟨j, 0, none⟩ x).setCell ⟨j, 1, none⟩ y) j x y := by
  obtain ⟨h0, h1, h2, _, _⟩ := h
  refine ⟨by simp; exact h0, ?_, ?_⟩
  · go_simp
  · go_simp
theorem own_raise {w : World} {base size : Nat} {e : TypeId} {g n c : Nat} {xs : List Value} (h : w.ownsRow base e size (.slice (some ⟨g, 0, none⟩) n c) n xs) : w.ownsRow g e size (.slice (some ⟨g, 0, none⟩) n c) n xs := by
  obtain ⟨h1, h2⟩ := h
  refine ⟨h1, ?_⟩
  rcases h2 with ⟨e, _⟩ | ⟨g', cap, cur, e, hb, rest⟩
  · cases e
  · simp only [Value.slice.injEq, Option.some.injEq, Addr.mk.injEq] at e
    obtain ⟨⟨rfl, _, _⟩, _, rfl⟩ := e
    exact .inr ⟨g, c, cur, rfl, Nat.le_refl _, rest⟩
theorem run_makeI (n : Nat) (hn : n ≤ 1048576) (V : World) : (Instr.makeSlice 23 (.int .i64 (n : Int)) (.int .i64 (n : Int))).run Try.prog V = .ok (.slice (some ⟨V.heap.size, 0, none⟩) n n) (V.alloc (.cells (madeCells (Value.cells (.int .i64 0)) (n * 1)) 3)) := by
  obtain ⟨i0, hi, hz0, hz1, hz2⟩ := info_parts infoInt
  have hr := run_make (P := Try.prog) V 23 3 i0 (.int .i64 0) Try.underlying23 hi hz0 .i64 .i64 n n (by omega) (Int.le_refl _) (by rw [hz2]; omega) (by omega)
  rw [hz1] at hr
  simpa using hr
/-- Two boxes lie ahead of a block. -/
theorem two_ahead {a b : Nat} (h : a + 1 < b) : ¬ a = b ∧ ¬ b = a ∧ ¬ a + 1 = b ∧ ¬ b = a + 1 ∧ ¬ a = b + 1 ∧ ¬ b + 1 = a := by omega
/-- A box that holds x and a new row of n ints, behind a region that lays both. -/
def RegMk (w wx : World) (s x : Value) (n : Nat) (mc : Array Value) : Prop :=
  ∃ j g : Nat, s = .pointer (some ⟨j, 0, none⟩) ∧ BoxAt wx j x (.slice (some ⟨g, 0, none⟩) n n) ∧ w.heap.size ≤ j ∧ wx.ownsRow w.heap.size 3 1 (.slice (some ⟨g, 0, none⟩) n n) n mc.toList ∧ g ≠ j ∧ Below w.heap.size w wx
theorem regA {w V : World} {x : Value} {n : Nat} {mc : Array Value} (hB : Below w.heap.size w V) (hn : n ≤ maxLen) (hm : mc.size = n * 1) :
    RegMk w ((V.alloc (.cells mc 3)).alloc (.cells #[x, .slice (some ⟨V.heap.size, 0, none⟩) n n] 25)) (.pointer (some ⟨V.heap.size + 1, 0, none⟩)) x n mc := by
  have h1 := boxNew (w := V.alloc (.cells mc 3)) (t := 25) (x := x) (y := .slice (some ⟨V.heap.size, 0, none⟩) n n) rfl
  rw [World.size_alloc] at h1
  have hs := hB.size
  refine ⟨V.heap.size + 1, V.heap.size, rfl, h1, by omega, ?_, by omega, (hB.alloc hs _).alloc (by rw [World.size_alloc]; omega) _⟩
  exact (World.ownsRow_lit V mc n hs hn hm).kept (World.grownBy_alloc _ _ none) (.inr (by simp [Value.ownBlock]))
theorem regB {w V : World} {x : Value} {n : Nat} {mc : Array Value} (hB : Below w.heap.size w V) (hn : n ≤ maxLen) (hm : mc.size = n * 1) :
    RegMk w ((V.alloc (.cells #[x, .slice (some ⟨V.heap.size + 1, 0, none⟩) n n] 25)).alloc (.cells mc 3)) (.pointer (some ⟨V.heap.size, 0, none⟩)) x n mc := by
  have h1 := boxNew (w := V) (t := 25) (x := x) (y := .slice (some ⟨V.heap.size + 1, 0, none⟩) n n) rfl
  have hs := hB.size
  refine ⟨V.heap.size, V.heap.size + 1, rfl, h1.below ((Below.refl _ _).alloc (Nat.le_refl _) _), hs, ?_, by omega, (hB.alloc hs _).alloc (by rw [World.size_alloc]; omega) _⟩
  have h2 := World.ownsRow_lit (base := w.heap.size) (V.alloc (.cells #[x, .slice (some ⟨V.heap.size + 1, 0, none⟩) n n] 25)) mc n (e := 3) (size := 1) (by rw [World.size_alloc]; omega) hn hm
  rw [World.size_alloc] at h2
  exact h2
theorem regC {w V : World} {j : Nat} {x : Value} {n : Nat} {mc : Array Value} (hB : Below w.heap.size w V) (hZ : BoxZ V j) (hj : w.heap.size ≤ j) (hn : n ≤ maxLen) (hm : mc.size = n * 1) :
    RegMk w (((V.setCell ⟨j, 0, none⟩ x).setCell ⟨j, 1, none⟩ (.slice (some ⟨V.heap.size, 0, none⟩) n n)).alloc (.cells mc 3)) (.pointer (some ⟨j, 0, none⟩)) x n mc := by
  have h1 := hZ.fill (x := x) (y := .slice (some ⟨V.heap.size, 0, none⟩) n n)
  have hs := hB.size
  have hz : ((V.setCell ⟨j, 0, none⟩ x).setCell ⟨j, 1, none⟩ (.slice (some ⟨V.heap.size, 0, none⟩) n n)).heap.size = V.heap.size := by simp
  have hb2 : Below w.heap.size w ((V.setCell ⟨j, 0, none⟩ x).setCell ⟨j, 1, none⟩ (.slice (some ⟨V.heap.size, 0, none⟩) n n)) := (hB.setCell (p := ⟨j, 0, none⟩) hj _).setCell (p := ⟨j, 1, none⟩) hj _
  refine ⟨j, V.heap.size, rfl, h1.below ((Below.refl _ _).alloc (Nat.le_refl _) _), hj, ?_, by have := hZ.1; omega, hb2.alloc (by omega) _⟩
  have h2 := World.ownsRow_lit (base := w.heap.size) ((V.setCell ⟨j, 0, none⟩ x).setCell ⟨j, 1, none⟩ (.slice (some ⟨V.heap.size, 0, none⟩) n n)) mc n (e := 3) (size := 1) (by omega) hn hm
  rw [hz] at h2
  exact h2
theorem made_zero (low : Int) (n : Nat) : (madeCells (Value.cells (.int .i64 0)) (n * 1)).toList = intsV (listP (fun _ => 0) low n) := by
  rw [show Value.cells (.int .i64 0) = #[.int .i64 0] from rfl, toList_madeCells_one, listP_zero]
  simp [intsV]
theorem made_size (n : Nat) : (madeCells (Value.cells (.int .i64 0)) (n * 1)).size = n * 1 := by
  have h := made_zero 0 n
  have e : (madeCells (Value.cells (.int .i64 0)) (n * 1)).toList.length = n := by rw [h, intsV_len, listP_len]
  rw [Array.length_toList] at e
  omega

end Go.Proofs.Ytakfobihakbefaa

/- The program's PolyAdd. -/

namespace Go.Proofs.Ytakfobihakbefaa
open Go.RowKit

theorem listP_tidy {f : Int → Int} {low : Int} {n : Nat} {q : Pl} (hq : Trim q) (h1 : ∀ k, k < low → f k = 0) (h2 : ∀ k, low + n ≤ k → f k = 0) (h : ∀ k, pat q k = f k) : tidyP low (listP f low n) = q :=
  trim_unique (tidy_trim _ _) hq fun k => by rw [tidy_pat, listP_pat h1 h2, h]
theorem pat_bound {p : Pl} {M : Int} (h0 : 0 ≤ M) (h : ∀ i, -M ≤ p.cs.getD i 0 ∧ p.cs.getD i 0 ≤ M) (k : Int) : -M ≤ pat p k ∧ pat p k ≤ M := by
  unfold pat
  split
  · exact h _
  · omega

set_option maxRecDepth 100000 in
set_option maxHeartbeats 8000000 in
theorem iPolyAdd_any (l1 l2 : Int) (x y : List Int) (a1 a2 : Option Addr) (c1 c2 n1 n2 : Nat) (ba bb t : Bool) (w : World) (h1 : Ints w a1 n1 x) (h2 : Ints w a2 n2 y) (hc1 : n1 ≤ c1) (hc2 : n2 ≤ c2)
    (hba : polyB ⟨l1, x⟩ = ba) (hbb : polyB ⟨l2, y⟩ = bb) (ht : (ba && (bb && polyB (sumP ⟨l1, x⟩ 1 ⟨l2, y⟩))) = t) :
    Calls Try.prog 48 #[plV l1 (.slice a1 n1 c1), plV l2 (.slice a2 n2 c2)] w fun e w' => (∃ v, e = .returned (.tuple #[plV (doneP t (sumP ⟨l1, x⟩ 1 ⟨l2, y⟩)).low v, .bool t]) ∧ IntRow w.heap.size w' v (doneP t (sumP ⟨l1, x⟩ 1 ⟨l2, y⟩)).cs) ∧ Below w.heap.size w w' := by
  obtain ⟨i0, hi, hz0, hz1, hz2⟩ := info_parts infoInt
  have hmx : Try.prog.follows .mixedOrders = true := by kernel_rfl
  have hzm := told_zm
  have hzn := told_zn
  have hpm := told_pm
  have hpn := told_pn
  obtain ⟨W, hW⟩ : ∃ W, ((w.alloc (.cells #[.int .i64 l1, .slice a1 n1 c1] 25)).alloc (.cells #[.int .i64 l2, .slice a2 n2 c2] 25)).alloc (.cells #[.int .i64 0, .slice none 0 0] 25) = W := ⟨_, rfl⟩
  obtain ⟨hbW, hsz⟩ := boxes3Below hW
  have HC : Hid (∀ w1, Below W.heap.size W w1 → _) := Lib.hid fun w1 (hg : Below W.heap.size W w1) => boxes3 hW hg
  have hC := boxes3 hW (Below.refl _ _)
  rw [← hW] at hC
  obtain ⟨⟨p0, p1⟩, ⟨q0, q1⟩, _⟩ := hC
  have H1 := Lib.hid (h1.below hbW)
  have H2 := Lib.hid (h2.below hbW)
  have HBA := Lib.hid hba
  have HBB := Lib.hid hbb
  have HN1 := Lib.hid h1.len
  have HN2 := Lib.hid h2.len
  have HBW := Lib.hid hbW
  have HW := Lib.hid hW
  have HSZ := Lib.hid hsz
  have HT := Lib.hid ht
  clear hW hbW h1 h2 hba hbb hsz ht
  go_enter Try.func48, Try.ntmps48
  go_wp2_with fail
  rw [HW.out]
  clear p0 p1 q0 q1
  refine (iPolyIn_any l1 x a1 c1 n1 ba W H1.out hc1 HBA.out).mono ?_
  rintro e w1 ⟨rfl, hb1⟩
  have HB1 := Lib.hid hb1
  obtain ⟨⟨p0, p1⟩, ⟨q0, q1⟩, d0, d1, f0, f1⟩ := HC.out w1 hb1
  have hs1 := hb1.size
  clear hb1
  cases ba with
  | false =>
    obtain rfl : t = false := by rw [← HT.out]; rfl
    go_wp2
    have hss := HSZ.out
    refine bodyPost_ret (v := .tuple #[plV 0 (.slice none 0 0), .bool false]) ?_ rfl ⟨⟨_, rfl, intNil _ _⟩, resBelow2 (.int .i64 0) (.slice none 0 0) (HBW.out.trans (HB1.out.mono HBW.out.size))⟩
    simp [results, Try.results48, go_sem, d0, d1, plV]
  | true =>
    go_wp2_with fail
    refine (iPolyIn_any l2 y a2 c2 n2 bb w1 (H2.out.below HB1.out) hc2 HBB.out).mono ?_
    rintro e w2 ⟨rfl, hb2⟩
    have HB2 := Lib.hid (HB1.out.trans (hb2.mono hs1))
    have hs2 := HB2.out.size
    clear hb2 p0 p1 q0 q1 d0 d1 f0 f1
    obtain ⟨⟨p0, p1⟩, ⟨q0, q1⟩, d0, d1, f0, f1⟩ := HC.out w2 HB2.out
    cases bb with
    | false =>
      obtain rfl : t = false := by rw [← HT.out]; rfl
      go_wp2
      refine bodyPost_ret (v := .tuple #[plV 0 (.slice none 0 0), .bool false]) ?_ rfl ⟨⟨_, rfl, intNil _ _⟩, resBelow2 (.int .i64 0) (.slice none 0 0) (HBW.out.trans (HB2.out.mono HBW.out.size))⟩
      simp [results, Try.results48, go_sem, d0, d1, plV]
    | true =>
      obtain ⟨hT1, hx200, hxl1, hxl2, hxc⟩ := polyB_trim HBA.out
      obtain ⟨_, hy200, hyl1, hyl2, hyc⟩ := polyB_trim HBB.out
      have hx200 : x.length ≤ 200 := hx200
      have hy200 : y.length ≤ 200 := hy200
      have hxl1 : -300 ≤ l1 := hxl1
      have hxl2 : l1 ≤ 300 := hxl2
      have hyl1 : -300 ≤ l2 := hyl1
      have hyl2 : l2 ≤ 300 := hyl2
      have hx1 := HN1.out
      have hx2 := HN2.out
      have HXC : Hid (∀ i, -1000000000 ≤ x.getD i 0 ∧ x.getD i 0 ≤ 1000000000) := Lib.hid hxc
      have HYC : Hid (∀ i, -1000000000 ≤ y.getD i 0 ∧ y.getD i 0 ≤ 1000000000) := Lib.hid hyc
      have HPT : Hid (polyB (sumP ⟨l1, x⟩ 1 ⟨l2, y⟩) = t) := Lib.hid (by have := HT.out; rwa [Bool.true_and, Bool.true_and] at this)
      have HTR : Hid (Trim (sumP ⟨l1, x⟩ 1 ⟨l2, y⟩)) := Lib.hid (sum_trim 1 ⟨l2, y⟩ hT1)
      obtain ⟨LO, hLO⟩ : ∃ LO, (if l1 ≤ l2 then l1 else l2) = LO := ⟨_, rfl⟩
      obtain ⟨HI, hHI⟩ : ∃ HI, (if l2 + (n2 : Int) ≤ l1 + (n1 : Int) then l1 + (n1 : Int) else l2 + (n2 : Int)) = HI := ⟨_, rfl⟩
      have hmin : ∀ V : World, (Builtin.min_ #[3, 3] 3 #[.int .i64 l1, .int .i64 l2]).run Try.prog V = .ok (.int .i64 LO) V := fun V => by rw [min_int, hLO]
      have hmax : ∀ V : World, (Builtin.max_ #[3, 3] 3 #[.int .i64 (l1 + (n1 : Int)), .int .i64 (l2 + (n2 : Int))]).run Try.prog V = .ok (.int .i64 HI) V := fun V => by rw [max_int, hHI]
      have hLr : LO ≤ l1 ∧ LO ≤ l2 ∧ l1 + n1 ≤ HI ∧ l2 + n2 ≤ HI ∧ -300 ≤ LO ∧ HI ≤ 500 := by
        rw [← hLO, ← hHI]
        refine ⟨?_, ?_, ?_, ?_, ?_, ?_⟩ <;> split <;> omega
      obtain ⟨hr1, hr2, hr3, hr4, hr5, hr6⟩ := hLr
      obtain ⟨N, hN⟩ : ∃ N : Nat, HI - LO = (N : Int) := ⟨(HI - LO).toNat, by omega⟩
      have hwN : IntKind.i64.wrap (HI - LO) = (N : Int) := by rw [IntWalk.i64_in _ (by omega)]; exact hN
      have hNb : N ≤ 800 := by omega
      have HNI := Lib.hid hN
      have hn1 : n1 ≤ 1048576 := by omega
      have hn2 : n2 ≤ 1048576 := by omega
      have hl1' : -1000000000 ≤ l1 := by omega
      have hl1'' : l1 ≤ 1000000000 := by omega
      have hl2' : -1000000000 ≤ l2 := by omega
      have hl2'' : l2 ≤ 1000000000 := by omega
      clear hLO hHI hT1 hxc hyc hN
      have hb0 : w.heap.size < w2.heap.size := by have := HSZ.out; omega
      have hb1 : w.heap.size + 1 < w2.heap.size := by have := HSZ.out; omega
      have HEND1 : Hid (∀ V : World, Calls Try.prog 105 #[plV l1 (.slice a1 n1 c1)] V fun e w' => e = .returned (.int .i64 (l1 + (n1 : Int))) ∧ Below V.heap.size V w') := Lib.hid fun V => end_any l1 a1 c1 n1 V hl1' hl1'' hn1
      have HEND2 : Hid (∀ V : World, Calls Try.prog 105 #[plV l2 (.slice a2 n2 c2)] V fun e w' => e = .returned (.int .i64 (l2 + (n2 : Int))) ∧ Below V.heap.size V w') := Lib.hid fun V => end_any l2 a2 c2 n2 V hl2' hl2'' hn2
      have HBk : Hid (Below w2.heap.size w2 w2) := Lib.hid (Below.refl _ _)
      obtain ⟨mc, hmc⟩ : ∃ mc, madeCells (Value.cells (.int .i64 0)) (N * 1) = mc := ⟨_, rfl⟩
      have hmk : ∀ V : World, (Instr.makeSlice 23 (.int .i64 (N : Int)) (.int .i64 (N : Int))).run Try.prog V = .ok (.slice (some ⟨V.heap.size, 0, none⟩) N N) (V.alloc (.cells mc 3)) := fun V => by rw [← hmc]; exact run_makeI N (by omega) V
      have HMC := Lib.hid hmc
      have HNM : Hid (N ≤ maxLen) := Lib.hid (by unfold maxLen; omega)
      have HMS : Hid (mc.size = N * 1) := Lib.hid (by rw [← hmc]; exact made_size N)
      clear hmc
      obtain ⟨m1, m2, m3, m4, m5, m6⟩ := two_ahead hb1
      go_upto_region 4 with fail
      go_cut [7] (fun s7 wx => RegMk w2 wx s7 (.int .i64 LO) N mc)
      case first =>
        go_region_held3 (fun w' : World => w'.cell? ⟨w.heap.size, 0, none⟩ = some (.int .i64 l1) ∧ w'.cell? ⟨w.heap.size, 1, none⟩ = some (.slice a1 n1 c1) ∧ w'.cell? ⟨w.heap.size + 1, 0, none⟩ = some (.int .i64 l2) ∧ w'.cell? ⟨w.heap.size + 1, 1, none⟩ = some (.slice a2 n2 c2)) (first | go_keep | exact ⟨k0, k1, k2, k3⟩)
          (first
            | (go_at_call 105
               first | refine (HEND1.out _).mono ?_ | refine (HEND2.out _).mono ?_
               rintro e V ⟨rfl, hbv⟩
               have hbn : Below w2.heap.size w2 V := by
                 first
                 | exact HBk.out.trans (hbv.mono HBk.out.size)
                 | exact HBk.out.drew.trans (hbv.mono HBk.out.size)
                 | exact below_alloc HBk.out HBk.out.size hbv
                 | exact below_alloc HBk.out.drew HBk.out.size hbv
               first
               | (have HZ : Hid (BoxZ V w2.heap.size) := Lib.hid (BoxZ.of (w := w2.drew) hbv); obtain ⟨_, z0, z1, z2, z3⟩ := HZ.out)
               | (have HZ : Hid (BoxZ V w2.heap.size) := Lib.hid (BoxZ.ofd (w := w2) hbv); obtain ⟨_, z0, z1, z2, z3⟩ := HZ.out)
               | (have HZ := Lib.hid (BoxZ.of hbv); have HZL := Lib.hid HBk.out.size; obtain ⟨_, z0, z1, z2, z3⟩ := HZ.out)
               | (have HZ' := Lib.hid (HZ.out.below hbv); clear HZ z0 z1 z2 z3; have HZ := HZ'; clear HZ'; obtain ⟨_, z0, z1, z2, z3⟩ := HZ.out)
               | skip
               obtain ⟨o1, o2, o3, o4, o5, o6⟩ := two_ahead (Nat.lt_of_lt_of_le hb1 hbn.size)
               clear HBk
               have HBk := Lib.hid hbn
               obtain ⟨⟨k0, k1⟩, ⟨k2, k3⟩, _⟩ := HC.out V (HB2.out.trans (hbn.mono hs2))
               clear hbv hbn))
        all_goals (go_wp2_with fail; go_meet)
        all_goals first
          | exact regA HBk.out HNM.out HMS.out
          | exact regB HBk.out HNM.out HMS.out
          | exact regC HBk.out HZ.out (by have := HBk.out.size; omega) HNM.out HMS.out
          | exact regC HBk.out HZ.out (Nat.le_refl _) HNM.out HMS.out
          | exact regC HBk.out HZ.out HZL.out HNM.out HMS.out
      case rest =>
      obtain ⟨j, g, hs7, hbox, hj, hrow, hgj, hbx⟩ := hcut
      subst hs7
      clear HEND1 HEND2 hmk HBk m1 m2 m3 m4 m5 m6 p0 p1 q0 q1 d0 d1 f0 f1 hmin hmax
      have HBx := Lib.hid (HB2.out.trans (hbx.mono hs2))
      have hgge := own_ge hrow g rfl
      have hsx := hbx.size
      rw [← HMC.out, made_zero LO N] at hrow
      have HROW := Lib.hid hrow
      have HBOX := Lib.hid hbox
      obtain ⟨⟨p0, p1⟩, ⟨q0, q1⟩, _⟩ := HC.out wc HBx.out
      obtain ⟨_, b0, b1⟩ := hbox
      have hNI := HNI.out
      have hne1 : n1 = 0 ∨ ∀ z, a1 = some z → z.block ≠ g := by
        by_cases h0 : n1 = 0
        · exact .inl h0
        · refine .inr fun z hz => ?_
          obtain ⟨z', e, hb, _⟩ := (H1.out.below HB2.out).at_ (by omega)
          obtain rfl : z = z' := by rw [hz] at e; simpa using e
          omega
      have hne2 : n2 = 0 ∨ ∀ z, a2 = some z → z.block ≠ g := by
        by_cases h0 : n2 = 0
        · exact .inl h0
        · refine .inr fun z hz => ?_
          obtain ⟨z', e, hb, _⟩ := (H2.out.below HB2.out).at_ (by omega)
          obtain rfl : z = z' := by rw [hz] at e; simpa using e
          omega
      have HADD1 := Lib.hid (add_any w2.heap.size g N N (fun _ => 0) LO l1 x a1 c1 n1 wc HROW.out (H1.out.below HBx.out) (by omega) (by omega) (by omega) (by omega) (.inr (by omega)) hne1 (fun z => by omega) (fun i => by have := HXC.out i; omega))
      clear hrow hbx hne1
      go_wp2_with fail
      refine HADD1.out.mono ?_
      rintro e w3 ⟨rfl, hr3, hg3⟩
      have HB3 := Lib.hid (HBx.out.grown hg3 (by omega) (fun k e => by simp at e; omega))
      have HBOX3 := Lib.hid (HBOX.out.grown hg3 (by simp; exact hgj))
      have HR3 := Lib.hid hr3
      have hs3 := hg3.size
      clear p0 p1 q0 q1 b0 b1 hr3 hg3 HADD1
      obtain ⟨⟨p0, p1⟩, ⟨q0, q1⟩, _⟩ := HC.out w3 HB3.out
      obtain ⟨_, b0, b1⟩ := HBOX3.out
      have HPB1 : Hid (∀ z, -1000000000 ≤ pat ⟨l1, x⟩ z ∧ pat ⟨l1, x⟩ z ≤ 1000000000) := Lib.hid (pat_bound (p := ⟨l1, x⟩) (by omega) HXC.out)
      have HADD2 := Lib.hid (add_any w2.heap.size g N N (fun z => 0 + pat ⟨l1, x⟩ z) LO l2 y a2 c2 n2 w3 HR3.out (H2.out.below HB3.out) (by omega) (by omega) (by omega) (by omega) (.inr (by omega)) hne2 (fun z => by have := HPB1.out z; omega) (fun i => by have := HYC.out i; omega))
      clear hne2
      go_wp2_with fail
      refine HADD2.out.mono ?_
      rintro e w4 ⟨rfl, hr4, hg4⟩
      have HB4 := Lib.hid (HB3.out.grown hg4 (by omega) (fun k e => by simp at e; omega))
      have HBOX4 := Lib.hid (HBOX3.out.grown hg4 (by simp; exact hgj))
      have hs4 := hg4.size
      clear p0 p1 q0 q1 b0 b1 hg4 HADD2
      obtain ⟨_, b0, b1⟩ := HBOX4.out
      have HPB2 : Hid (∀ z, -1000000000 ≤ pat ⟨l2, y⟩ z ∧ pat ⟨l2, y⟩ z ≤ 1000000000) := Lib.hid (pat_bound (p := ⟨l2, y⟩) (by omega) HYC.out)
      have hwf : ∀ z ∈ listP (fun z => 0 + pat ⟨l1, x⟩ z + pat ⟨l2, y⟩ z) LO N, -9223372036854775808 ≤ z ∧ z ≤ 9223372036854775807 := fun z hz => by
        unfold listP at hz
        obtain ⟨i, _, rfl⟩ := List.mem_map.1 hz
        have e1 := HPB1.out (LO + (i : Int))
        have e2 := HPB2.out (LO + (i : Int))
        show -9223372036854775808 ≤ 0 + pat ⟨l1, x⟩ (LO + (i : Int)) + pat ⟨l2, y⟩ (LO + (i : Int)) ∧ 0 + pat ⟨l1, x⟩ (LO + (i : Int)) + pat ⟨l2, y⟩ (LO + (i : Int)) ≤ 9223372036854775807
        omega
      have hrr : IntRow w2.heap.size w4 (.slice (some ⟨g, 0, none⟩) N N) (listP (fun z => 0 + pat ⟨l1, x⟩ z + pat ⟨l2, y⟩ z) LO N) := rowI hr4 (listP_len _ _ _)
      obtain ⟨a5, c5, hv, hc5, hi5⟩ := hrr.readc hwf
      rw [listP_len] at hv hc5 hi5
      simp at hv
      obtain ⟨rfl, rfl⟩ := hv
      have HTD : Hid (tidyP LO (listP (fun z => 0 + pat ⟨l1, x⟩ z + pat ⟨l2, y⟩ z) LO N) = sumP ⟨l1, x⟩ 1 ⟨l2, y⟩) := Lib.hid (listP_tidy HTR.out (fun k hk => by
          rw [pat_low ⟨l1, x⟩ (by show k < l1; omega), pat_low ⟨l2, y⟩ (by show k < l2; omega)]; rfl) (fun k hk => by
          rw [pat_high ⟨l1, x⟩ (by show l1 + (x.length : Int) ≤ k; omega), pat_high ⟨l2, y⟩ (by show l2 + (y.length : Int) ≤ k; omega)]; rfl) (fun k => by
          rw [sum_pat, Int.one_mul, Int.zero_add]))
      have HA := Lib.hid (apart_in LO (listP (fun z => 0 + pat ⟨l1, x⟩ z + pat ⟨l2, y⟩ z) LO N) (some ⟨g, 0, none⟩) N N w4 hi5 (Nat.le_refl _) (by omega) (by omega) (by omega))
      clear hwf hrr hr4 hc5 hi5
      go_wp2_with fail
      refine HA.out.mono ?_
      rintro e w5 ⟨⟨v, rfl, hA⟩, hb5⟩
      have HB5 := Lib.hid (HB4.out.trans (hb5.mono (by omega)))
      have hs5 := hb5.size
      clear hb5 b0 b1
      rw [HTD.out] at hA
      have hss := HSZ.out
      rcases hA with ⟨hq, rfl⟩ | ⟨hq, a6, c6, rfl, hc6, hi6⟩
      · obtain ⟨rfl, hq0⟩ := told_zero HTR.out hq HPT.out
        have HQ0 := Lib.hid hq0
        clear hq hq0
        go_wp2_with fail
        refine (toldZ_any _).mono ?_
        rintro e w6 ⟨⟨v, rfl, hr⟩, hb6⟩
        obtain ⟨_, _, d0, d1, f0, f1⟩ := HC.out w6 (HB5.out.trans (hb6.mono (by omega)))
        have HR := Lib.hid hr
        have HB6 := Lib.hid (HBW.out.trans ((HB5.out.trans (hb6.mono (by omega))).mono HBW.out.size))
        obtain ⟨g4, gg, cap4, rfl, _⟩ := hr.shape
        clear hr hb6
        go_wp2
        refine bodyPost_ret (v := .tuple #[plV 0 (.slice g4 0 cap4), .bool true]) ?_ rfl ⟨⟨.slice g4 0 cap4, by rw [HQ0.out]; rfl, by rw [HQ0.out]; exact resRow2 (.int .i64 0) (.slice g4 0 cap4) HR.out (by omega)⟩, resBelow2 (.int .i64 0) (.slice g4 0 cap4) HB6.out⟩
        simp [results, Try.results48, go_sem, d0, d1, plV]
      · have HTO := Lib.hid (toldP_any (sumP ⟨l1, x⟩ 1 ⟨l2, y⟩).low (sumP ⟨l1, x⟩ 1 ⟨l2, y⟩).cs a6 c6 _ t w5 hi6 (by rw [fits_polyB HTR.out hq]; exact HPT.out))
        clear hi6
        go_wp2_with fail
        refine HTO.out.mono ?_
        rintro e w6 ⟨⟨v, rfl, hr⟩, hb6⟩
        obtain ⟨_, _, d0, d1, f0, f1⟩ := HC.out w6 (HB5.out.trans (hb6.mono (by omega)))
        have HR := Lib.hid hr
        have HB6 := Lib.hid (HBW.out.trans ((HB5.out.trans (hb6.mono (by omega))).mono HBW.out.size))
        obtain ⟨g4, gg, cap4, rfl, _⟩ := hr.shape
        clear hr hb6
        go_wp2
        refine bodyPost_ret (v := .tuple #[plV (doneP t (sumP ⟨l1, x⟩ 1 ⟨l2, y⟩)).low (.slice g4 (doneP t (sumP ⟨l1, x⟩ 1 ⟨l2, y⟩)).cs.length cap4), .bool t]) ?_ rfl ⟨⟨_, rfl, resRow2 (.int .i64 (doneP t (sumP ⟨l1, x⟩ 1 ⟨l2, y⟩)).low) (.slice g4 (doneP t (sumP ⟨l1, x⟩ 1 ⟨l2, y⟩)).cs.length cap4) HR.out (by omega)⟩, resBelow2 (.int .i64 (doneP t (sumP ⟨l1, x⟩ 1 ⟨l2, y⟩)).low) (.slice g4 (doneP t (sumP ⟨l1, x⟩ 1 ⟨l2, y⟩)).cs.length cap4) HB6.out⟩
        simp [results, Try.results48, go_sem, d0, d1, plV]

end Go.Proofs.Ytakfobihakbefaa

/- How PolyAdd and the model's answer, for the law. -/

namespace Go.Proofs.Ytakfobihakbefaa
open Go.RowKit

theorem addP_fit {w : World} {l1 l2 : Int} {x y : List Int} {a1 a2 : Option Addr} {n1 n2 : Nat} {b : Bool} {p : Pl} (_ : Ints w a1 n1 x) (_ : Ints w a2 n2 y) (_ : addPB ⟨l1, x⟩ ⟨l2, y⟩ = b) (hp : addP ⟨l1, x⟩ ⟨l2, y⟩ = p) : p.cs.length ≤ 200 := by
  unfold addP at hp
  refine doneP_len (fun h => ?_) hp
  unfold addPB at h
  simp only [Bool.and_eq_true] at h
  exact h.2.2
theorem sPolyAdd_law {l1 l2 : Int} {x y : List Int} {a1 a2 : Option Addr} {n1 n2 : Nat} {b : Bool} {pl : Int} {pc : List Int} {w : World} (h1 : Ints w a1 n1 x) (h2 : Ints w a2 n2 y) (hb : addPB ⟨l1, x⟩ ⟨l2, y⟩ = b) (hp : addP ⟨l1, x⟩ ⟨l2, y⟩ = ⟨pl, pc⟩) :
    Calls Try.prog 110 #[plV l1 (.slice a1 n1 n1), plV l2 (.slice a2 n2 n2)] w fun e w' => (∃ v, e = .returned (.tuple #[plV pl v, .bool b]) ∧ IntRow w.heap.size w' v pc) ∧ Below w.heap.size w w' := by
  have h := sPolyAdd_any l1 l2 x y a1 a2 n1 n2 n1 n2 _ _ b w h1 h2 (Nat.le_refl _) rfl rfl hb
  unfold addP at hp
  rwa [← hb, hp, hb] at h
theorem iPolyAdd_law {l1 l2 : Int} {x y : List Int} {a1 a2 : Option Addr} {n1 n2 : Nat} {b : Bool} {pl : Int} {pc : List Int} {w : World} (h1 : Ints w a1 n1 x) (h2 : Ints w a2 n2 y) (hb : addPB ⟨l1, x⟩ ⟨l2, y⟩ = b) (hp : addP ⟨l1, x⟩ ⟨l2, y⟩ = ⟨pl, pc⟩) :
    Calls Try.prog 48 #[plV l1 (.slice a1 n1 n1), plV l2 (.slice a2 n2 n2)] w fun e w' => (∃ v, e = .returned (.tuple #[plV pl v, .bool b]) ∧ IntRow w.heap.size w' v pc) ∧ Below w.heap.size w w' := by
  have h := iPolyAdd_any l1 l2 x y a1 a2 n1 n2 n1 n2 _ _ b w h1 h2 (Nat.le_refl _) (Nat.le_refl _) rfl rfl hb
  unfold addP at hp
  rwa [← hb, hp, hb] at h

end Go.Proofs.Ytakfobihakbefaa

/- The program's totals: add and number. -/

namespace Go.Proofs.Ytakfobihakbefaa
open Go.RowKit

theorem tdiv_parts (p : Int) : p.tdiv 1000000000 * 1000000000 + p.tmod 1000000000 = p ∧ -1000000000 < p.tmod 1000000000 ∧ p.tmod 1000000000 < 1000000000 := by
  have h1 := Int.mul_tdiv_add_tmod p 1000000000
  have h2 := Int.tmod_lt_of_pos p (show (0 : Int) < 1000000000 by omega)
  have h3 := Int.lt_tmod_of_pos p (show (0 : Int) < 1000000000 by omega)
  omega
theorem num_no {c r : Int} (h : inR (-1) 1 (c + r.tdiv 1000000000) = false) : coefIn (c * 1000000000 + r) = false := by
  have h1 := tdiv_parts r
  unfold inR at h
  simp only [Bool.and_eq_false_iff, decide_eq_false_iff_not] at h
  exact coefIn_no (by omega)
theorem num_yes {c r : Int} : (c + r.tdiv 1000000000) * 1000000000 + r.tmod 1000000000 = c * 1000000000 + r := by
  have h1 := tdiv_parts r
  omega

set_option maxHeartbeats 2000000 in
theorem number_any (c r : Int) (b : Bool) (w : World) (hc : -4000000000000000 ≤ c ∧ c ≤ 4000000000000000) (hr : -4000000000000000 ≤ r ∧ r ≤ 4000000000000000) (hb : inR (-1) 1 (c + r.tdiv 1000000000) = b) :
    Calls Try.prog 100 #[.agg #[.int .i64 c, .int .i64 r]] w fun e w' => e = .returned (.tuple #[.int .i64 (if b then c * 1000000000 + r else 0), .bool b]) ∧ Below w.heap.size w w' := by
  obtain ⟨q, hq⟩ : ∃ q, r.tdiv 1000000000 = q := ⟨_, rfl⟩
  obtain ⟨m, hm⟩ : ∃ m, r.tmod 1000000000 = m := ⟨_, rfl⟩
  have hp := tdiv_parts r
  rw [hq, hm] at hp
  obtain ⟨hp1, hp2, hp3⟩ := hp
  rw [hq] at hb
  have hw1 : IntKind.i64.wrap q = q := IntWalk.i64_in _ (by omega)
  have hw2 : IntKind.i64.wrap (c + q) = c + q := IntWalk.i64_in _ (by omega)
  have hbW : Below w.heap.size w (w.alloc (.cells #[.int .i64 c, .int .i64 r] 97)) := (Below.refl _ w).alloc (Nat.le_refl _) _
  have HBW := Lib.hid hbW
  have HB := Lib.hid hb
  clear hbW hb
  cases b with
  | false =>
    go_enter Try.func100, Try.ntmps100
    go_wp2_with fail
    refine (within_any (c + q) 1 false _ (by omega) (by omega) HB.out).mono ?_
    rintro e w1 ⟨rfl, rfl⟩
    go_wp2
    go_ret2
    exact ⟨rfl, HBW.out⟩
  | true =>
    have hx : -1 ≤ c + q ∧ c + q ≤ 1 := by have := HB.out; unfold inR at this; simpa using this
    obtain ⟨hx1, hx2⟩ := hx
    have hw3 : IntKind.i64.wrap ((c + q) * 1000000000) = (c + q) * 1000000000 := IntWalk.i64_in _ (by omega)
    have hw4 : IntKind.i64.wrap ((c + q) * 1000000000 + m) = (c + q) * 1000000000 + m := IntWalk.i64_in _ (by omega)
    have hs : (c + q) * 1000000000 + m = c * 1000000000 + r := by omega
    have HS := Lib.hid hs
    have HP := Lib.hid hp1
    clear hs hp1
    go_enter Try.func100, Try.ntmps100
    go_wp2_with fail
    refine (within_any (c + q) 1 true _ (by omega) (by omega) HB.out).mono ?_
    rintro e w1 ⟨rfl, rfl⟩
    go_wp2
    go_ret2
    exact ⟨by rw [HS.out]; rfl, HBW.out⟩

end Go.Proofs.Ytakfobihakbefaa

/- The model's l6pProduct. -/

namespace Go.Proofs.Ytakfobihakbefaa
open Go.RowKit

theorem conv_bound {x y : List Int} (hx : ∀ i, -1000000000 ≤ x.getD i 0 ∧ x.getD i 0 ≤ 1000000000) (hy : ∀ i, -1000000000 ≤ y.getD i 0 ∧ y.getD i 0 ≤ 1000000000) (i j : Nat) : -1000000000000000000 ≤ x.getD i 0 * y.getD j 0 ∧ x.getD i 0 * y.getD j 0 ≤ 1000000000000000000 := by
  obtain ⟨a1, a2⟩ := hx i
  obtain ⟨b1, b2⟩ := hy j
  generalize x.getD i 0 = a at a1 a2
  generalize y.getD j 0 = b at b1 b2
  have e1 := Int.mul_nonneg (show 0 ≤ 1000000000 - a by omega) (show 0 ≤ 1000000000 + b by omega)
  have e2 := Int.mul_nonneg (show 0 ≤ 1000000000 + a by omega) (show 0 ≤ 1000000000 - b by omega)
  have e3 := Int.mul_nonneg (show 0 ≤ 1000000000 - a by omega) (show 0 ≤ 1000000000 - b by omega)
  have e4 := Int.mul_nonneg (show 0 ≤ 1000000000 + a by omega) (show 0 ≤ 1000000000 + b by omega)
  rw [Int.sub_mul, Int.mul_add, Int.mul_add] at e1
  rw [Int.add_mul, Int.mul_sub, Int.mul_sub] at e2
  rw [Int.sub_mul, Int.mul_sub, Int.mul_sub] at e3
  rw [Int.add_mul, Int.mul_add, Int.mul_add] at e4
  omega
theorem tdiv_bound {p : Int} (h1 : -1000000000000000000 ≤ p) (h2 : p ≤ 1000000000000000000) : -1000000000 ≤ p.tdiv 1000000000 ∧ p.tdiv 1000000000 ≤ 1000000000 := by
  have := tdiv_parts p
  omega
/-- What the model's sum is held at. -/
theorem held_high {h l c : Int} (hs : h * 1000000000 + l = c) (hl : -1000000000 < l ∧ l < 1000000000) : (inR (-2) 2 h = true → Heldc (h * 1000000000 + l) c) ∧ (inR (-2) 2 h = false → Heldc (2 * 1000000000 + 0) c) := by
  refine ⟨fun _ => .inl hs, fun e => .inr ⟨by decide, ?_⟩⟩
  unfold inR at e
  simp only [Bool.and_eq_false_iff, decide_eq_false_iff_not] at e
  exact coefIn_no (by omega)
theorem convN_top {x y : List Int} {i m : Nat} (h : m = i + 1 ∨ m = x.length) (h1 : m ≤ i + 1) (h2 : m ≤ x.length) : convN x y i m = convN x y i x.length := by
  rcases h with rfl | rfl
  · have e := convN_stop x y i (x.length - (i + 1))
    rw [show i + 1 + (x.length - (i + 1)) = x.length by omega] at e
    exact e.symm
  · rfl
theorem held_set {os : List Int} {N k : Nat} (hl : os.length = k) (hk : k < N) (o : Int) : (intsV (os ++ List.replicate (N - k) 0)).set k (.int .i64 o) = intsV ((os ++ [o]) ++ List.replicate (N - (k + 1)) 0) := by
  unfold intsV
  rw [List.map_append, List.set_append_right _ _ (by rw [List.length_map, hl]; exact Nat.le_refl _), List.length_map, hl, Nat.sub_self, show N - k = (N - (k + 1)) + 1 by omega, List.replicate_succ, List.map_cons, List.set_cons_zero, List.map_append, List.map_append, List.append_assoc]
  rfl

theorem held_next {os : List Int} {k : Nat} {f : Nat → Int} {o : Int} (h : os.length = k ∧ (∀ j, j < k → Heldc (os.getD j 0) (f j)) ∧ ∀ z ∈ os, -4000000000000000000 ≤ z ∧ z ≤ 4000000000000000000) (ho : Heldc o (f k)) (hb : -4000000000000000000 ≤ o ∧ o ≤ 4000000000000000000) :
    (os ++ [o]).length = k + 1 ∧ (∀ j, j < k + 1 → Heldc ((os ++ [o]).getD j 0) (f j)) ∧ ∀ z ∈ os ++ [o], -4000000000000000000 ≤ z ∧ z ≤ 4000000000000000000 := by
  obtain ⟨h1, h2, h3⟩ := h
  refine ⟨by simp [h1], fun j hj => ?_, fun z hz => ?_⟩
  · by_cases e : j = k
    · subst e
      rw [List.getD_eq_getElem?_getD, List.getElem?_append_right (by omega), h1, Nat.sub_self]
      exact ho
    · rw [List.getD_eq_getElem?_getD, List.getElem?_append_left (by omega), ← List.getD_eq_getElem?_getD]
      exact h2 j (by omega)
  · rcases List.mem_append.1 hz with h | h
    · exact h3 z h
    · obtain rfl := List.mem_singleton.1 h
      exact hb

set_option maxRecDepth 100000 in
set_option maxHeartbeats 8000000 in
theorem l6pProduct_some (l1 l2 : Int) (x y : List Int) (a1 a2 : Option Addr) (c1 c2 n1 n2 : Nat) (w : World) (h1 : Ints w a1 n1 x) (h2 : Ints w a2 n2 y) (h01 : 0 < n1) (h02 : 0 < n2)
    (hl1 : -300 ≤ l1 ∧ l1 ≤ 300) (hl2 : -300 ≤ l2 ∧ l2 ≤ 300) (hn1 : n1 ≤ 200) (hn2 : n2 ≤ 200)
    (hx : ∀ i, -1000000000 ≤ x.getD i 0 ∧ x.getD i 0 ≤ 1000000000) (hy : ∀ i, -1000000000 ≤ y.getD i 0 ∧ y.getD i 0 ≤ 1000000000) :
    Calls Try.prog 133 #[plV l1 (.slice a1 n1 c1), plV l2 (.slice a2 n2 c2)] w fun e w' => (∃ v os, e = .returned (plV (tidyP (l1 + l2) os).low v) ∧ IntRow w.heap.size w' v (tidyP (l1 + l2) os).cs ∧ os.length = n1 + n2 - 1 ∧ (∀ i, i < os.length → Heldc (os.getD i 0) (convN x y i n1)) ∧ ∀ z ∈ os, -4000000000000000000 ≤ z ∧ z ≤ 4000000000000000000) ∧ Below w.heap.size w w' := by
  obtain ⟨i0, hi, hz0, hz1, hz2⟩ := info_parts infoInt
  obtain ⟨W, hW⟩ : ∃ W, ((w.alloc (.cells #[.int .i64 l1, .slice a1 n1 c1] 25)).alloc (.cells #[.int .i64 l2, .slice a2 n2 c2] 25)).alloc (.cells #[.int .i64 0, .slice none 0 0] 25) = W := ⟨_, rfl⟩
  obtain ⟨hbW, hsz⟩ := boxes3Below hW
  have HC : Hid (∀ w1, Below W.heap.size W w1 → _) := Lib.hid fun w1 (hg : Below W.heap.size W w1) => boxes3 hW hg
  have hC := boxes3 hW (Below.refl _ _)
  rw [← hW] at hC
  obtain ⟨⟨p0, p1⟩, ⟨q0, q1⟩, _⟩ := hC
  have H1 := Lib.hid (h1.below hbW)
  have H2 := Lib.hid (h2.below hbW)
  have HN1 := Lib.hid h1.len
  have HN2 := Lib.hid h2.len
  have HX := Lib.hid hx
  have HY := Lib.hid hy
  have HBW := Lib.hid hbW
  have HW := Lib.hid hW
  have HSZ := Lib.hid hsz
  have h01i : ¬ (n1 : Int) = 0 := by omega
  have h02i : ¬ (n2 : Int) = 0 := by omega
  have h01b : ((n1 : Int) == 0) = false := by simpa using h01i
  have h02b : ((n2 : Int) == 0) = false := by simpa using h02i
  obtain ⟨N, hN⟩ : ∃ N, n1 + n2 - 1 = N := ⟨_, rfl⟩
  have hwa : IntKind.i64.wrap ((n1 : Int) + (n2 : Int)) = (n1 : Int) + (n2 : Int) := IntWalk.i64_in _ (by omega)
  have hwb : IntKind.i64.wrap ((n1 : Int) + (n2 : Int) - 1) = (N : Int) := by rw [IntWalk.i64_in _ (by omega)]; omega
  have hNb : N ≤ 400 := by omega
  clear hW hbW h1 h2 hx hy hsz
  go_enter Try.func133, Try.ntmps133
  go_upto_if 20 with fail
  rw [HW.out]
  clear p0 p1 q0 q1
  obtain ⟨⟨p0, p1⟩, ⟨q0, q1⟩, _⟩ := HC.out W (Below.refl _ _)
  go_wp2_with (at_make; refine wpList_make_full _ rfl _ _ 23 rfl W.heap.size 3 i0 (.int .i64 0) 1 Try.underlying23 hi hz0 hz1 .i64 .i64 _ _ N rfl rfl rfl rfl (by rw [hz2]; omega) (by unfold maxLen; omega) (Nat.le_refl _) ?_; intro w1 hrow hgrow)
  rw [made_zero 0 N, listP_zero] at hrow
  have HR1 : Hid (w1.ownsRow W.heap.size 3 1 (.slice (some ⟨W.heap.size, 0, none⟩) N N) N (intsV ([] ++ List.replicate (N - 0) 0))) := Lib.hid hrow
  have HB1 : Hid (Below W.heap.size W w1) := Lib.hid ((Below.refl _ _).grown hgrow (Nat.le_refl _) (fun k e => by cases e))
  clear hrow hgrow hwa hwb p0 p1 q0 q1
  obtain ⟨⟨p0, p1⟩, ⟨q0, q1⟩, _⟩ := HC.out w1 HB1.out
  go_loopw [6, 7, 8, 9, 10] (fun i _ _ _ _ wr => ∃ (k : Nat) (os : List Int), k ≤ N ∧ i = .int .i64 (k : Int) ∧ Hid (os.length = k ∧ (∀ j, j < k → Heldc (os.getD j 0) (convN x y j n1)) ∧ ∀ z ∈ os, -4000000000000000000 ≤ z ∧ z ≤ 4000000000000000000) ∧ Hid (wr.ownsRow W.heap.size 3 1 (.slice (some ⟨W.heap.size, 0, none⟩) N N) N (intsV (os ++ List.replicate (N - k) 0))) ∧ Hid (Below W.heap.size W wr)) (fun i _ _ _ _ _ => N - (intOf i).toNat)
  case atStart => exact ⟨0, [], Nat.zero_le _, rfl, Lib.hid ⟨rfl, fun j h => absurd h (Nat.not_lt_zero _), fun z h => by cases h⟩, HR1, HB1⟩
  case round =>
    obtain ⟨k, os, hk, rfl, HO, HR, HB⟩ := hrel
    clear p0 p1 q0 q1
    obtain ⟨⟨p0, p1⟩, ⟨q0, q1⟩, _⟩ := HC.out wr HB.out
    by_cases hlt : k < N
    · have hki : (k : Int) < (N : Int) := by omega
      obtain ⟨K0, hK0⟩ : ∃ K0, k + 1 - n2 = K0 := ⟨_, rfl⟩
      have hw1 : IntKind.i64.wrap ((k : Int) - (n2 : Int)) = (k : Int) - (n2 : Int) := IntWalk.i64_in _ (by omega)
      have hw2 : IntKind.i64.wrap ((k : Int) - (n2 : Int) + 1) = (k : Int) - (n2 : Int) + 1 := IntWalk.i64_in _ (by omega)
      have hmax : ∀ V : World, (Builtin.max_ #[3, 3] 3 #[.int .i64 0, .int .i64 ((k : Int) - (n2 : Int) + 1)]).run Try.prog V = .ok (.int .i64 (K0 : Int)) V := fun V => by
        rw [max_int]
        congr 2
        split <;> omega
      have hK1 : K0 ≤ k + 1 := by omega
      have hK2 : K0 ≤ n1 := by omega
      have HC0 : Hid (convN x y k K0 = 0) := Lib.hid (by
        by_cases h0 : K0 = 0
        · rw [h0]; rfl
        · exact convN_from x y k K0 (by rw [HN2.out]; omega))
      have HK0 := Lib.hid hK0
      clear hK0
      go_wp2
      clear hw1 hw2 hmax p0 p1 q0 q1
      go_loopw [7, 8, 9, 10] (fun h l m _ wi => ∃ (m' : Nat) (H Lo : Int), K0 ≤ m' ∧ m' ≤ k + 1 ∧ m' ≤ n1 ∧ m = .int .i64 (m' : Int) ∧ h = .int .i64 H ∧ l = .int .i64 Lo ∧ Hid (H * 1000000000 + Lo = convN x y k m') ∧ -1000000000 * (m' : Int) ≤ H ∧ H ≤ 1000000000 * (m' : Int) ∧ -1000000000 * (m' : Int) ≤ Lo ∧ Lo ≤ 1000000000 * (m' : Int) ∧ Hid (wi.ownsRow W.heap.size 3 1 (.slice (some ⟨W.heap.size, 0, none⟩) N N) N (intsV (os ++ List.replicate (N - k) 0))) ∧ Hid (Below W.heap.size W wi)) (fun _ _ m _ _ => k + 1 - (intOf m).toNat)
      case atStart => exact ⟨K0, 0, 0, Nat.le_refl _, hK1, hK2, rfl, rfl, rfl, Lib.hid (by rw [HC0.out]; rfl), by omega, by omega, by omega, by omega, HR, HB⟩
      case round =>
        obtain ⟨m, H, Lo, hm0', hm1, hm2, rfl, rfl, rfl, HS, hH1, hH2, hL1, hL2, HRi, HBi⟩ := hrel
        obtain ⟨⟨p0, p1⟩, ⟨q0, q1⟩, _⟩ := HC.out _ HBi.out
        by_cases hgo : m ≤ k ∧ m < n1
        · obtain ⟨hmk, hmn⟩ := hgo
          have hmki : (m : Int) ≤ (k : Int) := by omega
          have hmni : (m : Int) < (n1 : Int) := by omega
          have hm0 : (0 : Int) ≤ (m : Int) := by omega
          obtain ⟨d, hd⟩ : ∃ d, k - m = d := ⟨_, rfl⟩
          have hdn : d < n2 := by have := HK0.out; omega
          have hdi : (d : Int) < (n2 : Int) := by omega
          have hd0 : (0 : Int) ≤ (d : Int) := by omega
          have hwd : IntKind.i64.wrap ((k : Int) - (m : Int)) = (d : Int) := by rw [IntWalk.i64_in _ (by omega)]; omega
          obtain ⟨xa, rfl, hxb, hxc⟩ := (H1.out.below HBi.out).at_ (by omega)
          obtain ⟨ya, rfl, hyb, hyc⟩ := (H2.out.below HBi.out).at_ (by omega)
          have hkx : m < x.length := by rw [HN1.out]; exact hmn
          have hky : d < y.length := by rw [HN2.out]; exact hdn
          obtain ⟨u, hu⟩ : ∃ u, x.getD m 0 = u := ⟨_, rfl⟩
          obtain ⟨v, hv⟩ : ∃ v, y.getD d 0 = v := ⟨_, rfl⟩
          have hcu := hxc m hkx
          have hcv := hyc d hky
          rw [show x[m] = u by rw [← hu, List.getD_eq_getElem?_getD, List.getElem?_eq_getElem hkx]; rfl] at hcu
          rw [show y[d] = v by rw [← hv, List.getD_eq_getElem?_getD, List.getElem?_eq_getElem hky]; rfl] at hcv
          have hpb := conv_bound HX.out HY.out m d
          rw [hu, hv] at hpb
          obtain ⟨p, hp⟩ : ∃ p, u * v = p := ⟨_, rfl⟩
          rw [hp] at hpb
          obtain ⟨hp1, hp2⟩ := hpb
          have htb := tdiv_bound hp1 hp2
          have htp := tdiv_parts p
          obtain ⟨q, hq⟩ : ∃ q, p.tdiv 1000000000 = q := ⟨_, rfl⟩
          obtain ⟨r, hr⟩ : ∃ r, p.tmod 1000000000 = r := ⟨_, rfl⟩
          rw [hq] at htb htp
          rw [hr] at htp
          obtain ⟨hq1, hq2⟩ := htb
          obtain ⟨hqr, hr1, hr2⟩ := htp
          have hwp : IntKind.i64.wrap (u * v) = p := by rw [hp]; exact IntWalk.i64_in _ (by omega)
          have hwq : IntKind.i64.wrap q = q := IntWalk.i64_in _ (by omega)
          have hwH : IntKind.i64.wrap (H + q) = H + q := IntWalk.i64_in _ (by omega)
          have hwL : IntKind.i64.wrap (Lo + r) = Lo + r := IntWalk.i64_in _ (by omega)
          have HS2 : Hid ((H + q) * 1000000000 + (Lo + r) = convN x y k (m + 1)) := Lib.hid (by
            rw [convN, if_pos hmk, hd, hu, hv, hp, ← HS.out]
            omega)
          clear hu hv hxc hyc hp hd hqr hxb hyb
          go_wp2
          go_quiet (fail)
          go_wp2
          go_roundw
          case rel => exact ⟨m + 1, H + q, Lo + r, by omega, by omega, by omega, by go_num, rfl, rfl, HS2, by omega, by omega, by omega, by omega, Lib.hid (rowPast HRi.out (below_drewN (Below.refl _ _) _)), Lib.hid (below_drewN HBi.out _)⟩
          case measure => simp [intOf]; omega
        · have HTOP := Lib.hid (convN_top (x := x) (y := y) (i := k) (m := m) (by rw [HN1.out]; omega) hm1 (by rw [HN1.out]; exact hm2))
          have hstop : ¬ ((m : Int) ≤ (k : Int)) ∨ ((m : Int) ≤ (k : Int) ∧ ¬ (m : Int) < (n1 : Int)) := by omega
          have htp := tdiv_parts Lo
          obtain ⟨q, hq⟩ : ∃ q, Lo.tdiv 1000000000 = q := ⟨_, rfl⟩
          obtain ⟨r, hr⟩ : ∃ r, Lo.tmod 1000000000 = r := ⟨_, rfl⟩
          rw [hq, hr] at htp
          obtain ⟨hqr, hr1, hr2⟩ := htp
          have hwq : IntKind.i64.wrap q = q := IntWalk.i64_in _ (by omega)
          have hwH : IntKind.i64.wrap (H + q) = H + q := IntWalk.i64_in _ (by omega)
          have hos := HO.out.1
          have hck : wr.cell? ⟨W.heap.size, k, none⟩ = some (.int .i64 0) := by
            rw [HRi.out.cellAt _ (by omega)]
            simp only [intsV, List.getElem?_map]
            rw [List.getElem?_append_right (by rw [hos]; exact Nat.le_refl _), hos, Nat.sub_self, List.getElem?_replicate, if_pos (by omega)]
            rfl
          have hfk := HRi.out.frozenAt k
          have hk0 : (0 : Int) ≤ (k : Int) := by omega
          have hsum : (H + q) * 1000000000 + r = convN x y k n1 := by
            have h1 := HS.out
            rw [HTOP.out, HN1.out] at h1
            omega
          obtain ⟨b, hb⟩ : ∃ b, inR (-2) 2 (H + q) = b := ⟨_, rfl⟩
          have hheld := held_high hsum ⟨hr1, hr2⟩
          rw [hb] at hheld
          have HB2 := Lib.hid hb
          have HHE := Lib.hid hheld
          have HOO := HO
          clear hsum hheld hqr hos hb hH1 hH2 hL1 hL2
          have hstopd : (decide ((m : Int) ≤ (k : Int)) && decide ((m : Int) < (n1 : Int))) = false := by
            rcases hstop with h | ⟨_, h⟩
            · rw [decide_eq_false h]; rfl
            · rw [decide_eq_false h, Bool.and_false]
          cases b with
          | true =>
            have hin : -2 ≤ H + q ∧ H + q ≤ 2 := by have := HB2.out; unfold inR at this; simpa using this
            obtain ⟨hin1, hin2⟩ := hin
            have hwm : IntKind.i64.wrap ((H + q) * 1000000000) = (H + q) * 1000000000 := IntWalk.i64_in _ (by omega)
            have hws : IntKind.i64.wrap ((H + q) * 1000000000 + r) = (H + q) * 1000000000 + r := IntWalk.i64_in _ (by omega)
            have hob : -4000000000000000000 ≤ (H + q) * 1000000000 + r ∧ (H + q) * 1000000000 + r ≤ 4000000000000000000 := by omega
            have hhe := HHE.out.1 rfl
            have HOB := Lib.hid hob
            have HH := Lib.hid hhe
            clear hob hhe
            rcases hstop with hs1 | ⟨hs1, hs2⟩
            · have hs1d : decide ((m : Int) ≤ (k : Int)) = false := decide_eq_false hs1
              go_wp2_with fail
              refine (l6In_eq _ _ _ true _ HB2.out).mono ?_
              rintro e w2 ⟨rfl, rfl⟩
              go_wp2
              go_roundw
              case rel => exact ⟨k + 1, os ++ [(H + q) * 1000000000 + r], by omega, by go_num, Lib.hid (held_next HO.out HH.out HOB.out), Lib.hid (by rw [← held_set HO.out.1 hlt ((H + q) * 1000000000 + r)]; exact (HRi.out.stored k (.int .i64 ((H + q) * 1000000000 + r))).1), Lib.hid (HBi.out.setCell (p := ⟨W.heap.size, k, none⟩) (Nat.le_refl _) _)⟩
              case measure => simp [intOf]; omega
            · have hs2d : decide ((m : Int) < (n1 : Int)) = false := decide_eq_false hs2
              go_wp2_with fail
              refine (l6In_eq _ _ _ true _ HB2.out).mono ?_
              rintro e w2 ⟨rfl, rfl⟩
              go_wp2
              go_roundw
              case rel => exact ⟨k + 1, os ++ [(H + q) * 1000000000 + r], by omega, by go_num, Lib.hid (held_next HO.out HH.out HOB.out), Lib.hid (by rw [← held_set HO.out.1 hlt ((H + q) * 1000000000 + r)]; exact (HRi.out.stored k (.int .i64 ((H + q) * 1000000000 + r))).1), Lib.hid (HBi.out.setCell (p := ⟨W.heap.size, k, none⟩) (Nat.le_refl _) _)⟩
              case measure => simp [intOf]; omega
          | false =>
            have hhe : Heldc 2000000000 (convN x y k n1) := HHE.out.2 rfl
            have HH := Lib.hid hhe
            clear hhe
            rcases hstop with hs1 | ⟨hs1, hs2⟩
            · have hs1d : decide ((m : Int) ≤ (k : Int)) = false := decide_eq_false hs1
              go_wp2_with fail
              refine (l6In_eq _ _ _ false _ HB2.out).mono ?_
              rintro e w2 ⟨rfl, rfl⟩
              go_wp2
              go_roundw
              case rel => exact ⟨k + 1, os ++ [2000000000], by omega, by go_num, Lib.hid (held_next HO.out HH.out (by omega)), Lib.hid (by rw [← held_set HO.out.1 hlt 2000000000]; exact (HRi.out.stored k (.int .i64 2000000000)).1), Lib.hid (HBi.out.setCell (p := ⟨W.heap.size, k, none⟩) (Nat.le_refl _) _)⟩
              case measure => simp [intOf]; omega
            · have hs2d : decide ((m : Int) < (n1 : Int)) = false := decide_eq_false hs2
              go_wp2_with fail
              refine (l6In_eq _ _ _ false _ HB2.out).mono ?_
              rintro e w2 ⟨rfl, rfl⟩
              go_wp2
              go_roundw
              case rel => exact ⟨k + 1, os ++ [2000000000], by omega, by go_num, Lib.hid (held_next HO.out HH.out (by omega)), Lib.hid (by rw [← held_set HO.out.1 hlt 2000000000]; exact (HRi.out.stored k (.int .i64 2000000000)).1), Lib.hid (HBi.out.setCell (p := ⟨W.heap.size, k, none⟩) (Nat.le_refl _) _)⟩
              case measure => simp [intOf]; omega
    · obtain rfl : k = N := by omega
      have hr := HR.out
      rw [Nat.sub_self, List.replicate_zero, List.append_nil] at hr
      obtain ⟨ho1, ho2, ho3⟩ := HO.out
      have hrr : IntRow W.heap.size wr (.slice (some ⟨W.heap.size, 0, none⟩) k k) os := rowI hr ho1
      obtain ⟨a3, c3, hv, hc3, hi3⟩ := hrr.readc (fun z hz => by have := ho3 z hz; omega)
      rw [ho1] at hv hc3 hi3
      simp at hv
      obtain ⟨rfl, rfl⟩ := hv
      have hwl : IntKind.i64.wrap (l1 + l2) = l1 + l2 := IntWalk.i64_in _ (by omega)
      have HT := Lib.hid (l6pTidy_any (l1 + l2) os (some ⟨W.heap.size, 0, none⟩) k k wr hi3 (Nat.le_refl _) (by omega) (by omega) (by omega))
      have hsr := HB.out.size
      clear hr hrr hi3 hc3 ho1 ho2 ho3
      go_wp2_with fail
      refine HT.out.mono ?_
      rintro e w3 ⟨⟨v, rfl, hr⟩, hb3⟩
      obtain ⟨_, _, d0, d1, f0, f1⟩ := HC.out w3 (HB.out.trans (hb3.mono hsr))
      have HR3 := Lib.hid hr
      have HB3 := Lib.hid (HBW.out.trans ((HB.out.trans (hb3.mono hsr)).mono HBW.out.size))
      obtain ⟨g2, gg, cap3, rfl, _⟩ := hr.shape
      clear hr hb3
      go_wp2
      have hss := HSZ.out
      refine bodyPost_ret (v := plV (tidyP (l1 + l2) os).low (.slice g2 (tidyP (l1 + l2) os).cs.length cap3)) ?_ rfl ⟨⟨_, os, rfl, resRow2 (.int .i64 (tidyP (l1 + l2) os).low) (.slice g2 (tidyP (l1 + l2) os).cs.length cap3) HR3.out (by omega), by rw [HO.out.1]; exact hN.symm, fun i hi => HO.out.2.1 i (by rw [← HO.out.1]; exact hi), HO.out.2.2⟩, resBelow2 (.int .i64 (tidyP (l1 + l2) os).low) (.slice g2 (tidyP (l1 + l2) os).cs.length cap3) HB3.out⟩
      simp [results, Try.results133, go_sem, d0, d1, plV]

end Go.Proofs.Ytakfobihakbefaa

/- The model's PolyTimes. -/

namespace Go.Proofs.Ytakfobihakbefaa
open Go.RowKit

set_option maxRecDepth 100000 in
set_option maxHeartbeats 4000000 in
theorem l6pProduct_none (l1 l2 : Int) (a1 a2 : Option Addr) (c1 c2 n1 n2 : Nat) (w : World) (h0 : n1 = 0 ∨ n2 = 0) :
    Calls Try.prog 133 #[plV l1 (.slice a1 n1 c1), plV l2 (.slice a2 n2 c2)] w fun e w' => (∃ v, e = .returned (plV 0 v) ∧ IntRow w.heap.size w' v []) ∧ Below w.heap.size w w' := by
  obtain ⟨W, hW⟩ : ∃ W, ((w.alloc (.cells #[.int .i64 l1, .slice a1 n1 c1] 25)).alloc (.cells #[.int .i64 l2, .slice a2 n2 c2] 25)).alloc (.cells #[.int .i64 0, .slice none 0 0] 25) = W := ⟨_, rfl⟩
  obtain ⟨hbW, hsz⟩ := boxes3Below hW
  have hC := boxes3 hW (Below.refl _ _)
  have HC : Hid (∀ w1, Below W.heap.size W w1 → _) := Lib.hid fun w1 (hg : Below W.heap.size W w1) => boxes3 hW hg
  rw [← hW] at hC
  obtain ⟨⟨p0, p1⟩, ⟨q0, q1⟩, _⟩ := hC
  have HBW := Lib.hid hbW
  have HW := Lib.hid hW
  have HSZ := Lib.hid hsz
  have HM := Lib.hid (made_at W W.heap.size rfl W.heap.size (Nat.le_refl _))
  have HB1 := Lib.hid ((Below.refl W.heap.size W).alloc (Nat.le_refl _) (.cells #[] 3))
  clear hW hbW hsz
  go_enter Try.func133, Try.ntmps133
  by_cases h1 : n1 = 0
  · subst h1
    go_upto_if 20 with fail
    rw [HW.out]
    clear p0 p1 q0 q1
    obtain ⟨_, _, d0, d1, f0, f1⟩ := HC.out _ HB1.out
    go_wp2
    have hss := HSZ.out
    refine bodyPost_ret (v := plV 0 (.slice (some ⟨W.heap.size, 0, none⟩) 0 0)) ?_ rfl ⟨⟨_, rfl, resRow2 (.int .i64 0) (.slice (some ⟨W.heap.size, 0, none⟩) 0 0) HM.out (by omega)⟩, resBelow2 (.int .i64 0) (.slice (some ⟨W.heap.size, 0, none⟩) 0 0) (HBW.out.trans (HB1.out.mono HBW.out.size))⟩
    simp [results, Try.results133, go_sem, d0, d1, plV]
  · obtain rfl : n2 = 0 := h0.resolve_left h1
    have h1i : ¬ (n1 : Int) = 0 := by omega
    have h1b : ((n1 : Int) == 0) = false := by simpa using h1
    go_upto_if 20 with fail
    rw [HW.out]
    clear p0 p1 q0 q1
    obtain ⟨_, _, d0, d1, f0, f1⟩ := HC.out _ HB1.out
    go_wp2
    have hss := HSZ.out
    refine bodyPost_ret (v := plV 0 (.slice (some ⟨W.heap.size, 0, none⟩) 0 0)) ?_ rfl ⟨⟨_, rfl, resRow2 (.int .i64 0) (.slice (some ⟨W.heap.size, 0, none⟩) 0 0) HM.out (by omega)⟩, resBelow2 (.int .i64 0) (.slice (some ⟨W.heap.size, 0, none⟩) 0 0) (HBW.out.trans (HB1.out.mono HBW.out.size))⟩
    simp [results, Try.results133, go_sem, d0, d1, plV]

theorem l6pProduct_any (l1 l2 : Int) (x y : List Int) (a1 a2 : Option Addr) (c1 c2 n1 n2 : Nat) (w : World) (h1 : Ints w a1 n1 x) (h2 : Ints w a2 n2 y)
    (hl1 : -300 ≤ l1 ∧ l1 ≤ 300) (hl2 : -300 ≤ l2 ∧ l2 ≤ 300) (hn1 : n1 ≤ 200) (hn2 : n2 ≤ 200)
    (hx : ∀ i, -1000000000 ≤ x.getD i 0 ∧ x.getD i 0 ≤ 1000000000) (hy : ∀ i, -1000000000 ≤ y.getD i 0 ∧ y.getD i 0 ≤ 1000000000) :
    Calls Try.prog 133 #[plV l1 (.slice a1 n1 c1), plV l2 (.slice a2 n2 c2)] w fun e w' => (∃ v q, e = .returned (plV q.low v) ∧ IntRow w.heap.size w' v q.cs ∧ (q = prodP ⟨l1, x⟩ ⟨l2, y⟩ ∨ (polyB q = false ∧ polyB (prodP ⟨l1, x⟩ ⟨l2, y⟩) = false)) ∧ q.cs.length ≤ 400 ∧ ∀ z ∈ q.cs, -9223372036854775808 ≤ z ∧ z ≤ 9223372036854775807) ∧ Below w.heap.size w w' := by
  have e1 := h1.len
  have e2 := h2.len
  by_cases h0 : n1 = 0 ∨ n2 = 0
  · have e : prodP ⟨l1, x⟩ ⟨l2, y⟩ = ⟨0, []⟩ := by
      unfold prodP
      exact if_pos (by show x.length = 0 ∨ y.length = 0; rw [e1, e2]; exact h0)
    refine (l6pProduct_none l1 l2 a1 a2 c1 c2 n1 n2 w h0).mono ?_
    rintro e3 w1 ⟨⟨v, rfl, hr⟩, hb⟩
    exact ⟨⟨v, ⟨0, []⟩, rfl, hr, .inl e.symm, Nat.zero_le _, fun z hz => by cases hz⟩, hb⟩
  · refine (l6pProduct_some l1 l2 x y a1 a2 c1 c2 n1 n2 w h1 h2 (by omega) (by omega) hl1 hl2 hn1 hn2 hx hy).mono ?_
    rintro e3 w1 ⟨⟨v, os, rfl, hr, hol, hoh, hob⟩, hb⟩
    have e : prodP ⟨l1, x⟩ ⟨l2, y⟩ = tidyP (l1 + l2) (convL x y) := by
      unfold prodP
      exact if_neg (by show ¬ (x.length = 0 ∨ y.length = 0); rw [e1, e2]; exact h0)
    refine ⟨⟨v, tidyP (l1 + l2) os, rfl, hr, ?_, ?_, fun z hz => ?_⟩, hb⟩
    · rw [e]
      refine held_lists (l1 + l2) (by rw [hol, convL_len, e1, e2]) fun i hi => ?_
      rw [convL_len] at hi
      rw [convL_get x y i hi, e1]
      exact hoh i (by rw [hol]; omega)
    · have := tidy_len (l1 + l2) os
      omega
    · rcases tidy_mem hz with rfl | h
      · omega
      · have := hob z h
        omega

def timesPB (a b : Pl) : Bool := polyB a && (polyB b && polyB (prodP a b))
def timesP (a b : Pl) : Pl := doneP (timesPB a b) (prodP a b)

set_option maxRecDepth 100000 in
set_option maxHeartbeats 4000000 in
theorem sPolyTimes_any (l1 l2 : Int) (x y : List Int) (a1 a2 : Option Addr) (c1 c2 n1 n2 : Nat) (ba bb t : Bool) (w : World) (h1 : Ints w a1 n1 x) (h2 : Ints w a2 n2 y)
    (hba : polyB ⟨l1, x⟩ = ba) (hbb : polyB ⟨l2, y⟩ = bb) (ht : (ba && (bb && polyB (prodP ⟨l1, x⟩ ⟨l2, y⟩))) = t) :
    Calls Try.prog 128 #[plV l1 (.slice a1 n1 c1), plV l2 (.slice a2 n2 c2)] w fun e w' => (∃ v, e = .returned (.tuple #[plV (doneP t (prodP ⟨l1, x⟩ ⟨l2, y⟩)).low v, .bool t]) ∧ IntRow w.heap.size w' v (doneP t (prodP ⟨l1, x⟩ ⟨l2, y⟩)).cs) ∧ Below w.heap.size w w' := by
  obtain ⟨W, hW⟩ : ∃ W, ((w.alloc (.cells #[.int .i64 l1, .slice a1 n1 c1] 25)).alloc (.cells #[.int .i64 l2, .slice a2 n2 c2] 25)).alloc (.cells #[.int .i64 0, .slice none 0 0] 25) = W := ⟨_, rfl⟩
  obtain ⟨hbW, hsz⟩ := boxes3Below hW
  have HC : Hid (∀ w1, Below W.heap.size W w1 → _) := Lib.hid fun w1 (hg : Below W.heap.size W w1) => boxes3 hW hg
  have hC := boxes3 hW (Below.refl _ _)
  rw [← hW] at hC
  obtain ⟨⟨p0, p1⟩, ⟨q0, q1⟩, _⟩ := hC
  have H1 := Lib.hid (h1.below hbW)
  have H2 := Lib.hid (h2.below hbW)
  have HBA := Lib.hid hba
  have HBB := Lib.hid hbb
  have HN1 := Lib.hid h1.len
  have HN2 := Lib.hid h2.len
  have HBW := Lib.hid hbW
  have HW := Lib.hid hW
  have HSZ := Lib.hid hsz
  have HT := Lib.hid ht
  clear hW hbW h1 h2 hba hbb hsz ht
  go_enter Try.func128, Try.ntmps128
  go_wp2_with fail
  rw [HW.out]
  clear p0 p1 q0 q1
  refine (sPolyIn_any l1 x a1 c1 n1 ba W H1.out HBA.out).mono ?_
  rintro e w1 ⟨rfl, hb1⟩
  have HB1 := Lib.hid hb1
  obtain ⟨⟨p0, p1⟩, ⟨q0, q1⟩, d0, d1, f0, f1⟩ := HC.out w1 hb1
  have hs1 := hb1.size
  clear hb1
  cases ba with
  | false =>
    obtain rfl : t = false := by rw [← HT.out]; rfl
    go_wp2_with fail
    refine (l6pNone_any _).mono ?_
    rintro e w2 ⟨⟨v, rfl, hr⟩, hb2⟩
    obtain ⟨_, _, d0, d1, f0, f1⟩ := HC.out w2 (HB1.out.trans (hb2.mono hs1))
    have HR := Lib.hid hr
    have HB2 := Lib.hid (HBW.out.trans ((HB1.out.trans (hb2.mono hs1)).mono HBW.out.size))
    obtain ⟨g1, gg, cap1, rfl, _⟩ := hr.shape
    clear hr hb2
    go_wp2
    have hss := HSZ.out
    refine bodyPost_ret (v := .tuple #[plV 0 (.slice g1 0 cap1), .bool false]) ?_ rfl ⟨⟨_, rfl, resRow2 (.int .i64 0) (.slice g1 0 cap1) HR.out (by omega)⟩, resBelow2 (.int .i64 0) (.slice g1 0 cap1) HB2.out⟩
    simp [results, Try.results128, go_sem, d0, d1, plV]
  | true =>
    go_wp2_with fail
    refine (sPolyIn_any l2 y a2 c2 n2 bb w1 (H2.out.below HB1.out) HBB.out).mono ?_
    rintro e w2 ⟨rfl, hb2⟩
    have HB2 := Lib.hid (HB1.out.trans (hb2.mono hs1))
    have hs2 := HB2.out.size
    clear hb2 p0 p1 q0 q1 d0 d1 f0 f1
    obtain ⟨⟨p0, p1⟩, ⟨q0, q1⟩, d0, d1, f0, f1⟩ := HC.out w2 HB2.out
    cases bb with
    | false =>
      obtain rfl : t = false := by rw [← HT.out]; rfl
      go_wp2_with fail
      refine (l6pNone_any _).mono ?_
      rintro e w3 ⟨⟨v, rfl, hr⟩, hb3⟩
      clear d0 d1 f0 f1
      obtain ⟨_, _, d0, d1, f0, f1⟩ := HC.out w3 (HB2.out.trans (hb3.mono hs2))
      have HR := Lib.hid hr
      have HB3 := Lib.hid (HBW.out.trans ((HB2.out.trans (hb3.mono hs2)).mono HBW.out.size))
      obtain ⟨g1, gg, cap1, rfl, _⟩ := hr.shape
      clear hr hb3
      go_wp2
      have hss := HSZ.out
      refine bodyPost_ret (v := .tuple #[plV 0 (.slice g1 0 cap1), .bool false]) ?_ rfl ⟨⟨_, rfl, resRow2 (.int .i64 0) (.slice g1 0 cap1) HR.out (by omega)⟩, resBelow2 (.int .i64 0) (.slice g1 0 cap1) HB3.out⟩
      simp [results, Try.results128, go_sem, d0, d1, plV]
    | true =>
      obtain ⟨_, hx200, hxl1, hxl2, hxc⟩ := polyB_trim HBA.out
      obtain ⟨_, hy200, hyl1, hyl2, hyc⟩ := polyB_trim HBB.out
      have hx200 : x.length ≤ 200 := hx200
      have hy200 : y.length ≤ 200 := hy200
      have hxl1 : -300 ≤ l1 := hxl1
      have hxl2 : l1 ≤ 300 := hxl2
      have hyl1 : -300 ≤ l2 := hyl1
      have hyl2 : l2 ≤ 300 := hyl2
      have hxc : ∀ i, -1000000000 ≤ x.getD i 0 ∧ x.getD i 0 ≤ 1000000000 := hxc
      have hyc : ∀ i, -1000000000 ≤ y.getD i 0 ∧ y.getD i 0 ≤ 1000000000 := hyc
      have hx1 := HN1.out
      have hx2 := HN2.out
      have HS := Lib.hid (l6pProduct_any l1 l2 x y a1 a2 c1 c2 n1 n2 w2 (H1.out.below HB2.out) (H2.out.below HB2.out) (by omega) (by omega) (by omega) (by omega) hxc hyc)
      clear hxc hyc hx1 hx2
      go_wp2_with fail
      refine HS.out.mono ?_
      rintro e w3 ⟨⟨v, q, rfl, hr3, hq, hql, hqw⟩, hb3⟩
      obtain ⟨a3, c3, rfl, hc3, hi3⟩ := hr3.readc hqw
      obtain ⟨hd1, hd2⟩ := held_done hq
      have HB3 := Lib.hid (HB2.out.trans (hb3.mono hs2))
      have hs3 := HB3.out.size
      have hpt : polyB q = t := by have := HT.out; rw [Bool.true_and, Bool.true_and] at this; rw [hd1]; exact this
      have HDQ : Hid (doneP t q = doneP t (prodP ⟨l1, x⟩ ⟨l2, y⟩)) := Lib.hid (by rw [← hpt, hd2, hd1])
      clear hr3 hq hqw hd1 hd2
      have HD := Lib.hid (l6pDone_any q.low q.cs a3 c3 _ t w3 hi3 (by omega) hpt)
      clear hb3 hi3 hpt
      go_wp2_with fail
      refine HD.out.mono ?_
      rintro e w4 ⟨⟨v, rfl, hr⟩, hb4⟩
      rw [show (⟨q.low, q.cs⟩ : Pl) = q from rfl, HDQ.out] at hr ⊢
      clear d0 d1 f0 f1
      obtain ⟨_, _, d0, d1, f0, f1⟩ := HC.out w4 (HB3.out.trans (hb4.mono hs3))
      have HR := Lib.hid hr
      have HB4 := Lib.hid (HBW.out.trans ((HB3.out.trans (hb4.mono hs3)).mono HBW.out.size))
      obtain ⟨g1, gg, cap1, rfl, _⟩ := hr.shape
      clear hr hb4
      go_wp2
      have hss := HSZ.out
      refine bodyPost_ret (v := .tuple #[plV (doneP t (prodP ⟨l1, x⟩ ⟨l2, y⟩)).low (.slice g1 (doneP t (prodP ⟨l1, x⟩ ⟨l2, y⟩)).cs.length cap1), .bool t]) ?_ rfl ⟨⟨_, rfl, resRow2 (.int .i64 (doneP t (prodP ⟨l1, x⟩ ⟨l2, y⟩)).low) (.slice g1 (doneP t (prodP ⟨l1, x⟩ ⟨l2, y⟩)).cs.length cap1) HR.out (by omega)⟩, resBelow2 (.int .i64 (doneP t (prodP ⟨l1, x⟩ ⟨l2, y⟩)).low) (.slice g1 (doneP t (prodP ⟨l1, x⟩ ⟨l2, y⟩)).cs.length cap1) HB4.out⟩
      simp [results, Try.results128, go_sem, d0, d1, plV]

end Go.Proofs.Ytakfobihakbefaa

/- A law's answer from two polynomials: a region that draws its order, makes memory and lays a box. -/

namespace Go.Proofs.Ytakfobihakbefaa
open Go.RowKit

theorem ints_on {w c c' : World} {a : Option Addr} {n : Nat} {zs : List Int} (h : Ints w a n zs) (hw : Below w.heap.size w c) (hx : Below c.heap.size c c') : Ints c' a n zs := h.below (hw.trans (hx.mono hw.size))
theorem rowSet {w : World} {base j o : Nat} {v x : Value} {zs : List Int} (h : IntRow base w v zs) (hj : ∀ k, v.ownBlock = some k → j < k) : IntRow base (w.setCell ⟨j, o, none⟩ x) v zs := by
  unfold IntRow at h ⊢
  have h' := h
  rcases h.2 with ⟨rfl, h0⟩ | ⟨g, cap, cur, rfl, hb, _⟩
  · exact ⟨h.1, .inl ⟨rfl, h0⟩⟩
  · exact ownsRow_base (ownsRow_setCell_below (own_raise h') (a := ⟨j, o, none⟩) (hj g rfl) x) hb
/-- The answer (p, b) lies in a box, its coefficients in memory of their own. -/
def AnsMk (w wx : World) (s1 s2 : Value) (pl : Int) (pc : List Int) (L : Nat) (b : Bool) : Prop :=
  ∃ (j : Nat) (a : Option Addr) (c : Nat), s1 = .pointer (some ⟨j, 0, none⟩) ∧ s2 = .bool b ∧ BoxAt wx j (.int .i64 pl) (.slice a L c) ∧ w.heap.size ≤ j ∧ IntRow w.heap.size wx (.slice a L c) pc ∧ (∀ k, (Value.slice a L c).ownBlock = some k → k ≠ j) ∧ Below w.heap.size w wx
theorem ansA {w V : World} {a : Option Addr} {L c base : Nat} {pl : Int} {pc : List Int} {b : Bool} (hB : Below w.heap.size w V) (hr : IntRow base V (.slice a L c) pc) (hb : w.heap.size ≤ base) :
    AnsMk w (V.alloc (.cells #[.int .i64 pl, .slice a L c] 25)) (.pointer (some ⟨V.heap.size, 0, none⟩)) (.bool b) pl pc L b :=
  ⟨V.heap.size, a, c, rfl, rfl, boxNew rfl, hB.size, (hr.mono hb).below ((Below.refl _ _).alloc (Nat.le_refl _) _), fun k e => by have := own_lt hr k e; omega, hB.alloc hB.size _⟩
theorem ansC {w V : World} {a : Option Addr} {L c base j : Nat} {pl : Int} {pc : List Int} {b : Bool} (hB : Below w.heap.size w V) (hr : IntRow base V (.slice a L c) pc) (hb : w.heap.size ≤ base) (hZ : BoxZ V j) (hj : w.heap.size ≤ j) (hn : ∀ k, (Value.slice a L c).ownBlock = some k → j < k) :
    AnsMk w ((V.setCell ⟨j, 0, none⟩ (.int .i64 pl)).setCell ⟨j, 1, none⟩ (.slice a L c)) (.pointer (some ⟨j, 0, none⟩)) (.bool b) pl pc L b :=
  ⟨j, a, c, rfl, rfl, hZ.fill, hj, rowSet (rowSet (hr.mono hb) hn) hn, fun k e => by have := hn k e; omega, (hB.setCell (p := ⟨j, 0, none⟩) hj _).setCell (p := ⟨j, 1, none⟩) hj _⟩
theorem below_drewAlloc {b : Nat} {w w1 w2 : World} {o : Obj} (h : Below b w w1) (hs : b ≤ w1.heap.size) (hb : Below (w1.alloc o).drew.heap.size (w1.alloc o).drew w2) : Below b w w2 :=
  ((h.alloc hs o).drew).trans (hb.mono (by show b ≤ (w1.alloc o).heap.size; rw [World.size_alloc]; omega))

end Go.Proofs.Ytakfobihakbefaa

/- The program's total.add; the coefficients of a product, as the program's loops come to them. -/

namespace Go.Proofs.Ytakfobihakbefaa
open Go.RowKit

theorem infoTotal : (Try.prog.info? 97).map (fun i => (i.zero, i.size, i.bytes)) = some (some (.agg #[.int .i64 0, .int .i64 0]), 2, 16) := by kernel_rfl

set_option maxRecDepth 100000 in
set_option maxHeartbeats 2000000 in
theorem totAdd_any (g o : Nat) (c r p q m : Int) (w : World) (h0 : w.cell? ⟨g, o, none⟩ = some (.int .i64 c)) (h1 : w.cell? ⟨g, o + 1, none⟩ = some (.int .i64 r)) (f0 : w.frozen? ⟨g, o, none⟩ = false) (f1 : w.frozen? ⟨g, o + 1, none⟩ = false)
    (hq : p.tdiv 1000000000 = q) (hm : p.tmod 1000000000 = m) (hcq : -9000000000000000000 ≤ c + q ∧ c + q ≤ 9000000000000000000) (hrm : -9000000000000000000 ≤ r + m ∧ r + m ≤ 9000000000000000000) (hqb : -9000000000000000000 ≤ q ∧ q ≤ 9000000000000000000) :
    Calls Try.prog 99 #[.pointer (some ⟨g, o, none⟩), .int .i64 p] w fun e w' => e = .returned (.tuple #[]) ∧ w' = (w.setCell ⟨g, o, none⟩ (.int .i64 (c + q))).setCell ⟨g, o + 1, none⟩ (.int .i64 (r + m)) := by
  have hw0 : IntKind.i64.wrap q = q := IntWalk.i64_in _ (by omega)
  have hw1 : IntKind.i64.wrap (c + q) = c + q := IntWalk.i64_in _ (by omega)
  have hw2 : IntKind.i64.wrap (r + m) = r + m := IntWalk.i64_in _ (by omega)
  have hx : (w.setCell ⟨g, o, none⟩ (.int .i64 (c + q))).cell? ⟨g, o + 1, none⟩ = some (.int .i64 r) := by rw [World.cell?_setCell_other]; exact h1; simp
  go_enter Try.func99, Try.ntmps99
  go_wp2
  go_end0
  exact ⟨rfl, rfl⟩

/-- What stands at place j when the first i coefficients have been taken with all others, and the next one with the first k. -/
def partN (x y : List Int) (i k j : Nat) : Int := convN x y j i + (if i ≤ j ∧ j - i < k then x.getD i 0 * y.getD (j - i) 0 else 0)
theorem part_zero (x y : List Int) (i j : Nat) : partN x y i 0 j = convN x y j i := by
  unfold partN
  rw [if_neg (by omega), Int.add_zero]
theorem part_all (x y : List Int) (i j : Nat) : partN x y i y.length j = convN x y j (i + 1) := by
  unfold partN
  rw [convN]
  by_cases h : i ≤ j
  · rw [if_pos h]
    by_cases h2 : j - i < y.length
    · rw [if_pos ⟨h, h2⟩]
    · rw [if_neg (fun e => h2 e.2), getD_far (l := y) (by omega), Int.mul_zero]
  · rw [if_neg h, if_neg (fun e => h e.1)]
theorem part_next {x y : List Int} {i k j : Nat} (h : j ≠ i + k) : partN x y i (k + 1) j = partN x y i k j := by
  unfold partN
  by_cases h1 : i ≤ j ∧ j - i < k
  · rw [if_pos h1, if_pos (by omega)]
  · rw [if_neg h1, if_neg (by omega)]
theorem part_here (x y : List Int) (i k : Nat) : partN x y i (k + 1) (i + k) = partN x y i k (i + k) + x.getD i 0 * y.getD k 0 := by
  unfold partN
  rw [if_pos (by omega), if_neg (by omega), Int.add_zero, show i + k - i = k by omega]
theorem conv_nil (x : List Int) (i : Nat) : ∀ m, convN x [] i m = 0
  | 0 => rfl
  | m + 1 => by
    rw [convN, conv_nil x i m]
    split
    · simp
    · rfl
theorem prod_list (l1 l2 : Int) (x y : List Int) : tidyP (l1 + l2) (listN (fun j => convN x y j x.length) (x.length + y.length)) = prodP ⟨l1, x⟩ ⟨l2, y⟩ := by
  refine trim_unique (tidy_trim _ _) (prod_trim _ _) fun k => ?_
  unfold prodP
  by_cases h0 : x.length = 0 ∨ y.length = 0
  · rw [if_pos h0, tidy_pat, pat_nil]
    unfold pat
    split
    · show (listN _ _).getD _ 0 = 0
      generalize (k - (l1 + l2)).toNat = i
      by_cases hi : i < x.length + y.length
      · rw [listN_get hi]
        rcases h0 with h | h
        · rw [h]; rfl
        · rw [List.length_eq_zero_iff.1 h]; exact conv_nil x i _
      · exact getD_far (by rw [listN_len]; omega)
    · rfl
  · rw [if_neg h0, tidy_pat, tidy_pat]
    unfold pat
    show (if l1 + l2 ≤ k then (listN _ _).getD (k - (l1 + l2)).toNat 0 else 0) = if l1 + l2 ≤ k then (convL x y).getD (k - (l1 + l2)).toNat 0 else 0
    split
    · generalize (k - (l1 + l2)).toNat = i
      by_cases hi : i < x.length + y.length - 1
      · rw [listN_get (by omega), convL_get x y i hi]
      · rw [getD_far (l := convL x y) (by rw [convL_len]; omega)]
        by_cases hi2 : i < x.length + y.length
        · rw [listN_get hi2]
          exact convN_from x y i _ (by omega)
        · exact getD_far (by rw [listN_len]; omega)
    · rfl
theorem made_totals (n : Nat) : (madeCells (Value.cells (.agg #[.int .i64 0, .int .i64 0])) (n * 2)).toList = intsV (listN (fun _ => 0) (n * 2)) := by
  rw [show Value.cells (.agg #[.int .i64 0, .int .i64 0]) = #[.int .i64 0, .int .i64 0] from rfl]
  refine List.ext_getElem (by simp [madeCells, intsV, listN]) fun j h1 h2 => ?_
  have hj : j < n * 2 := by simpa [madeCells] using h1
  rcases Nat.mod_two_eq_zero_or_one j with h | h <;> simp [madeCells, intsV, listN, h]

end Go.Proofs.Ytakfobihakbefaa

/- The program's PolyTimes. -/

namespace Go.Proofs.Ytakfobihakbefaa
open Go.RowKit

set_option maxRecDepth 100000 in
set_option maxHeartbeats 8000000 in
theorem iPolyTimes_any (l1 l2 : Int) (x y : List Int) (a1 a2 : Option Addr) (c1 c2 n1 n2 : Nat) (ba bb t : Bool) (w : World) (h1 : Ints w a1 n1 x) (h2 : Ints w a2 n2 y) (hc1 : n1 ≤ c1) (hc2 : n2 ≤ c2)
    (hba : polyB ⟨l1, x⟩ = ba) (hbb : polyB ⟨l2, y⟩ = bb) (ht : (ba && (bb && polyB (prodP ⟨l1, x⟩ ⟨l2, y⟩))) = t) :
    Calls Try.prog 44 #[plV l1 (.slice a1 n1 c1), plV l2 (.slice a2 n2 c2)] w fun e w' => (∃ v, e = .returned (.tuple #[plV (doneP t (prodP ⟨l1, x⟩ ⟨l2, y⟩)).low v, .bool t]) ∧ IntRow w.heap.size w' v (doneP t (prodP ⟨l1, x⟩ ⟨l2, y⟩)).cs) ∧ Below w.heap.size w w' := by
  obtain ⟨i0, hi, hz0, hz1, hz2⟩ := info_parts infoInt
  obtain ⟨it, hit, hit0, hit1, hit2⟩ := info_parts infoTotal
  have hzm := told_zm
  have hzn := told_zn
  have hpm := told_pm
  have hpn := told_pn
  obtain ⟨W, hW⟩ : ∃ W, ((w.alloc (.cells #[.int .i64 l1, .slice a1 n1 c1] 25)).alloc (.cells #[.int .i64 l2, .slice a2 n2 c2] 25)).alloc (.cells #[.int .i64 0, .slice none 0 0] 25) = W := ⟨_, rfl⟩
  obtain ⟨hbW, hsz⟩ := boxes3Below hW
  have HC : Hid (∀ w1, Below W.heap.size W w1 → _) := Lib.hid fun w1 (hg : Below W.heap.size W w1) => boxes3 hW hg
  have hC := boxes3 hW (Below.refl _ _)
  rw [← hW] at hC
  obtain ⟨⟨p0, p1⟩, ⟨q0, q1⟩, _⟩ := hC
  have H1 := Lib.hid (h1.below hbW)
  have H2 := Lib.hid (h2.below hbW)
  have HBA := Lib.hid hba
  have HBB := Lib.hid hbb
  have HN1 := Lib.hid h1.len
  have HN2 := Lib.hid h2.len
  have HBW := Lib.hid hbW
  have HW := Lib.hid hW
  have HSZ := Lib.hid hsz
  have HT := Lib.hid ht
  clear hW hbW h1 h2 hba hbb hsz ht
  go_enter Try.func44, Try.ntmps44
  go_wp2_with fail
  rw [HW.out]
  clear p0 p1 q0 q1
  refine (iPolyIn_any l1 x a1 c1 n1 ba W H1.out hc1 HBA.out).mono ?_
  rintro e w1 ⟨rfl, hb1⟩
  have HB1 := Lib.hid hb1
  obtain ⟨⟨p0, p1⟩, ⟨q0, q1⟩, d0, d1, f0, f1⟩ := HC.out w1 hb1
  have hs1 := hb1.size
  clear hb1
  cases ba with
  | false =>
    obtain rfl : t = false := by rw [← HT.out]; rfl
    go_wp2
    have hss := HSZ.out
    refine bodyPost_ret (v := .tuple #[plV 0 (.slice none 0 0), .bool false]) ?_ rfl ⟨⟨_, rfl, intNil _ _⟩, resBelow2 (.int .i64 0) (.slice none 0 0) (HBW.out.trans (HB1.out.mono HBW.out.size))⟩
    simp [results, Try.results44, go_sem, d0, d1, plV]
  | true =>
    go_wp2_with fail
    refine (iPolyIn_any l2 y a2 c2 n2 bb w1 (H2.out.below HB1.out) hc2 HBB.out).mono ?_
    rintro e w2 ⟨rfl, hb2⟩
    have HB2 := Lib.hid (HB1.out.trans (hb2.mono hs1))
    have hs2 := HB2.out.size
    clear hb2 p0 p1 q0 q1 d0 d1 f0 f1
    obtain ⟨⟨p0, p1⟩, ⟨q0, q1⟩, d0, d1, f0, f1⟩ := HC.out w2 HB2.out
    cases bb with
    | false =>
      obtain rfl : t = false := by rw [← HT.out]; rfl
      go_wp2
      refine bodyPost_ret (v := .tuple #[plV 0 (.slice none 0 0), .bool false]) ?_ rfl ⟨⟨_, rfl, intNil _ _⟩, resBelow2 (.int .i64 0) (.slice none 0 0) (HBW.out.trans (HB2.out.mono HBW.out.size))⟩
      simp [results, Try.results44, go_sem, d0, d1, plV]
    | true =>
      obtain ⟨_, hx200, hxl1, hxl2, hxc⟩ := polyB_trim HBA.out
      obtain ⟨_, hy200, hyl1, hyl2, hyc⟩ := polyB_trim HBB.out
      have hx200 : x.length ≤ 200 := hx200
      have hy200 : y.length ≤ 200 := hy200
      have hxl1 : -300 ≤ l1 := hxl1
      have hxl2 : l1 ≤ 300 := hxl2
      have hyl1 : -300 ≤ l2 := hyl1
      have hyl2 : l2 ≤ 300 := hyl2
      have hx1 := HN1.out
      have hx2 := HN2.out
      have HXC : Hid (∀ i, -1000000000 ≤ x.getD i 0 ∧ x.getD i 0 ≤ 1000000000) := Lib.hid hxc
      have HYC : Hid (∀ i, -1000000000 ≤ y.getD i 0 ∧ y.getD i 0 ≤ 1000000000) := Lib.hid hyc
      have HPT : Hid (polyB (prodP ⟨l1, x⟩ ⟨l2, y⟩) = t) := Lib.hid (by have := HT.out; rwa [Bool.true_and, Bool.true_and] at this)
      obtain ⟨N, hN⟩ : ∃ N, n1 + n2 = N := ⟨_, rfl⟩
      have hwN : IntKind.i64.wrap ((n1 : Int) + (n2 : Int)) = (N : Int) := by rw [IntWalk.i64_in _ (by omega)]; omega
      have hNb : N ≤ 400 := by omega
      clear hxc hyc
      go_wp2_with (at_make; refine wpList_make_full _ rfl _ _ 95 rfl w2.heap.size 97 it (.agg #[.int .i64 0, .int .i64 0]) 2 Try.underlying95 hit hit0 hit1 .i64 .i64 _ _ N rfl rfl rfl rfl (by rw [hit2]; omega) (by unfold maxLen; omega) (Nat.le_refl _) ?_; intro wt hrow hgrow; have HBt := Lib.hid (HB2.out.trans ((below_of_grown hgrow).mono hs2)); clear p0 p1 q0 q1 d0 d1 f0 f1; obtain ⟨⟨p0, p1⟩, ⟨q0, q1⟩, _⟩ := HC.out wt HBt.out)
      rw [made_totals N] at hrow
      have HRt := Lib.hid hrow
      have HBt2 : Hid (Below w2.heap.size w2 wt) := Lib.hid (below_of_grown hgrow)
      clear hrow hgrow hwN
      go_loopw [7, 8, 9, 10, 36] (fun _ _ _ _ i wr => ∃ (k : Nat) (f : Nat → Int), k ≤ n1 ∧ i = .int .i64 (k : Int) ∧ Hid (∀ j, j < N → f (j * 2) * 1000000000 + f (j * 2 + 1) = convN x y j k) ∧ Hid (∀ j, -(1000000000 * (200 * (k : Int))) ≤ f j ∧ f j ≤ 1000000000 * (200 * (k : Int))) ∧ Hid (wr.ownsRow w2.heap.size 97 2 (.slice (some ⟨w2.heap.size, 0, none⟩) N N) N (intsV (listN f (N * 2)))) ∧ Hid (Below w2.heap.size w2 wr)) (fun _ _ _ _ i _ => n1 - (intOf i).toNat)
      case atStart => exact ⟨0, fun _ => 0, Nat.zero_le _, rfl, Lib.hid fun j _ => rfl, Lib.hid fun j => by simp, HRt, HBt2⟩
      case round =>
        obtain ⟨k, f, hk, rfl, HF, HFB, HR, HB⟩ := hrel
        have HBx := Lib.hid (HB2.out.trans (HB.out.mono hs2))
        clear p0 p1 q0 q1
        obtain ⟨⟨p0, p1⟩, ⟨q0, q1⟩, _⟩ := HC.out wr HBx.out
        by_cases hlt : k < n1
        · obtain ⟨xa, rfl, hxb, hxa⟩ := (H1.out.below HBx.out).at_ (by omega)
          have hkx : k < x.length := by rw [HN1.out]; exact hlt
          obtain ⟨u, hu⟩ : ∃ u, x.getD k 0 = u := ⟨_, rfl⟩
          have hcu := hxa k hkx
          rw [show x[k] = u by rw [← hu, List.getD_eq_getElem?_getD, List.getElem?_eq_getElem hkx]; rfl] at hcu
          have HU := Lib.hid hu
          clear hu hxa hxb
          have HF0 : Hid (∀ j, j < N → f (j * 2) * 1000000000 + f (j * 2 + 1) = partN x y k 0 j) := Lib.hid fun j hj => by rw [part_zero]; exact HF.out j hj
          go_wp2
          go_loopw [9, 10, 44] (fun _ _ i wr => ∃ (k' : Nat) (f : Nat → Int), k' ≤ n2 ∧ i = .int .i64 (k' : Int) ∧ Hid (∀ j, j < N → f (j * 2) * 1000000000 + f (j * 2 + 1) = partN x y k k' j) ∧ Hid (∀ j, -(1000000000 * (200 * (k : Int) + (k' : Int))) ≤ f j ∧ f j ≤ 1000000000 * (200 * (k : Int) + (k' : Int))) ∧ Hid (wr.ownsRow w2.heap.size 97 2 (.slice (some ⟨w2.heap.size, 0, none⟩) N N) N (intsV (listN f (N * 2)))) ∧ Hid (Below w2.heap.size w2 wr)) (fun _ _ i _ => n2 - (intOf i).toNat)
          case atStart => exact ⟨0, f, Nat.zero_le _, rfl, HF0, Lib.hid fun j => by have := HFB.out j; omega, HR, HB⟩
          case round =>
            obtain ⟨m, f', hm, rfl, HF', HFB', HR', HB'⟩ := hrel
            have HBx' := Lib.hid (HB2.out.trans (HB'.out.mono hs2))
            clear p0 p1 q0 q1 hcu
            obtain ⟨⟨p0, p1⟩, ⟨q0, q1⟩, _⟩ := HC.out wr HBx'.out
            by_cases hlt2 : m < n2
            · obtain ⟨ya, rfl, hyb, hya⟩ := (H2.out.below HBx'.out).at_ (by omega)
              have hky : m < y.length := by rw [HN2.out]; exact hlt2
              obtain ⟨v, hv⟩ : ∃ v, y.getD m 0 = v := ⟨_, rfl⟩
              have hcv := hya m hky
              rw [show y[m] = v by rw [← hv, List.getD_eq_getElem?_getD, List.getElem?_eq_getElem hky]; rfl] at hcv
              have hpb := conv_bound HXC.out HYC.out k m
              rw [HU.out, hv] at hpb
              obtain ⟨p, hp⟩ : ∃ p, u * v = p := ⟨_, rfl⟩
              rw [hp] at hpb
              obtain ⟨hp1, hp2⟩ := hpb
              have htb := tdiv_bound hp1 hp2
              have htp := tdiv_parts p
              obtain ⟨q, hq⟩ : ∃ q, p.tdiv 1000000000 = q := ⟨_, rfl⟩
              obtain ⟨r, hr⟩ : ∃ r, p.tmod 1000000000 = r := ⟨_, rfl⟩
              rw [hq] at htb htp
              rw [hr] at htp
              obtain ⟨hq1, hq2⟩ := htb
              obtain ⟨hqr, hr1, hr2⟩ := htp
              obtain ⟨j, hj⟩ : ∃ j, k + m = j := ⟨_, rfl⟩
              have hjN : j < N := by omega
              have hjNi : (j : Int) < (N : Int) := by omega
              have hj0 : (0 : Int) ≤ (j : Int) := by omega
              have hwj : IntKind.i64.wrap ((k : Int) + (m : Int)) = (j : Int) := by rw [IntWalk.i64_in _ (by omega)]; omega
              have hwp : IntKind.i64.wrap (u * v) = p := by rw [hp]; exact IntWalk.i64_in _ (by omega)
              have hf0 := HFB'.out (j * 2)
              have hf1 := HFB'.out (j * 2 + 1)
              have HCA : Hid (∀ j', j' < N → (if j' * 2 = j * 2 then f' (j * 2) + q else if j' * 2 = j * 2 + 1 then f' (j * 2 + 1) + r else f' (j' * 2)) * 1000000000 + (if j' * 2 + 1 = j * 2 then f' (j * 2) + q else if j' * 2 + 1 = j * 2 + 1 then f' (j * 2 + 1) + r else f' (j' * 2 + 1)) = partN x y k (m + 1) j') := Lib.hid fun j' hj' => by
                have h1 := HF'.out j' hj'
                by_cases e : j' = j
                · subst e
                  rw [if_pos rfl, if_neg (by omega), if_pos rfl]
                  subst hj
                  rw [part_here, HU.out, hv, hp, ← h1]
                  omega
                · rw [if_neg (by omega), if_neg (by omega), if_neg (by omega), if_neg (by omega), part_next (by omega)]
                  exact h1
              have HCAL := Lib.hid (totAdd_any w2.heap.size (j * 2) (f' (j * 2)) (f' (j * 2 + 1)) p q r wr (by rw [HR'.out.cellAt _ (by omega), listN_cell (by omega)]) (by rw [HR'.out.cellAt _ (by omega), listN_cell (by omega)]) (HR'.out.frozenAt _) (HR'.out.frozenAt _) hq hr (by omega) (by omega) (by omega))
              clear hv hya hyb hp hqr hq hr hj
              go_wp2_with fail
              refine HCAL.out.mono ?_
              rintro e w3 ⟨rfl, rfl⟩
              go_wp2
              go_roundw
              case rel =>
                have h1 := HR'.out.stored (j * 2) (.int .i64 (f' (j * 2) + q))
                have h2 := h1.1.stored (j * 2 + 1) (.int .i64 (f' (j * 2 + 1) + r))
                refine ⟨m + 1, fun i => if i = j * 2 then f' (j * 2) + q else if i = j * 2 + 1 then f' (j * 2 + 1) + r else f' i, by omega, by go_num, HCA, Lib.hid fun i => ?_, Lib.hid ?_, Lib.hid ((HB'.out.setCell (p := ⟨w2.heap.size, j * 2, none⟩) (Nat.le_refl _) _).setCell (p := ⟨w2.heap.size, j * 2 + 1, none⟩) (Nat.le_refl _) _)⟩
                · have h3 := HFB'.out i
                  dsimp only
                  split
                  · omega
                  · split
                    · omega
                    · omega
                · rw [listN_set (f := f') (g := fun i => if i = j * 2 then f' (j * 2) + q else f' i) (fun i hi => if_neg hi) (if_pos rfl), listN_set (g := fun i => if i = j * 2 then f' (j * 2) + q else if i = j * 2 + 1 then f' (j * 2 + 1) + r else f' i) (fun i hi => by
                    by_cases e : i = j * 2
                    · rw [if_pos e, if_pos e]
                    · rw [if_neg e, if_neg e, if_neg hi]) (by rw [if_neg (by omega), if_pos rfl])] at h2
                  exact h2.1
              case measure => simp [intOf]; omega
            · obtain rfl : m = n2 := by omega
              go_wp2
              go_roundw
              case rel => exact ⟨k + 1, f', by omega, by go_num, Lib.hid fun j hj => by rw [HF'.out j hj, ← HN2.out, part_all], Lib.hid fun j => by have := HFB'.out j; omega, HR', HB'⟩
              case measure => simp [intOf]; omega
        · obtain rfl : k = n1 := by omega
          obtain ⟨U, hU⟩ : ∃ U, U = wr := ⟨_, rfl⟩
          subst hU
          have HCF : Hid (∀ j, j < N → f (j * 2) * 1000000000 + f (j * 2 + 1) = convN x y j x.length) := Lib.hid fun j hj => by rw [HF.out j hj, HN1.out]
          have HRT := HR
          have HBU := HBx
          have hsU := HBx.out.size
          clear HF HR
          go_wp2_with (at_make; refine wpList_make_full _ rfl _ _ 23 rfl U.heap.size 3 i0 (.int .i64 0) 1 Try.underlying23 hi hz0 hz1 .i64 .i64 _ _ N rfl rfl rfl rfl (by rw [hz2]; omega) (by unfold maxLen; omega) (Nat.le_refl _) ?_; intro wv hrow hgrow; have HBV := Lib.hid (below_of_grown hgrow); clear p0 p1 q0 q1)
          rw [made_zero 0 N, listP_zero] at hrow
          have HRV : Hid (wv.ownsRow U.heap.size 3 1 (.slice (some ⟨U.heap.size, 0, none⟩) N N) N (intsV (listN (fun j => if j < 0 then convN x y j x.length else 0) N))) := Lib.hid (by
            have e : List.replicate N (0 : Int) = listN (fun j => if j < 0 then convN x y j x.length else 0) N := by
              rw [← listP_zero 0 N]
              exact List.map_congr_left fun i _ => (if_neg (Nat.not_lt_zero _)).symm
            rw [← e]
            exact hrow)
          clear hrow hgrow
          go_loopw [12, 13, 14, 15, 65] (fun _ _ _ _ i wq => ∃ k : Nat, k ≤ N ∧ i = .int .i64 (k : Int) ∧ Hid (∀ j, j < k → -4000000000 ≤ convN x y j x.length ∧ convN x y j x.length ≤ 4000000000) ∧ Hid (wq.ownsRow U.heap.size 3 1 (.slice (some ⟨U.heap.size, 0, none⟩) N N) N (intsV (listN (fun j => if j < k then convN x y j x.length else 0) N))) ∧ Hid (Below U.heap.size U wq)) (fun _ _ _ _ i _ => N - (intOf i).toNat)
          case atStart => exact ⟨0, Nat.zero_le _, rfl, Lib.hid fun j h => absurd h (Nat.not_lt_zero _), HRV, HBV⟩
          case round =>
            obtain ⟨k', hk', rfl, HCB, HRQ, HBQ⟩ := hrel
            have HBxq := Lib.hid (HBU.out.trans (HBQ.out.mono hsU))
            obtain ⟨⟨p0, p1⟩, ⟨q0, q1⟩, d0, d1, f0, f1⟩ := HC.out wr HBxq.out
            by_cases hlt3 : k' < N
            · have HRTq := Lib.hid (rowPast HRT.out HBQ.out)
              obtain ⟨c, hc⟩ : ∃ c, f (k' * 2) = c := ⟨_, rfl⟩
              obtain ⟨r, hr⟩ : ∃ r, f (k' * 2 + 1) = r := ⟨_, rfl⟩
              have hcb := HFB.out (k' * 2)
              have hrb := HFB.out (k' * 2 + 1)
              rw [hc] at hcb
              rw [hr] at hrb
              have e0 : wr.cell? ⟨w2.heap.size, k' * 2, none⟩ = some (.int .i64 c) := by rw [HRTq.out.cellAt _ (by omega), listN_cell (by omega), hc]
              have e1 : wr.cell? ⟨w2.heap.size, k' * 2 + 1, none⟩ = some (.int .i64 r) := by rw [HRTq.out.cellAt _ (by omega), listN_cell (by omega), hr]
              have hcs : c * 1000000000 + r = convN x y k' x.length := by rw [← hc, ← hr]; exact HCF.out k' hlt3
              have hki : (k' : Int) < (N : Int) := by omega
              have hk0 : (0 : Int) ≤ (k' : Int) := by omega
              obtain ⟨b, hb⟩ : ∃ b, inR (-1) 1 (c + r.tdiv 1000000000) = b := ⟨_, rfl⟩
              obtain ⟨V, hV⟩ : ∃ V, wr.alloc (.cells #[.int .i64 c, .int .i64 r] 97) = V := ⟨_, rfl⟩
              have hbV : Below wr.heap.size wr V := by rw [← hV]; exact (Below.refl _ _).alloc (Nat.le_refl _) _
              have HNUM := Lib.hid (number_any c r b V (by omega) (by omega) hb)
              have HV := Lib.hid hV
              have HBVV := Lib.hid hbV
              have HCS := Lib.hid hcs
              have HBB2 := Lib.hid hb
              clear hV hbV hb hc hr hcs hcb hrb p0 p1 q0 q1 d0 d1 f0 f1
              go_wp2_with fail
              rw [HV.out]
              refine HNUM.out.mono ?_
              rintro e w4 ⟨rfl, hb4⟩
              have hbw4 : Below wr.heap.size wr w4 := HBVV.out.trans (hb4.mono HBVV.out.size)
              have hsq := HBQ.out.size
              have HB4 := Lib.hid (HBQ.out.trans (hbw4.mono hsq))
              have HBx4 := Lib.hid (HBU.out.trans (HB4.out.mono hsU))
              clear e0 e1 hb4
              obtain ⟨_, _, d0, d1, f0, f1⟩ := HC.out w4 HBx4.out
              cases b with
              | false =>
                have hpf : polyB (prodP ⟨l1, x⟩ ⟨l2, y⟩) = false := by
                  have hn := num_no HBB2.out
                  rw [HCS.out] at hn
                  rw [← prod_list]
                  exact tidy_bad (i := k') (by rw [listN_get (by rw [HN1.out, HN2.out]; omega)]; exact hn)
                obtain rfl : t = false := by rw [← HPT.out, hpf]
                go_wp2
                refine bodyPost_ret (v := .tuple #[plV 0 (.slice none 0 0), .bool false]) ?_ rfl ⟨⟨_, rfl, intNil _ _⟩, resBelow2 (.int .i64 0) (.slice none 0 0) (HBW.out.trans (HBx4.out.mono HBW.out.size))⟩
                simp [results, Try.results44, go_sem, d0, d1, plV]
              | true =>
                rw [show (if true = true then c * 1000000000 + r else 0) = convN x y k' x.length from HCS.out]
                have HRQ4 := Lib.hid (rowPast HRQ.out hbw4)
                obtain ⟨o, ho⟩ : ∃ o, convN x y k' x.length = o := ⟨_, rfl⟩
                have hob : -4000000000 ≤ o ∧ o ≤ 4000000000 := by
                  have h1 := HCS.out
                  have h2 := HBB2.out
                  have h3 := tdiv_parts r
                  unfold inR at h2
                  simp only [Bool.and_eq_true, decide_eq_true_eq] at h2
                  omega
                have hck : w4.cell? ⟨U.heap.size, k', none⟩ = some (.int .i64 0) := by
                  rw [HRQ4.out.cellAt _ (by omega), listN_cell hlt3, if_neg (Nat.lt_irrefl _)]
                have hfk := HRQ4.out.frozenAt k'
                have HST : Hid ((intsV (listN (fun j => if j < k' then convN x y j x.length else 0) N)).set k' (.int .i64 o) = intsV (listN (fun j => if j < k' + 1 then convN x y j x.length else 0) N)) := Lib.hid (listN_set (fun i hi => by
                  by_cases h : i < k'
                  · rw [if_pos h, if_pos (by omega)]
                  · rw [if_neg h, if_neg (by omega)]) (by rw [if_pos (Nat.lt_succ_self k'), ho]))
                have HCB2 : Hid (∀ j, j < k' + 1 → -4000000000 ≤ convN x y j x.length ∧ convN x y j x.length ≤ 4000000000) := Lib.hid fun j hj => by
                  by_cases e : j = k'
                  · rw [e, ho]; exact hob
                  · exact HCB.out j (by omega)
                rw [ho]
                clear ho hob d0 d1 f0 f1
                go_wp2
                go_roundw
                case rel =>
                  refine ⟨k' + 1, by omega, by go_num, HCB2, Lib.hid ?_, Lib.hid (HB4.out.setCell (p := ⟨U.heap.size, k', none⟩) (Nat.le_refl _) _)⟩
                  rw [← HST.out]
                  exact (HRQ4.out.stored k' (.int .i64 o)).1
                case measure => simp [intOf]; omega
            · obtain rfl : k' = N := by omega
              have el : listN (fun j => if j < k' then convN x y j x.length else 0) k' = listN (fun j => convN x y j x.length) k' := listN_congr fun i hi => if_pos hi
              have hrr : IntRow U.heap.size wr (.slice (some ⟨U.heap.size, 0, none⟩) k' k') (listN (fun j => convN x y j x.length) k') := by
                have h := HRQ.out
                rw [el] at h
                exact rowI h (listN_len _ _)
              have hwf : ∀ z ∈ listN (fun j => convN x y j x.length) k', -9223372036854775808 ≤ z ∧ z ≤ 9223372036854775807 := fun z hz => by
                unfold listN at hz
                obtain ⟨i, hi, rfl⟩ := List.mem_map.1 hz
                have := HCB.out i (List.mem_range.1 hi)
                omega
              obtain ⟨a5, c5, hv, hc5, hi5⟩ := hrr.readc hwf
              rw [listN_len] at hv hc5 hi5
              simp at hv
              obtain ⟨rfl, rfl⟩ := hv
              have HTD : Hid (tidyP (l1 + l2) (listN (fun j => convN x y j x.length) k') = prodP ⟨l1, x⟩ ⟨l2, y⟩) := Lib.hid (by rw [← prod_list, show k' = x.length + y.length by rw [HN1.out, HN2.out]; exact hN.symm])
              have HTR : Hid (Trim (prodP ⟨l1, x⟩ ⟨l2, y⟩)) := Lib.hid (prod_trim _ _)
              have hwl : IntKind.i64.wrap (l1 + l2) = l1 + l2 := IntWalk.i64_in _ (by omega)
              have HA := Lib.hid (apart_in (l1 + l2) (listN (fun j => convN x y j x.length) k') (some ⟨U.heap.size, 0, none⟩) k' k' wr hi5 (Nat.le_refl _) (by omega) (by omega) (by omega))
              clear hwf hrr hc5 hi5 el
              go_wp2_with fail
              refine HA.out.mono ?_
              rintro e w5 ⟨⟨v, rfl, hA⟩, hb5⟩
              have hsq := HBQ.out.size
              have HB5 := Lib.hid (HBxq.out.trans (hb5.mono (by omega)))
              have hs5 := hb5.size
              clear hb5 p0 p1 q0 q1 d0 d1 f0 f1
              rw [HTD.out] at hA
              have hss := HSZ.out
              rcases hA with ⟨hq, rfl⟩ | ⟨hq, a6, c6, rfl, hc6, hi6⟩
              · obtain ⟨rfl, hq0⟩ := told_zero HTR.out hq HPT.out
                have HQ0 := Lib.hid hq0
                clear hq hq0
                go_wp2_with fail
                refine (toldZ_any _).mono ?_
                rintro e w6 ⟨⟨v, rfl, hr⟩, hb6⟩
                obtain ⟨_, _, d0, d1, f0, f1⟩ := HC.out w6 (HB5.out.trans (hb6.mono (by omega)))
                have HR := Lib.hid hr
                have HB6 := Lib.hid (HBW.out.trans ((HB5.out.trans (hb6.mono (by omega))).mono HBW.out.size))
                obtain ⟨g4, gg, cap4, rfl, _⟩ := hr.shape
                clear hr hb6
                go_wp2
                refine bodyPost_ret (v := .tuple #[plV 0 (.slice g4 0 cap4), .bool true]) ?_ rfl ⟨⟨.slice g4 0 cap4, by rw [HQ0.out]; rfl, by rw [HQ0.out]; exact resRow2 (.int .i64 0) (.slice g4 0 cap4) HR.out (by omega)⟩, resBelow2 (.int .i64 0) (.slice g4 0 cap4) HB6.out⟩
                simp [results, Try.results44, go_sem, d0, d1, plV]
              · have HTO := Lib.hid (toldP_any (prodP ⟨l1, x⟩ ⟨l2, y⟩).low (prodP ⟨l1, x⟩ ⟨l2, y⟩).cs a6 c6 _ t w5 hi6 (by rw [fits_polyB HTR.out hq]; exact HPT.out))
                clear hi6
                go_wp2_with fail
                refine HTO.out.mono ?_
                rintro e w6 ⟨⟨v, rfl, hr⟩, hb6⟩
                obtain ⟨_, _, d0, d1, f0, f1⟩ := HC.out w6 (HB5.out.trans (hb6.mono (by omega)))
                have HR := Lib.hid hr
                have HB6 := Lib.hid (HBW.out.trans ((HB5.out.trans (hb6.mono (by omega))).mono HBW.out.size))
                obtain ⟨g4, gg, cap4, rfl, _⟩ := hr.shape
                clear hr hb6
                go_wp2
                refine bodyPost_ret (v := .tuple #[plV (doneP t (prodP ⟨l1, x⟩ ⟨l2, y⟩)).low (.slice g4 (doneP t (prodP ⟨l1, x⟩ ⟨l2, y⟩)).cs.length cap4), .bool t]) ?_ rfl ⟨⟨_, rfl, resRow2 (.int .i64 (doneP t (prodP ⟨l1, x⟩ ⟨l2, y⟩)).low) (.slice g4 (doneP t (prodP ⟨l1, x⟩ ⟨l2, y⟩)).cs.length cap4) HR.out (by omega)⟩, resBelow2 (.int .i64 (doneP t (prodP ⟨l1, x⟩ ⟨l2, y⟩)).low) (.slice g4 (doneP t (prodP ⟨l1, x⟩ ⟨l2, y⟩)).cs.length cap4) HB6.out⟩
                simp [results, Try.results44, go_sem, d0, d1, plV]

theorem timesP_fit {w : World} {l1 l2 : Int} {x y : List Int} {a1 a2 : Option Addr} {n1 n2 : Nat} {b : Bool} {p : Pl} (_ : Ints w a1 n1 x) (_ : Ints w a2 n2 y) (_ : timesPB ⟨l1, x⟩ ⟨l2, y⟩ = b) (hp : timesP ⟨l1, x⟩ ⟨l2, y⟩ = p) : p.cs.length ≤ 200 := by
  unfold timesP at hp
  refine doneP_len (fun h => ?_) hp
  unfold timesPB at h
  simp only [Bool.and_eq_true] at h
  exact h.2.2
theorem sPolyTimes_law {l1 l2 : Int} {x y : List Int} {a1 a2 : Option Addr} {n1 n2 : Nat} {b : Bool} {pl : Int} {pc : List Int} {w : World} (h1 : Ints w a1 n1 x) (h2 : Ints w a2 n2 y) (hb : timesPB ⟨l1, x⟩ ⟨l2, y⟩ = b) (hp : timesP ⟨l1, x⟩ ⟨l2, y⟩ = ⟨pl, pc⟩) :
    Calls Try.prog 128 #[plV l1 (.slice a1 n1 n1), plV l2 (.slice a2 n2 n2)] w fun e w' => (∃ v, e = .returned (.tuple #[plV pl v, .bool b]) ∧ IntRow w.heap.size w' v pc) ∧ Below w.heap.size w w' := by
  have h := sPolyTimes_any l1 l2 x y a1 a2 n1 n2 n1 n2 _ _ b w h1 h2 rfl rfl hb
  unfold timesP at hp
  rwa [← hb, hp, hb] at h
theorem iPolyTimes_law {l1 l2 : Int} {x y : List Int} {a1 a2 : Option Addr} {n1 n2 : Nat} {b : Bool} {pl : Int} {pc : List Int} {w : World} (h1 : Ints w a1 n1 x) (h2 : Ints w a2 n2 y) (hb : timesPB ⟨l1, x⟩ ⟨l2, y⟩ = b) (hp : timesP ⟨l1, x⟩ ⟨l2, y⟩ = ⟨pl, pc⟩) :
    Calls Try.prog 44 #[plV l1 (.slice a1 n1 n1), plV l2 (.slice a2 n2 n2)] w fun e w' => (∃ v, e = .returned (.tuple #[plV pl v, .bool b]) ∧ IntRow w.heap.size w' v pc) ∧ Below w.heap.size w w' := by
  have h := iPolyTimes_any l1 l2 x y a1 a2 n1 n2 n1 n2 _ _ b w h1 h2 (Nat.le_refl _) (Nat.le_refl _) rfl rfl hb
  unfold timesP at hp
  rwa [← hb, hp, hb] at h

end Go.Proofs.Ytakfobihakbefaa

/- Division undoes products, and products undo division (mathematics). -/

namespace Go.Proofs.Ytakfobihakbefaa
open Go.RowKit

theorem convN_cons (x : Int) (r y : List Int) (i : Nat) : ∀ m, convN (x :: r) y i (m + 1) = x * y.getD i 0 + (if 0 < i then convN r y (i - 1) m else 0)
  | 0 => by
    rw [convN, convN, convN, if_pos (Nat.zero_le _), Nat.sub_zero, ite_self, Int.add_zero, Int.zero_add]
    rfl
  | m + 1 => by
    rw [convN, convN_cons x r y i m]
    by_cases hi : 0 < i
    · rw [if_pos hi, if_pos hi, convN]
      by_cases h : m + 1 ≤ i
      · rw [if_pos h, if_pos (by omega), show i - (m + 1) = i - 1 - m by omega, Int.add_assoc]
        rfl
      · rw [if_neg h, if_neg (by omega)]
        omega
    · rw [if_neg hi, if_neg hi, if_neg (by omega)]
      omega
theorem convL_nil (y : List Int) (i : Nat) : (convL [] y).getD i 0 = 0 := by
  by_cases h : i < ([] : List Int).length + y.length - 1
  · rw [convL_get _ _ _ h]; rfl
  · exact getD_far (by rw [convL_len]; omega)
theorem convL_head (x : Int) (r y : List Int) (hy : 0 < y.length) : (convL (x :: r) y).getD 0 0 = x * y.getD 0 0 := by
  rw [convL_get _ _ _ (by rw [List.length_cons]; omega), List.length_cons, convN_cons, if_neg (Nat.lt_irrefl _), Int.add_zero]
theorem convL_next (x : Int) (r y : List Int) (hy : 0 < y.length) (i : Nat) : (convL (x :: r) y).getD (i + 1) 0 = x * y.getD (i + 1) 0 + (convL r y).getD i 0 := by
  by_cases h : i + 1 < (x :: r).length + y.length - 1
  · have hc : r.length + y.length - 1 ≤ i ∨ i < r.length + y.length - 1 := by omega
    rw [List.length_cons] at h
    rw [convL_get _ _ _ (by rw [List.length_cons]; omega), List.length_cons, convN_cons, if_pos (by omega), Nat.add_sub_cancel, convL_get _ _ _ (by omega)]
  · rw [List.length_cons] at h
    rw [getD_far (l := convL (x :: r) y) (by rw [convL_len, List.length_cons]; omega), getD_far (l := y) (by omega), getD_far (l := convL r y) (by rw [convL_len]; omega), Int.mul_zero]
    rfl
theorem mul4 {a b : Int} (h1 : -4 ≤ a ∧ a ≤ 4) (h2 : -4 ≤ b ∧ b ≤ 4) : -16 ≤ a * b ∧ a * b ≤ 16 := by
  have : a = -4 ∨ a = -3 ∨ a = -2 ∨ a = -1 ∨ a = 0 ∨ a = 1 ∨ a = 2 ∨ a = 3 ∨ a = 4 := by omega
  rcases this with rfl | rfl | rfl | rfl | rfl | rfl | rfl | rfl | rfl <;> omega
theorem convN_small {x y : List Int} (hx : ∀ i, -4 ≤ x.getD i 0 ∧ x.getD i 0 ≤ 4) (hy : ∀ i, -4 ≤ y.getD i 0 ∧ y.getD i 0 ≤ 4) (i : Nat) : ∀ m : Nat, -16 * (m : Int) ≤ convN x y i m ∧ convN x y i m ≤ 16 * (m : Int)
  | 0 => by rw [convN]; omega
  | m + 1 => by
    have h1 := convN_small hx hy i m
    have h2 := mul4 (hx m) (hy (i - m))
    rw [convN]
    split <;> omega
theorem convL_small {x y : List Int} (hx : ∀ i, -4 ≤ x.getD i 0 ∧ x.getD i 0 ≤ 4) (hy : ∀ i, -4 ≤ y.getD i 0 ∧ y.getD i 0 ≤ 4) (hl : x.length ≤ 1000) (i : Nat) : -16000 ≤ (convL x y).getD i 0 ∧ (convL x y).getD i 0 ≤ 16000 := by
  by_cases h : i < x.length + y.length - 1
  · rw [convL_get _ _ _ h]
    have := convN_small hx hy i x.length
    omega
  · rw [getD_far (by rw [convL_len]; omega)]; omega
theorem leftIn_of {z : Int} (h1 : -4000000000000000000 ≤ z) (h2 : z ≤ 4000000000000000000) : leftIn z = true := by
  unfold leftIn inR
  simp [h1, h2]
theorem coefIn_of {z : Int} (h1 : -1000000000 ≤ z) (h2 : z ≤ 1000000000) : coefIn z = true := by
  unfold coefIn inR
  simp [h1, h2]

/-- A product is divided. -/
theorem div_prod {y : List Int} (hy : 0 < y.length) (hy0 : y.getD 0 0 ≠ 0) (hyb : ∀ i, -4 ≤ y.getD i 0 ∧ y.getD i 0 ≤ 4) : ∀ x : List Int, (∀ i, -4 ≤ x.getD i 0 ∧ x.getD i 0 ≤ 4) → x.length ≤ 1000 → divGo y x.length (convL x y) = some (x, convL [] y)
  | [], _, _ => rfl
  | x :: r, hx, hl => by
    have hr : ∀ i, -4 ≤ r.getD i 0 ∧ r.getD i 0 ≤ 4 := fun i => by
      have := hx (i + 1)
      simpa using this
    have hx0 : -4 ≤ x ∧ x ≤ 4 := by
      have := hx 0
      simpa using this
    rw [List.length_cons] at hl
    have e0 := convL_head x r y hy
    have hQ : stepQ y (convL (x :: r) y) = x := by
      unfold stepQ
      rw [e0]
      exact Int.mul_tdiv_cancel x hy0
    have hB : stepB y (convL (x :: r) y) = true := by
      refine step_yes ?_ ?_ fun i hi => ?_
      · rw [e0]; exact Int.mul_tmod_left x _
      · rw [hQ]; exact coefIn_of (by omega) (by omega)
      · rw [hQ]
        cases i with
        | zero => rw [e0, Int.sub_self]; rfl
        | succ i =>
          rw [convL_next x r y hy i]
          have := convL_small hr hyb (by omega) i
          exact leftIn_of (by omega) (by omega)
    have hT : (subQ x y (convL (x :: r) y)).tail = convL r y := by
      refine eq_getD ?_ fun i _ => ?_
      · rw [List.length_tail, subQ_len, convL_len, convL_len, List.length_cons]
        omega
      · rw [tail_get, subQ_get _ _ _ _ (by rw [convL_len, List.length_cons]; omega), convL_next x r y hy i]
        omega
    rw [List.length_cons, divGo, if_pos hB, hQ, hT, div_prod hy hy0 hyb r hr (by omega)]
    rfl
/-- What is divided is a product. -/
theorem div_back {y : List Int} (hy : 0 < y.length) : ∀ (n : Nat) (left qs rest : List Int), left.length = n + y.length - 1 → divGo y n left = some (qs, rest) → qs.length = n ∧ (zeroL rest = true → left = convL qs y)
  | 0, left, qs, rest, hl, h => by
    rw [divGo] at h
    simp only [Option.some.injEq, Prod.mk.injEq] at h
    obtain ⟨rfl, rfl⟩ := h
    refine ⟨rfl, fun hz => eq_getD (by rw [hl, convL_len]; rfl) fun i hi => ?_⟩
    rw [convL_nil]
    by_cases hne : left.getD i 0 = 0
    · exact hne
    · rw [zeroL_no hne] at hz; exact absurd hz (by decide)
  | n + 1, left, qs, rest, hl, h => by
    rw [divGo] at h
    cases hB : stepB y left with
    | false => rw [if_neg (by rw [hB]; exact Bool.false_ne_true)] at h; cases h
    | true =>
      rw [if_pos hB] at h
      cases hD : divGo y n (subQ (stepQ y left) y left).tail with
      | none => rw [hD] at h; cases h
      | some p =>
        rw [hD] at h
        obtain ⟨q1, r1⟩ := p
        have h : some (stepQ y left :: q1, r1) = some (qs, rest) := h
        simp only [Option.some.injEq, Prod.mk.injEq] at h
        obtain ⟨rfl, rfl⟩ := h
        obtain ⟨i1, i2⟩ := div_back hy n _ q1 r1 (by rw [List.length_tail, subQ_len, hl]; omega) hD
        refine ⟨by rw [List.length_cons, i1], fun hz => eq_getD (by rw [hl, convL_len, List.length_cons, i1]) fun i _ => ?_⟩
        have e := i2 hz
        have hle : y.length ≤ left.length := by omega
        cases i with
        | zero =>
          rw [convL_head _ _ _ hy]
          have h0 := step_head hle (step_parts hB).1
          rw [subQ_get _ _ _ _ hle] at h0
          omega
        | succ i =>
          rw [convL_next _ _ _ hy, ← e, tail_get, subQ_get _ _ _ _ hle]
          omega
/-- The product of two polynomials that are not 0. -/
theorem prod_trimmed {a b : Pl} (ha : Trim a) (hb : Trim b) (h1 : 0 < a.cs.length) (h2 : 0 < b.cs.length) : prodP a b = ⟨a.low + b.low, convL a.cs b.cs⟩ := by
  unfold prodP
  rw [if_neg (by omega)]
  obtain ⟨a0, a1⟩ := trim_nonzero ha h1
  obtain ⟨b0, b1⟩ := trim_nonzero hb h2
  have e : tidyP (⟨a.low + b.low, convL a.cs b.cs⟩ : Pl).low (⟨a.low + b.low, convL a.cs b.cs⟩ : Pl).cs = _ := tidy_self (p := ⟨a.low + b.low, convL a.cs b.cs⟩) (by
    refine .inr ⟨fun e => ?_, ?_, ?_⟩
    · have e : convL a.cs b.cs = [] := e
      have := convL_len a.cs b.cs
      rw [e] at this
      simp at this
      omega
    · show (convL a.cs b.cs).getD 0 0 ≠ 0
      cases hx : a.cs with
      | nil => rw [hx] at h1; exact absurd h1 (Nat.lt_irrefl _)
      | cons x r =>
        rw [convL_head x r _ h2]
        rw [hx] at a0
        exact Int.mul_ne_zero (by simpa using a0) b0
    · show (convL a.cs b.cs).getD ((convL a.cs b.cs).length - 1) 0 ≠ 0
      obtain ⟨m, hm⟩ : ∃ m, a.cs.length = m + 1 := ⟨a.cs.length - 1, by omega⟩
      rw [convL_len, convL_get _ _ _ (by omega), hm, convN, convN_from _ _ _ m (by omega), if_pos (by omega), Int.zero_add]
      rw [hm] at a1
      refine Int.mul_ne_zero (by simpa using a1) ?_
      rw [show m + 1 + b.cs.length - 1 - 1 - m = b.cs.length - 1 by omega]
      exact b1)
  exact e
theorem convL_zero (y : List Int) : zeroL (convL [] y) = true := zeroL_yes fun i _ => convL_nil y i
/-- Products are divided. -/
theorem over_prod {a b : Pl} (ha : Trim a) (hb : Trim b) (h2 : 0 < b.cs.length) (hxa : ∀ i, -4 ≤ a.cs.getD i 0 ∧ a.cs.getD i 0 ≤ 4) (hxb : ∀ i, -4 ≤ b.cs.getD i 0 ∧ b.cs.getD i 0 ≤ 4) (hl : a.cs.length ≤ 1000) : overQ (prodP a b) b = some a := by
  by_cases h1 : a.cs.length = 0
  · have ea : a = ⟨0, []⟩ := trim_unique ha (.inl ⟨rfl, rfl⟩) fun k => by rw [pat_none h1, pat_nil]
    have ep : prodP a b = ⟨0, []⟩ := by unfold prodP; rw [if_pos (.inl h1)]
    rw [ep, ea]
    rfl
  · rw [prod_trimmed ha hb (by omega) h2]
    rw [overQ_some (by show 0 < (convL a.cs b.cs).length; rw [convL_len]; omega)]
    show outQ (a.low + b.low - b.low) (divGo b.cs ((convL a.cs b.cs).length + 1 - b.cs.length) (convL a.cs b.cs)) = some a
    rw [convL_len, show a.cs.length + b.cs.length - 1 + 1 - b.cs.length = a.cs.length by omega, div_prod h2 (trim_nonzero hb h2).1 hxb a.cs hxa hl]
    show (if zeroL (convL [] b.cs) then some (tidyP (a.low + b.low - b.low) a.cs) else none) = some a
    rw [convL_zero, if_pos rfl, show a.low + b.low - b.low = a.low by omega, tidy_self ha]
/-- What is divided is multiplied again. -/
theorem over_back {a b p : Pl} (ha : Trim a) (h2 : 0 < b.cs.length) (h : overQ a b = some p) : prodP p b = a := by
  by_cases h1 : a.cs.length = 0
  · have ea : a = ⟨0, []⟩ := trim_unique ha (.inl ⟨rfl, rfl⟩) fun k => by rw [pat_none h1, pat_nil]
    have e : overQ a b = some a := by unfold overQ; rw [if_pos h1]
    rw [e] at h
    simp only [Option.some.injEq] at h
    subst h
    unfold prodP
    rw [if_pos (.inl h1), ea]
  · rw [overQ_some (by omega)] at h
    obtain ⟨a0, _⟩ := trim_nonzero ha (by omega)
    cases hD : divGo b.cs (a.cs.length + 1 - b.cs.length) a.cs with
    | none => rw [hD] at h; cases h
    | some q =>
      obtain ⟨qs, rest⟩ := q
      rw [hD] at h
      have h : (if zeroL rest then some (tidyP (a.low - b.low) qs) else none) = some p := h
      cases hz : zeroL rest with
      | false => rw [hz] at h; cases h
      | true =>
        rw [hz, if_pos rfl] at h
        simp only [Option.some.injEq] at h
        subst h
        have hn : 0 < a.cs.length + 1 - b.cs.length := by
          by_cases hn : 0 < a.cs.length + 1 - b.cs.length
          · exact hn
          · rw [show a.cs.length + 1 - b.cs.length = 0 by omega, divGo] at hD
            simp only [Option.some.injEq, Prod.mk.injEq] at hD
            obtain ⟨_, rfl⟩ := hD
            rw [zeroL_no a0] at hz
            exact absurd hz (by decide)
        obtain ⟨hq, hc⟩ := div_back h2 _ _ qs rest (by omega) hD
        have hc := hc hz
        refine trim_unique (prod_trim _ _) ha fun k => ?_
        rw [prod_pat, mulF_congr1 (b := ⟨a.low - b.low, qs⟩) (fun k => tidy_pat _ _ k), ← prod_pat]
        unfold prodP
        rw [if_neg (by show ¬ (qs.length = 0 ∨ b.cs.length = 0); omega)]
        show pat (tidyP (a.low - b.low + b.low) (convL qs b.cs)) k = pat a k
        rw [← hc, show a.low - b.low + b.low = a.low by omega, tidy_self ha]

end Go.Proofs.Ytakfobihakbefaa

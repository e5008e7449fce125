/- The contract of the program's 'images': the four words that a letter of a braid puts. -/
import Derived.Test.YtaaeiogdhmiaaaaCe
import Derived.Test.YtaaeiogdhmiaaaaCk
import Derived.Test.YtaaeiogdhmiaaaaIl
namespace Go.Proofs.Ytaaeiogdhmiaaaa
open Go.RowKit Go.Shelf

/-- A block of cells, and of which type they are. -/
def Typed (w : World) (b : Nat) (t : TypeId) : Prop := ∃ c f, w.heap[b]? = some (.cells c t f)
theorem Typed.lt {w : World} {b : Nat} {t : TypeId} (h : Typed w b t) : b < w.heap.size := by
  obtain ⟨c, f, e⟩ := h
  exact (Array.getElem?_eq_some_iff.1 e).1
theorem Typed.ne {w : World} {b b' : Nat} {t t' : TypeId} (h : Typed w b t) (h' : Typed w b' t') (hne : t ≠ t') : b ≠ b' := by
  obtain ⟨c, f, e⟩ := h
  obtain ⟨c', f', e'⟩ := h'
  rintro rfl
  rw [e] at e'; cases e'; exact hne rfl
theorem Typed.kept {w w' : World} {b : Nat} {t : TypeId} {row : Option Nat} (h : Typed w b t) (hg : w.grownBy w' row) (hr : some b ≠ row) : Typed w' b t := by
  obtain ⟨c, f, e⟩ := h
  exact ⟨c, f, (hg.block b (Typed.lt ⟨c, f, e⟩) hr).trans e⟩
theorem cell_kept {w w' : World} {b j : Nat} {u : Value} {row : Option Nat} (h : w.cell? ⟨b, j, none⟩ = some u) (hl : b < w.heap.size) (hg : w.grownBy w' row) (hr : some b ≠ row) : w'.cell? ⟨b, j, none⟩ = some u :=
  (World.cell?_of_block (a := ⟨b, j, none⟩) (hg.block b hl hr)).trans h
theorem grownBy_setCellA (W : World) (a : Addr) (v : Value) : W.grownBy (W.setCell a v) (some a.block) :=
  ⟨rfl, rfl, rfl, (KeepsWalks.setCell W _ v).size, fun k _ hk => Below.heap_setCell _ _ _ k (fun e => hk (by rw [e]))⟩
/-- What a write has left alone: no block of the three kinds. -/
def Spares (w : World) (row : Option Nat) : Prop := ∀ b, some b = row → ¬ Typed w b 77 ∧ ¬ Typed w b 87 ∧ ¬ Typed w b 99
theorem Spares.none (w : World) : Spares w none := fun _ h => by cases h
/-- A word in memory, its block's type told. -/
def WordY (w : World) (v : Value) (L : List UInt8) : Prop :=
  ∃ g cap, v = .slice (some ⟨g, 0, none⟩) L.length cap ∧ L.length ≤ 60 ∧ Typed w g 77 ∧ ∀ j (h : j < L.length), w.cell? ⟨g, j, none⟩ = some (.int .u8 (L[j].toNat : Int))
theorem WordY.kept {w w' : World} {v : Value} {L : List UInt8} {row : Option Nat} (h : WordY w v L) (hg : w.grownBy w' row) (hr : ∀ b, some b = row → ¬ Typed w b 77) : WordY w' v L := by
  obtain ⟨g, cap, e, h1, h2, h3⟩ := h
  have hne : some g ≠ row := fun e => hr g e h2
  exact ⟨g, cap, e, h1, h2.kept hg hne, fun j hj => cell_kept (h3 j hj) h2.lt hg hne⟩
theorem WordY.at_ {w : World} {v : Value} {L : List UInt8} (h : WordY w v L) : WordAt 0 w v L := by
  obtain ⟨g, cap, e, h1, h2, h3⟩ := h
  exact ⟨g, cap, e, Nat.zero_le _, h2.lt, h1, h3⟩
/-- A row of words. -/
def RowW (w : World) (vs : List Value) (zs : List ByteArray) : Prop := vs.length = zs.length ∧ ∀ j, j < zs.length → WordY w (vs.getD j undef) (zs.getD j ByteArray.empty).data.toList
theorem RowW.kept {w w' : World} {vs : List Value} {zs : List ByteArray} {row : Option Nat} (h : RowW w vs zs) (hg : w.grownBy w' row) (hr : ∀ b, some b = row → ¬ Typed w b 77) : RowW w' vs zs := ⟨h.1, fun j hj => (h.2 j hj).kept hg hr⟩
theorem RowW.set {w : World} {vs : List Value} {zs : List ByteArray} (h : RowW w vs zs) (k : Nat) {v : Value} {z : ByteArray} (hv : WordY w v z.data.toList) : RowW w (vs.set k v) (zs.set k z) := by
  refine ⟨by simp [h.1], fun j hj => ?_⟩
  simp only [List.length_set] at hj
  have hjv : j < vs.length := by rw [h.1]; exact hj
  rw [List.getD_eq_getElem?_getD, List.getD_eq_getElem?_getD, List.getElem?_set, List.getElem?_set]
  by_cases e : k = j
  · subst e
    rw [if_pos rfl, if_pos rfl, if_pos hjv, if_pos hj]; exact hv
  · rw [if_neg e, if_neg e, ← List.getD_eq_getElem?_getD, ← List.getD_eq_getElem?_getD]; exact h.2 j hj
/-- Four words in memory, their blocks' types told. -/
def FourY (b : Nat) (w : World) (zs : List ByteArray) : Prop := Typed w b 87 ∧ ∀ j, j < zs.length → ∃ u, w.cell? ⟨b, j, none⟩ = some u ∧ WordY w u (zs.getD j ByteArray.empty).data.toList
theorem FourY.kept {b : Nat} {w w' : World} {zs : List ByteArray} {row : Option Nat} (h : FourY b w zs) (hg : w.grownBy w' row) (hr : Spares w row) : FourY b w' zs := by
  have hne : some b ≠ row := fun e => (hr b e).2.1 h.1
  refine ⟨h.1.kept hg hne, fun j hj => ?_⟩
  obtain ⟨u, h1, h2⟩ := h.2 j hj
  exact ⟨u, cell_kept h1 h.1.lt hg hne, h2.kept hg (fun b e => (hr b e).1)⟩
theorem FourY.four {b : Nat} {w : World} {zs : List ByteArray} (h : FourY b w zs) : FourAt b 0 w zs := by
  refine ⟨h.1.lt, fun j hj => ?_⟩
  obtain ⟨u, h1, h2⟩ := h.2 j hj
  have e : zs.getD j ByteArray.empty = zs[j] := by rw [List.getD_eq_getElem?_getD, List.getElem?_eq_getElem hj]; rfl
  rw [e] at h2
  exact ⟨u, h1, h2.at_⟩
theorem RowW.four {b : Nat} {w : World} {vs : List Value} {zs : List ByteArray} {n : Nat} (h : RowW w vs zs) (hc : ∀ j, j < n → w.cell? ⟨b, j, none⟩ = vs[j]?) (hn : vs.length = n) (hb : Typed w b 87) : FourY b w zs := by
  refine ⟨hb, fun j hj => ⟨vs.getD j undef, ?_, h.2 j hj⟩⟩
  have hjv : j < vs.length := by rw [h.1]; exact hj
  rw [hc j (by omega), List.getD_eq_getElem?_getD, List.getElem?_eq_getElem hjv]; rfl
theorem typed_row {w : World} {lo g n c : Nat} {e : TypeId} {vs : List Value} (h : w.ownsRow lo e 1 (.slice (some ⟨g, 0, none⟩) n c) n vs) : Typed w g e := by
  rcases h.2 with ⟨h1, _⟩ | ⟨g1, cap1, cur1, h1, _, h2, _⟩
  · cases h1
  · cases h1; exact ⟨_, _, h2⟩
theorem wordY_new {w : World} (L : List UInt8) (hl : L.length ≤ 60) (o : Obj) (ho : o = .cells (L.map fun c => Value.int .u8 (c.toNat : Int)).toArray 77) (n : Nat) (hn : n = L.length) :
    WordY (w.alloc o) (.slice (some ⟨w.heap.size, 0, none⟩) n n) L := by
  subst ho
  subst hn
  refine ⟨w.heap.size, L.length, rfl, hl, ⟨_, _, World.alloc_heap_new w _⟩, fun j hj => ?_⟩
  rw [World.cell?_alloc_at _ _ _ _ rfl]
  simp [hj]
theorem images_fin {w wr W4 : World} {p : Nat} {vs : List Value} {o1 o2 : Obj} {u1 u2 : Value} {z1 z2 : ByteArray} (hvl : vs.length = 4) (HR : RowW wr vs abcd)
    (HO : wr.ownsRow w.heap.size 87 1 (.slice (some ⟨w.heap.size, 0, none⟩) 4 4) 4 vs) (HB : Below w.heap.size w wr)
    (hW : W4 = (((wr.setCell ⟨w.heap.size, p, none⟩ u1).setCell ⟨w.heap.size, p + 1, none⟩ u2).alloc o1).alloc o2)
    (h1 : WordY W4 u1 z1.data.toList) (h2 : WordY W4 u2 z2.data.toList) :
    FourY w.heap.size W4 ((abcd.set p z1).set (p + 1) z2) ∧ Below w.heap.size w W4 := by
  have hbl : w.heap.size < wr.heap.size := (ownsRow_cap HO).2.2.2
  have ho2 := (HO.stored p u1).1
  have ho4 : W4.ownsRow w.heap.size 87 1 (.slice (some ⟨w.heap.size, 0, none⟩) 4 4) 4 ((vs.set p u1).set (p + 1) u2) := by
    rw [hW]; exact ((ho2.stored (p + 1) u2).1.alloc _).alloc _
  have hb1 : Below w.heap.size w ((wr.setCell ⟨w.heap.size, p, none⟩ u1).setCell ⟨w.heap.size, p + 1, none⟩ u2) := (HB.setCell (p := ⟨w.heap.size, p, none⟩) (Nat.le_refl _) _).setCell (p := ⟨w.heap.size, p + 1, none⟩) (Nat.le_refl _) _
  have hb4 : Below w.heap.size w W4 := by
    rw [hW]; exact (hb1.alloc (by simp; omega) _).alloc (by simp; omega) _
  have hr4 : RowW W4 vs abcd := by
    rw [hW]
    have h := (HR.kept (grownBy_setCellA wr ⟨w.heap.size, p, none⟩ u1) (fun b e h => by cases e; exact Typed.ne h (typed_row HO) (by decide) rfl)).kept (grownBy_setCellA _ ⟨w.heap.size, p + 1, none⟩ u2) (fun b e h => by cases e; exact Typed.ne h (typed_row ho2) (by decide) rfl)
    exact (h.kept (World.grownBy_alloc _ o1 none) (fun _ e => by cases e)).kept (World.grownBy_alloc _ o2 none) (fun _ e => by cases e)
  have hr5 := (hr4.set p h1).set (p + 1) h2
  exact ⟨hr5.four (n := 4) (fun j hj => ho4.cellAt j (by omega)) (by simp [hvl]) (typed_row ho4), hb4⟩

theorem gen_nat : ∀ k ∈ ([0, 1, 2, 3] : List Nat), (genC k).toNat = 97 + k ∧ (turnB (genC k)).toNat = 65 + k ∧ invB (genC k) = turnB (genC k) := by decide +kernel
theorem genC_nat {k : Nat} (h : k < 4) : (genC k).toNat = 97 + k ∧ (turnB (genC k)).toNat = 65 + k ∧ invB (genC k) = turnB (genC k) := gen_nat k (by simp; omega)
theorem abcd_get {k : Nat} (h : k < 4) : (abcd.getD k ByteArray.empty).data.toList = [genC k] := by
  have ht : ∀ k ∈ ([0, 1, 2, 3] : List Nat), (abcd.getD k ByteArray.empty).data.toList = [genC k] := by decide +kernel
  exact ht k (by simp; omega)
theorem inverse_gen (p : Nat) (hp : p < 4) (x : Int) (hx : x = 97 + (p : Int)) (w : World) :
    Calls Try.prog 75 #[.int .u8 x] w fun e w' => e = .returned (.int .u8 (65 + (p : Int))) ∧ w' = w := by
  obtain ⟨h1, h2, h3⟩ := genC_nat hp
  have h := inverse_any (genC p) w
  rw [h3, h1, h2] at h
  rw [hx]
  exact h

set_option maxRecDepth 100000 in
set_option maxHeartbeats 4000000 in
theorem images_any (c : UInt8) (w : World) (hc : brB c = true) :
    Calls Try.prog 131 #[.int .u8 (c.toNat : Int)] w fun e w' => e = .returned (.slice (some ⟨w.heap.size, 0, none⟩) 4 4) ∧ FourY w.heap.size w' (bImg c) ∧ Below w.heap.size w w' := by
  have hmk : ∀ w, (Instr.makeSlice 99 (.int .i64 4) (.int .i64 4)).run Try.prog w = .ok (.slice (some ⟨w.heap.size, 0, none⟩) 4 4) (w.alloc (.cells #[.slice none 0 0, .slice none 0 0, .slice none 0 0, .slice none 0 0] 87)) := fun _ => by kernel_rfl
  have hp3 := plN_lt c hc
  have HPL := Lib.hid (fun w => (show Calls Try.prog 71 #[.int .u8 (c.toNat : Int)] w fun e w' => e = .returned (.int .i64 (plN c : Int)) ∧ w' = w from by rw [← (pl_yes c hc).1]; exact place_any c w))
  have HSG := Lib.hid (fun w => sign_br c w hc)
  have HBI : Hid (bImg c = if 97 ≤ c.toNat then (abcd.set (plN c) { data := #[genC (plN c), genC (plN c + 1), turnB (genC (plN c))] }).set (plN c + 1) { data := #[genC (plN c)] } else (abcd.set (plN c) { data := #[genC (plN c + 1)] }).set (plN c + 1) { data := #[turnB (genC (plN c + 1)), genC (plN c), genC (plN c + 1)] }) := Lib.hid rfl
  obtain ⟨p, hp⟩ : ∃ p, plN c = p := ⟨_, rfl⟩
  rw [hp] at hp3 HPL HBI
  have hrow0 : (w.alloc (.cells #[.slice none 0 0, .slice none 0 0, .slice none 0 0, .slice none 0 0] 87)).ownsRow w.heap.size 87 1 (.slice (some ⟨w.heap.size, 0, none⟩) 4 4) 4 [.slice none 0 0, .slice none 0 0, .slice none 0 0, .slice none 0 0] :=
    ⟨rfl, .inr ⟨_, 4, #[.slice none 0 0, .slice none 0 0, .slice none 0 0, .slice none 0 0], rfl, Nat.le_refl _, heap_alloc_new w _, Nat.le_refl _, by decide, rfl, rfl⟩⟩
  have HR0 := Lib.hid hrow0
  have HB0 : Hid (Below w.heap.size w (w.alloc (.cells #[.slice none 0 0, .slice none 0 0, .slice none 0 0, .slice none 0 0] 87))) := Lib.hid ((Below.refl _ w).alloc (Nat.le_refl _) _)
  clear hrow0 hp hc
  go_enter Try.func131, Try.ntmps131
  go_wp2
  go_loopw [4, 11] (fun u i wr => ∃ (k : Nat) (u' : Value) (vs : List Value), k ≤ 4 ∧ i = .int .i64 (k : Int) ∧ u = u' ∧ vs.length = 4 ∧ wr.ownsRow w.heap.size 87 1 (.slice (some ⟨w.heap.size, 0, none⟩) 4 4) 4 vs ∧ Hid (∀ j, j < k → WordY wr (vs.getD j undef) [genC j]) ∧ Below w.heap.size w wr) (fun _ i _ => 4 - (intOf i).toNat)
  case atStart => exact ⟨0, _, _, by omega, rfl, rfl, rfl, HR0.out, Lib.hid (fun j hj => absurd hj (Nat.not_lt_zero _)), HB0.out⟩
  case round =>
    obtain ⟨k, u', vs, hk, rfl, rfl, hvl, hown, HW, hB⟩ := hrel
    have hbl : w.heap.size < wr.heap.size := (ownsRow_cap hown).2.2.2
    by_cases hlt : k < 4
    · have hwu : IntKind.u8.wrap (97 + (k : Int)) = 97 + (k : Int) := IntWalk.u8_in _ (by omega)
      have hcx : ∃ y, wr.cell? ⟨w.heap.size, k, none⟩ = some y := by
        rw [hown.cellAt k (by omega)]; exact ⟨_, List.getElem?_eq_getElem (by omega)⟩
      obtain ⟨y, hcx⟩ := hcx
      have hfx := hown.frozenAt k
      have hnv : WordY ((wr.setCell ⟨w.heap.size, k, none⟩ (.slice (some ⟨wr.heap.size, 0, none⟩) 1 1)).alloc (.cells #[.int .u8 (97 + (k : Int))] 77)) (.slice (some ⟨wr.heap.size, 0, none⟩) 1 1) [genC k] := by
        have := wordY_new (w := wr.setCell ⟨w.heap.size, k, none⟩ (.slice (some ⟨wr.heap.size, 0, none⟩) 1 1)) [genC k] (by simp) (.cells #[.int .u8 (97 + (k : Int))] 77) (by simp [(genC_nat hlt).1]) 1 rfl
        simpa using this
      have HNV := Lib.hid hnv
      have HO := Lib.hid hown
      have HB := Lib.hid hB
      clear hnv hown hB
      go_wp2
      go_roundw
      case rel =>
        refine ⟨k + 1, _, vs.set k (.slice (some ⟨wr.heap.size, 0, none⟩) 1 1), by omega, by go_num, rfl, by simp [hvl], (HO.out.stored k (.slice (some ⟨wr.heap.size, 0, none⟩) 1 1)).1.alloc _, Lib.hid fun j hj => ?_, (HB.out.setCell (p := ⟨w.heap.size, k, none⟩) (Nat.le_refl _) _).alloc (by simp; omega) _⟩
        rw [List.getD_eq_getElem?_getD, List.getElem?_set]
        by_cases e : k = j
        · subst e
          rw [if_pos rfl, if_pos (by omega)]; exact HNV.out
        · rw [if_neg e, ← List.getD_eq_getElem?_getD]
          exact ((HW.out j (by omega)).kept (grownBy_setCellA wr ⟨w.heap.size, k, none⟩ _) (fun b e h => by cases e; exact Typed.ne h (typed_row HO.out) (by decide) rfl)).kept (World.grownBy_alloc _ _ none) (fun _ e => by cases e)
      case measure => simp [intOf]; omega
    · obtain rfl : k = 4 := by omega
      have hrw : RowW wr vs abcd := ⟨hvl, fun j hj => by
        have hj4 : j < 4 := hj
        rw [abcd_get hj4]
        exact HW.out j hj4⟩
      have HRW := Lib.hid hrw
      have HO := Lib.hid hown
      have HB := Lib.hid hB
      have hcx : ∃ y, wr.cell? ⟨w.heap.size, p, none⟩ = some y := by
        rw [hown.cellAt p (by omega)]; exact ⟨_, List.getElem?_eq_getElem (by omega)⟩
      obtain ⟨y, hcx⟩ := hcx
      have hfx := hown.frozenAt p
      have hcx2 : ∃ y, wr.cell? ⟨w.heap.size, p + 1, none⟩ = some y := by
        rw [hown.cellAt (p + 1) (by omega)]; exact ⟨_, List.getElem?_eq_getElem (by omega)⟩
      obtain ⟨y2, hcx2⟩ := hcx2
      have hfx2 := hown.frozenAt (p + 1)
      clear hrw hown hB
      have hwa : IntKind.u8.wrap (97 + (p : Int)) = 97 + (p : Int) := IntWalk.u8_in _ (by omega)
      have hwb : IntKind.u8.wrap (97 + (p : Int) + 1) = 97 + (p : Int) + 1 := IntWalk.u8_in _ (by omega)
      go_wp2_with fail
      refine (HPL.out _).mono ?_
      rintro e w2 ⟨rfl, rfl⟩
      go_wp2_with fail
      refine (HSG.out _).mono ?_
      rintro e w3 ⟨rfl, rfl⟩
      by_cases h97 : 97 ≤ c.toNat
      · have hsg : sgnB c = 1 := if_pos h97
        rw [hsg]
        go_wp2_with fail
        refine (inverse_gen p (by omega) _ rfl _).mono ?_
        rintro e w4 ⟨rfl, rfl⟩
        go_wp2_with fail
        have hg0 := genC_nat (k := p) (by omega)
        have hg1 := genC_nat (k := p + 1) (by omega)
        have ht2 := wordY_new (w := ((w4.setCell ⟨w.heap.size, p, none⟩ (.slice (some ⟨w4.heap.size, 0, none⟩) 3 3)).setCell ⟨w.heap.size, p + 1, none⟩ (.slice (some ⟨w4.heap.size + 1, 0, none⟩) 1 1)).alloc (.cells #[.int .u8 (97 + (p : Int)), .int .u8 (97 + (p : Int) + 1), .int .u8 (65 + (p : Int))] 77)) [genC p] (by simp) (.cells #[.int .u8 (97 + (p : Int))] 77) (by simp [hg0.1]) 1 rfl
        have ht1 := wordY_new (w := (w4.setCell ⟨w.heap.size, p, none⟩ (.slice (some ⟨w4.heap.size, 0, none⟩) 3 3)).setCell ⟨w.heap.size, p + 1, none⟩ (.slice (some ⟨w4.heap.size + 1, 0, none⟩) 1 1)) [genC p, genC (p + 1), turnB (genC p)] (by simp) (.cells #[.int .u8 (97 + (p : Int)), .int .u8 (97 + (p : Int) + 1), .int .u8 (65 + (p : Int))] 77) (by simp [hg0.1, hg0.2.1, hg1.1]; omega) 3 rfl
        simp only [World.size_alloc, World.size_setCell] at ht1 ht2
        have hfin := images_fin (z1 := { data := #[genC p, genC (p + 1), turnB (genC p)] }) (z2 := { data := #[genC p] }) hvl HRW.out HO.out HB.out rfl (ht1.kept (World.grownBy_alloc _ (.cells #[.int .u8 (97 + (p : Int))] 77) none) (fun _ e => by cases e)) ht2
        refine bodyPost_ret (v := .slice (some ⟨w.heap.size, 0, none⟩) 4 4) ?_ rfl ⟨rfl, ?_⟩
        · simp [results, Try.results131, go_sem]
        rw [HBI.out, if_pos h97]
        exact hfin
      · have hsg : sgnB c = -1 := if_neg h97
        rw [hsg]
        go_wp2_with fail
        refine (inverse_gen (p + 1) (by omega) _ (by omega) _).mono ?_
        rintro e w4 ⟨rfl, rfl⟩
        go_wp2_with fail
        have hg0 := genC_nat (k := p) (by omega)
        have hg1 := genC_nat (k := p + 1) (by omega)
        have ht2 := wordY_new (w := ((w3.setCell ⟨w.heap.size, p, none⟩ (.slice (some ⟨w3.heap.size, 0, none⟩) 1 1)).setCell ⟨w.heap.size, p + 1, none⟩ (.slice (some ⟨w3.heap.size + 1, 0, none⟩) 3 3)).alloc (.cells #[.int .u8 (97 + (p : Int) + 1)] 77)) [turnB (genC (p + 1)), genC p, genC (p + 1)] (by simp) (.cells #[.int .u8 (65 + ((p : Int) + 1)), .int .u8 (97 + (p : Int)), .int .u8 (97 + (p : Int) + 1)] 77) (by simp [hg0.1, hg1.2.1, hg1.1]; omega) 3 rfl
        have ht1 := wordY_new (w := (w3.setCell ⟨w.heap.size, p, none⟩ (.slice (some ⟨w3.heap.size, 0, none⟩) 1 1)).setCell ⟨w.heap.size, p + 1, none⟩ (.slice (some ⟨w3.heap.size + 1, 0, none⟩) 3 3)) [genC (p + 1)] (by simp) (.cells #[.int .u8 (97 + (p : Int) + 1)] 77) (by simp [hg1.1]; omega) 1 rfl
        simp only [World.size_alloc, World.size_setCell] at ht1 ht2
        have hfin := images_fin (z1 := { data := #[genC (p + 1)] }) (z2 := { data := #[turnB (genC (p + 1)), genC p, genC (p + 1)] }) hvl HRW.out HO.out HB.out rfl (ht1.kept (World.grownBy_alloc _ (.cells #[.int .u8 (65 + ((p : Int) + 1)), .int .u8 (97 + (p : Int)), .int .u8 (97 + (p : Int) + 1)] 77) none) (fun _ e => by cases e)) ht2
        refine bodyPost_ret (v := .slice (some ⟨w.heap.size, 0, none⟩) 4 4) ?_ rfl ⟨rfl, ?_⟩
        · simp [results, Try.results131, go_sem]
        rw [HBI.out, if_neg h97]
        exact hfin

end Go.Proofs.Ytaaeiogdhmiaaaa

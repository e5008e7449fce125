/- The contracts of slices.Grow and slices.Concat at terms. -/
import Derived.Test.YtidmlppbmcphbaaTs
import Derived.Laws.AppendOwnNone
import Derived.Lib.AppendZerosOnto
import Derived.Lib.SliceRun
namespace Go.Proofs.Ytidmlppbmcphbaa
open Go.RowKit Go.Shelf

set_option maxRecDepth 100000 in
set_option maxHeartbeats 2000000 in
theorem growNil_any (n : Nat) (w : World) (hn : n ≤ 200000) :
    Calls Try.prog 92 #[.slice none 0 0, .int .i64 n] w fun e w' => (∃ v, e = .returned v ∧ w'.ownsRow w.heap.size TI 2 v 0 []) ∧ Below w.heap.size w w' := by
  by_cases h0 : n = 0
  · subst h0
    go_enter Try.func92, Try.ntmps92
    go_wp2
    go_ret
    exact ⟨⟨_, rfl, World.ownsRow_nil _ _ _ _⟩, Below.refl _ _⟩
  · obtain ⟨i0, hi, hz0, hz1, hz2⟩ := info_parts infoTerm
    have hp : 0 < n := by omega
    have hold : (Builtin.firstCells i0.size 0 (.slice none 0 0)).run Try.prog w.drew = .ok (#[] : Array Value) w.drew := run_firstCells_none w.drew i0.size 0 0 0
    have hrz : ∀ ty, (Builtin.append_ #[25, 3] ty #[.slice none 0 0, .int .i64 (n : Int)]).run Try.prog w =
        .ok (.slice (some ⟨w.heap.size, 0, none⟩) (0 + n) (grownCap w (0 + n) 0 TI)) (w.drew.alloc (.cells ((#[] : Array Value) ++ Builtin.zeroCells (Value.agg #[.int .i64 0, .string ByteArray.empty]).cells n ++ Builtin.zeroCells (Value.agg #[.int .i64 0, .string ByteArray.empty]).cells (grownCap w (0 + n) 0 TI - (0 + n))) TI)) := fun ty =>
      Lib.run_append_grow_zeros (olds := []) w 25 3 ty TI i0 _ .i64 .i64 Try.underlying25 Try.underlying3 hi hz0 none 0 0 hold n hp (by omega) (by omega) (by omega) (by rw [hz2]; omega) (growslice_fits (by omega) (by rw [hz2]; omega))
    have hG := grownCap_ge w (0 + n) 0 TI
    have hGm := grownCap_le_maxLen w (0 + n) 0 TI (by unfold maxLen; omega)
    obtain ⟨cur, hcur⟩ : ∃ cur, ((#[] : Array Value) ++ Builtin.zeroCells (Value.agg #[.int .i64 0, .string ByteArray.empty]).cells n ++ Builtin.zeroCells (Value.agg #[.int .i64 0, .string ByteArray.empty]).cells (grownCap w (0 + n) 0 TI - (0 + n))) = cur := ⟨_, rfl⟩
    obtain ⟨G, hGG⟩ : ∃ G, grownCap w (0 + n) 0 TI = G := ⟨_, rfl⟩
    have hcs : cur.size = G * 2 := by
      rw [← hcur, hGG]
      rw [hGG] at hG
      simp [Builtin.zeroCells, Value.cells]
      omega
    rw [hcur, hGG, Nat.zero_add] at hrz
    rw [hGG] at hG hGm
    have HCS := Lib.hid hcs
    have hmade := Lib.hid (World.ownsRow_made (base := w.heap.size) (e := TI) (size := 2) w.drew cur G (Nat.le_refl _) hGm hcs)
    unfold maxLen at hGm
    rw [Nat.zero_add] at hG
    clear hold hcur hGG hcs
    go_enter Try.func92, Try.ntmps92
    go_wp2_with (at_builtin; refine Lib.wpList_append_run _ rfl _ _ _ _ rfl _ _ rfl rfl _ _ (hrz _) ?_)
    go_ret
    exact ⟨⟨_, rfl, hmade.out⟩, ((Below.refl _ _).drew).alloc (Nat.le_refl _) _⟩

theorem ownsRow_low {W : World} {base : Nat} {e : TypeId} {size : Nat} {v : Value} {n : Nat} {xs : List Value} (h : W.ownsRow base e size v n xs) : ∀ j, v.ownBlock = some j → base ≤ j := fun j ej => (h.lt j ej).1

/-- A slice of terms that may be nil. -/
def PartT (w : World) (v : Value) (ts : List Tm) : Prop := (v = .slice none 0 0 ∧ ts = []) ∨ ∃ x cap, v = .slice (some x) ts.length cap ∧ ∀ j u, (termsV ts)[j]? = some u → w.cell? (x.add j) = some u ∧ x.block < w.heap.size
theorem PartT.below {w w' : World} {v : Value} {ts : List Tm} (h : PartT w v ts) (hb : Below w.heap.size w w') : PartT w' v ts := by
  rcases h with h | ⟨x, cap, e, h⟩
  · exact .inl h
  · exact .inr ⟨x, cap, e, fun j u hu => by
      obtain ⟨h1, h2⟩ := h j u hu
      exact ⟨(hb.cell (p := x.add j) (by rw [addr_add_block]; exact h2)).trans h1, Nat.lt_of_lt_of_le h2 hb.size⟩⟩
theorem partT_of {w : World} {ad : Addr} {n cap : Nat} {ts : List Tm} (h : IsTerms w (some ad) n ts) : PartT w (.slice (some ad) n cap) ts := by
  refine .inr ⟨ad, cap, by rw [h.len], fun j u hu => ?_⟩
  rcases Nat.eq_zero_or_pos n with h0 | h0
  · have : ts = [] := List.length_eq_zero_iff.1 (h.len.trans h0)
    subst this
    simp [termsV] at hu
  · obtain ⟨z, e, h2⟩ := h.at_ h0
    cases e
    exact ⟨h2.cells j u hu, h2.1⟩
theorem partT_own {base : Nat} {w : World} {v : Value} {ts : List Tm} (h : OwnT base w v ts) : PartT w v ts := by
  rcases h.2 with ⟨rfl, h0⟩ | ⟨g, cap, cur, rfl, _, hg, _⟩
  · exact .inl ⟨rfl, List.length_eq_zero_iff.1 h0⟩
  · exact .inr ⟨_, cap, rfl, fun j u hu => ⟨(termsAt_of_owns rfl h).cells j u hu, (ownsRow_cap h).2.2.2⟩⟩
theorem PartT.len {w : World} {v : Value} {ts : List Tm} (h : PartT w v ts) : ∃ a cap, v = .slice a ts.length cap := by
  rcases h with ⟨rfl, rfl⟩ | ⟨x, cap, e, _⟩
  · exact ⟨_, _, rfl⟩
  · exact ⟨_, _, e⟩

def lens (ps : List (Value × List Tm)) : Nat := (ps.map fun p => p.2.length).sum
def flatT (ps : List (Value × List Tm)) : List Tm := (ps.map Prod.snd).flatten
theorem lens_succ (ps : List (Value × List Tm)) (k : Nat) (h : k < ps.length) : lens (ps.take (k + 1)) = lens (ps.take k) + ps[k].2.length := by
  unfold lens
  rw [List.take_succ_eq_append_getElem h, List.map_append, List.sum_append]; simp
theorem flatT_succ (ps : List (Value × List Tm)) (k : Nat) (h : k < ps.length) : flatT (ps.take (k + 1)) = flatT (ps.take k) ++ ps[k].2 := by
  unfold flatT
  rw [List.take_succ_eq_append_getElem h, List.map_append, List.flatten_append]; simp
theorem flatT_len (ps : List (Value × List Tm)) : (flatT ps).length = lens ps := by
  unfold flatT lens
  rw [List.length_flatten, List.map_map]; rfl
theorem lens_take (ps : List (Value × List Tm)) (k : Nat) : lens (ps.take k) ≤ lens ps := by
  have h : lens ps = lens (ps.take k) + lens (ps.drop k) := by
    conv => lhs; rw [← List.take_append_drop k ps]
    unfold lens
    rw [List.map_append, List.sum_append]
  omega

set_option maxRecDepth 100000 in
set_option maxHeartbeats 4000000 in
theorem concat_any (g cap n : Nat) (ps : List (Value × List Tm)) (w : World) (hl : ps.length = n) (hn : n ≤ 100000) (hg : g < w.heap.size) (hc : ∀ i (h : i < ps.length), w.cell? ⟨g, i, none⟩ = some ps[i].1) (hp : ∀ p ∈ ps, PartT w p.1 p.2) (hs : lens ps ≤ 200000) :
    Calls Try.prog 65 #[.slice (some ⟨g, 0, none⟩) n cap] w fun e w' => (∃ v, e = .returned v ∧ OwnT w.heap.size w' v (flatT ps)) ∧ Below w.heap.size w w' := by
  obtain ⟨i0, hi, hz0, hz1, hz2⟩ := info_parts infoTerm
  have HL := Lib.hid hl
  have HC := Lib.hid hc
  have HP := Lib.hid hp
  have HT := Lib.hid (lens_take ps)
  clear hl hc hp
  go_enter Try.func65, Try.ntmps65
  go_wp2
  go_loop [3, 11] (fun s i => ∃ k : Nat, k ≤ n ∧ i = .int .i64 k ∧ s = .int .i64 (lens (ps.take k) : Nat)) (fun _ i => n - (intOf i).toNat)
  case atStart => exact ⟨0, Nat.zero_le _, rfl, rfl⟩
  case round =>
    obtain ⟨k, hk, rfl, rfl⟩ := hrel
    by_cases hlt : k < n
    · have hkp : k < ps.length := by rw [HL.out]; exact hlt
      have hck := HC.out k hkp
      obtain ⟨a, c, ev⟩ := (HP.out _ (List.getElem_mem hkp)).len
      rw [ev] at hck
      have hsu := lens_succ ps k hkp
      have hle := HT.out (k + 1)
      obtain ⟨L, hL⟩ : ∃ L, lens (ps.take k) = L := ⟨_, rfl⟩
      obtain ⟨M, hM⟩ : ∃ M, ps[k].2.length = M := ⟨_, rfl⟩
      rw [hL, hM] at hsu
      rw [hM] at hck
      rw [hL]
      have HSU := Lib.hid hsu
      have hLM : L + M ≤ 200000 := by omega
      clear hsu hle ev hL hM
      go_wp2
      go_round
      case rel => exact ⟨k + 1, by omega, by go_num, by rw [HSU.out]; go_num⟩
      case measure => simp [intOf]; omega
    · obtain rfl : n = k := by omega
      have hle := HT.out n
      obtain ⟨L, hL⟩ : ∃ L, lens (ps.take n) = L := ⟨_, rfl⟩
      rw [hL] at hle ⊢
      have hL2 : L ≤ 200000 := by omega
      clear hle hL
      go_wp2_with fail
      refine (growNil_any L _ hL2).mono ?_
      rintro e w2 ⟨⟨v, rfl, ho⟩, hb2⟩
      have HO : Hid (OwnT w.heap.size w2 v (flatT (ps.take 0))) := Lib.hid ho
      have HB2 := Lib.hid hb2
      clear ho hb2
      go_wp2_with fail
      go_loopw [6, 27] (fun v i wr => ∃ k : Nat, k ≤ n ∧ i = .int .i64 k ∧ Hid (OwnT w.heap.size wr v (flatT (ps.take k))) ∧ Below w.heap.size w wr) (fun _ i _ => n - (intOf i).toNat)
      case atStart => exact ⟨0, Nat.zero_le _, rfl, HO, HB2.out⟩
      case round =>
        obtain ⟨k, hk2, rfl, HA, hB⟩ := hrel
        by_cases hlt2 : k < n
        · have hkp : k < ps.length := by rw [HL.out]; exact hlt2
          have hck := (hB.cell (p := ⟨g, k, none⟩) hg).trans (HC.out k hkp)
          have hPk := (HP.out _ (List.getElem_mem hkp)).below hB
          have HFS := Lib.hid (flatT_succ ps k hkp)
          have hle := HT.out (k + 1)
          have hsu := lens_succ ps k hkp
          have hown := HA.out
          unfold OwnT at hown
          obtain ⟨N, hN⟩ : ∃ N, (flatT (ps.take k)).length = N := ⟨_, rfl⟩
          rw [hN] at hown
          rw [flatT_len] at hN
          rw [hN] at hsu
          have HOWN := Lib.hid hown
          have HN := Lib.hid hN
          rcases hPk with ⟨ev, ez⟩ | ⟨x, cp, ev, hx⟩
          · rw [ev] at hck
            have HEZ := Lib.hid ez
            clear ez ev hle hsu hown hN
            go_wp2_with (at_builtin; refine wpList_append_own_none rfl _ _ 25 rfl w.heap.size TI i0 2 Try.underlying25 hi _ _ _ rfl HOWN.out rfl ?_)
            go_roundw
            case rel =>
              refine ⟨k + 1, by omega, by go_num, Lib.hid ?_, hB⟩
              rw [HFS.out, HEZ.out, List.append_nil]
              exact HA.out
            case measure => simp [intOf]; omega
          · obtain ⟨us, hus⟩ : ∃ us, ps[k].2 = us := ⟨_, rfl⟩
            rw [hus] at hx ev hsu
            obtain ⟨M, hM⟩ : ∃ M, us.length = M := ⟨_, rfl⟩
            rw [hM] at hsu ev
            rw [ev] at hck
            have hNM : N + M ≤ 200000 := by omega
            have HX := Lib.hid hx
            have HM := Lib.hid hM
            have HUS := Lib.hid hus
            have hbs := hB.size
            clear hx ev hsu hus hM hle hown hN
            go_wp2_with (at_builtin; refine wpList_append_own _ rfl _ _ 25 rfl w.heap.size TI i0 (.agg #[.int .i64 0, .string ByteArray.empty]) 2 24 Try.underlying25 hi hz0 hz1 hz2 rfl (by decide) _ _ _ rfl HOWN.out x M cp (termsV us) rfl (by rw [termsV_len, HM.out]) (fun j u hu => (HX.out j u hu).1) (oneCell_terms _) (by unfold maxLen; omega) (by omega) hbs ?_)
            intro v3 w3 hown3 hgrow3 _
            have hB3 : Below w.heap.size w w3 := hB.grown hgrow3 hbs (fun j e => (ownsRow_low HOWN.out) j e)
            have HO3 := Lib.hid hown3
            clear hown3 hgrow3
            go_wp2
            go_roundw
            case rel =>
              refine ⟨k + 1, by omega, by go_num, Lib.hid ?_, hB3⟩
              rw [HFS.out, HUS.out]
              unfold OwnT
              rw [List.length_append, flatT_len, HN.out, HM.out, termsV_append]
              exact HO3.out
            case measure => simp [intOf]; omega
        · obtain rfl : n = k := by omega
          have hall : flatT (ps.take n) = flatT ps := by rw [List.take_of_length_le (by rw [HL.out]; exact Nat.le_refl _)]
          rw [hall] at HA
          clear hall
          go_wp2
          go_ret
          exact ⟨⟨_, rfl, HA.out⟩, hB⟩

end Go.Proofs.Ytidmlppbmcphbaa
